/- The walk of cyclotomic, by induction on the order. Condition: the order is from 1 to 60. -/
import Derived.Test.YtopfcppmbkidgaaDvd2
import Derived.Test.YtopfcppmbkidgaaCyMath
namespace Go.Proofs.Ytopfcppmbkidgaa
open Go.RowKit
attribute [local go_sem] Oper.semAt_some

/-- A row of the call's own that holds a list. -/
def Lis (g : Nat) (L : List Int) (w W : World) : Prop := CoState g L.length (fun j => L.getD j 0) w W
theorem cellsOf_list (L : List Int) : (List.range L.length).map (fun j => Value.int .i64 (L.getD j 0)) = L.map (Value.int .i64) := by
  apply List.ext_getElem?
  intro i
  by_cases hi : i < L.length
  · simp [hi, List.getD]
  · simp [hi]
theorem Lis.ints {g : Nat} {L : List Int} {w W : World} (h : Lis g L w W) : Ints W (some ⟨g, 0, none⟩) L.length L := by
  have := h.own
  rw [cellsOf_list] at this
  exact (Ints.own this).1
theorem CoState.rebase {g m : Nat} {f : Nat → Int} {w W W' : World} (h : CoState g m f W W') (hb : Below w.heap.size w W) : CoState g m f w W' :=
  ⟨hb.trans (h.b.mono hb.size), Joins.ownsRow_le h.own hb.size⟩
theorem CoState.kept {g m : Nat} {f : Nat → Int} {w W W' : World} (h : CoState g m f w W) (hb : Below W.heap.size W W') : CoState g m f w W' :=
  ⟨h.b.trans (hb.mono h.b.size), own_later h.own hb⟩
theorem Lis.of {g : Nat} {L : List Int} {w W : World} {m : Nat} {f : Nat → Int} (h : CoState g m f w W) (hm : L.length = m) (he : ∀ j, j < m → f j = L.getD j 0) : Lis g L w W := by
  subst hm
  exact h.congr he
theorem cyL0_len (n : Nat) : (cyL n 0).length = n + 1 := by simp [cyL]
theorem cyL0_at (n t : Nat) (h : t < n + 1) (hn : 1 ≤ n) : (if t = n then (1 : Int) else if t = 0 then -1 else 0) = (cyL n 0).getD t 0 := by
  simp only [cyL, List.getD, List.getElem?_set, List.getElem?_replicate, List.length_set, List.length_replicate]
  by_cases e : t = n
  · subst e; simp
  · by_cases e0 : t = 0
    · subst e0
      have : ¬ n = 0 := by omega
      simp [this, e]
    · have h1 : ¬ n = t := fun c => e c.symm
      have h2 : ¬ 0 = t := fun c => e0 c.symm
      simp [h1, h2, e, e0, h]

set_option maxHeartbeats 8000000 in
set_option maxRecDepth 100000 in
theorem cyc_any : ∀ (N n : Nat), n ≤ N → 1 ≤ n → n ≤ 60 → ∀ w, Calls Try.prog 59 #[.int .i64 (n : Int)] w fun e w' =>
    (∃ g, e = .returned (.slice (some ⟨g, 0, none⟩) (cyT n).length (cyT n).length) ∧ Lis g (cyT n) w w') ∧ Below w.heap.size w w' := by
  intro N
  induction N with
  | zero => intro n h1 h2; omega
  | succ N IH =>
    intro n hnN n1 n60 w
    obtain ⟨i0, hi, hz0, hz1, hz2⟩ := info_parts info3
    have HIH := Lib.hid (fun (d : Nat) (h : d < n) (h1 : 1 ≤ d) W => IH d (by omega) h1 (by omega) W)
    clear IH
    have HOK := Lib.hid (cy_ok n1 n60)
    have e1 : (n : Int) + 1 = ((n + 1 : Nat) : Int) := by omega
    have l0 : (0 : Int) < ((n + 1 : Nat) : Int) := by omega
    have l1 : (n : Int) < ((n + 1 : Nat) : Int) := by omega
    have l2 : (0 : Int) ≤ (n : Int) := by omega
    obtain ⟨M, hM⟩ : ∃ M, n + 1 = M := ⟨_, rfl⟩
    rw [hM] at e1 l0 l1
    have M61 : M ≤ 61 := by omega
    have HM := Lib.hid hM
    clear hM
    go_enter Try.func59, Try.ntmps59
    go_wp2_with (at_make; refine wpList_make_full _ rfl _ _ 68 rfl w.heap.size 3 i0 (.int .i64 0) 1 Try.underlying68 hi hz0 hz1 _ _ _ _ M rfl rfl (by omega) (by omega) (by rw [hz2]; omega) (by unfold maxLen; omega) (Nat.le_refl _) ?_; intro w1 hown hgrow; have S0 := Lib.hid (CoState.made hown ((Below.refl w.heap.size w).grown hgrow (Nat.le_refl _) (fun k e => by cases e))); have c0 := S0.out.cell (j := 0) (by omega); have cn := S0.out.cell (j := n) (by have := HM.out; omega); have f0 := S0.out.frozen 0; have fn := S0.out.frozen n; clear hown hgrow)
    have S1 := Lib.hid (show Lis w.heap.size (cyL n 0) w ((w1.setCell ⟨w.heap.size, 0, none⟩ (.int .i64 (-1))).setCell ⟨w.heap.size, n, none⟩ (.int .i64 1)) from
      Lis.of ((S0.out.put 0 (-1)).put n 1) (by rw [cyL0_len]; exact HM.out) (fun j hj => cyL0_at n j (by have := HM.out; omega) n1))
    clear c0 cn f0 fn S0 hi hz0 hz1 hz2
    go_loopg [3, 4] (n - 1) (fun gk s3 s4 wr => ∃ d g m : Nat, 1 ≤ d ∧ d + gk = n ∧ s4 = .int .i64 (d : Int) ∧ s3 = .slice (some ⟨g, 0, none⟩) m m ∧ (cyL n (d - 1)).length = m ∧ m ≤ 61 ∧ RowKit.Hid (Lis g (cyL n (d - 1)) w wr))
    case atStart => exact ⟨1, w.heap.size, M, Nat.le_refl _, by omega, rfl, rfl, by rw [show 1 - 1 = 0 from rfl, cyL0_len]; exact HM.out, M61, S1⟩
    case round =>
      obtain ⟨d, g, m, d1, hd, rfl, rfl, hm, hm61, HL⟩ := hrel
      have HD := Lib.hid hd
      have HMM := Lib.hid hm
      clear S1
      by_cases hlt : d < n
      · have l3 : (d : Int) < (n : Int) := by omega
        have dne : ¬ (d : Int) = 0 := by omega
        have HLT := Lib.hid hlt
        have dw : wrap64 ((d : Int) + 1) = (d : Int) + 1 := IntWalk.wrap64_in _ (by omega)
        by_cases hdv : n % d = 0
        · have hd0 : (n : Int) % (d : Int) = 0 := by rw [← Int.natCast_emod, hdv]; rfl
          have hd1 : (n : Int).tmod (d : Int) = 0 := by rw [Int.tmod_eq_emod_of_nonneg (by omega), hd0]
          obtain ⟨k1, k2⟩ := HOK.out.1 d d1 hlt hdv
          obtain ⟨K, hK⟩ : ∃ K, (cyT d).length = K := ⟨_, rfl⟩
          obtain ⟨k, hk⟩ : ∃ k, K = k + 1 := ⟨K - 1, by omega⟩
          obtain ⟨q, hq⟩ : ∃ q, m = k + q := ⟨m - k, by rw [hm] at k2; omega⟩
          have hqs := quo_spec (cyL n (d - 1)) (cyT d) k q (by omega) (by omega)
          have hstep : cyL n d = quoL (cyL n (d - 1)) (cyT d) := by
            obtain ⟨c, rfl⟩ : ∃ c, d = c + 1 := ⟨d - 1, by omega⟩
            rw [cyL, if_pos hdv]; rfl
          have HC := Lib.hid (HIH.out d hlt d1)
          have HQ := Lib.hid (And.intro hk (And.intro hq (And.intro hqs hstep)))
          rw [hK] at HC
          have HKK := Lib.hid hK
          have q61 : q ≤ 61 := by omega
          clear k1 k2 hk hq hqs hstep hd hm hlt hK hdv
          go_wp2_with fail
          refine (HC.out _).mono ?_
          rintro e v2 ⟨⟨g', rfl, hl⟩, hb⟩
          have HB := Lib.hid hb
          have HL2 := Lib.hid (show Lis g (cyL n (d - 1)) w v2 from HL.out.kept hb)
          have HT := Lib.hid hl
          clear hl hb HL HC
          go_wp2_with fail
          have i1 := HL2.out.ints
          have i2 := HT.out.ints
          rw [HMM.out] at i1
          rw [HKK.out] at i2
          refine (divided_any _ _ m K k q _ _ _ _ v2 i1 i2 HQ.out.1 HQ.out.2.1 (by omega)).mono ?_
          rintro e v3 ⟨⟨G1, G2, rfl, ht⟩, hb⟩
          obtain ⟨hk, hq, hqs, hstep⟩ := HQ.out
          have HF := Lib.hid (show Lis G2 (cyL n d) w v3 from Lis.of (ht.c.rebase HL2.out.b) (by rw [hstep]; exact hqs.1) (fun j hj => by rw [hstep]; exact hqs.2.2.1 j hj))
          have HFL := Lib.hid (show (cyL n d).length = q by rw [hstep]; exact hqs.1)
          clear i1 i2 ht hb hk hq hqs hstep HL2 HT HQ
          go_wp2
          go_roundg (gk - 1)
          case rel => exact ⟨d + 1, G2, q, by omega, by have := HD.out; have := HLT.out; omega, by go_num, rfl, HFL.out, q61, HF⟩
          case measure => have := HD.out; have := HLT.out; omega
        · have hd0 : ¬ (n : Int) % (d : Int) = 0 := by rw [← Int.natCast_emod]; omega
          have hd2 : ((n : Int) % (d : Int) == 0) = false := beq_eq_false_iff_ne.2 hd0
          have hd1 : ((n : Int).tmod (d : Int) == 0) = false := by rw [Int.tmod_eq_emod_of_nonneg (by omega)]; exact hd2
          have hstep : cyL n d = cyL n (d - 1) := by
            obtain ⟨c, rfl⟩ : ∃ c, d = c + 1 := ⟨d - 1, by omega⟩
            rw [cyL, if_neg hdv]; rfl
          have HF := Lib.hid (show Lis g (cyL n d) w wr by rw [hstep]; exact HL.out)
          have HFL := Lib.hid (show (cyL n d).length = m by rw [hstep]; exact hm)
          clear hstep hdv hm hd HL
          go_wp2
          go_roundg (gk - 1)
          case rel => exact ⟨d + 1, g, m, by omega, by have := HD.out; have := HLT.out; omega, by go_num, rfl, HFL.out, hm61, HF⟩
          case measure => have := HD.out; have := HLT.out; omega
      · have l3 : ¬ (d : Int) < (n : Int) := by omega
        have hdn : d = n := by omega
        have hE : cyL n (d - 1) = cyT n := by rw [hdn]; exact HOK.out.2
        have HF := Lib.hid (show Lis g (cyT n) w wr by rw [← hE]; exact HL.out)
        have HFL := Lib.hid (show m = (cyT n).length by rw [← hE]; exact hm.symm)
        clear hE hdn hm hd HL
        go_wp2
        go_ret
        exact ⟨⟨g, by rw [← HFL.out]; rfl, HF.out⟩, HF.out.b⟩
end Go.Proofs.Ytopfcppmbkidgaa
