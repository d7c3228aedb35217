/- The walk of divided. Conditions: the slices lie in memory, the divisor has at least one coefficient and not more than the polynomial and one. -/
import Derived.Test.YtopfcppmbkidgaaDvd
namespace Go.Proofs.Ytopfcppmbkidgaa
open Go.RowKit
attribute [local go_sem] Oper.semAt_some

theorem size3 : (Try.prog.info? 3).map (·.size) = some 1 := by kernel_rfl
/-- The cells of a row whose cell j holds f j. -/
def cellsOf (f : Nat → Int) (m : Nat) : List Value := (List.range m).map fun j => Value.int .i64 (f j)
theorem cellsOf_len (f : Nat → Int) (m : Nat) : (cellsOf f m).length = m := by simp [cellsOf]
theorem cellsOf_one (f : Nat → Int) (m : Nat) : ∀ v ∈ cellsOf f m, v.oneCell' = true := by
  intro v hv
  obtain ⟨j, -, rfl⟩ := List.mem_map.1 hv
  rfl
theorem splice_all {cs ds : List Value} (h : cs.length = ds.length) : splice ds 0 cs = cs := by
  unfold splice
  simp [h]
theorem CoState.heap {g m : Nat} {f : Nat → Int} {w W : World} (h : CoState g m f w W) : W.heap[g]? = some (.cells (cellsOf f m).toArray 3 (0, 0)) := by
  rcases h.own.2 with ⟨h1, -⟩ | ⟨g', cap, cur, h1, h2, h3, h4, h5, h6, h7⟩
  · cases h1
  · cases h1
    rw [h3]
    have : cur = (cellsOf f m).toArray := by
      apply Array.toList_inj.1
      have e : cur.toList.take (m * 1) = cur.toList := List.take_of_length_le (by simp; omega)
      rw [e] at h7
      rw [h7]
      rfl
    rw [this]
theorem CoState.of {g m : Nat} {f : Nat → Int} {w W : World} (hb : Below w.heap.size w W) (hg : w.heap.size ≤ g) (hm : m ≤ maxLen) (h : W.heap[g]? = some (.cells (cellsOf f m).toArray 3 (0, 0))) : CoState g m f w W :=
  ⟨hb, by simp, .inr ⟨g, m, _, rfl, hg, h, Nat.le_refl _, hm, by simp [cellsOf], by
    rw [List.take_of_length_le (by simp [cellsOf])]
    simp [cellsOf]⟩⟩
theorem addj (b o j : Nat) : (⟨b, o, none⟩ : Addr).add j = ⟨b, o + j, none⟩ := by unfold Addr.add; split <;> simp_all
theorem Ints.src {w : World} {a : Option Addr} {n : Nat} {xs : List Int} (h : Ints w a n xs) (hn : 0 < n) : ∃ ad, a = some ad ∧ ∀ j v, (cellsOf (fun j => xs.getD j 0) n)[j]? = some v → w.cell? (ad.add j) = some v := by
  obtain ⟨b, o, rfl, -, hc⟩ := h.at hn
  refine ⟨_, rfl, fun j v hv => ?_⟩
  have hj : j < n := by
    have := (List.getElem?_eq_some_iff.1 hv).1
    rwa [cellsOf_len] at this
  have e := hc j hj
  have hv2 : v = .int .i64 (xs.getD j 0) := by
    simp [cellsOf, hj] at hv
    rw [← hv]
    simp [List.getD]
  rw [hv2, ← e, addj]

theorem src_pos {w : World} {a : Option Addr} {n : Nat} {xs : List Int} (h : Ints w a n xs) (g : Nat) : 0 < (cellsOf (fun j => xs.getD j 0) n).length → some (⟨g, 0, none⟩ : Addr) = some ⟨g, 0, none⟩ ∧ ∃ ad, a = some ad ∧ ∀ j v, (cellsOf (fun j => xs.getD j 0) n)[j]? = some v → w.cell? (ad.add j) = some v := fun hp => by
  rw [cellsOf_len] at hp
  exact ⟨rfl, h.src hp⟩

set_option maxHeartbeats 8000000 in
set_option maxRecDepth 100000 in
theorem divided_any (a1 a2 : Option Addr) (m n k q c1 c2 : Nat) (P D : List Int) (w : World) (h1 : Ints w a1 m P) (h2 : Ints w a2 n D) (hn : n = k + 1) (hm : m = k + q) (hl : m ≤ 1000000) :
    Calls Try.prog 82 #[.slice a1 m c1, .slice a2 n c2] w fun e w' =>
      (∃ g1 g2 : Nat, e = .returned (.tuple #[.slice (some ⟨g2, 0, none⟩) q q, .slice (some ⟨g1, 0, none⟩) k m]) ∧ Two g1 m (rsF (fun j => P.getD j 0) (fun j => D.getD j 0) q k q) g2 q (quF (fun j => P.getD j 0) (fun j => D.getD j 0) q k) w w') ∧ Below w.heap.size w w' := by
  obtain ⟨i0, hi, hz0, hz1, hz2⟩ := info_parts info3
  have HI := Lib.hid (And.intro hi (And.intro hz0 (And.intro hz1 hz2)))
  have H1 := Lib.hid h1
  have H2 := Lib.hid h2
  have HN := Lib.hid hn
  have HM := Lib.hid hm
  have HDg := Lib.hid (fun W => degree_any a2 n c2 k hn (by omega) W)
  have eq1 : (m : Int) - (k : Int) = (q : Int) := by omega
  have q0 : (0 : Int) ≤ (q : Int) := by omega
  have q1 : q ≤ 1000000 := by omega
  obtain ⟨pf, hpf⟩ : ∃ pf : Nat → Int, (fun j => P.getD j 0) = pf := ⟨_, rfl⟩
  obtain ⟨df, hdf⟩ : ∃ df : Nat → Int, (fun j => D.getD j 0) = df := ⟨_, rfl⟩
  rw [hpf, hdf]
  have HPF := Lib.hid hpf
  have HDF := Lib.hid hdf
  clear h1 h2 hn hm hpf hdf
  go_enter Try.func82, Try.ntmps82
  go_wp2_with (first
    | (at_make; refine wpList_make_full _ rfl _ _ 68 rfl w.heap.size 3 i0 (.int .i64 0) 1 Try.underlying68 hi hz0 hz1 _ _ _ _ m rfl rfl (by omega) (by omega) (by rw [hz2]; omega) (by unfold maxLen; omega) (Nat.le_refl _) ?_; intro w1 hown hgrow; have S0 := Lib.hid (CoState.made hown ((Below.refl w.heap.size w).grown hgrow (Nat.le_refl _) (fun k e => by cases e))); have HPS := Lib.hid (src_pos (H1.out.below S0.out.b) w.heap.size); rw [HPF.out] at HPS; clear hown hgrow)
    | (refine wpList_copy_splice rfl (.tmp 12) (.tmp 13) 68 68 rfl 3 Try.underlying68 size3 (some ⟨w.heap.size, 0, none⟩) a1 m m m c1 rfl rfl w.heap.size 0 (cellsOf (fun _ => 0) m) 3 S0.out.heap (cellsOf pf m) (by rw [cellsOf_len]; simp) HPS.out (by rw [cellsOf_len, cellsOf_len]; omega) (cellsOf_one _ _) w.heap.size w S0.out.b (Nat.le_refl _) ?_; intro w2 hx hb2))
  refine (HDg.out _).mono ?_
  rintro e v3 ⟨rfl, rfl⟩
  rw [cellsOf_len]
  have C1 : CoState w.heap.size m pf w w2 := CoState.of hb2 (Nat.le_refl _) (by unfold maxLen; omega) (by have := hx.out; rwa [splice_all (by rw [cellsOf_len, cellsOf_len])] at this)
  have hle2 := C1.b.size
  have hlt2 := (C1.own.lt w.heap.size rfl).2
  have C1H := Lib.hid C1
  have HLE := Lib.hid (And.intro hle2 hlt2)
  clear hx hb2 HPS S0 C1 hle2 hlt2
  go_wp2_with (at_make; refine wpList_make_full _ rfl _ _ 68 rfl w.heap.size 3 i0 (.int .i64 0) 1 Try.underlying68 hi hz0 hz1 _ _ _ _ q rfl rfl (by omega) (by omega) (by rw [hz2]; omega) (by unfold maxLen; omega) HLE.out.1 ?_; intro w3 hown hgrow)
  have T0 := Lib.hid (show Two w.heap.size m pf w2.heap.size q (fun _ => 0) w w3 from
    ⟨⟨C1H.out.b.grown hgrow HLE.out.1 (fun k e => by cases e), own_later C1H.out.own ((Below.refl _ _).grown hgrow (Nat.le_refl _) (fun k e => by cases e))⟩,
      CoState.made hown (C1H.out.b.grown hgrow HLE.out.1 (fun k e => by cases e)), by have := HLE.out.2; omega⟩)
  clear hown hgrow C1H HLE hi hz0 hz1 hz2
  obtain ⟨G1, hg1⟩ : ∃ G, w.heap.size = G := ⟨_, rfl⟩
  obtain ⟨G2, hg2⟩ : ∃ G, w2.heap.size = G := ⟨_, rfl⟩
  rw [hg2] at T0 ⊢
  rw [hg1] at T0
  try rw [hg1]
  clear hg2
  have HG1 := Lib.hid hg1
  clear hg1
  go_loopg [6, 7, 8] q (fun gk s6 s7 s8 wr => ∃ r : Nat, r + gk = q ∧ s6 = .int .i64 ((gk : Int) - 1) ∧ Two G1 m (rsF pf df q k r) G2 q (quR pf df q k r) w wr)
  case atStart => exact ⟨0, by omega, rfl, T0.out.congr (fun _ _ => rfl) (fun t ht => by unfold quR; rw [if_neg (by omega)])⟩
  case round =>
    obtain ⟨r, hr, rfl, hs⟩ := hrel
    have HS := Lib.hid hs
    have HR := Lib.hid hr
    clear hs
    by_cases hlt : 0 < gk
    · obtain ⟨I, hI⟩ : ∃ I, gk = I + 1 := ⟨gk - 1, by omega⟩
      have e0 : (gk : Int) - 1 = (I : Int) := by omega
      rw [e0]
      have HI2 := Lib.hid hI
      have hIq : I < q := by omega
      have hIr : q - 1 - r = I := by omega
      have HIR := Lib.hid hIr
      have hct := HS.out.a.cell (j := I + k) (by have := HM.out; omega)
      have hcq := HS.out.c.cell (j := I) hIq
      have hfq := HS.out.c.frozen I
      obtain ⟨x, hx⟩ : ∃ x, rsF pf df q k r (I + k) = x := ⟨_, rfl⟩
      rw [hx] at hct
      have HX := Lib.hid hx
      obtain ⟨y, hy⟩ : ∃ y, quR pf df q k r I = y := ⟨_, rfl⟩
      rw [hy] at hcq
      have hT1 := HM.out
      obtain ⟨T, hT⟩ : ∃ T, I + k = T := ⟨_, rfl⟩
      have eT : (I : Int) + (k : Int) = (T : Int) := by omega
      have T1 : T < m := by omega
      have T1' : (T : Int) < (m : Int) := by omega
      have T00 : (0 : Int) ≤ (T : Int) := by omega
      have I00 : (0 : Int) ≤ (I : Int) := by omega
      have Iq' : (I : Int) < (q : Int) := by omega
      rw [hT] at hct
      have S1 := Lib.hid (show Two G1 m (rsF pf df q k r) G2 q (quR pf df q k (r + 1)) w (wr.setCell ⟨G2, I, none⟩ (.int .i64 x)) from
        (HS.out.putC I x).congr (fun _ _ => rfl) (fun t _ => by rw [quR_step (by omega), hIr, hx]))
      clear hx hy hT1 hT hI hIr hr e0 hlt T0 HS
      go_wp2_with fail
      refine (HDg.out _).mono ?_
      rintro e v4 ⟨rfl, rfl⟩
      go_wp2
      clear hcq hfq hct
      go_loopg [7, 8, 40] n (fun gk2 s7 s8 s40 wq => ∃ j : Nat, j + gk2 = n ∧ s40 = .int .i64 (j : Int) ∧ Two G1 m (ins (rsF pf df q k r) df x I j) G2 q (quR pf df q k (r + 1)) w wq)
      case atStart => exact ⟨0, by omega, rfl, S1.out.congr (fun t _ => by rw [ins_zero]) (fun _ _ => rfl)⟩
      case round =>
        obtain ⟨j, hj, rfl, hs⟩ := hrel
        have HT := Lib.hid hs
        have HJ := Lib.hid hj
        clear hs S1
        by_cases hlt2 : j < n
        · have l2 : (j : Int) < (n : Int) := by omega
          have j00 : (0 : Int) ≤ (j : Int) := by omega
          obtain ⟨b, o, rfl, hb, hc⟩ := H2.out.at (by omega)
          have hcd := (HT.out.a.b.cell (p := ⟨b, o + j, none⟩) hb).trans (hc j hlt2)
          obtain ⟨y, hy⟩ : ∃ y, D.getD j 0 = y := ⟨_, rfl⟩
          have hdy : df j = y := by rw [← HDF.out]; exact hy
          rw [hy] at hcd
          obtain ⟨U, hU⟩ : ∃ U, I + j = U := ⟨_, rfl⟩
          have U1 : U < m := by have := HN.out; have := HM.out; have := HIR.out; omega
          have eU : (I : Int) + (j : Int) = (U : Int) := by omega
          have U00 : (0 : Int) ≤ (U : Int) := by omega
          have U1' : (U : Int) < (m : Int) := by omega
          have hcz := HT.out.a.cell (j := U) U1
          have hfz := HT.out.a.frozen U
          have hcx := HT.out.c.cell (j := I) (by have := HI2.out; omega)
          have hzz : ins (rsF pf df q k r) df x I j U = rsF pf df q k r U := by rw [← hU, ins_at]
          have hxx : quR pf df q k (r + 1) I = x := by rw [quR_step (by have := HI2.out; have := HR.out; omega), HIR.out, if_pos rfl, HX.out]
          rw [hzz] at hcz
          rw [hxx] at hcx
          obtain ⟨z, hz⟩ : ∃ z, rsF pf df q k r U = z := ⟨_, rfl⟩
          rw [hz] at hcz
          have S2 := Lib.hid (show Two G1 m (ins (rsF pf df q k r) df x I (j + 1)) G2 q (quR pf df q k (r + 1)) w (wr.setCell ⟨G1, U, none⟩ (.int .i64 (wrap64 (z - wrap64 (x * y))))) from
            (HT.out.putA U _).congr (fun t _ => by rw [ins_step, hU, hz, hdy]) (fun _ _ => rfl))
          clear hy hdy hU hzz hxx hz hj hc hb
          go_wp2
          go_region
          all_goals
            go_wp2
            go_roundg (gk - 1)
            case rel => exact ⟨j + 1, by have := HJ.out; omega, by go_num, by first | exact S2.out | exact S2.out.drew⟩
            case measure => have := HJ.out; omega
        · have l2 : ¬ (j : Int) < (n : Int) := by omega
          have hjn : j = n := by omega
          have S3 := Lib.hid (show Two G1 m (rsF pf df q k (r + 1)) G2 q (quR pf df q k (r + 1)) w wr from
            HT.out.congr (fun t _ => by rw [rsF, HIR.out, HX.out, ← HN.out, hjn]) (fun _ _ => rfl))
          clear hjn hj HT
          go_wp2
          go_roundg I
          case rel => exact ⟨r + 1, by have := HI2.out; have := HR.out; omega, by first | rfl | go_num, S3.out⟩
          case measure => have := HI2.out; omega
    · have e0 : (gk : Int) - 1 = -1 := by omega
      rw [e0]
      have hrq : r = q := by omega
      have S4 := Lib.hid (show Two G1 m (rsF pf df q k q) G2 q (quF pf df q k) w wr from by
        have := HS.out
        rw [hrq] at this
        exact this.congr (fun _ _ => rfl) (fun t ht => by unfold quR; rw [if_pos (by omega)]))
      have km : (k : Int) ≤ (m : Int) := by omega
      have k0 : (0 : Int) ≤ (k : Int) := by omega
      have hG := fun W => (HDg.out W).mono fun e w' (h : _ ∧ _) => (⟨h.1, h.2.symm⟩ : e = .returned (.int .i64 (k : Int)) ∧ w' = W)
      clear hrq hr hlt HS T0 e0
      go_wp2
      go_quiet ((go_at_call 83; exact Calls.quiet_of_same (hG _)))
      go_wp2
      go_ret2
      exact ⟨⟨G1, G2, rfl, by first | exact S4.out | exact S4.out.drew | exact S4.out.drewN _⟩, by first | exact S4.out.a.b | exact S4.out.a.b.drew | exact below_drewN S4.out.a.b _⟩
end Go.Proofs.Ytopfcppmbkidgaa
