/- The walks of torsion, Torsion and the reference's Torsion. Conditions as stated in each theorem. -/
import Derived.Test.YtoepghlkjbpkfaaDoorLog
namespace Go.Proofs.YtoepghlkjbpkfaaDoor
open Go.RowKit
attribute [local go_sem] Oper.semAt_some

theorem ptsY_on (P A B : Int) (x : Nat) : ∀ j, ∀ q ∈ ptsY P A B x j, onB P A B q = true
  | 0, q, h => by cases h
  | j + 1, q, h => by
    unfold ptsY at h
    rw [List.mem_append] at h
    rcases h with h | h
    · exact ptsY_on P A B x j q h
    · split at h
      · rw [List.mem_singleton] at h; rw [h]; assumption
      · cases h
theorem ptsX_on (P A B : Int) (N : Nat) : ∀ k, ∀ q ∈ ptsX P A B N k, onB P A B q = true
  | 0, q, h => by cases h
  | k + 1, q, h => by
    unfold ptsX at h
    rw [List.mem_append] at h
    rcases h with h | h
    · exact ptsX_on P A B N k q h
    · exact ptsY_on P A B k N q h
theorem pts_on (P A B : Int) : ∀ q ∈ ptsL P A B, onB P A B q = true := by
  intro q h
  unfold ptsL at h
  rw [List.mem_append, List.mem_singleton] at h
  rcases h with h | rfl
  · exact ptsX_on P A B _ _ q h
  · exact on_far P A B
theorem nth_mem {L : List Pt} {k : Nat} (h : k < L.length) : nth3 L k ∈ L := by
  rw [show nth3 L k = L[k] by simp [nth3, List.getD, h]]
  exact List.getElem_mem h
/-- whether K times a point is the far one -/
def torB (P A : Int) (K : Nat) (q : Pt) : Bool := decide (mulP P A q K = farP)
theorem tor_ord {P A : Int} {q : Pt} {n : Nat} (h : IsOrd P A q n) (K : Nat) : torB P A K q = decide (K % n = 0) := by
  unfold torB
  rw [Bool.eq_iff_iff]
  simp only [decide_eq_true_iff]
  rw [← mul_mod h K]
  constructor
  · intro e
    refine Classical.byContradiction fun hn => h.2.2 (K % n) (by omega) (Nat.mod_lt _ h.1) e
  · intro e
    rw [e]; rfl
theorem tmP_nat {P A : Int} {q : Pt} {n : Nat} (h : IsOrd P A q n) (K : Nat) : tmP P A q n (K : Int) = mulP P A q K := by
  unfold tmP
  rw [← Int.natCast_emod, Int.toNat_natCast, mul_mod h]
theorem filter_succ {L : List Pt} {k : Nat} (f : Pt → Bool) (h : k < L.length) : (L.take (k + 1)).filter f = (L.take k).filter f ++ (if f (nth3 L k) = true then [nth3 L k] else []) := by
  rw [take_succ3 h, List.filter_append]
  congr 1
  simp only [List.filter]
  split <;> simp_all
theorem filter_le (L : List Pt) (k : Nat) (f : Pt → Bool) : ((L.take k).filter f).length ≤ L.length :=
  Nat.le_trans (List.length_filter_le _ _) (by rw [List.length_take]; omega)

set_option maxHeartbeats 8000000 in
set_option maxRecDepth 100000 in
theorem torsionR_any (N : Nat) (A B : Int) (K : Nat) (hv : vB N A B = true) (hK : 1 ≤ K ∧ K ≤ 50) (w : World) :
    Calls Tryd.prog 42 #[.agg #[.int .i64 (N : Int), .int .i64 A, .int .i64 B], .int .i64 (K : Int)] w fun e w' => (∃ v', e = .returned v' ∧ RowP 25 w.heap.size v' ((ptsL N A B).filter (torB N A K)) w') ∧ Below w.heap.size w w' := by
  have h := (vB_iff.1 hv).1
  have hds := (vB_iff.1 hv).2.2.2
  obtain ⟨h5, hA, hB⟩ := vB_le hv
  have hbx := below1 w (.cells #[.int .i64 (N : Int), .int .i64 A, .int .i64 B] 23)
  have HB := Lib.hid hbx
  have HC := Lib.hid (C3.new w (.int .i64 (N : Int)) (.int .i64 A) (.int .i64 B) 23)
  obtain ⟨i0, hi, hz0, hz1, hz2⟩ := info_parts info25
  have HP := Lib.hid (fun W => pointsR_any N A B (by omega) hA hB W)
  have HT := Lib.hid (fun q (hq : onB N A B q = true) => (show ∃ n : Nat, 1 ≤ n ∧ n ≤ 962 ∧ torB N A K q = decide (K % n = 0) ∧ ∀ W, Calls Tryd.prog 34 #[.agg #[.int .i64 (N : Int), .int .i64 A, .int .i64 B], .agg #[.int .i64 q.x, .int .i64 q.y, .bool q.f]] W fun e w' => e = .returned (.int .i64 (n : Int)) ∧ Below W.heap.size W w' by
    obtain ⟨n, ho, hn⟩ := ord_ex h hds hq
    exact ⟨n, ho.1, hn, tor_ord ho K, fun W => orderR_any N A B q n hv hq ho hn W⟩))
  have HON := Lib.hid (pts_on (N : Int) A B)
  have HLN := Lib.hid (ptsL_len hv)
  obtain ⟨L, hL⟩ : ∃ L, ptsL (N : Int) A B = L := ⟨_, rfl⟩
  rw [hL] at HP HON HLN ⊢
  clear hv h hds h5 hA hB hbx hL
  go_enter Tryd.func42, Tryd.ntmps42
  go_wp2_with fail
  refine (HP.out _).mono ?_
  rintro e w1 ⟨⟨vl, rfl, hr⟩, hb⟩
  obtain ⟨al, cl, rfl, hm1, hm2, hag⟩ := AgP.of hr
  have HAG := Lib.hid hag
  have HBw := Lib.hid (HB.out.trans (hb.mono HB.out.size))
  have HC0 := Lib.hid (HC.out.later hb)
  obtain ⟨M, hM⟩ : ∃ M, L.length = M := ⟨_, rfl⟩
  rw [hM] at HAG HLN ⊢
  have HM := Lib.hid hM
  have hlm := HLN.out
  clear hr hb hm1 hm2 hag hM
  go_wp2
  go_loopg [5, 7, 11] M (fun gk s5 s7 s11 wr => ∃ k : Nat, k + gk = M ∧ s11 = .int .i64 (k : Int) ∧ RowP 25 w1.heap.size s5 ((L.take k).filter (torB N A K)) wr ∧ Below w1.heap.size w1 wr)
  case atStart => exact ⟨0, by omega, rfl, RowP.nil _ _ _, Below.refl _ _⟩
  case round =>
    obtain ⟨k, hk, rfl, hr, hb⟩ := hrel
    have hag := HAG.out.later hb
    have HK := Lib.hid hk
    have HRR := Lib.hid hr
    have HBB := Lib.hid hb
    have HC1 := Lib.hid (HC0.out.later hb)
    by_cases hlt : k < M
    · have l1 : (k : Int) < (M : Int) := by omega
      have l0 : (0 : Int) ≤ (k : Int) := by omega
      obtain ⟨b, o, hal, -, hcc⟩ := hag.pos (by omega)
      obtain ⟨t0, t1, t2⟩ := hcc k hlt
      have hst := filter_succ (torB N A K) (show k < L.length by rw [HM.out]; exact hlt)
      have hon := HON.out _ (nth_mem (show k < L.length by rw [HM.out]; exact hlt))
      obtain ⟨⟨x, y, f⟩, hx⟩ : ∃ x, nth3 L k = x := ⟨_, rfl⟩
      rw [hx] at t0 t1 t2 hst hon
      simp only at t0 t1 t2
      have HST := Lib.hid hst
      obtain ⟨n, n1, n2, htb, hcal⟩ := HT.out ⟨x, y, f⟩ hon
      have HO := Lib.hid hcal
      have hne : ¬ (n : Int) = 0 := by omega
      have hbo := below1 wr (.cells #[.int .i64 x, .int .i64 y, .bool f] 25)
      have HX := Lib.hid (C3.new wr (.int .i64 x) (.int .i64 y) (.bool f) 25)
      have hsz0 : w1.heap.size ≤ wr.heap.size := HBB.out.size
      have HR1 := Lib.hid (HRR.out.later hbo)
      have HB2 := Lib.hid (HBB.out.trans (hbo.mono hsz0))
      have HC2 := Lib.hid (HC1.out.later hbo)
      have hwl : w.heap.size < wr.heap.size := HC1.out.lt
      have hsz1 : w1.heap.size ≤ (wr.alloc (.cells #[.int .i64 x, .int .i64 y, .bool f] 25)).heap.size := by simp; omega
      obtain ⟨v, hvv⟩ : ∃ v, torB N A K ⟨x, y, f⟩ = v := ⟨_, rfl⟩
      rw [hvv] at htb HST
      have HSZ1 := Lib.hid hsz1
      subst hal
      have hmod : ((K : Int) % (n : Int) == 0) = v := by
        rw [htb, ← Int.natCast_emod, Bool.eq_iff_iff]
        simp only [beq_iff_eq, decide_eq_true_iff]
        omega
      obtain ⟨q0, q1, q2⟩ := HC1.out
      clear hvv hst hon hx hk hr hb hag hcc htb hcal hbo hsz0 hsz1
      go_wp2_with fail
      refine (HO.out _).mono ?_
      rintro e w2 ⟨rfl, hb⟩
      have HR2 := Lib.hid (HR1.out.later hb)
      have HB3 := Lib.hid (HB2.out.trans (hb.mono HSZ1.out))
      have HX2 := Lib.hid (HX.out.later hb)
      skip
      clear hb q0 q1 q2
      obtain ⟨y0, y1, y2⟩ := HX2.out
      cases v
      · have HR3 := Lib.hid (show RowP 25 w1.heap.size u5 ((L.take (k + 1)).filter (torB N A K)) w2 by rw [HST.out]; simpa using HR2.out)
        go_wp2
        go_roundg (gk - 1)
        case rel => exact ⟨k + 1, by have := HK.out; omega, by go_num, HR3.out, HB3.out⟩
        case measure => have := HK.out; omega
      · have hr2 := HR2.out
        unfold RowP at hr2
        have hsz := HB3.out.size
        have hln : ((L.take k).filter (torB N A K)).length ≤ 962 := Nat.le_trans (filter_le _ _ _) (by rw [HM.out]; omega)
        obtain ⟨Q, hQ⟩ : ∃ Q, ((L.take k).filter (torB N A K)).length = Q := ⟨_, rfl⟩
        rw [hQ] at hr2 hln
        have HQ := Lib.hid hQ
        clear hQ
        go_wp2_with (at_builtin; refine wpList_append_own _ rfl _ _ 39 rfl (w1.heap.size) 25 i0 (.agg #[.int .i64 0, .int .i64 0, .bool false]) 3 24 Tryd.underlying39 hi hz0 hz1 hz2 rfl (by decide) _ _ _ rfl (World.ownsRow.alloc (h := hr2) _) ⟨w2.heap.size, 0, none⟩ 1 1 (fl3 [⟨x, y, f⟩]) rfl rfl (by have := cell3_new w2 ⟨x, y, f⟩ 25; simpa using this) (fl3_one _) (by unfold maxLen; omega) (by omega) (by simp; omega) ?_; intro v' w3 hown' hgrow _)
        have hb3 : Below w1.heap.size w1 w3 := (HB3.out.alloc hsz _).grown hgrow (by first | (simp; done) | (simp; omega)) (fun j e => (World.ownsRow.lt hr2 j e).1)
        have hrow : RowP 25 w1.heap.size v' ((L.take (k + 1)).filter (torB N A K)) w3 := by
          unfold RowP
          rw [HST.out, if_pos trivial, List.length_append, HQ.out, fl3_app]
          exact hown'
        have HF := Lib.hid (And.intro hrow hb3)
        clear hown' hgrow hrow hb3 hr2
        go_wp2
        go_roundg (gk - 1)
        case rel => exact ⟨k + 1, by have := HK.out; omega, by go_num, HF.out.1, HF.out.2⟩
        case measure => have := HK.out; omega
    · have l1 : ¬ (k : Int) < (M : Int) := by omega
      have HF := Lib.hid (show RowP 25 w.heap.size u5 (L.filter (torB N A K)) wr by
        have := HRR.out
        rw [List.take_of_length_le (by rw [HM.out]; omega)] at this
        exact this.mono HBw.out.size)
      have HBW := Lib.hid (HBw.out.trans (HBB.out.mono HBw.out.size))
      clear hk hr hb hag
      go_wp2
      go_ret
      exact ⟨⟨_, rfl, HF.out⟩, HBW.out⟩

set_option maxHeartbeats 8000000 in
set_option maxRecDepth 100000 in
theorem torsion_any (N : Nat) (A B : Int) (K : Nat) (hv : vB N A B = true) (hK : K ≤ 50) (w : World) (hF : Far w) :
    Calls Tryd.prog 71 #[.agg #[.int .i64 (N : Int), .int .i64 A, .int .i64 B], .int .i64 (K : Int)] w fun e w' => (∃ v', e = .returned v' ∧ RowP 34 w.heap.size v' ((ptsL N A B).filter (torB N A K)) w') ∧ Below w.heap.size w w' := by
  have h := (vB_iff.1 hv).1
  have hds := (vB_iff.1 hv).2.2.2
  obtain ⟨h5, hA, hB⟩ := vB_le hv
  have hbx := below1 w (.cells #[.int .i64 (N : Int), .int .i64 A, .int .i64 B] 30)
  have HB := Lib.hid hbx
  have HC := Lib.hid (C3.new w (.int .i64 (N : Int)) (.int .i64 A) (.int .i64 B) 30)
  obtain ⟨i0, hi, hz0, hz1, hz2⟩ := info_parts info34
  have HP := Lib.hid (fun W hF => points_any N A B (by omega) hA hB W hF)
  have HFa := Lib.hid hF
  have HT := Lib.hid (fun q (hq : onB N A B q = true) => (show ∃ Z : Pt, torB N A K q = decide (Z = ⟨0, 0, true⟩) ∧ ∀ W, Far W → Calls Tryd.prog 63 #[.agg #[.int .i64 (N : Int), .int .i64 A, .int .i64 B], .agg #[.int .i64 q.x, .int .i64 q.y, .bool q.f], .int .i64 (K : Int)] W fun e w' => e = .returned (.agg #[.int .i64 Z.x, .int .i64 Z.y, .bool Z.f]) ∧ Below W.heap.size W w' by
    obtain ⟨n, ho, hn⟩ := ord_ex h hds hq
    exact ⟨tmP N A q n K, by rw [tmP_nat ho]; rfl, fun W hF => times_any N A B q n K hv hq ho hn W hF⟩))
  have HON := Lib.hid (pts_on (N : Int) A B)
  have HLN := Lib.hid (ptsL_len hv)
  obtain ⟨L, hL⟩ : ∃ L, ptsL (N : Int) A B = L := ⟨_, rfl⟩
  rw [hL] at HP HON HLN ⊢
  clear hv h hds h5 hA hB hbx hL hF
  go_enter Tryd.func71, Tryd.ntmps71
  go_wp2_with fail
  refine (HP.out _ (HFa.out.below HB.out)).mono ?_
  rintro e w1 ⟨⟨vl, rfl, hr⟩, hb⟩
  obtain ⟨al, cl, rfl, hm1, hm2, hag⟩ := AgP.of hr
  have HAG := Lib.hid hag
  have HBw := Lib.hid (HB.out.trans (hb.mono HB.out.size))
  have HC0 := Lib.hid (HC.out.later hb)
  obtain ⟨M, hM⟩ : ∃ M, L.length = M := ⟨_, rfl⟩
  rw [hM] at HAG HLN ⊢
  have HM := Lib.hid hM
  have hlm := HLN.out
  clear hr hb hm1 hm2 hag hM
  go_wp2
  go_loopg [5, 7, 11] M (fun gk s5 s7 s11 wr => ∃ k : Nat, k + gk = M ∧ s11 = .int .i64 (k : Int) ∧ RowP 34 w1.heap.size s5 ((L.take k).filter (torB N A K)) wr ∧ Below w1.heap.size w1 wr)
  case atStart => exact ⟨0, by omega, rfl, RowP.nil _ _ _, Below.refl _ _⟩
  case round =>
    obtain ⟨k, hk, rfl, hr, hb⟩ := hrel
    have hag := HAG.out.later hb
    have HK := Lib.hid hk
    have HRR := Lib.hid hr
    have HBB := Lib.hid hb
    have HC1 := Lib.hid (HC0.out.later hb)
    by_cases hlt : k < M
    · have l1 : (k : Int) < (M : Int) := by omega
      have l0 : (0 : Int) ≤ (k : Int) := by omega
      obtain ⟨b, o, hal, -, hcc⟩ := hag.pos (by omega)
      obtain ⟨t0, t1, t2⟩ := hcc k hlt
      have hst := filter_succ (torB N A K) (show k < L.length by rw [HM.out]; exact hlt)
      have hon := HON.out _ (nth_mem (show k < L.length by rw [HM.out]; exact hlt))
      obtain ⟨⟨x, y, f⟩, hx⟩ : ∃ x, nth3 L k = x := ⟨_, rfl⟩
      rw [hx] at t0 t1 t2 hst hon
      simp only at t0 t1 t2
      have HST := Lib.hid hst
      obtain ⟨⟨zx, zy, zf⟩, htb, hcal⟩ := HT.out ⟨x, y, f⟩ hon
      have HO := Lib.hid hcal
      have heq := fun W => eql34 W ⟨zx, zy, zf⟩ ⟨0, 0, true⟩
      have hbo := below1 wr (.cells #[.int .i64 x, .int .i64 y, .bool f] 34)
      have HX := Lib.hid (C3.new wr (.int .i64 x) (.int .i64 y) (.bool f) 34)
      have hsz0 : w1.heap.size ≤ wr.heap.size := HBB.out.size
      have HR1 := Lib.hid (HRR.out.later hbo)
      have HB2 := Lib.hid (HBB.out.trans (hbo.mono hsz0))
      have HC2 := Lib.hid (HC1.out.later hbo)
      have hwl : w.heap.size < wr.heap.size := HC1.out.lt
      have hsz1 : w1.heap.size ≤ (wr.alloc (.cells #[.int .i64 x, .int .i64 y, .bool f] 34)).heap.size := by simp; omega
      obtain ⟨v, hvv⟩ : ∃ v, torB N A K ⟨x, y, f⟩ = v := ⟨_, rfl⟩
      rw [hvv] at htb HST
      have HSZ1 := Lib.hid hsz1
      subst hal
      rw [← htb] at heq
      simp only at heq
      obtain ⟨q0, q1, q2⟩ := HC1.out
      have HFw := Lib.hid (HFa.out.below (HBw.out.trans (HB2.out.mono HBw.out.size)))
      obtain ⟨f9, f0, f1, f2⟩ := HFa.out.below (HBw.out.trans (HBB.out.mono HBw.out.size))
      have HN := Lib.hid (fun (W1 W2 : World) (hb : Below W1.heap.size W1 W2) (h : W1.cell? ⟨w.heap.size, 0, none⟩ = some (.int .i64 (N : Int)) ∧ W1.cell? ⟨w.heap.size, 1, none⟩ = some (.int .i64 A) ∧ W1.cell? ⟨w.heap.size, 2, none⟩ = some (.int .i64 B) ∧ W1.cell? ⟨wr.heap.size, 0, none⟩ = some (.int .i64 x) ∧ W1.cell? ⟨wr.heap.size, 1, none⟩ = some (.int .i64 y) ∧ W1.cell? ⟨wr.heap.size, 2, none⟩ = some (.bool f) ∧ W1.cell? ⟨0, 0, none⟩ = some (.int .i64 0) ∧ W1.cell? ⟨0, 1, none⟩ = some (.int .i64 0) ∧ W1.cell? ⟨0, 2, none⟩ = some (.bool true) ∧ BelF (wr.alloc (.cells #[.int .i64 x, .int .i64 y, .bool f] 34)).heap.size (wr.alloc (.cells #[.int .i64 x, .int .i64 y, .bool f] 34)) W1) => (show W2.cell? ⟨w.heap.size, 0, none⟩ = some (.int .i64 (N : Int)) ∧ W2.cell? ⟨w.heap.size, 1, none⟩ = some (.int .i64 A) ∧ W2.cell? ⟨w.heap.size, 2, none⟩ = some (.int .i64 B) ∧ W2.cell? ⟨wr.heap.size, 0, none⟩ = some (.int .i64 x) ∧ W2.cell? ⟨wr.heap.size, 1, none⟩ = some (.int .i64 y) ∧ W2.cell? ⟨wr.heap.size, 2, none⟩ = some (.bool f) ∧ W2.cell? ⟨0, 0, none⟩ = some (.int .i64 0) ∧ W2.cell? ⟨0, 1, none⟩ = some (.int .i64 0) ∧ W2.cell? ⟨0, 2, none⟩ = some (.bool true) ∧ BelF (wr.alloc (.cells #[.int .i64 x, .int .i64 y, .bool f] 34)).heap.size (wr.alloc (.cells #[.int .i64 x, .int .i64 y, .bool f] 34)) W2 from ⟨cell_later h.1 hb, cell_later h.2.1 hb, cell_later h.2.2.1 hb, cell_later h.2.2.2.1 hb, cell_later h.2.2.2.2.1 hb, cell_later h.2.2.2.2.2.1 hb, cell_later h.2.2.2.2.2.2.1 hb, cell_later h.2.2.2.2.2.2.2.1 hb, cell_later h.2.2.2.2.2.2.2.2.1 hb, h.2.2.2.2.2.2.2.2.2.next hb⟩))
      have HBS := Lib.hid (fun (W1 : World) (h : W1.cell? ⟨w.heap.size, 0, none⟩ = some (.int .i64 (N : Int)) ∧ W1.cell? ⟨w.heap.size, 1, none⟩ = some (.int .i64 A) ∧ W1.cell? ⟨w.heap.size, 2, none⟩ = some (.int .i64 B) ∧ W1.cell? ⟨wr.heap.size, 0, none⟩ = some (.int .i64 x) ∧ W1.cell? ⟨wr.heap.size, 1, none⟩ = some (.int .i64 y) ∧ W1.cell? ⟨wr.heap.size, 2, none⟩ = some (.bool f) ∧ W1.cell? ⟨0, 0, none⟩ = some (.int .i64 0) ∧ W1.cell? ⟨0, 1, none⟩ = some (.int .i64 0) ∧ W1.cell? ⟨0, 2, none⟩ = some (.bool true) ∧ BelF (wr.alloc (.cells #[.int .i64 x, .int .i64 y, .bool f] 34)).heap.size (wr.alloc (.cells #[.int .i64 x, .int .i64 y, .bool f] 34)) W1) => (show Below (wr.alloc (.cells #[.int .i64 x, .int .i64 y, .bool f] 34)).heap.size (wr.alloc (.cells #[.int .i64 x, .int .i64 y, .bool f] 34)) W1 from h.2.2.2.2.2.2.2.2.2.to))
      have HS0 := Lib.hid (show (wr.alloc (.cells #[.int .i64 x, .int .i64 y, .bool f] 34)).cell? ⟨w.heap.size, 0, none⟩ = some (.int .i64 (N : Int)) ∧ (wr.alloc (.cells #[.int .i64 x, .int .i64 y, .bool f] 34)).cell? ⟨w.heap.size, 1, none⟩ = some (.int .i64 A) ∧ (wr.alloc (.cells #[.int .i64 x, .int .i64 y, .bool f] 34)).cell? ⟨w.heap.size, 2, none⟩ = some (.int .i64 B) ∧ (wr.alloc (.cells #[.int .i64 x, .int .i64 y, .bool f] 34)).cell? ⟨wr.heap.size, 0, none⟩ = some (.int .i64 x) ∧ (wr.alloc (.cells #[.int .i64 x, .int .i64 y, .bool f] 34)).cell? ⟨wr.heap.size, 1, none⟩ = some (.int .i64 y) ∧ (wr.alloc (.cells #[.int .i64 x, .int .i64 y, .bool f] 34)).cell? ⟨wr.heap.size, 2, none⟩ = some (.bool f) ∧ (wr.alloc (.cells #[.int .i64 x, .int .i64 y, .bool f] 34)).cell? ⟨0, 0, none⟩ = some (.int .i64 0) ∧ (wr.alloc (.cells #[.int .i64 x, .int .i64 y, .bool f] 34)).cell? ⟨0, 1, none⟩ = some (.int .i64 0) ∧ (wr.alloc (.cells #[.int .i64 x, .int .i64 y, .bool f] 34)).cell? ⟨0, 2, none⟩ = some (.bool true) ∧ BelF (wr.alloc (.cells #[.int .i64 x, .int .i64 y, .bool f] 34)).heap.size (wr.alloc (.cells #[.int .i64 x, .int .i64 y, .bool f] 34)) (wr.alloc (.cells #[.int .i64 x, .int .i64 y, .bool f] 34)) from ⟨HC2.out.1, HC2.out.2.1, HC2.out.2.2, HX.out.1, HX.out.2.1, HX.out.2.2, HFw.out.2.1, HFw.out.2.2.1, HFw.out.2.2.2, BelF.begin _⟩)
      clear hvv hst hon hx hk hr hb hag hcc htb hcal hbo hsz0 hsz1
      go_wp2
      go_region_held3 (fun W => W.cell? ⟨w.heap.size, 0, none⟩ = some (.int .i64 (N : Int)) ∧ W.cell? ⟨w.heap.size, 1, none⟩ = some (.int .i64 A) ∧ W.cell? ⟨w.heap.size, 2, none⟩ = some (.int .i64 B) ∧ W.cell? ⟨wr.heap.size, 0, none⟩ = some (.int .i64 x) ∧ W.cell? ⟨wr.heap.size, 1, none⟩ = some (.int .i64 y) ∧ W.cell? ⟨wr.heap.size, 2, none⟩ = some (.bool f) ∧ W.cell? ⟨0, 0, none⟩ = some (.int .i64 0) ∧ W.cell? ⟨0, 1, none⟩ = some (.int .i64 0) ∧ W.cell? ⟨0, 2, none⟩ = some (.bool true) ∧ BelF (wr.alloc (.cells #[.int .i64 x, .int .i64 y, .bool f] 34)).heap.size (wr.alloc (.cells #[.int .i64 x, .int .i64 y, .bool f] 34)) W)
        (first | exact HS0.out | exact HN.out _ _ hbt (by assumption) | exact HN.out _ _ (drew_below _) (by assumption) | exact HN.out _ _ (drew_below _) HS0.out)
        ((first
          | (go_at_call 63; refine (HO.out _ (HFw.out.below (HBS.out _ (by assumption)))).mono ?_; rintro e wx ⟨rfl, hbt⟩)))
      all_goals
        refine at_world (S := fun W => W.cell? ⟨w.heap.size, 0, none⟩ = some (.int .i64 (N : Int)) ∧ W.cell? ⟨w.heap.size, 1, none⟩ = some (.int .i64 A) ∧ W.cell? ⟨w.heap.size, 2, none⟩ = some (.int .i64 B) ∧ W.cell? ⟨wr.heap.size, 0, none⟩ = some (.int .i64 x) ∧ W.cell? ⟨wr.heap.size, 1, none⟩ = some (.int .i64 y) ∧ W.cell? ⟨wr.heap.size, 2, none⟩ = some (.bool f) ∧ W.cell? ⟨0, 0, none⟩ = some (.int .i64 0) ∧ W.cell? ⟨0, 1, none⟩ = some (.int .i64 0) ∧ W.cell? ⟨0, 2, none⟩ = some (.bool true) ∧ BelF (wr.alloc (.cells #[.int .i64 x, .int .i64 y, .bool f] 34)).heap.size (wr.alloc (.cells #[.int .i64 x, .int .i64 y, .bool f] 34)) W) (G := fun W => Exit.then _ _ _ _ W) (by assumption) ?_
        intro w2 hS
        clear q0 q1 q2 f9 f0 f1 f2
        have hb := HBS.out _ hS
        have HR2 := Lib.hid (HR1.out.later hb)
        have HB3 := Lib.hid (HB2.out.trans (hb.mono HSZ1.out))
        have HX2 := Lib.hid (HX.out.later hb)
        skip
        clear hS hb
        obtain ⟨y0, y1, y2⟩ := HX2.out
        cases v
        · have HR3 := Lib.hid (show RowP 34 w1.heap.size u5 ((L.take (k + 1)).filter (torB N A K)) w2 by rw [HST.out]; simpa using HR2.out)
          go_wp2
          go_roundg (gk - 1)
          case rel => exact ⟨k + 1, by have := HK.out; omega, by go_num, HR3.out, HB3.out⟩
          case measure => have := HK.out; omega
        · have hr2 := HR2.out
          unfold RowP at hr2
          have hsz := HB3.out.size
          have hln : ((L.take k).filter (torB N A K)).length ≤ 962 := Nat.le_trans (filter_le _ _ _) (by rw [HM.out]; omega)
          obtain ⟨Q, hQ⟩ : ∃ Q, ((L.take k).filter (torB N A K)).length = Q := ⟨_, rfl⟩
          rw [hQ] at hr2 hln
          have HQ := Lib.hid hQ
          clear hQ
          go_wp2_with (at_builtin; refine wpList_append_own _ rfl _ _ 26 rfl (w1.heap.size) 34 i0 (.agg #[.int .i64 0, .int .i64 0, .bool false]) 3 24 Tryd.underlying26 hi hz0 hz1 hz2 rfl (by decide) _ _ _ rfl (World.ownsRow.alloc (h := hr2) _) ⟨w2.heap.size, 0, none⟩ 1 1 (fl3 [⟨x, y, f⟩]) rfl rfl (by have := cell3_new w2 ⟨x, y, f⟩ 34; simpa using this) (fl3_one _) (by unfold maxLen; omega) (by omega) (by simp; omega) ?_; intro v' w3 hown' hgrow _)
          have hb3 : Below w1.heap.size w1 w3 := (HB3.out.alloc hsz _).grown hgrow (by first | (simp; done) | (simp; omega)) (fun j e => (World.ownsRow.lt hr2 j e).1)
          have hrow : RowP 34 w1.heap.size v' ((L.take (k + 1)).filter (torB N A K)) w3 := by
            unfold RowP
            rw [HST.out, if_pos trivial, List.length_append, HQ.out, fl3_app]
            exact hown'
          have HF := Lib.hid (And.intro hrow hb3)
          clear hown' hgrow hrow hb3 hr2
          go_wp2
          go_roundg (gk - 1)
          case rel => exact ⟨k + 1, by have := HK.out; omega, by go_num, HF.out.1, HF.out.2⟩
          case measure => have := HK.out; omega
    · have l1 : ¬ (k : Int) < (M : Int) := by omega
      have HF := Lib.hid (show RowP 34 w.heap.size u5 (L.filter (torB N A K)) wr by
        have := HRR.out
        rw [List.take_of_length_le (by rw [HM.out]; omega)] at this
        exact this.mono HBw.out.size)
      have HBW := Lib.hid (HBw.out.trans (HBB.out.mono HBw.out.size))
      clear hk hr hb hag
      go_wp2
      go_ret
      exact ⟨⟨_, rfl, HF.out⟩, HBW.out⟩

end Go.Proofs.YtoepghlkjbpkfaaDoor
