/- The shape of a curve: its definition, the walks of shape, the reference's Shape and Shape. Conditions as stated in each theorem. -/
import Derived.Test.YtoepghlkjbpkfaaDoorTor
import Derived.Test.YtoepghlkjbpkfaaDoorExp
namespace Go.Proofs.YtoepghlkjbpkfaaDoor
open Go.RowKit
attribute [local go_sem] Oper.semAt_some

open Classical in
/-- the order of a point -/
noncomputable def ordN (P A : Int) (q : Pt) : Nat := if h : ∃ n, IsOrd P A q n then h.choose else 1
theorem ordN_ok {P A B : Int} {q : Pt} (hv : vB P A B = true) (hq : onB P A B q = true) : IsOrd P A q (ordN P A q) ∧ ordN P A q ≤ 962 := by
  obtain ⟨n, ho, hn⟩ := ord_ex (vB_iff.1 hv).1 (vB_iff.1 hv).2.2.2 hq
  have h : ∃ n, IsOrd P A q n := ⟨n, ho⟩
  have h2 : IsOrd P A q (ordN P A q) := by unfold ordN; rw [dif_pos h]; exact h.choose_spec
  exact ⟨h2, by rw [h2.uniq ho]; exact hn⟩
/-- the greatest value, and s -/
def mxF (f : Pt → Nat) (s : Nat) (L : List Pt) : Nat := L.foldl (fun n q => max n (f q)) s
theorem mxF_snoc (f : Pt → Nat) (s : Nat) {L : List Pt} {k : Nat} (h : k < L.length) : mxF f s (L.take (k + 1)) = max (mxF f s (L.take k)) (f (nth3 L k)) := by
  unfold mxF
  rw [take_succ3 h, List.foldl_append]
  rfl
theorem mxF_start (f : Pt → Nat) (s : Nat) : ∀ L, s ≤ mxF f s L
  | [] => Nat.le_refl _
  | q :: L => Nat.le_trans (Nat.le_max_left _ _) (mxF_start f (max s (f q)) L)
theorem mxF_ge (f : Pt → Nat) : ∀ (s : Nat) (L : List Pt), ∀ q ∈ L, f q ≤ mxF f s L
  | s, p :: L, q, h => by
    rcases List.mem_cons.1 h with rfl | h
    · exact Nat.le_trans (Nat.le_max_right _ _) (mxF_start f (max s (f q)) L)
    · exact mxF_ge f (max s (f p)) L q h
theorem mxF_in (f : Pt → Nat) : ∀ (s : Nat) (L : List Pt), mxF f s L = s ∨ ∃ q ∈ L, mxF f s L = f q
  | s, [] => .inl rfl
  | s, p :: L => by
    rcases mxF_in f (max s (f p)) L with h | ⟨q, hq, h⟩
    · have e : mxF f s (p :: L) = max s (f p) := h
      by_cases hs : f p ≤ s
      · left; rw [e]; omega
      · right; exact ⟨p, List.mem_cons_self, by rw [e]; omega⟩
    · exact .inr ⟨q, List.mem_cons_of_mem _ hq, h⟩
theorem mxF_le (f : Pt → Nat) {b s : Nat} (L : List Pt) (hs : s ≤ b) (h : ∀ q ∈ L, f q ≤ b) : mxF f s L ≤ b := by
  rcases mxF_in f s L with e | ⟨q, hq, e⟩
  · omega
  · rw [e]; exact h q hq
theorem mxF_one (f : Pt → Nat) {L : List Pt} {q : Pt} (hq : q ∈ L) (h : 1 ≤ f q) : mxF f 1 L = mxF f 0 L := by
  have h1 := mxF_ge f 0 L q hq
  have h2 : mxF f 0 L ≤ mxF f 1 L := by
    rcases mxF_in f 0 L with e | ⟨r, hr, e⟩
    · omega
    · rw [e]; exact mxF_ge f 1 L r hr
  rcases mxF_in f 1 L with e | ⟨r, hr, e⟩
  · omega
  · have := mxF_ge f 0 L r hr
    omega
/-- the greatest order -/
noncomputable def shN (P A B : Int) : Nat := mxF (ordN P A) 0 (ptsL P A B)
theorem far_pts (P A B : Int) : farP ∈ ptsL P A B := by unfold ptsL; simp [farP]
theorem ord_le {P A B : Int} (hv : vB P A B = true) : ∀ q ∈ ptsL P A B, 1 ≤ ordN P A q ∧ ordN P A q ≤ 962 := fun q hq =>
  ⟨(ordN_ok hv (pts_on P A B q hq)).1.1, (ordN_ok hv (pts_on P A B q hq)).2⟩
theorem shN_in {P A B : Int} (hv : vB P A B = true) : 1 ≤ shN P A B ∧ shN P A B ≤ 962 := by
  constructor
  · exact Nat.le_trans (ord_le hv _ (far_pts P A B)).1 (mxF_ge _ 0 _ _ (far_pts P A B))
  · exact mxF_le _ _ (Nat.zero_le _) (fun q hq => (ord_le hv q hq).2)
theorem shN_one {P A B : Int} (hv : vB P A B = true) : mxF (ordN P A) 1 (ptsL P A B) = shN P A B :=
  mxF_one _ (far_pts P A B) (ord_le hv _ (far_pts P A B)).1

set_option maxHeartbeats 8000000 in
set_option maxRecDepth 100000 in
theorem shape_any (N : Nat) (A B : Int) (hv : vB N A B = true) (w : World) (hF : Far w) :
    Calls Tryd.prog 67 #[.agg #[.int .i64 (N : Int), .int .i64 A, .int .i64 B]] w fun e w' => e = .returned (.tuple #[.int .i64 (((ptsL N A B).length / shN N A B : Nat) : Int), .int .i64 (shN N A B : Int)]) ∧ Below w.heap.size w w' := by
  obtain ⟨h5, hA, hB⟩ := vB_le hv
  have hbx := below1 w (.cells #[.int .i64 (N : Int), .int .i64 A, .int .i64 B] 30)
  have HB := Lib.hid hbx
  have HC := Lib.hid (C3.new w (.int .i64 (N : Int)) (.int .i64 A) (.int .i64 B) 30)
  have HP := Lib.hid (fun W hF => points_any N A B (by omega) hA hB W hF)
  have HFa := Lib.hid hF
  have HT := Lib.hid (fun q (hq : onB N A B q = true) W hF => order_any N A B q (ordN N A q) hv hq (ordN_ok hv hq).1 (ordN_ok hv hq).2 W hF)
  have HON := Lib.hid (pts_on (N : Int) A B)
  have HLN := Lib.hid (ptsL_len hv)
  have HOL := Lib.hid (ord_le hv)
  have HSI := Lib.hid (shN_in hv)
  have HSO := Lib.hid (show mxF (ordN N A) 0 (ptsL N A B) = shN N A B from rfl)
  obtain ⟨G, hG⟩ : ∃ G, shN (N : Int) A B = G := ⟨_, rfl⟩
  obtain ⟨L, hL⟩ : ∃ L, ptsL (N : Int) A B = L := ⟨_, rfl⟩
  rw [hL] at HP HON HLN HOL HSO ⊢
  rw [hG] at HSI HSO ⊢
  clear hv h5 hA hB hbx hL hG hF
  go_enter Tryd.func67, Tryd.ntmps67
  go_wp2_with fail
  refine (HP.out _ (HFa.out.below HB.out)).mono ?_
  rintro e w1 ⟨⟨vl, rfl, hr⟩, hb⟩
  obtain ⟨al, cl, rfl, hm1, hm2, hag⟩ := AgP.of hr
  have HAG := Lib.hid hag
  have HBw := Lib.hid (HB.out.trans (hb.mono HB.out.size))
  have HC0 := Lib.hid (HC.out.later hb)
  obtain ⟨M, hM⟩ : ∃ M, L.length = M := ⟨_, rfl⟩
  rw [hM] at HAG HLN ⊢
  have HM := Lib.hid hM
  have hlm := HLN.out
  clear hr hb hm1 hm2 hag hM
  go_wp2
  go_loopg [3, 6, 11] M (fun gk s3 s6 s11 wr => ∃ k : Nat, k + gk = M ∧ s11 = .int .i64 (k : Int) ∧ s3 = .int .i64 ((mxF (ordN N A) 0 (L.take k) : Nat) : Int) ∧ Below w1.heap.size w1 wr)
  case atStart => exact ⟨0, by omega, rfl, rfl, Below.refl _ _⟩
  case round =>
    obtain ⟨k, hk, rfl, rfl, hb⟩ := hrel
    have hag := HAG.out.later hb
    have HK := Lib.hid hk
    have HBB := Lib.hid hb
    have HC1 := Lib.hid (HC0.out.later hb)
    by_cases hlt : k < M
    · have l1 : (k : Int) < (M : Int) := by omega
      have l0 : (0 : Int) ≤ (k : Int) := by omega
      obtain ⟨b, o, hal, -, hcc⟩ := hag.pos (by omega)
      obtain ⟨t0, t1, t2⟩ := hcc k hlt
      have hst := mxF_snoc (ordN N A) 0 (show k < L.length by rw [HM.out]; exact hlt)
      have hon := HON.out _ (nth_mem (show k < L.length by rw [HM.out]; exact hlt))
      obtain ⟨⟨x, y, f⟩, hx⟩ : ∃ x, nth3 L k = x := ⟨_, rfl⟩
      rw [hx] at t0 t1 t2 hst hon
      simp only at t0 t1 t2
      have hcal := HT.out ⟨x, y, f⟩ hon
      obtain ⟨n, hn⟩ : ∃ n, ordN N A ⟨x, y, f⟩ = n := ⟨_, rfl⟩
      rw [hn] at hcal hst
      have HO := Lib.hid hcal
      obtain ⟨m, hm⟩ : ∃ m, mxF (ordN N A) 0 (L.take k) = m := ⟨_, rfl⟩
      rw [hm] at hst ⊢
      have HST := Lib.hid hst
      have hbo := below1 wr (.cells #[.int .i64 x, .int .i64 y, .bool f] 34)
      have HX := Lib.hid (C3.new wr (.int .i64 x) (.int .i64 y) (.bool f) 34)
      have hsz0 : w1.heap.size ≤ wr.heap.size := HBB.out.size
      have HB2 := Lib.hid (HBB.out.trans (hbo.mono hsz0))
      have HC2 := Lib.hid (HC1.out.later hbo)
      have hwl : w.heap.size < wr.heap.size := HC1.out.lt
      have hsz1 : w1.heap.size ≤ (wr.alloc (.cells #[.int .i64 x, .int .i64 y, .bool f] 34)).heap.size := by simp; omega
      have HSZ1 := Lib.hid hsz1
      subst hal
      obtain ⟨q0, q1, q2⟩ := HC1.out
      have HFw := Lib.hid (HFa.out.below (HBw.out.trans (HB2.out.mono HBw.out.size)))
      clear hst hon hx hk hb hag hcc hcal hbo hsz0 hsz1 hn hm
      go_wp2_with fail
      refine (HO.out _ HFw.out).mono ?_
      rintro e w2 ⟨rfl, hb⟩
      have HB3 := Lib.hid (HB2.out.trans (hb.mono HSZ1.out))
      clear hb q0 q1 q2
      go_wp2
      all_goals
        go_roundg (gk - 1)
        case rel => exact ⟨k + 1, by have := HK.out; omega, by go_num, by rw [HST.out]; congr 1; omega, HB3.out⟩
        case measure => have := HK.out; omega
    · have l1 : ¬ (k : Int) < (M : Int) := by omega
      have hm : mxF (ordN N A) 0 (L.take k) = G := by rw [List.take_of_length_le (by rw [HM.out]; omega)]; exact HSO.out
      rw [hm]
      obtain ⟨g1, g2⟩ := HSI.out
      have hne : ¬ (G : Int) = 0 := by omega
      have HBW := Lib.hid (HBw.out.trans (HBB.out.mono HBw.out.size))
      have hdv : (M : Int).tdiv (G : Int) = ((M / G : Nat) : Int) := by rw [Int.tdiv_eq_ediv_of_nonneg (by omega), Int.natCast_ediv]
      have hdl : M / G ≤ 962 := Nat.le_trans (Nat.div_le_self _ _) (by omega)
      have hdw : wrap64 ((M : Int) / (G : Int)) = (M : Int) / (G : Int) := by
        rw [← Int.natCast_ediv]
        obtain ⟨D, hD⟩ : ∃ D, M / G = D := ⟨_, rfl⟩
        rw [hD] at hdl ⊢
        exact IntWalk.wrap64_in _ (by omega)
      have HDV := Lib.hid hdw
      clear hk hb hag hm hdv
      go_wp2
      go_ret2
      exact ⟨by simp [HDV.out, HM.out], HBW.out⟩

set_option maxHeartbeats 8000000 in
set_option maxRecDepth 100000 in
theorem shapeR_any (N : Nat) (A B : Int) (hv : vB N A B = true) (w : World) :
    Calls Tryd.prog 38 #[.agg #[.int .i64 (N : Int), .int .i64 A, .int .i64 B]] w fun e w' => e = .returned (.tuple #[.int .i64 (((ptsL N A B).length / shN N A B : Nat) : Int), .int .i64 (shN N A B : Int)]) ∧ Below w.heap.size w w' := by
  obtain ⟨h5, hA, hB⟩ := vB_le hv
  have hbx := below1 w (.cells #[.int .i64 (N : Int), .int .i64 A, .int .i64 B] 23)
  have HB := Lib.hid hbx
  have HC := Lib.hid (C3.new w (.int .i64 (N : Int)) (.int .i64 A) (.int .i64 B) 23)
  have HP := Lib.hid (fun W => pointsR_any N A B (by omega) hA hB W)
  have HT := Lib.hid (fun q (hq : onB N A B q = true) W => orderR_any N A B q (ordN N A q) hv hq (ordN_ok hv hq).1 (ordN_ok hv hq).2 W)
  have HON := Lib.hid (pts_on (N : Int) A B)
  have HLN := Lib.hid (ptsL_len hv)
  have HOL := Lib.hid (ord_le hv)
  have HSI := Lib.hid (shN_in hv)
  have HSO := Lib.hid (show mxF (ordN N A) 1 (ptsL N A B) = shN N A B from shN_one hv)
  obtain ⟨G, hG⟩ : ∃ G, shN (N : Int) A B = G := ⟨_, rfl⟩
  obtain ⟨L, hL⟩ : ∃ L, ptsL (N : Int) A B = L := ⟨_, rfl⟩
  rw [hL] at HP HON HLN HOL HSO ⊢
  rw [hG] at HSI HSO ⊢
  clear hv h5 hA hB hbx hL hG
  go_enter Tryd.func38, Tryd.ntmps38
  go_wp2_with fail
  refine (HP.out _).mono ?_
  rintro e w1 ⟨⟨vl, rfl, hr⟩, hb⟩
  obtain ⟨al, cl, rfl, hm1, hm2, hag⟩ := AgP.of hr
  have HAG := Lib.hid hag
  have HBw := Lib.hid (HB.out.trans (hb.mono HB.out.size))
  have HC0 := Lib.hid (HC.out.later hb)
  obtain ⟨M, hM⟩ : ∃ M, L.length = M := ⟨_, rfl⟩
  rw [hM] at HAG HLN ⊢
  have HM := Lib.hid hM
  have hlm := HLN.out
  clear hr hb hm1 hm2 hag hM
  go_wp2
  go_loopg [4, 7, 12] M (fun gk s4 s7 s12 wr => ∃ k : Nat, k + gk = M ∧ s12 = .int .i64 (k : Int) ∧ s4 = .int .i64 ((mxF (ordN N A) 1 (L.take k) : Nat) : Int) ∧ Below w1.heap.size w1 wr)
  case atStart => exact ⟨0, by omega, rfl, rfl, Below.refl _ _⟩
  case round =>
    obtain ⟨k, hk, rfl, rfl, hb⟩ := hrel
    have hag := HAG.out.later hb
    have HK := Lib.hid hk
    have HBB := Lib.hid hb
    have HC1 := Lib.hid (HC0.out.later hb)
    by_cases hlt : k < M
    · have l1 : (k : Int) < (M : Int) := by omega
      have l0 : (0 : Int) ≤ (k : Int) := by omega
      obtain ⟨b, o, hal, -, hcc⟩ := hag.pos (by omega)
      obtain ⟨t0, t1, t2⟩ := hcc k hlt
      have hst := mxF_snoc (ordN N A) 1 (show k < L.length by rw [HM.out]; exact hlt)
      have hon := HON.out _ (nth_mem (show k < L.length by rw [HM.out]; exact hlt))
      obtain ⟨⟨x, y, f⟩, hx⟩ : ∃ x, nth3 L k = x := ⟨_, rfl⟩
      rw [hx] at t0 t1 t2 hst hon
      simp only at t0 t1 t2
      have hcal := HT.out ⟨x, y, f⟩ hon
      obtain ⟨n, hn⟩ : ∃ n, ordN N A ⟨x, y, f⟩ = n := ⟨_, rfl⟩
      rw [hn] at hcal hst
      have HO := Lib.hid hcal
      obtain ⟨m, hm⟩ : ∃ m, mxF (ordN N A) 1 (L.take k) = m := ⟨_, rfl⟩
      rw [hm] at hst ⊢
      have HST := Lib.hid hst
      have hbo := below1 wr (.cells #[.int .i64 x, .int .i64 y, .bool f] 25)
      have HX := Lib.hid (C3.new wr (.int .i64 x) (.int .i64 y) (.bool f) 25)
      have hsz0 : w1.heap.size ≤ wr.heap.size := HBB.out.size
      have HB2 := Lib.hid (HBB.out.trans (hbo.mono hsz0))
      have HC2 := Lib.hid (HC1.out.later hbo)
      have hwl : w.heap.size < wr.heap.size := HC1.out.lt
      have hsz1 : w1.heap.size ≤ (wr.alloc (.cells #[.int .i64 x, .int .i64 y, .bool f] 25)).heap.size := by simp; omega
      have HSZ1 := Lib.hid hsz1
      subst hal
      obtain ⟨q0, q1, q2⟩ := HC1.out
      clear hst hon hx hk hb hag hcc hcal hbo hsz0 hsz1 hn hm
      go_wp2_with fail
      refine (HO.out _).mono ?_
      rintro e w2 ⟨rfl, hb⟩
      have HB3 := Lib.hid (HB2.out.trans (hb.mono HSZ1.out))
      clear hb q0 q1 q2
      go_wp2
      all_goals
        go_roundg (gk - 1)
        case rel => exact ⟨k + 1, by have := HK.out; omega, by go_num, by rw [HST.out]; congr 1; omega, HB3.out⟩
        case measure => have := HK.out; omega
    · have l1 : ¬ (k : Int) < (M : Int) := by omega
      have hm : mxF (ordN N A) 1 (L.take k) = G := by rw [List.take_of_length_le (by rw [HM.out]; omega)]; exact HSO.out
      rw [hm]
      obtain ⟨g1, g2⟩ := HSI.out
      have hne : ¬ (G : Int) = 0 := by omega
      have HBW := Lib.hid (HBw.out.trans (HBB.out.mono HBw.out.size))
      have hdv : (M : Int).tdiv (G : Int) = ((M / G : Nat) : Int) := by rw [Int.tdiv_eq_ediv_of_nonneg (by omega), Int.natCast_ediv]
      have hdl : M / G ≤ 962 := Nat.le_trans (Nat.div_le_self _ _) (by omega)
      have hdw : wrap64 ((M : Int) / (G : Int)) = (M : Int) / (G : Int) := by
        rw [← Int.natCast_ediv]
        obtain ⟨D, hD⟩ : ∃ D, M / G = D := ⟨_, rfl⟩
        rw [hD] at hdl ⊢
        exact IntWalk.wrap64_in _ (by omega)
      have HDV := Lib.hid hdw
      clear hk hb hag hm hdv
      go_wp2
      go_ret2
      exact ⟨by simp [HDV.out, HM.out], HBW.out⟩

end Go.Proofs.YtoepghlkjbpkfaaDoor
