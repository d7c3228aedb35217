/- The walks of share, nearestWhole and less. Condition: the rows and the vector lie in memory, all of the same length, which is not 0. -/
import Derived.Test.YtgfenponlkmfmaaAnd
namespace Go.Proofs.Ytgfenponlkmfmaa
open Go.RowKit
attribute [local go_sem] Oper.semAt_some

theorem Row.drew {B : Nat} {v : Value} {xs : List Int} {W : World} (h : Row B v xs W) (q : Nat) : Row B v xs (W.drewN q) := own_same h (fun _ _ _ => rfl)
def BelF (B : Nat) (w W : World) : Prop := W.os = w.os ∧ W.tape = w.tape ∧ W.output = w.output ∧ w.heap.size ≤ W.heap.size ∧ ∀ k, k < B → W.heap[k]? = w.heap[k]?
theorem BelF.to {B : Nat} {w W : World} (h : BelF B w W) : Below B w W := ⟨h.1, h.2.1, h.2.2.1, h.2.2.2.1, h.2.2.2.2⟩
theorem BelF.of {B : Nat} {w W : World} (h : Below B w W) : BelF B w W := ⟨h.os, h.tape, h.output, h.size, h.block⟩
theorem BelF.next {w W W' : World} (h : BelF w.heap.size w W) (hb : Below W.heap.size W W') : BelF w.heap.size w W' := BelF.of (h.to.trans (hb.mono h.to.size))
theorem BelF.drew {B : Nat} {w W : World} (h : BelF B w W) : BelF B w W.drew := h
theorem BelF.begin (w : World) : BelF w.heap.size w w := BelF.of (Below.refl _ _)

/-- The rows before j, and v behind them. -/
def rowV (L : List (List Int)) (v : List Int) (j : Nat) : Nat → Nat → Int := fun r => if r = j then nt v else ent L r
/-- The numerator of a share. -/
def shN (d : Nat) (L : List (List Int)) (v : List Int) (j : Nat) : Int := det (j + 1) fun r c => dot d (rowV L v j r) (ent L c)
theorem take_row {L : List (List Int)} {k r : Nat} (h : r < k) : row (L.take k) r = row L r := by simp [row, List.getD, h]
theorem andv_row {L : List (List Int)} {v : List Int} {j r : Nat} (hj : j ≤ L.length) (hr : r < j + 1) : ent (L.take j ++ [v]) r = rowV L v j r := by
  unfold rowV
  have hl : (L.take j).length = j := by rw [List.length_take]; omega
  by_cases h : r = j
  · subst h
    rw [if_pos rfl, ent_nt]
    have := row_last (L.take r) v
    rw [hl] at this
    rw [this]
  · rw [if_neg h, ent_nt, row_left (by omega), take_row (by omega), ← ent_nt]
theorem volT (d k : Nat) (L : List (List Int)) : det k (grm d (ent (L.take k))) = vol d (ent L) k := by
  unfold vol
  refine det_congr fun r c hr hc => ?_
  unfold grm
  rw [ent_nt, take_row hr, ent_nt, take_row hc]
  rfl
attribute [local irreducible] BelF

set_option maxHeartbeats 4000000 in
set_option maxRecDepth 100000 in
theorem share_any (b off n c d j : Nat) (L : List (List Int)) (v : List Int) (av : Option Addr) (cv : Nat) (w : World) (h : Tab w (some ⟨b, off, none⟩) n L) (hn : n ≤ 4) (hc : n ≤ c) (hcm : c ≤ maxLen) (hL : Wide d n L) (hd : 0 < d) (hd2 : d ≤ 1000)
    (hv : Lies w av cv v) (hvl : v.length = d) (hj : j < n) :
    Calls Try.prog 97 #[.slice (some ⟨b, off, none⟩) n c, .slice av d cv, .int .i64 (j : Int)] w fun e w' => e = .returned (.tuple #[.int .i64 (wrap64 (shN d L v j)), .int .i64 (wrap64 (vol d (ent L) (j + 1)))]) ∧ Below w.heap.size w w' := by
  have hA : ∀ W, BelF w.heap.size w W → Calls Try.prog 119 #[.slice (some ⟨b, off, none⟩) j c, .slice av d cv] W fun e w' => ∃ a2 c2, e = .returned (.slice a2 (j + 1) c2) ∧ Tab w' a2 (j + 1) (L.take j ++ [v]) ∧ Below W.heap.size W w' := by
    intro W hB
    refine (and_any b off j c (L.take j) v av d cv W ((h.below hB.to).front j (by omega)) (fun i hi => by rw [take_row hi, hL i (by omega)]; exact hd) hd hvl (hv.below hB.to) (by omega) (by omega) hcm).mono ?_
    rintro e w1 ⟨v1, rfl, ht, hb⟩
    obtain ⟨a2, c2, rfl, htab, -⟩ := ht.form
    have hlen : (L.take j ++ [v]).length = j + 1 := by rw [List.length_append, List.length_take, h.1]; simp; omega
    rw [hlen] at htab ⊢
    exact ⟨a2, c2, rfl, htab, hb⟩
  have hG : ∀ W a2 c2 c3, BelF w.heap.size w W → Tab W a2 (j + 1) (L.take j ++ [v]) → Calls Try.prog 117 #[.slice a2 (j + 1) c2, .slice (some ⟨b, off, none⟩) (j + 1) c3] W fun e w' => e = .returned (.int .i64 (wrap64 (shN d L v j))) ∧ Below W.heap.size W w' := by
    intro W a2 c2 c3 hB ht
    have := gram_any a2 (some ⟨b, off, none⟩) (j + 1) c2 c3 d _ (L.take (j + 1)) W ht ((h.below hB.to).front (j + 1) (by omega)) (by omega) hd2 (fun i hi => by
      by_cases hij : i = j
      · subst hij
        have hl : (L.take i).length = i := by rw [List.length_take, h.1]; omega
        have e2 := row_last (L.take i) v
        rw [hl] at e2
        rw [e2, hvl]
      · rw [row_left (by rw [List.length_take, h.1]; omega), take_row (by omega)]
        exact hL i (by omega)) (fun i hi => by rw [take_row hi]; exact hL i (by omega))
    rw [show det (j + 1) (grmAB d (L.take j ++ [v]) (L.take (j + 1))) = shN d L v j from det_congr fun r c hr hc => by
      unfold grmAB
      rw [andv_row (by rw [h.1]; omega) hr, ent_nt (L.take (j + 1)), take_row hc]
      rfl] at this
    exact this
  have hV : ∀ W c3, BelF w.heap.size w W → Calls Try.prog 95 #[.slice (some ⟨b, off, none⟩) (j + 1) c3] W fun e w' => e = .returned (.int .i64 (wrap64 (vol d (ent L) (j + 1)))) ∧ Below W.heap.size W w' := by
    intro W c3 hB
    have := volume_any (some ⟨b, off, none⟩) (j + 1) c3 d (L.take (j + 1)) W ((h.below hB.to).front (j + 1) (by omega)) (by omega) hd2 (fun i hi => by rw [take_row hi]; exact hL i (by omega))
    rw [volT] at this
    exact this
  obtain ⟨N, hN⟩ : ∃ N, wrap64 (shN d L v j) = N := ⟨_, rfl⟩
  obtain ⟨V, hVV⟩ : ∃ V, wrap64 (vol d (ent L) (j + 1)) = V := ⟨_, rfl⟩
  rw [hN] at hG ⊢
  rw [hVV] at hV ⊢
  have HA := Lib.hid hA
  have HG := Lib.hid hG
  have HV := Lib.hid hV
  have H0 := Lib.hid (BelF.begin w)
  have HNX := Lib.hid (fun (W W' : World) (hb : Below W.heap.size W W') (h : BelF w.heap.size w W) => h.next hb)
  have HDR := Lib.hid (fun (W : World) (h : BelF w.heap.size w W) => h.drew)
  clear hA hG hV hN hVV h hL hv hvl
  have w0 : IntKind.i64.wrap ((j : Int) + 1) = (j : Int) + 1 := IntWalk.i64_in _ (by omega)
  have w1 : wrap64 ((j : Int) + 1) = (j : Int) + 1 := IntWalk.wrap64_in _ (by omega)
  have w2 : ((j : Int) + 1).toNat = j + 1 := by omega
  have j0 : (0 : Int) ≤ (j : Int) := by omega
  have j1 : (0 : Int) ≤ (j : Int) + 1 := by omega
  have j2 : (j : Int) ≤ (c : Int) := by omega
  have j3 : (j : Int) + 1 ≤ (c : Int) := by omega
  unfold maxLen at hcm
  go_enter Try.func97, Try.ntmps97
  go_wp2
  go_region_held3 (fun W => BelF w.heap.size w W)
    (first | exact H0.out | exact HDR.out _ H0.out | exact HDR.out _ (by assumption) | exact HNX.out _ _ hba (by assumption) | exact HNX.out _ _ hbv (by assumption) | exact HNX.out _ _ hbg (by assumption))
    ((first
      | (go_at_call 119; refine (HA.out _ (by assumption)).mono ?_; rintro e wx ⟨a2, c2, rfl, hta, hba⟩)
      | (go_at_call 117; refine (HG.out _ a2 c2 _ (by assumption) (by first | exact hta | exact hta.below hbv)).mono ?_; rintro e wx ⟨rfl, hbg⟩)
      | (go_at_call 95; refine (HV.out _ _ (by assumption)).mono ?_; rintro e wx ⟨rfl, hbv⟩)))
  all_goals
    go_wp2
    go_ret2
    exact ⟨rfl, by first | exact BelF.to (by assumption) | exact BelF.to (BelF.drew (by assumption))⟩

/-- The whole number that is nearest. -/
def nrw (num den : Int) : Int := (2 * num + den) / (2 * den)
theorem fdiv_facts (n m : Int) (hm : 0 < m) : n.tdiv m - (if n.tmod m < 0 then 1 else 0) = n / m := by
  have h1 := Int.mul_tdiv_add_tmod n m
  have h2 := Int.emod_add_mul_ediv n m
  have h3 := Int.emod_nonneg n (show m ≠ 0 by omega)
  have h4 := Int.emod_lt_of_pos n hm
  have h5 := Int.tmod_lt_of_pos n hm
  have h6 := Int.lt_tmod_of_pos n hm
  obtain ⟨a, ha⟩ : ∃ a, n.tdiv m = a := ⟨_, rfl⟩
  obtain ⟨b, hb⟩ : ∃ b, n / m = b := ⟨_, rfl⟩
  obtain ⟨r, hr⟩ : ∃ r, n.tmod m = r := ⟨_, rfl⟩
  obtain ⟨s, hs⟩ : ∃ s, n % m = s := ⟨_, rfl⟩
  rw [ha, hr] at h1
  rw [hb, hs] at h2
  rw [hs] at h3 h4
  rw [hr] at h5 h6
  rw [ha, hb, hr]
  have e : m * (a - b) = s - r := by rw [Int.mul_sub]; omega
  have key : ∀ k : Int, m * k = s - r → (r < 0 → k = 1) ∧ (¬ r < 0 → k = 0) := by
    intro k hk
    constructor
    · intro hneg
      have k1 : 0 < k := by
        apply Decidable.byContradiction
        intro h
        have := Int.mul_le_mul_of_nonneg_left (show k ≤ 0 by omega) (show 0 ≤ m by omega)
        omega
      have k2 : k < 2 := by
        apply Decidable.byContradiction
        intro h
        have := Int.mul_le_mul_of_nonneg_left (show 2 ≤ k by omega) (show 0 ≤ m by omega)
        omega
      omega
    · intro hpos
      have k1 : -1 < k := by
        apply Decidable.byContradiction
        intro h
        have := Int.mul_le_mul_of_nonneg_left (show k ≤ -1 by omega) (show 0 ≤ m by omega)
        omega
      have k2 : k < 1 := by
        apply Decidable.byContradiction
        intro h
        have := Int.mul_le_mul_of_nonneg_left (show 1 ≤ k by omega) (show 0 ≤ m by omega)
        omega
      omega
  obtain ⟨q1, q2⟩ := key _ e
  split
  · have := q1 (by assumption); omega
  · have := q2 (by assumption); omega

set_option maxRecDepth 100000 in
theorem nearestWhole_any (num den : Int) (w : World) (h1 : -1000000000000000000 ≤ num) (h2 : num ≤ 1000000000000000000) (h3 : 0 < den) (h4 : den ≤ 1000000000000000000) :
    Calls Try.prog 127 #[.int .i64 num, .int .i64 den] w fun e w' => e = .returned (.int .i64 (nrw num den)) ∧ w' = w := by
  have hf := fdiv_facts (2 * num + den) (2 * den) (by omega)
  have HR := Lib.hid (show nrw num den = (2 * num + den) / (2 * den) from rfl)
  have t1 : ((2 * num + den).tdiv (2 * den)).natAbs ≤ (2 * num + den).natAbs := by rw [Int.natAbs_tdiv]; exact Nat.div_le_self _ _
  have b3 : wrap64 ((2 * num + den).tdiv (2 * den) - 1) = (2 * num + den).tdiv (2 * den) - 1 := IntWalk.wrap64_in _ (by omega)
  have m0 : 0 < 2 * den := by omega
  have m1 : ¬ 2 * den = 0 := by omega
  by_cases hneg : (2 * num + den).tmod (2 * den) < 0
  · rw [if_pos hneg] at hf
    have B3 := Lib.hid (b3.trans (hf.trans HR.out.symm))
    clear hf b3 t1
    go_enter Try.func127, Try.ntmps127
    go_wp2
    go_ret
    exact ⟨ret_int B3.out, rfl⟩
  · rw [if_neg hneg, Int.sub_zero, ← HR.out] at hf
    have HF := Lib.hid hf
    clear hf b3 t1
    go_enter Try.func127, Try.ntmps127
    go_wp2
    go_ret
    exact ⟨ret_int HF.out, rfl⟩

/-- v less the nearest multiple of row j. -/
def lessL (d : Nat) (L : List (List Int)) (v : List Int) (j : Nat) : List Int := plusL d (nt v) (-(nrw (shN d L v j) (vol d (ent L) (j + 1)))) (ent L j)

set_option maxHeartbeats 4000000 in
set_option maxRecDepth 100000 in
theorem less_any (b off n c d j : Nat) (L : List (List Int)) (v : List Int) (av : Option Addr) (cv : Nat) (w : World) (h : Tab w (some ⟨b, off, none⟩) n L) (hn : n ≤ 4) (hc : n ≤ c) (hcm : c ≤ maxLen) (hL : Wide d n L) (hd : 0 < d) (hd2 : d ≤ 1000)
    (hv : Lies w av cv v) (hvl : v.length = d) (hj : j < n) (hN : (shN d L v j).natAbs ≤ 1000000000000000000) (hV : 0 < vol d (ent L) (j + 1)) (hV2 : vol d (ent L) (j + 1) ≤ 1000000000000000000) :
    Calls Try.prog 112 #[.slice (some ⟨b, off, none⟩) n c, .slice av d cv, .int .i64 (j : Int)] w fun e w' => ∃ g, e = .returned (.slice (some ⟨g, 0, none⟩) d d) ∧ Row w.heap.size (.slice (some ⟨g, 0, none⟩) d d) (lessL d L v j) w' ∧ Below w.heap.size w w' := by
  have hS := share_any b off n c d j L v av cv w h hn hc hcm hL hd hd2 hv hvl hj
  unfold lessL
  obtain ⟨N, hNN⟩ : ∃ N, shN d L v j = N := ⟨_, rfl⟩
  obtain ⟨V, hVV⟩ : ∃ V, vol d (ent L) (j + 1) = V := ⟨_, rfl⟩
  rw [hNN] at hS hN ⊢
  rw [hVV] at hS hV hV2 ⊢
  clear hNN hVV
  rw [IntWalk.wrap64_in N (by omega), IntWalk.wrap64_in V (by omega)] at hS
  have hW := fun w => nearestWhole_any N V w (by omega) (by omega) hV hV2
  have hq : -2000000000000000000 ≤ nrw N V ∧ nrw N V ≤ 2000000000000000000 := by
    unfold nrw
    have h1 := Int.ediv_le_ediv (show (0 : Int) < 2 * V by omega) (show 2 * N + V ≤ 2000000000000000000 * (2 * V) by omega)
    have h2 := Int.ediv_le_ediv (show (0 : Int) < 2 * V by omega) (show -2000000000000000000 * (2 * V) ≤ 2 * N + V by omega)
    rw [Int.mul_ediv_cancel _ (by omega)] at h1 h2
    omega
  obtain ⟨K, hK⟩ : ∃ K, nrw N V = K := ⟨_, rfl⟩
  rw [hK] at hW hq ⊢
  have w1 : wrap64 (-K) = -K := IntWalk.wrap64_in _ (by omega)
  have w2 : IntKind.i64.wrap (-K) = -K := IntWalk.i64_in _ (by omega)
  have hrl := hL j hj
  obtain ⟨b', off', aj, cj, e, hb1, hcell, hlie⟩ := h.at hj
  cases e
  rw [hrl] at hcell
  have hlj := hlie.ints
  rw [hrl] at hlj
  have hvi := hv.ints
  rw [hvl] at hvi
  have hP : ∀ W, BelF w.heap.size w W → Calls Try.prog 121 #[.slice av d cv, .int .i64 (-K), .slice aj d cj] W fun e w' => ∃ g, e = .returned (.slice (some ⟨g, 0, none⟩) d d) ∧ Row w.heap.size (.slice (some ⟨g, 0, none⟩) d d) (plusL d (nt v) (-K) (ent L j)) w' ∧ Below W.heap.size W w' := by
    intro W hB
    refine (plus_any av aj d cv d cj v (row L j) (-K) W (hvi.below hB.to) (hlj.below hB.to) (Nat.le_refl _) hd2).mono ?_
    rintro e w1 ⟨g, rfl, hr, hb⟩
    exact ⟨g, rfl, hr.mono hB.to.size, hb⟩
  have HCELL := Lib.hid (fun (W : World) (hB : BelF w.heap.size w W) => (hB.to.cell (p := ⟨b, off + j, none⟩) hb1).trans hcell)
  have HS := Lib.hid hS
  have HW := Lib.hid hW
  have HP := Lib.hid hP
  have j0 : (0 : Int) ≤ (j : Int) := by omega
  have j2 : (j : Int) < (n : Int) := by omega
  clear hS hW hP hcell hlie hlj hvi hK hq hN hV hV2 h hv hL
  go_enter Try.func112, Try.ntmps112
  go_wp2_with fail
  refine HS.out.mono ?_
  rintro e w1 ⟨rfl, hb⟩
  have H0 := Lib.hid (BelF.of hb)
  have HNX := Lib.hid (fun (W W' : World) (hb : Below W.heap.size W W') (h : BelF w.heap.size w W) => h.next hb)
  have HDR := Lib.hid (fun (W : World) (h : BelF w.heap.size w W) => h.drew)
  have HC1 := Lib.hid (fun (W : World) (hB : W.cell? ⟨b, off + j, none⟩ = some (.slice aj d cj) ∧ BelF w.heap.size w W) => hB.2)
  have HC2 := Lib.hid (fun (W : World) (hB : BelF w.heap.size w W) => And.intro (HCELL.out W hB) hB)
  clear hb
  go_wp2
  go_region_held3 (fun W => W.cell? ⟨b, off + j, none⟩ = some (.slice aj d cj) ∧ BelF w.heap.size w W)
    (first | exact HC2.out _ H0.out | exact HC2.out _ (HDR.out _ H0.out) | exact HC2.out _ (HDR.out _ (HC1.out _ (by assumption))) | exact HC2.out _ (HNX.out _ _ hbp (HC1.out _ (by assumption))))
    ((first
      | (go_at_call 127; refine (HW.out _).mono ?_; rintro e wx ⟨rfl, rfl⟩)
      | (go_at_call 121; refine (HP.out _ (HC1.out _ (by assumption))).mono ?_; rintro e wx ⟨g, rfl, hrow, hbp⟩)))
  all_goals
    go_wp2
    go_ret
    exact ⟨_, rfl, by first | exact hrow | exact hrow.drew 1, by first | exact BelF.to (HC1.out _ (by assumption)) | exact BelF.to (HDR.out _ (HC1.out _ (by assumption)))⟩
end Go.Proofs.Ytgfenponlkmfmaa