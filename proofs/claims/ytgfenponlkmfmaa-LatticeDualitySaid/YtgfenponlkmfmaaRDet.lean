/- The walks of the reference's Det, Table and Valid. Condition: the table lies in memory. -/
import Derived.Test.YtgfenponlkmfmaaRMin
namespace Go.Proofs.Ytgfenponlkmfmaa
open Go.RowKit
attribute [local go_sem] Oper.semAt_some

theorem range_next (n j : Nat) (h : j < n) : List.range' j (n - j) = j :: List.range' (j + 1) (n - (j + 1)) := by
  rw [show n - j = (n - (j + 1)) + 1 by omega, List.range'_succ]

set_option maxHeartbeats 4000000 in
set_option maxRecDepth 100000 in
theorem detR_any : ∀ (n : Nat) (a : Option Addr) (c : Nat) (L : List (List Int)) (w : World), Tab w a n L → n ≤ 4 → Sq n L →
    Calls Try.prog 24 #[.slice a n c] w fun e w' => e = .returned (.int .i64 (wrap64 (det n (ent L)))) ∧ Below w.heap.size w w' := by
  intro n
  induction n with
  | zero =>
    intro a c L w h hn hs
    have hv : wrap64 (det 0 (ent L)) = 1 := by show wrap64 1 = 1; decide +kernel
    rw [hv]
    clear h hs hv
    go_enter Try.func24, Try.ntmps24
    go_wp2
    go_ret
    exact ⟨rfl, Below.refl _ _⟩
  | succ m ih =>
    intro a c L w h hn hs
    obtain ⟨n, hnm⟩ : ∃ n, m + 1 = n := ⟨_, rfl⟩
    have hds : det (m + 1) (ent L) = alt 1 (List.range (m + 1)) fun c => ent L 0 c * det m (sub (ent L) 0 c) := det_succ (by omega)
    rw [hnm] at h hs hn hds ⊢
    obtain ⟨b, off, ai, ci, rfl, hb, hcell, hlie⟩ := h.at (show 0 < n by omega)
    have hrl := hs 0 (by omega)
    rw [hrl] at hcell
    have hcell0 : w.cell? ⟨b, off, none⟩ = some (.slice ai n ci) := hcell
    have hlie' := hlie.ints
    rw [hrl] at hlie'
    obtain ⟨bi, oi, rfl, hbi, hcc⟩ := hlie'.at (by omega)
    have hmin : ∀ wr, Below w.heap.size w wr → ∀ j, j < n → Calls Try.prog 60 #[.slice (some ⟨b, off, none⟩) n c, .int .i64 0, .int .i64 (j : Int)] wr fun e w' => ∃ v, e = .returned v ∧ TabO w' wr.heap.size v (minP L 0 j n) ∧ Below wr.heap.size wr w' :=
      fun wr hb j hj => minorR_any _ n c L 0 j wr (h.below hb) hn hs (by omega) hj
    have hsub : ∀ j, j < n → Sq m (minP L 0 j n) ∧ (minP L 0 j n).length = m ∧ det m (ent (minP L 0 j n)) = det m (sub (ent L) 0 j) := by
      intro j hj
      have hq := minP_sq (i := 0) (j := j) (show n < 5 by omega) hs (by omega) hj
      rw [show n - 1 = m by omega] at hq
      refine ⟨hq, by rw [minP_full (by omega) (by omega)]; omega, det_congr fun r d hr hd => minP_ent (by omega) hs (by omega) hj (by omega)⟩
    obtain ⟨T, hT⟩ : ∃ T, det n (ent L) = T := ⟨_, rfl⟩
    have HSUM := Lib.hid (show alt 1 (List.range n) (fun c => ent L 0 c * det m (sub (ent L) 0 c)) = T by rw [← hds, hT])
    rw [hT]
    have HMIN := Lib.hid hmin
    have HSUB := Lib.hid hsub
    have HCC := Lib.hid hcc
    have HIH := Lib.hid ih
    have n1 : ¬ (n : Int) = 0 := by omega
    have n2 : (0 : Int) < (n : Int) := by omega
    have n3 : ¬ n = 0 := by omega
    have n4 : 0 < n := by omega
    have n5 : ((n : Int) == 0) = false := by simpa using n1
    clear hds hT hmin hsub hcc ih h hs hlie hlie' hrl hcell
    go_enter Try.func24, Try.ntmps24
    go_wp2
    go_loopg [3, 4, 14] n (fun gk s3 s4 s14 wr => ∃ (j : Nat) (S s : Int), s14 = .int .i64 (j : Int) ∧ s3 = .int .i64 (wrap64 S) ∧ s4 = .int .i64 s ∧ j + gk = n ∧ (s = 1 ∨ s = -1) ∧ RowKit.Hid (S + alt s (List.range' j (n - j)) (fun c => ent L 0 c * det m (sub (ent L) 0 c)) = T) ∧ Below w.heap.size w wr)
    case atStart => exact ⟨0, 0, 1, rfl, by rw [show wrap64 0 = 0 by decide +kernel], rfl, by omega, .inl rfl, Lib.hid (by rw [Nat.sub_zero, ← List.range_eq_range']; simpa using HSUM.out), Below.refl _ _⟩
    case round =>
      obtain ⟨j, S, s, rfl, rfl, rfl, hj, hs1, HS, hb1⟩ := hrel
      have HJ := Lib.hid hj
      have HS1 := Lib.hid hs1
      have HB := Lib.hid hb1
      by_cases hjn : j < n
      · have l1 : (j : Int) < (n : Int) := by omega
        have j0 : (0 : Int) ≤ (j : Int) := by omega
        have hcj := (hb1.cell (p := ⟨bi, oi + j, none⟩) hbi).trans (HCC.out j hjn)
        obtain ⟨x, hx⟩ : ∃ x, ent L 0 j = x := ⟨_, rfl⟩
        have hcj2 : wr.cell? ⟨bi, oi + j, none⟩ = some (.int .i64 x) := by rw [← hx]; exact hcj
        obtain ⟨D, hD⟩ : ∃ D, det m (sub (ent L) 0 j) = D := ⟨_, rfl⟩
        have hS := HS.out
        rw [range_next n j hjn, alt, hx, hD] at hS
        have hS3 : (S + s * (x * D)) + alt (-s) (List.range' (j + 1) (n - (j + 1))) (fun c => ent L 0 c * det m (sub (ent L) 0 c)) = T := by omega
        have HS3 := Lib.hid hS3
        have hn1 : wrap64 (-s) = -s := by rcases HS1.out with h | h <;> rw [h] <;> decide +kernel
        have hs2 : -s = 1 ∨ -s = -1 := by rcases HS1.out with h | h <;> rw [h] <;> simp
        have HS2 := Lib.hid hs2
        have HC := Lib.hid (HMIN.out wr hb1 j hjn)
        have HD := Lib.hid hD
        have hw := w64_term S s x D
        clear hS hS3 hs2 hcj hx hD hj hs1 hb1
        go_wp2_with fail
        refine HC.out.mono ?_
        rintro e w1 ⟨v1, rfl, ht1, hb2⟩
        obtain ⟨a1, c1, rfl, htab, -, -, -⟩ := ht1.form
        obtain ⟨q1, q2, q3⟩ := HSUB.out j hjn
        rw [q2] at htab ⊢
        have hC2 := HIH.out a1 c1 _ w1 htab (by omega) q1
        rw [q3, HD.out] at hC2
        have HC2 := Lib.hid hC2
        have HB2 := Lib.hid (HB.out.trans (hb2.mono HB.out.size))
        clear hC2 htab q1 q2 q3 hb2 ht1
        go_wp2_with fail
        refine HC2.out.mono ?_
        rintro e w2 ⟨rfl, hb3⟩
        have HB3 := Lib.hid (HB2.out.trans (hb3.mono HB2.out.size))
        clear hb3
        go_wp2
        go_roundg (gk - 1)
        case rel => exact ⟨j + 1, S + s * (x * D), -s, by go_num, by rw [hw], by rw [hn1], by have := HJ.out; omega, HS2.out, HS3.out, HB3.out⟩
        case measure => have := HJ.out; omega
      · have l1 : ¬ (j : Int) < (n : Int) := by omega
        have hf : wrap64 S = wrap64 T := by
          have := HS.out
          rw [show n - j = 0 by omega] at this
          rw [← this]
          simp [alt]
        have HF := Lib.hid hf
        clear hf hj hjn hs1 hb1
        go_wp2
        go_ret
        exact ⟨ret_int HF.out, HB.out⟩

/-- A table that is one of so many rows of as many numbers, none beyond a bound. -/
def tabB (L : List (List Int)) (most : Int) : Bool := L.all (fun r => inB r L.length most) && (decide (1 ≤ L.length) && decide (L.length ≤ 4))
theorem tabB_spec {L : List (List Int)} {most : Int} : tabB L most = true ↔ (∀ i, i < L.length → inB (row L i) L.length most = true) ∧ 1 ≤ L.length ∧ L.length ≤ 4 := by
  unfold tabB
  simp only [Bool.and_eq_true, decide_eq_true_eq, List.all_eq_true]
  constructor
  · rintro ⟨h1, h2⟩
    exact ⟨fun i hi => h1 _ (row_mem hi), h2⟩
  · rintro ⟨h1, h2⟩
    refine ⟨fun x hx => ?_, h2⟩
    obtain ⟨i, hi, rfl⟩ := List.getElem_of_mem hx
    have := h1 i hi
    simpa [row, List.getD, hi] using this
theorem tabB_no {L : List (List Int)} {most : Int} (h : ¬ ((∀ i, i < L.length → inB (row L i) L.length most = true) ∧ 1 ≤ L.length ∧ L.length ≤ 4)) : tabB L most = false := by
  rw [Bool.eq_false_iff]
  intro h2
  exact h (tabB_spec.1 h2)

set_option maxHeartbeats 4000000 in
set_option maxRecDepth 100000 in
theorem tableR_any (a : Option Addr) (n c : Nat) (L : List (List Int)) (most : Int) (w : World) (h : Tab w a n L) (hn : n ≤ 4611686018427387904) (h0 : 0 ≤ most) (h1 : most ≤ 1000000) :
    Calls Try.prog 54 #[.slice a n c, .int .i64 most] w fun e w' => e = .returned (.bool (tabB L most)) ∧ w' = w := by
  obtain ⟨B, hB⟩ : ∃ B, tabB L most = B := ⟨_, rfl⟩
  rw [hB]
  have H := Lib.hid h
  have HB := Lib.hid hB
  have HL := Lib.hid h.1
  clear hB h
  go_enter Try.func54, Try.ntmps54
  go_wp2
  go_loopg [11] n (fun gk s11 wr => ∃ (k : Nat), s11 = .int .i64 (k : Int) ∧ k + gk = n ∧ RowKit.Hid (∀ i, i < k → inB (row L i) n most = true) ∧ wr = w)
  case atStart => exact ⟨0, rfl, by omega, Lib.hid (fun i hi => by omega), rfl⟩
  case round =>
    obtain ⟨k, rfl, hk, HP, hwr⟩ := hrel
    subst hwr
    have HK := Lib.hid hk
    by_cases hkn : k < n
    · have l1 : (k : Int) < (n : Int) := by omega
      have k0 : (0 : Int) ≤ (k : Int) := by omega
      obtain ⟨b, off, ai, ci, rfl, hbl, hcell, hlie⟩ := H.out.at hkn
      obtain ⟨xs, hxs⟩ : ∃ xs, row L k = xs := ⟨_, rfl⟩
      rw [hxs] at hcell hlie
      have hli := hlie.ints
      obtain ⟨m, hm⟩ : ∃ m, xs.length = m := ⟨_, rfl⟩
      rw [hm] at hcell hli
      have HLI := Lib.hid hli
      have HX := Lib.hid hxs
      have HM := Lib.hid hm
      clear hlie hli hxs hm hk
      by_cases hmn : m = n
      · subst hmn
        obtain ⟨W0, rfl⟩ : ∃ W0, W0 = wr := ⟨_, rfl⟩
        go_wp2
        go_loopg [22] m (fun gk s22 wr => ∃ (j : Nat), s22 = .int .i64 (j : Int) ∧ j + gk = m ∧ RowKit.Hid (∀ i, i < j → -most ≤ xs.getD i 0 ∧ xs.getD i 0 ≤ most) ∧ wr = W0)
        case atStart => exact ⟨0, rfl, by omega, Lib.hid (fun i hi => by omega), rfl⟩
        case round =>
          obtain ⟨j, rfl, hj, HP2, rfl⟩ := hrel
          have HJ := Lib.hid hj
          by_cases hjm : j < m
          · have l2 : (j : Int) < (m : Int) := by omega
            have j0 : (0 : Int) ≤ (j : Int) := by omega
            obtain ⟨bi, oi, rfl, hbi, hcc⟩ := HLI.out.at (by omega)
            have hcj := hcc j hjm
            obtain ⟨x, hx⟩ : ∃ x, xs.getD j 0 = x := ⟨_, rfl⟩
            rw [hx] at hcj
            have HXJ := Lib.hid hx
            have hbad : ¬ (-most ≤ x ∧ x ≤ most) → B = false := by
              intro hh
              rw [← HB.out]
              refine tabB_no fun h2 => hh ?_
              have := (inB_spec.1 (h2.1 k (by rw [HL.out]; exact hkn))).2 j (by rw [HL.out]; exact hjm)
              rw [HX.out, hx] at this
              exact this
            have HBAD := Lib.hid hbad
            clear hx hcc hj hbad
            by_cases hx1 : x < -most
            · have HF := Lib.hid (HBAD.out (by omega))
              go_wp2
              go_ret
              exact ⟨ret_bool HF.out.symm, rfl⟩
            · by_cases hx2 : most < x
              · have HF := Lib.hid (HBAD.out (by omega))
                go_wp2
                go_ret
                exact ⟨ret_bool HF.out.symm, rfl⟩
              · have hp : ∀ i, i < j + 1 → -most ≤ xs.getD i 0 ∧ xs.getD i 0 ≤ most := by
                  intro i hi
                  by_cases hij : i = j
                  · subst hij
                    rw [HXJ.out]
                    omega
                  · exact HP2.out i (by omega)
                have HP3 := Lib.hid hp
                clear hp
                go_wp2
                go_roundg (gk - 1)
                case rel => exact ⟨j + 1, by go_num, by have := HJ.out; omega, HP3.out, rfl⟩
                case measure => have := HJ.out; omega
          · have l2 : ¬ (j : Int) < (m : Int) := by omega
            have hp : ∀ i, i < k + 1 → inB (row L i) m most = true := by
              intro i hi
              by_cases hik : i = k
              · subst hik
                rw [HX.out]
                exact inB_spec.2 ⟨HM.out, fun q hq => HP2.out q (by omega)⟩
              · exact HP.out i (by omega)
            have HP3 := Lib.hid hp
            clear hp hj hjm
            go_wp2
            go_roundg (m - k - 1)
            case rel => exact ⟨k + 1, by go_num, by have := HK.out; omega, HP3.out, rfl⟩
            case measure => have := HK.out; omega
      · have hne : ¬ (m : Int) = (n : Int) := by omega
        have hf : B = false := by
          rw [← HB.out]
          refine tabB_no fun hh => hmn ?_
          have := (inB_spec.1 (hh.1 k (by rw [HL.out]; exact hkn))).1
          rw [HX.out, HM.out, HL.out] at this
          exact this
        have HF := Lib.hid hf
        clear hf
        go_wp2
        go_ret
        exact ⟨ret_bool HF.out.symm, rfl⟩
    · have l1 : ¬ (k : Int) < (n : Int) := by omega
      have hP2 : ∀ i, i < n → inB (row L i) n most = true := fun i hi => HP.out i (by omega)
      clear hk hkn
      by_cases hn1 : n = 0
      · have hf : B = false := by
          rw [← HB.out]
          exact tabB_no fun hh => by rw [HL.out] at hh; omega
        have HF := Lib.hid hf
        have l2 : ¬ (1 : Int) ≤ (n : Int) := by omega
        clear hf hP2
        go_wp2
        go_ret
        exact ⟨ret_bool (by rw [HF.out]), rfl⟩
      · have l2 : (1 : Int) ≤ (n : Int) := by omega
        by_cases hn4 : n ≤ 4
        · have hf : B = true := by
            rw [← HB.out]
            exact tabB_spec.2 ⟨fun i hi => by rw [HL.out] at hi ⊢; exact hP2 i hi, by rw [HL.out]; omega, by rw [HL.out]; omega⟩
          have HF := Lib.hid hf
          have l3 : (n : Int) ≤ 4 := by omega
          clear hf hP2
          go_wp2
          go_ret
          exact ⟨ret_bool (by rw [HF.out]), rfl⟩
        · have hf : B = false := by
            rw [← HB.out]
            exact tabB_no fun hh => by rw [HL.out] at hh; omega
          have HF := Lib.hid hf
          have l3 : ¬ (n : Int) ≤ 4 := by omega
          clear hf hP2
          go_wp2
          go_ret
          exact ⟨ret_bool (by rw [HF.out]), rfl⟩

/-- A basis, plainly. -/
def isBasis (L : List (List Int)) : Bool := tabB L 20 && decide (det L.length (ent L) ≠ 0)
theorem isBasis_spec {L : List (List Int)} : isBasis L = true ↔ tabB L 20 = true ∧ det L.length (ent L) ≠ 0 := by
  unfold isBasis
  rw [Bool.and_eq_true, decide_eq_true_eq]
theorem tab_sq {L : List (List Int)} {most : Int} (h : tabB L most = true) : Sq L.length L := fun i hi => (inB_spec.1 ((tabB_spec.1 h).1 i hi)).1
theorem tab_ent {L : List (List Int)} {most : Int} (h : tabB L most = true) {i j : Nat} (hi : i < L.length) (hj : j < L.length) : -most ≤ ent L i j ∧ ent L i j ≤ most := (inB_spec.1 ((tabB_spec.1 h).1 i hi)).2 j hj
theorem bnd_const (M : Nat) : ∀ k i, bnd (fun _ => M) k i ≤ (bnd (fun _ => 1) k 0) * M ^ k
  | 0, _ => by simp [bnd]
  | k + 1, i => by
    have := bnd_const M k (i + 1)
    have e : bnd (fun _ => 1) k (0 + 1) = bnd (fun _ => 1) k 0 := by
      have : ∀ k i j, bnd (fun _ => 1) k i = bnd (fun _ => 1) k j := by
        intro k
        induction k with
        | zero => intro i j; rfl
        | succ k ih => intro i j; simp only [bnd]; rw [ih (i + 1) (j + 1)]
      exact this _ _ _
    simp only [bnd]
    rw [e, Nat.one_mul, Nat.pow_succ, Nat.mul_assoc]
    refine Nat.mul_le_mul_left _ ?_
    calc M * bnd (fun _ => M) k (i + 1) ≤ M * (bnd (fun _ => 1) k 0 * M ^ k) := Nat.mul_le_mul_left _ this
      _ = bnd (fun _ => 1) k 0 * (M ^ k * M) := by rw [Nat.mul_comm, Nat.mul_assoc]
theorem det_bound {n M : Nat} {e : Nat → Nat → Int} (hn : n ≤ 4) (h : ∀ r c, r < n → c < n → (e r c).natAbs ≤ M) : (det n e).natAbs ≤ 24 * M ^ n := by
  refine Nat.le_trans (det_le (M := fun _ => M) h) (Nat.le_trans (bnd_const M n 0) (Nat.mul_le_mul_right _ ?_))
  match n, hn with
  | 0, _ => decide
  | 1, _ => decide
  | 2, _ => decide
  | 3, _ => decide
  | 4, _ => decide
theorem pow_cap {M n : Nat} (hM : 1 ≤ M) (hn : n ≤ 4) : M ^ n ≤ M ^ 4 := Nat.pow_le_pow_right hM hn
/-- The determinant of a table of small numbers is no wrapped one. -/
theorem det_small {L : List (List Int)} {n : Nat} (h : tabB L 20 = true) (hl : L.length = n) : (det n (ent L)).natAbs ≤ 3840000 ∧ wrap64 (det n (ent L)) = det n (ent L) := by
  have h4 := (tabB_spec.1 h).2
  rw [hl] at h4
  have hb := det_bound (n := n) (M := 20) (e := ent L) h4.2 fun r c hr hc => by
    have := tab_ent h (i := r) (j := c) (by omega) (by omega)
    omega
  have h2 := pow_cap (M := 20) (by omega) h4.2
  have h3 : (20 : Nat) ^ 4 = 160000 := by decide
  have h5 : 24 * 20 ^ n ≤ 24 * 160000 := Nat.mul_le_mul_left _ (by omega)
  exact ⟨by omega, IntWalk.wrap64_in _ (by omega)⟩

set_option maxRecDepth 100000 in
theorem validR_any (a : Option Addr) (n c : Nat) (L : List (List Int)) (w : World) (h : Tab w a n L) (hn : n ≤ 4611686018427387904) :
    Calls Try.prog 22 #[.slice a n c] w fun e w' => e = .returned (.bool (isBasis L)) ∧ Below w.heap.size w w' := by
  have hC := tableR_any a n c L 20 w h hn (by omega) (by omega)
  obtain ⟨B, hB⟩ : ∃ B, tabB L 20 = B := ⟨_, rfl⟩
  rw [hB] at hC
  have HC := Lib.hid hC
  clear hC
  cases B with
  | false =>
    have hf : isBasis L = false := by
      unfold isBasis
      rw [hB]
      rfl
    rw [hf]
    clear hf h hB
    go_enter Try.func22, Try.ntmps22
    go_wp2_with fail
    refine HC.out.mono ?_
    rintro e w1 ⟨rfl, rfl⟩
    go_wp2
    go_ret
    exact ⟨rfl, Below.refl _ _⟩
  | true =>
    have h4 := (tabB_spec.1 hB).2
    have hl := h.1
    rw [hl] at h4
    have hsq := tab_sq hB
    rw [hl] at hsq
    have hD := detR_any n a c L w h h4.2 hsq
    have hsm := (det_small hB hl).2
    rw [hsm] at hD
    have hf : isBasis L = decide (det n (ent L) ≠ 0) := by
      unfold isBasis
      rw [hB, hl]
      rfl
    rw [hf]
    obtain ⟨D, hDD⟩ : ∃ D, det n (ent L) = D := ⟨_, rfl⟩
    rw [hDD] at hD ⊢
    have HD := Lib.hid hD
    clear hf h hB hD hDD hsm hsq hl h4
    by_cases hd0 : D = 0
    · subst hd0
      go_enter Try.func22, Try.ntmps22
      go_wp2_with fail
      refine HC.out.mono ?_
      rintro e w1 ⟨rfl, rfl⟩
      go_wp2_with fail
      refine HD.out.mono ?_
      rintro e w1 ⟨rfl, hb⟩
      go_wp2
      go_ret
      exact ⟨rfl, hb⟩
    · have hf : decide (D ≠ 0) = true := by simpa using hd0
      rw [hf]
      clear hf
      go_enter Try.func22, Try.ntmps22
      go_wp2_with fail
      refine HC.out.mono ?_
      rintro e w1 ⟨rfl, rfl⟩
      go_wp2_with fail
      refine HD.out.mono ?_
      rintro e w1 ⟨rfl, hb⟩
      go_wp2
      go_ret
      exact ⟨ret_bool (by simpa using hd0), hb⟩
end Go.Proofs.Ytgfenponlkmfmaa
