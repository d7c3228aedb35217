/- The walk of the law SharesFour. No condition. -/
import Derived.Test.YtbdiknlbmjdpeaaThreeR
namespace Go.Proofs.Ytbdiknlbmjdpeaa
open Go.RowKit
attribute [local go_sem] Oper.semAt_some


theorem thr_some : (List.range 301).all (fun n => decide (n < 2) || (fnd 0 maxI 2 4 n 1).isSome) = true := by decide +kernel
theorem rng {lo hi y : Nat} (h1 : lo ≤ y) (h2 : y < lo + (hi + 1 - lo)) : y ≤ hi := by omega
theorem thr_facts {n : Nat} (h1 : 2 ≤ n) (h2 : n ≤ 300) : ∃ x y z, thrF n = some [x, y, z] ∧ 1 ≤ x ∧ x ≤ 225 ∧ x ≤ y ∧ y ≤ 135000 ∧ y ≤ z ∧ z ≤ 68719476736 ∧ n < 4 * x ∧ n * x < (4 * x - n) * y ∧ (n * x * y) % ((4 * x - n) * y - n * x) = 0 ∧ (n * x * y) / ((4 * x - n) * y - n * x) = z := by
  have hs := List.all_eq_true.1 thr_some n (List.mem_range.2 (by omega))
  rw [show decide (n < 2) = false by simp; omega, Bool.false_or] at hs
  obtain ⟨L, hL⟩ := Option.isSome_iff_exists.1 hs
  have hL2 := hL
  unfold fnd at hL
  obtain ⟨x, g1, g2, g3, -⟩ := fs_some hL
  cases hr : fnd 0 maxI 1 (4 * x - n) (n * x) (x + 0) with
  | none => rw [hr] at g3; cases g3
  | some M =>
    rw [hr] at g3
    cases g3
    have hx1 : n < 4 * x := by omega
    have hx3 : x ≤ 3 * n / 4 := Nat.le_trans (rng g1 g2) (Nat.min_le_right _ _)
    have hx2 : x ≤ 225 := by omega
    unfold fnd at hr
    obtain ⟨y, k1, k2, k3, -⟩ := fs_some hr
    have hA : 0 < 4 * x - n := by omega
    have hB : n * x ≤ 67500 := Nat.le_trans (Nat.mul_le_mul h2 hx2) (by decide)
    have hy1 : n * x < (4 * x - n) * y := (lt_div hA).1 (show n * x / (4 * x - n) < y by omega)
    have hy2 : y ≤ (0 + 2) * (n * x) / (4 * x - n) := Nat.le_trans (rng k1 k2) (Nat.min_le_right _ _)
    have hy3 : y ≤ 135000 := by
      refine Nat.le_trans hy2 (Nat.le_trans (Nat.div_le_self _ _) ?_)
      rw [Nat.zero_add]
      exact Nat.mul_le_mul_left 2 hB
    have hxy : x ≤ y := by omega
    cases hq : fnd 0 maxI 0 ((4 * x - n) * y - n * x) (n * x * y) (y + 0) with
    | none => rw [hq] at k3; cases k3
    | some K =>
      rw [hq] at k3
      cases k3
      unfold fnd at hq
      split at hq
      · next hc =>
        cases hq
        have hz : (n * x * y) / ((4 * x - n) * y - n * x) ≤ 68719476736 := Nat.le_trans (Nat.div_le_self _ _) (Nat.le_trans (Nat.mul_le_mul hB hy3) (by decide))
        refine ⟨x, y, _, hL2, by omega, hx2, hxy, hy3, ?_, hz, hx1, hy1, hc.1, rfl⟩
        have := hc.2.1
        omega
      · cases hq
theorem spl_facts {d : Nat} (h1 : 2 ≤ d) (h2 : d ≤ 100000) : ∃ k z, splF d = some [d + k, d + z] ∧ 1 ≤ k ∧ k < d ∧ k < z ∧ z ≤ 10000000000 ∧ k * z = d * d := by
  have key : ∀ j, j + 1 < d → ∃ k z, fdn (fnR 1 maxI 0 1 d) d (j + 1) = some [d + k, d + z] ∧ 1 ≤ k ∧ k < d ∧ k < z ∧ z ≤ 10000000000 ∧ k * z = d * d := by
    intro j
    induction j with
    | zero =>
      intro hj
      refine ⟨1, d * d, ?_, by omega, by omega, ?_, ?_, by omega⟩
      · refine fdn_yes ?_
        have := spl_at (d := d) (k := 1) (by omega) (by omega) h2
        rw [show d + 0 + 1 = d + 1 by omega, this, if_pos (Nat.mod_one _), Nat.div_one]
      · exact Nat.lt_of_lt_of_le (show 1 < 2 * 2 by omega) (Nat.mul_le_mul h1 h1)
      · exact Nat.le_trans (Nat.mul_le_mul h2 h2) (by decide)
    | succ j ih =>
      intro hj
      have hat := spl_at (d := d) (k := j + 1 + 1) (by omega) (by omega) h2
      by_cases h : d * d % (j + 1 + 1) = 0
      · rw [if_pos h] at hat
        refine ⟨j + 1 + 1, d * d / (j + 1 + 1), ?_, by omega, by omega, ?_, ?_, ?_⟩
        · refine fdn_yes ?_
          rw [show d + (j + 1) + 1 = d + (j + 1 + 1) by omega]
          exact hat
        · have h3 : (j + 1 + 1 + 1) * (j + 1 + 1) ≤ d * d := Nat.mul_le_mul (by omega) (by omega)
          have h4 := (Nat.le_div_iff_mul_le (show 0 < j + 1 + 1 by omega)).2 h3
          omega
        · exact Nat.le_trans (Nat.div_le_self _ _) (Nat.le_trans (Nat.mul_le_mul h2 h2) (by decide))
        · have := Nat.div_add_mod (d * d) (j + 1 + 1)
          omega
      · rw [if_neg h] at hat
        obtain ⟨k, z, g1, g2⟩ := ih (by omega)
        refine ⟨k, z, ?_, g2⟩
        rw [fdn_no (by rw [show d + (j + 1) + 1 = d + (j + 1 + 1) by omega]; exact hat)]
        exact g1
  obtain ⟨k, z, g1, g2⟩ := key (d - 2) (by omega)
  refine ⟨k, z, ?_, g2⟩
  rw [spl_eq (by omega), show d - 1 = d - 2 + 1 by omega]
  exact g1

set_option maxHeartbeats 32000000 in
set_option maxRecDepth 100000 in
theorem lawFour_any (n d : Int) (w : World) : Calls Try.prog 13 #[.int .i64 n, .int .i64 d] w fun e w' => e = .returned (.bool true) ∧ Below w.heap.size w w' := by
  by_cases hn : n < 2
  · have HT := Lib.hid (fun w => Three_no n (.inl hn) w)
    have k1 : ¬ (2 : Int) ≤ n := by omega
    have k2 : decide ((2 : Int) ≤ n) = false := by simp; omega
    clear hn
    go_enter Try.func13, Try.ntmps13
    go_wp2_with fail
    refine (HT.out _).mono ?_
    rintro e w1 ⟨rfl, hb1⟩
    have HB3 := Lib.hid (hb1.alloc hb1.size (.cells #[.int .i64 0, .int .i64 0, .int .i64 0] 38))
    clear hb1
    by_cases hd : d < 2
    · have b3 : decide (d < 2) = true := by simpa using hd
      have HS := Lib.hid (fun w => Split_no d (.inl hd) w)
      go_wp2_with fail
      refine (HS.out _).mono ?_
      rintro e w5 ⟨rfl, hb5⟩
      have HB5 := Lib.hid ((HB3.out.trans (hb5.mono HB3.out.size)).alloc (HB3.out.trans (hb5.mono HB3.out.size)).size (.cells #[.int .i64 0, .int .i64 0] 41))
      clear hb5
      go_wp2_with fail
      refine (awake_any _).mono ?_
      rintro e w8 ⟨rfl, hb8⟩
      have HB8 := Lib.hid (HB5.out.trans (hb8.mono HB5.out.size))
      clear hb8
      go_wp2
      go_ret
      exact ⟨rfl, HB8.out⟩
    · have b3 : decide (d < 2) = false := by simpa using hd
      by_cases hd2 : 100000 < d
      · have b4 : decide (100000 < d) = true := by simpa using hd2
        have HS := Lib.hid (fun w => Split_no d (.inr hd2) w)
        go_wp2_with fail
        refine (HS.out _).mono ?_
        rintro e w5 ⟨rfl, hb5⟩
        have HB5 := Lib.hid ((HB3.out.trans (hb5.mono HB3.out.size)).alloc (HB3.out.trans (hb5.mono HB3.out.size)).size (.cells #[.int .i64 0, .int .i64 0] 41))
        clear hb5
        go_wp2_with fail
        refine (awake_any _).mono ?_
        rintro e w8 ⟨rfl, hb8⟩
        have HB8 := Lib.hid (HB5.out.trans (hb8.mono HB5.out.size))
        clear hb8
        go_wp2
        go_ret
        exact ⟨rfl, HB8.out⟩
      · obtain ⟨D, rfl⟩ := Int.eq_ofNat_of_zero_le (show 0 ≤ d by omega)
        obtain ⟨k, z9, hsp, g1, g2, g3, g4, g5⟩ := spl_facts (d := D) (by omega) (by omega)
        have hS := fun w => Split_yes D (by omega) (by omega) w
        simp only [hsp] at hS
        have hS2 : ∀ w, Calls Try.prog 32 #[.int .i64 (D : Int)] w fun e w' => e = .returned (.tuple #[.agg #[.int .i64 ((D + k : Nat) : Int), .int .i64 ((D + z9 : Nat) : Int)], .int .i64 0]) ∧ Below w.heap.size w w' := hS
        have hdd : D * D ≤ 10000000000 := Nat.le_trans (Nat.mul_le_mul (show D ≤ 100000 by omega) (show D ≤ 100000 by omega)) (by decide)
        obtain ⟨X, hX⟩ : ∃ X, D + k = X := ⟨_, rfl⟩
        obtain ⟨Y, hY⟩ : ∃ Y, D + z9 = Y := ⟨_, rfl⟩
        simp only [hX, hY] at hS2
        have HS := Lib.hid hS2
        have x1 : (D : Int) < (X : Int) := by omega
        have x2 : (X : Int) < (Y : Int) := by omega
        have x3 : (Y : Int) < 1099511627776 := by omega
        have x4 : (X : Int) < 1048576 := by omega
        have x5 : (X : Int) - (D : Int) = (k : Int) := by omega
        have x6 : (Y : Int) - (D : Int) = (z9 : Int) := by omega
        have y1 : (k : Int) * (z9 : Int) = (D : Int) * (D : Int) := by rw [← Int.natCast_mul, ← Int.natCast_mul, g5]
        have y2 : (0 : Int) ≤ (D : Int) * (D : Int) := by rw [← Int.natCast_mul]; exact Int.natCast_nonneg _
        have y3 : (D : Int) * (D : Int) ≤ 10000000000 := by rw [← Int.natCast_mul]; exact Int.ofNat_le.2 hdd
        have y4 : (D : Int) ≤ 100000 := by omega
        have y5 : (k : Int) ≤ 100000 := by omega
        have y6 : (z9 : Int) ≤ 10000000000 := by omega
        have y7 : (0 : Int) ≤ (k : Int) * (z9 : Int) := by rw [y1]; exact y2
        have y8 : (k : Int) * (z9 : Int) ≤ 10000000000 := by rw [y1]; exact y3
        clear hS hS2 hsp g1 g2 g3 g4 g5 hX hY hdd hd hd2
        go_wp2_with fail
        refine (HS.out _).mono ?_
        rintro e w5 ⟨rfl, hb5⟩
        have HB5 := Lib.hid ((HB3.out.trans (hb5.mono HB3.out.size)).alloc (HB3.out.trans (hb5.mono HB3.out.size)).size (.cells #[.int .i64 (X : Int), .int .i64 (Y : Int)] 41))
        obtain ⟨b0, b1⟩ := cell_pair w5 (.int .i64 (X : Int)) (.int .i64 (Y : Int)) 41
        clear hb5
        go_wp2
        go_quiet (fail)
        obtain ⟨w6, hw6⟩ : ∃ w6, (w5.alloc (.cells #[.int .i64 (X : Int), .int .i64 (Y : Int)] 41)).drewN nq = w6 := ⟨_, rfl⟩
        have HB6 := Lib.hid (hw6 ▸ below_drewN HB5.out nq)
        rw [hw6]
        clear hw6 b0 b1
        go_wp2_with fail
        refine (awake_any _).mono ?_
        rintro e w8 ⟨rfl, hb8⟩
        have HB8 := Lib.hid (HB6.out.trans (hb8.mono HB6.out.size))
        clear hb8
        go_wp2
        go_ret
        exact ⟨rfl, HB8.out⟩

  · by_cases hn2 : 300 < n
    · have HT := Lib.hid (fun w => Three_no n (.inr hn2) w)
      have k1 : (2 : Int) ≤ n := by omega
      have k2 : decide ((2 : Int) ≤ n) = true := by simp; omega
      have k3 : ¬ n ≤ 300 := by omega
      have k4 : decide (n ≤ 300) = false := by simp; omega
      clear hn hn2
      go_enter Try.func13, Try.ntmps13
      go_wp2_with fail
      refine (HT.out _).mono ?_
      rintro e w1 ⟨rfl, hb1⟩
      have HB3 := Lib.hid (hb1.alloc hb1.size (.cells #[.int .i64 0, .int .i64 0, .int .i64 0] 38))
      clear hb1
      by_cases hd : d < 2
      · have b3 : decide (d < 2) = true := by simpa using hd
        have HS := Lib.hid (fun w => Split_no d (.inl hd) w)
        go_wp2_with fail
        refine (HS.out _).mono ?_
        rintro e w5 ⟨rfl, hb5⟩
        have HB5 := Lib.hid ((HB3.out.trans (hb5.mono HB3.out.size)).alloc (HB3.out.trans (hb5.mono HB3.out.size)).size (.cells #[.int .i64 0, .int .i64 0] 41))
        clear hb5
        go_wp2_with fail
        refine (awake_any _).mono ?_
        rintro e w8 ⟨rfl, hb8⟩
        have HB8 := Lib.hid (HB5.out.trans (hb8.mono HB5.out.size))
        clear hb8
        go_wp2
        go_ret
        exact ⟨rfl, HB8.out⟩
      · have b3 : decide (d < 2) = false := by simpa using hd
        by_cases hd2 : 100000 < d
        · have b4 : decide (100000 < d) = true := by simpa using hd2
          have HS := Lib.hid (fun w => Split_no d (.inr hd2) w)
          go_wp2_with fail
          refine (HS.out _).mono ?_
          rintro e w5 ⟨rfl, hb5⟩
          have HB5 := Lib.hid ((HB3.out.trans (hb5.mono HB3.out.size)).alloc (HB3.out.trans (hb5.mono HB3.out.size)).size (.cells #[.int .i64 0, .int .i64 0] 41))
          clear hb5
          go_wp2_with fail
          refine (awake_any _).mono ?_
          rintro e w8 ⟨rfl, hb8⟩
          have HB8 := Lib.hid (HB5.out.trans (hb8.mono HB5.out.size))
          clear hb8
          go_wp2
          go_ret
          exact ⟨rfl, HB8.out⟩
        · obtain ⟨D, rfl⟩ := Int.eq_ofNat_of_zero_le (show 0 ≤ d by omega)
          obtain ⟨k, z9, hsp, g1, g2, g3, g4, g5⟩ := spl_facts (d := D) (by omega) (by omega)
          have hS := fun w => Split_yes D (by omega) (by omega) w
          simp only [hsp] at hS
          have hS2 : ∀ w, Calls Try.prog 32 #[.int .i64 (D : Int)] w fun e w' => e = .returned (.tuple #[.agg #[.int .i64 ((D + k : Nat) : Int), .int .i64 ((D + z9 : Nat) : Int)], .int .i64 0]) ∧ Below w.heap.size w w' := hS
          have hdd : D * D ≤ 10000000000 := Nat.le_trans (Nat.mul_le_mul (show D ≤ 100000 by omega) (show D ≤ 100000 by omega)) (by decide)
          obtain ⟨X, hX⟩ : ∃ X, D + k = X := ⟨_, rfl⟩
          obtain ⟨Y, hY⟩ : ∃ Y, D + z9 = Y := ⟨_, rfl⟩
          simp only [hX, hY] at hS2
          have HS := Lib.hid hS2
          have x1 : (D : Int) < (X : Int) := by omega
          have x2 : (X : Int) < (Y : Int) := by omega
          have x3 : (Y : Int) < 1099511627776 := by omega
          have x4 : (X : Int) < 1048576 := by omega
          have x5 : (X : Int) - (D : Int) = (k : Int) := by omega
          have x6 : (Y : Int) - (D : Int) = (z9 : Int) := by omega
          have y1 : (k : Int) * (z9 : Int) = (D : Int) * (D : Int) := by rw [← Int.natCast_mul, ← Int.natCast_mul, g5]
          have y2 : (0 : Int) ≤ (D : Int) * (D : Int) := by rw [← Int.natCast_mul]; exact Int.natCast_nonneg _
          have y3 : (D : Int) * (D : Int) ≤ 10000000000 := by rw [← Int.natCast_mul]; exact Int.ofNat_le.2 hdd
          have y4 : (D : Int) ≤ 100000 := by omega
          have y5 : (k : Int) ≤ 100000 := by omega
          have y6 : (z9 : Int) ≤ 10000000000 := by omega
          have y7 : (0 : Int) ≤ (k : Int) * (z9 : Int) := by rw [y1]; exact y2
          have y8 : (k : Int) * (z9 : Int) ≤ 10000000000 := by rw [y1]; exact y3
          clear hS hS2 hsp g1 g2 g3 g4 g5 hX hY hdd hd hd2
          go_wp2_with fail
          refine (HS.out _).mono ?_
          rintro e w5 ⟨rfl, hb5⟩
          have HB5 := Lib.hid ((HB3.out.trans (hb5.mono HB3.out.size)).alloc (HB3.out.trans (hb5.mono HB3.out.size)).size (.cells #[.int .i64 (X : Int), .int .i64 (Y : Int)] 41))
          obtain ⟨b0, b1⟩ := cell_pair w5 (.int .i64 (X : Int)) (.int .i64 (Y : Int)) 41
          clear hb5
          go_wp2
          go_quiet (fail)
          obtain ⟨w6, hw6⟩ : ∃ w6, (w5.alloc (.cells #[.int .i64 (X : Int), .int .i64 (Y : Int)] 41)).drewN nq = w6 := ⟨_, rfl⟩
          have HB6 := Lib.hid (hw6 ▸ below_drewN HB5.out nq)
          rw [hw6]
          clear hw6 b0 b1
          go_wp2_with fail
          refine (awake_any _).mono ?_
          rintro e w8 ⟨rfl, hb8⟩
          have HB8 := Lib.hid (HB6.out.trans (hb8.mono HB6.out.size))
          clear hb8
          go_wp2
          go_ret
          exact ⟨rfl, HB8.out⟩

    · obtain ⟨N, rfl⟩ := Int.eq_ofNat_of_zero_le (show 0 ≤ n by omega)
      obtain ⟨x, y, z, hth, f1, f2, f3, f4, f5, f6, f7, f8, f9, f10⟩ := thr_facts (n := N) (by omega) (by omega)
      have hT := fun w => Three_yes N (by omega) (by omega) w
      simp only [hth] at hT
      have hT2 : ∀ w, Calls Try.prog 31 #[.int .i64 (N : Int)] w fun e w' => e = .returned (.tuple #[.agg #[.int .i64 (x : Int), .int .i64 (y : Int), .int .i64 (z : Int)], .int .i64 0]) ∧ Below w.heap.size w w' := hT
      have HT := Lib.hid hT2
      have hN : N ≤ 300 := by omega
      have i1 : 4 * x * y ≤ 121500000 := Nat.le_trans (Nat.mul_le_mul (Nat.mul_le_mul_left 4 f2) f4) (by decide)
      have i2 : N * y ≤ 40500000 := Nat.le_trans (Nat.mul_le_mul hN f4) (by decide)
      have i3 : N * x ≤ 67500 := Nat.le_trans (Nat.mul_le_mul hN f2) (by decide)
      have i4 : N * x * y ≤ 9112500000 := Nat.le_trans (Nat.mul_le_mul i3 f4) (by decide)
      have eC : ((4 * x - N) * y - N * x : Nat) = 4 * x * y - N * y - N * x := by rw [Nat.sub_mul]
      have hC0 : 0 < (4 * x - N) * y - N * x := by omega
      have e0 : (4 : Int) * (x : Int) * (y : Int) - (N : Int) * (y : Int) - (N : Int) * (x : Int) = (((4 * x - N) * y - N * x : Nat) : Int) := by
        rw [eC]
        rw [eC] at hC0
        have a1 : (4 : Int) * (x : Int) * (y : Int) = ((4 * x * y : Nat) : Int) := by simp
        have a2 : (N : Int) * (y : Int) = ((N * y : Nat) : Int) := by simp
        have a3 : (N : Int) * (x : Int) = ((N * x : Nat) : Int) := by simp
        rw [a1, a2, a3]
        omega
      obtain ⟨C, hC⟩ : ∃ C, (4 * x - N) * y - N * x = C := ⟨_, rfl⟩
      rw [hC] at e0 hC0 f9 f10
      have a1 : (4 : Int) * (x : Int) * (y : Int) = ((4 * x * y : Nat) : Int) := by simp
      have a2 : (N : Int) * (y : Int) = ((N * y : Nat) : Int) := by simp
      have a3 : (N : Int) * (x : Int) = ((N * x : Nat) : Int) := by simp
      have a4 : (N : Int) * (x : Int) * (y : Int) = ((N * x * y : Nat) : Int) := by simp
      have q1 : (0 : Int) ≤ (4 : Int) * (x : Int) * (y : Int) := by rw [a1]; exact Int.natCast_nonneg _
      have q2 : (4 : Int) * (x : Int) * (y : Int) ≤ 121500000 := by rw [a1]; exact Int.ofNat_le.2 i1
      have q3 : (0 : Int) ≤ (N : Int) * (y : Int) := by rw [a2]; exact Int.natCast_nonneg _
      have q4 : (N : Int) * (y : Int) ≤ 40500000 := by rw [a2]; exact Int.ofNat_le.2 i2
      have q5 : (0 : Int) ≤ (N : Int) * (x : Int) := by rw [a3]; exact Int.natCast_nonneg _
      have q6 : (N : Int) * (x : Int) ≤ 67500 := by rw [a3]; exact Int.ofNat_le.2 i3
      have q7 : (0 : Int) ≤ (N : Int) * (x : Int) * (y : Int) := by rw [a4]; exact Int.natCast_nonneg _
      have q8 : (N : Int) * (x : Int) * (y : Int) ≤ 9112500000 := by rw [a4]; exact Int.ofNat_le.2 i4
      have e2 : ((N : Int) * (x : Int) * (y : Int)) % (C : Int) = 0 := by rw [a4, ← Int.natCast_emod, f9]; rfl
      have e3 : ((N : Int) * (x : Int) * (y : Int)) / (C : Int) = (z : Int) := by rw [a4, ← Int.natCast_ediv, f10]
      have r1 : (1 : Int) ≤ (x : Int) := by omega
      have r2 : (x : Int) ≤ 225 := by omega
      have r3 : (x : Int) ≤ (y : Int) := by omega
      have r4 : (y : Int) ≤ 135000 := by omega
      have r5 : (y : Int) ≤ (z : Int) := by omega
      have r6 : (z : Int) ≤ 68719476736 := by omega
      have r7 : (1 : Int) ≤ (C : Int) := by omega
      have r8 : ¬ (C : Int) = 0 := by omega
      have r9 : (C : Int) ≤ 121500000 := by omega
      have r10 : (N : Int) ≤ 300 := by omega
      clear hT hT2 hth f1 f2 f3 f4 f5 f6 f7 f8 f9 f10 hN i1 i2 i3 i4 eC hC0 hC a1 a2 a3 a4 hn hn2
      go_enter Try.func13, Try.ntmps13
      go_wp2_with fail
      refine (HT.out _).mono ?_
      rintro e w1 ⟨rfl, hb1⟩
      have HB2 := Lib.hid (hb1.alloc hb1.size (.cells #[.int .i64 (x : Int), .int .i64 (y : Int), .int .i64 (z : Int)] 38))
      obtain ⟨c0, c1, c2⟩ := cell_tri w1 (.int .i64 (x : Int)) (.int .i64 (y : Int)) (.int .i64 (z : Int)) 38
      clear hb1
      go_wp2
      go_quiet (fail)
      obtain ⟨w2, hw2⟩ : ∃ w2, (w1.alloc (.cells #[.int .i64 (x : Int), .int .i64 (y : Int), .int .i64 (z : Int)] 38)).drewN nq = w2 := ⟨_, rfl⟩
      have HB3 := Lib.hid (hw2 ▸ below_drewN HB2.out nq)
      rw [hw2]
      clear hw2 c0 c1 c2
      go_wp2_with fail
      clear q1 q2 q3 q4 q5 q6 q7 q8 e0 e2 e3
      by_cases hd : d < 2
      · have b3 : decide (d < 2) = true := by simpa using hd
        have HS := Lib.hid (fun w => Split_no d (.inl hd) w)
        go_wp2_with fail
        refine (HS.out _).mono ?_
        rintro e w5 ⟨rfl, hb5⟩
        have HB5 := Lib.hid ((HB3.out.trans (hb5.mono HB3.out.size)).alloc (HB3.out.trans (hb5.mono HB3.out.size)).size (.cells #[.int .i64 0, .int .i64 0] 41))
        clear hb5
        go_wp2_with fail
        refine (awake_any _).mono ?_
        rintro e w8 ⟨rfl, hb8⟩
        have HB8 := Lib.hid (HB5.out.trans (hb8.mono HB5.out.size))
        clear hb8
        go_wp2
        go_ret
        exact ⟨rfl, HB8.out⟩
      · have b3 : decide (d < 2) = false := by simpa using hd
        by_cases hd2 : 100000 < d
        · have b4 : decide (100000 < d) = true := by simpa using hd2
          have HS := Lib.hid (fun w => Split_no d (.inr hd2) w)
          go_wp2_with fail
          refine (HS.out _).mono ?_
          rintro e w5 ⟨rfl, hb5⟩
          have HB5 := Lib.hid ((HB3.out.trans (hb5.mono HB3.out.size)).alloc (HB3.out.trans (hb5.mono HB3.out.size)).size (.cells #[.int .i64 0, .int .i64 0] 41))
          clear hb5
          go_wp2_with fail
          refine (awake_any _).mono ?_
          rintro e w8 ⟨rfl, hb8⟩
          have HB8 := Lib.hid (HB5.out.trans (hb8.mono HB5.out.size))
          clear hb8
          go_wp2
          go_ret
          exact ⟨rfl, HB8.out⟩
        · obtain ⟨D, rfl⟩ := Int.eq_ofNat_of_zero_le (show 0 ≤ d by omega)
          obtain ⟨k, z9, hsp, g1, g2, g3, g4, g5⟩ := spl_facts (d := D) (by omega) (by omega)
          have hS := fun w => Split_yes D (by omega) (by omega) w
          simp only [hsp] at hS
          have hS2 : ∀ w, Calls Try.prog 32 #[.int .i64 (D : Int)] w fun e w' => e = .returned (.tuple #[.agg #[.int .i64 ((D + k : Nat) : Int), .int .i64 ((D + z9 : Nat) : Int)], .int .i64 0]) ∧ Below w.heap.size w w' := hS
          have hdd : D * D ≤ 10000000000 := Nat.le_trans (Nat.mul_le_mul (show D ≤ 100000 by omega) (show D ≤ 100000 by omega)) (by decide)
          obtain ⟨X, hX⟩ : ∃ X, D + k = X := ⟨_, rfl⟩
          obtain ⟨Y, hY⟩ : ∃ Y, D + z9 = Y := ⟨_, rfl⟩
          simp only [hX, hY] at hS2
          have HS := Lib.hid hS2
          have x1 : (D : Int) < (X : Int) := by omega
          have x2 : (X : Int) < (Y : Int) := by omega
          have x3 : (Y : Int) < 1099511627776 := by omega
          have x4 : (X : Int) < 1048576 := by omega
          have x5 : (X : Int) - (D : Int) = (k : Int) := by omega
          have x6 : (Y : Int) - (D : Int) = (z9 : Int) := by omega
          have y1 : (k : Int) * (z9 : Int) = (D : Int) * (D : Int) := by rw [← Int.natCast_mul, ← Int.natCast_mul, g5]
          have y2 : (0 : Int) ≤ (D : Int) * (D : Int) := by rw [← Int.natCast_mul]; exact Int.natCast_nonneg _
          have y3 : (D : Int) * (D : Int) ≤ 10000000000 := by rw [← Int.natCast_mul]; exact Int.ofNat_le.2 hdd
          have y4 : (D : Int) ≤ 100000 := by omega
          have y5 : (k : Int) ≤ 100000 := by omega
          have y6 : (z9 : Int) ≤ 10000000000 := by omega
          have y7 : (0 : Int) ≤ (k : Int) * (z9 : Int) := by rw [y1]; exact y2
          have y8 : (k : Int) * (z9 : Int) ≤ 10000000000 := by rw [y1]; exact y3
          clear hS hS2 hsp g1 g2 g3 g4 g5 hX hY hdd hd hd2
          go_wp2_with fail
          refine (HS.out _).mono ?_
          rintro e w5 ⟨rfl, hb5⟩
          have HB5 := Lib.hid ((HB3.out.trans (hb5.mono HB3.out.size)).alloc (HB3.out.trans (hb5.mono HB3.out.size)).size (.cells #[.int .i64 (X : Int), .int .i64 (Y : Int)] 41))
          obtain ⟨b0, b1⟩ := cell_pair w5 (.int .i64 (X : Int)) (.int .i64 (Y : Int)) 41
          clear hb5
          go_wp2
          go_quiet (fail)
          obtain ⟨w6, hw6⟩ : ∃ w6, (w5.alloc (.cells #[.int .i64 (X : Int), .int .i64 (Y : Int)] 41)).drewN nq = w6 := ⟨_, rfl⟩
          have HB6 := Lib.hid (hw6 ▸ below_drewN HB5.out nq)
          rw [hw6]
          clear hw6 b0 b1
          go_wp2_with fail
          refine (awake_any _).mono ?_
          rintro e w8 ⟨rfl, hb8⟩
          have HB8 := Lib.hid (HB6.out.trans (hb8.mono HB6.out.size))
          clear hb8
          go_wp2
          go_ret
          exact ⟨rfl, HB8.out⟩
end Go.Proofs.Ytbdiknlbmjdpeaa
