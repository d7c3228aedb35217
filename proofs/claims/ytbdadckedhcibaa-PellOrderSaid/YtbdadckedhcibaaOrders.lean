/- The law PellOrder: its walk in every case. No condition on its arguments. -/
import Derived.Test.YtbdadckedhcibaaOrder
namespace Go.Proofs.Ytbdadckedhcibaa
open Go.RowKit

set_option maxRecDepth 100000 in
set_option maxHeartbeats 4000000 in
theorem lawOrder_gt (d n : Int) (hd : isD d = true) (hn : isN n = true) (M K : Nat) (hM : M ≤ 5000) (hK : K ≤ 5000) (hMK : M < K) (w : World) :
    Calls Try.prog 13 #[.int .i64 d, .int .i64 n, .int .i64 (K : Int), .int .i64 (M : Int)] w fun e w' => e = .returned (.bool true) ∧ Below w.heap.size w w' := by
  obtain ⟨A, hA⟩ : ∃ A, A = solL d n (M + 1) := ⟨_, rfl⟩
  obtain ⟨B, hB⟩ : ∃ B, B = solL d n (K + 1) := ⟨_, rfl⟩
  have hlenA : A.length ≤ 5001 := by rw [hA]; have := solL_len d n (M + 1); omega
  have hlenB : B.length ≤ 5001 := by rw [hB]; have := solL_len d n (K + 1); omega
  have hAB : A.length ≤ B.length := by rw [hA, hB]; exact solL_mono d n (by omega)
  have HA := Lib.hid hA
  have HBB := Lib.hid hB
  have HD := Lib.hid hd
  have HN := Lib.hid hn
  have hd2 := isD_bd hd
  obtain ⟨n1, n2, -⟩ := isN_bd hn
  have k1 : decide ((M : Int) < (K : Int)) = true := by simp; omega
  have k2 : decide (M < K) = true := by simp; omega
  clear hA hB hd hn
  go_enter Try.func13, Try.ntmps13
  go_wp2_with fail
  refine (Solve_row d n HD.out HN.out K hK B HBB.out _).mono ?_
  rintro e w1 ⟨bo, cbp, rfl, hd1, hd3, hr1⟩
  unfold maxLen at hd3
  have R1 := Lib.hid hr1
  clear hr1
  go_wp2_with fail
  refine (Solve_row d n HD.out HN.out M hM A HA.out _).mono ?_
  rintro e w2 ⟨ao, cap, rfl, hc1, hc2, hr2⟩
  unfold maxLen at hc2
  have S2 := Lib.hid (R1.out.later hr2.1)
  have R2 := Lib.hid hr2
  clear hr2 R1
  obtain ⟨na, hna⟩ : ∃ na, A.length = na := ⟨_, rfl⟩
  obtain ⟨nb, hnb⟩ : ∃ nb, B.length = nb := ⟨_, rfl⟩
  rw [hna] at hc1 hlenA hAB
  rw [hnb] at hd1 hlenB hAB
  rw [hna, hnb]
  have HNA := Lib.hid hna
  have HNB := Lib.hid hnb
  clear hna hnb
  go_wp2_with fail
  go_loopg [52] nb (fun gk i wr => ∃ y : Nat, y + gk = nb ∧ i = .int .i64 (y : Int) ∧ SRow A ao w1 wr ∧ SRow B bo w wr)
  case atStart => exact ⟨0, by omega, rfl, R2.out, S2.out⟩
  case round =>
    obtain ⟨y, hy, rfl, ra, rb⟩ := hrel
    have RA := Lib.hid ra
    have RB := Lib.hid rb
    clear ra rb R2 S2
    by_cases hyn : y = nb
    · have hge : (nb : Int) ≤ (y : Int) := by omega
      have hge2 : nb ≤ y := by omega
      have hab : decide ((na : Int) ≤ (nb : Int)) = true := by simp; omega
      clear hyn
      go_wp2_with fail
      refine (awake_any _).mono ?_
      rintro e w3 ⟨rfl, hb3⟩
      have RA2 := Lib.hid (RB.out.later hb3)
      clear hb3
      go_wp2
      go_ret
      exact ⟨rfl, RA2.out.1⟩
    · have hlt : (y : Int) < (nb : Int) := by omega
      have hlt2 : y < nb := by omega
      clear hyn
      have hyB : y < (solL d n (K + 1)).length := by rw [← HBB.out]; have := HNB.out; omega
      obtain ⟨f1, f2, f3, f4, f5⟩ := sol_facts HD.out HN.out (by omega) hyB
      obtain ⟨⟨l1, l2⟩, l3⟩ := sol_less (d := d) (n := n) (m := M + 1) (z := K + 1) (by omega) hyB
      rw [← HBB.out, ← HA.out, HNA.out] at l1 l2 l3
      rw [← HBB.out] at f1 f2 f3 f4 f5
      obtain ⟨gb, hbo, -, -, cb⟩ : ∃ g, bo = some ⟨g, 0, none⟩ ∧ w.heap.size ≤ g ∧ g < wr.heap.size ∧ Cells2 wr g B := by
        rcases RB.out.2 with h | h
        · have := HNB.out; omega
        · exact h
      subst hbo
      obtain ⟨b1, b2⟩ := cb y (by have := HNB.out; omega)
      have CB := Lib.hid cb
      clear cb
      obtain ⟨X, hX⟩ : ∃ X, (nth B y).1 = X := ⟨_, rfl⟩
      obtain ⟨Y, hY⟩ : ∃ Y, (nth B y).2 = Y := ⟨_, rfl⟩
      rw [hX] at f1 f2 f5 b1
      rw [hY] at f3 f4 f5 l1 l2 b2
      have HX := Lib.hid hX
      have HY := Lib.hid hY
      have HL := Lib.hid l3
      clear hX hY l3
      have x1 : 0 ≤ X * X := sq_nonneg X
      have x2 : X * X ≤ 1000100 * 1000100 := sq_le f1 f2
      have x3 : 0 ≤ d * Y := Int.mul_nonneg (by omega) f3
      have x4 : d * Y ≤ 100 * 5001 := Int.mul_le_mul (by omega) (by omega) f3 (by omega)
      have x5 : 0 ≤ d * Y * Y := Int.mul_nonneg x3 f3
      have x6 : d * Y * Y ≤ 500100 * 5001 := Int.mul_le_mul (by omega) (by omega) f3 (by omega)
      have g44 := guard44
      have n44 := neq44
      have t1 : decide (X < 0) = false := by simp; omega
      have t2 : decide (Y < 0) = false := by simp; omega
      have t3 : (X * X - d * Y * Y != n) = false := by simp [f5]
      clear f5
      cases y with
      | zero =>
        by_cases hya : 0 < na
        · have hYM : Y ≤ (M : Int) := by have := l1 hya; omega
          obtain ⟨ga, hao, -, -, ca⟩ : ∃ g, ao = some ⟨g, 0, none⟩ ∧ w1.heap.size ≤ g ∧ g < wr.heap.size ∧ Cells2 wr g A := by
            rcases RA.out.2 with h | h
            · have := HNA.out; omega
            · exact h
          subst hao
          obtain ⟨a1, a2⟩ := ca (0) (by have := HNA.out; omega)
          clear ca
          rw [HL.out hya] at a1 a2
          rw [HX.out] at a1
          rw [HY.out] at a2
          simp only [Nat.zero_mul, Nat.zero_add] at a1 a2
          have a3 := cell_alloc_k (.cells #[.int .i64 X, .int .i64 Y] 44) a1
          have a4 := cell_alloc_k (.cells #[.int .i64 X, .int .i64 Y] 44) a2
          have t5 : decide (Y ≤ (M : Int)) = true := by simp; omega
          have t6 : decide ((0 : Int) < (na : Int)) = true := by simp; omega
          have t7 : decide (0 < na) = true := by simp; omega
          clear l1 l2
          rw [show ((0 : Nat) : Int) = 0 from rfl]
          go_wp2_with fail
          dsimp only [List.append]
          refine wp_region_quiet_lit (by kernel_rfl) (by kernel_rfl) ?_
          repeat (go_big_quiet_step (fail))
          refine wpQuiet_nil ?_
          intro _ hw'
          obtain ⟨nq, hw''⟩ := hw'
          subst hw''
          go_wp2
          have hbl : Below wr.heap.size wr ((wr.alloc (.cells #[.int .i64 X, .int .i64 Y] 44)).drewN nq) := below_drewN ((Below.refl _ _).alloc (Nat.le_refl _) _) _
          go_roundg (gk - 1)
          case rel => exact ⟨1, by omega, by go_num, RA.out.later hbl, RB.out.later hbl⟩
          case measure => omega
        · have hYM : (M : Int) < Y := by
            by_cases h : Y < (M : Int) + 1
            · exact (hya (l2 (by omega))).elim
            · omega
          have t5 : decide (Y ≤ (M : Int)) = false := by simp; omega
          have t6 : decide ((0 : Int) < (na : Int)) = false := by simp; omega
          have t7 : decide (0 < na) = false := by simp; omega
          clear l1 l2
          rw [show ((0 : Nat) : Int) = 0 from rfl]
          go_wp2_with fail
          dsimp only [List.append]
          refine wp_region_quiet_lit (by kernel_rfl) (by kernel_rfl) ?_
          repeat (go_big_quiet_step (fail))
          refine wpQuiet_nil ?_
          intro _ hw'
          obtain ⟨nq, hw''⟩ := hw'
          subst hw''
          go_wp2
          have hbl : Below wr.heap.size wr ((wr.alloc (.cells #[.int .i64 X, .int .i64 Y] 44)).drewN nq) := below_drewN ((Below.refl _ _).alloc (Nat.le_refl _) _) _
          go_roundg (gk - 1)
          case rel => exact ⟨1, by omega, by go_num, RA.out.later hbl, RB.out.later hbl⟩
          case measure => omega
      | succ z =>
        obtain ⟨c1, c2⟩ := CB.out z (by have := HNB.out; omega)
        have hyB' : z + 1 < (solL d n (K + 1)).length := by rw [← HBB.out]; have := HNB.out; omega
        obtain ⟨p1, p2⟩ := sol_rise HD.out HN.out (by omega) hyB'
        rw [← HBB.out, HX.out] at p2
        rw [← HBB.out, HY.out] at p1
        obtain ⟨PX, hPX⟩ : ∃ PX, (nth B z).1 = PX := ⟨_, rfl⟩
        obtain ⟨PY, hPY⟩ : ∃ PY, (nth B z).2 = PY := ⟨_, rfl⟩
        rw [hPX] at c1 p2
        rw [hPY] at c2 p1
        have c3 := cell_alloc_k (.cells #[.int .i64 X, .int .i64 Y] 44) c1
        have c4 := cell_alloc_k (.cells #[.int .i64 X, .int .i64 Y] 44) c2
        have t8 : decide (Y ≤ PY) = false := by simp; omega
        have t9 : decide (X ≤ PX) = false := by simp; omega
        have ez : ((z + 1 : Nat) : Int) = (z : Int) + 1 := by omega
        have t10 : decide (0 < (z : Int) + 1) = true := by simp; try omega
        rw [ez] at hlt
        have z0 : (0 : Int) ≤ (z : Int) := by omega
        have z1 : (z : Int) < (nb : Int) := by omega
        have z2 : z < nb := by omega
        clear hPX hPY hyB'
        by_cases hya : z + 1 < na
        · have hYM : Y ≤ (M : Int) := by have := l1 hya; omega
          obtain ⟨ga, hao, -, -, ca⟩ : ∃ g, ao = some ⟨g, 0, none⟩ ∧ w1.heap.size ≤ g ∧ g < wr.heap.size ∧ Cells2 wr g A := by
            rcases RA.out.2 with h | h
            · have := HNA.out; omega
            · exact h
          subst hao
          obtain ⟨a1, a2⟩ := ca (z + 1) (by have := HNA.out; omega)
          clear ca
          rw [HL.out hya] at a1 a2
          rw [HX.out] at a1
          rw [HY.out] at a2
          have a3 := cell_alloc_k (.cells #[.int .i64 X, .int .i64 Y] 44) a1
          have a4 := cell_alloc_k (.cells #[.int .i64 X, .int .i64 Y] 44) a2
          have t5 : decide (Y ≤ (M : Int)) = true := by simp; omega
          have t6 : decide ((z : Int) + 1 < (na : Int)) = true := by simp; omega
          have t7 : decide (z + 1 < na) = true := by simp; omega
          have z3 : (z : Int) + 1 < (na : Int) := by omega
          clear l1 l2
          rw [ez]
          clear ez
          go_wp2_with fail
          dsimp only [List.append]
          refine wp_region_quiet_lit (by kernel_rfl) (by kernel_rfl) ?_
          repeat (go_big_quiet_step (fail))
          refine wpQuiet_nil ?_
          intro _ hw'
          obtain ⟨nq, hw''⟩ := hw'
          subst hw''
          go_wp2
          have hbl : Below wr.heap.size wr ((wr.alloc (.cells #[.int .i64 X, .int .i64 Y] 44)).drewN nq) := below_drewN ((Below.refl _ _).alloc (Nat.le_refl _) _) _
          go_roundg (gk - 1)
          case rel => exact ⟨z + 1 + 1, by omega, by go_num, RA.out.later hbl, RB.out.later hbl⟩
          case measure => omega
        · have hYM : (M : Int) < Y := by
            by_cases h : Y < (M : Int) + 1
            · exact (hya (l2 (by omega))).elim
            · omega
          have t5 : decide (Y ≤ (M : Int)) = false := by simp; omega
          have t6 : decide ((z : Int) + 1 < (na : Int)) = false := by simp; omega
          have t7 : decide (z + 1 < na) = false := by simp; omega
          clear l1 l2
          rw [ez]
          clear ez
          go_wp2_with fail
          dsimp only [List.append]
          refine wp_region_quiet_lit (by kernel_rfl) (by kernel_rfl) ?_
          repeat (go_big_quiet_step (fail))
          refine wpQuiet_nil ?_
          intro _ hw'
          obtain ⟨nq, hw''⟩ := hw'
          subst hw''
          go_wp2
          have hbl : Below wr.heap.size wr ((wr.alloc (.cells #[.int .i64 X, .int .i64 Y] 44)).drewN nq) := below_drewN ((Below.refl _ _).alloc (Nat.le_refl _) _) _
          go_roundg (gk - 1)
          case rel => exact ⟨z + 1 + 1, by omega, by go_num, RA.out.later hbl, RB.out.later hbl⟩
          case measure => omega
/-- Whether Solve takes its arguments. -/
def solveBad (d n m : Int) : Prop := isD d = false ∨ isN n = false ∨ m < 0 ∨ 5000 < m

theorem Solve_tot (d n m : Int) (w : World) :
    Calls Try.prog 25 #[.int .i64 d, .int .i64 n, .int .i64 m] w fun e w' => ∃ v er, e = .returned (.tuple #[v, .int .i64 er]) ∧ (er = 0 ∨ er = 2) ∧ Below w.heap.size w w' := by
  by_cases h : solveBad d n m
  · refine (Solve_no d n m h w).mono ?_
    rintro e w' ⟨rfl, rfl⟩
    exact ⟨_, 2, rfl, .inr rfl, Below.refl _ _⟩
  · have hd : isD d = true := by
      cases e : isD d with
      | true => rfl
      | false => exact (h (.inl e)).elim
    have hn : isN n = true := by
      cases e : isN n with
      | true => rfl
      | false => exact (h (.inr (.inl e))).elim
    have hm : ¬ (m < 0 ∨ 5000 < m) := fun e => h (.inr (.inr e))
    obtain ⟨M, rfl⟩ := Int.eq_ofNat_of_zero_le (show 0 ≤ m by omega)
    refine (Solve_yes d n hd hn M (by omega) w).mono ?_
    rintro e w' ⟨v, rfl, _, hb⟩
    exact ⟨v, 0, rfl, .inl rfl, hb⟩

set_option maxRecDepth 100000 in
set_option maxHeartbeats 1000000 in
theorem lawOrder_no1 (d n m k : Int) (h : solveBad d n m) (w : World) :
    Calls Try.prog 13 #[.int .i64 d, .int .i64 n, .int .i64 m, .int .i64 k] w fun e w' => e = .returned (.bool true) ∧ Below w.heap.size w w' := by
  have H := Lib.hid h
  clear h
  go_enter Try.func13, Try.ntmps13
  go_wp2_with fail
  refine (Solve_no _ _ _ H.out _).mono ?_
  rintro e w' ⟨rfl, rfl⟩
  go_wp2_with fail
  refine (Solve_tot _ _ _ _).mono ?_
  rintro e w1 ⟨v, er, rfl, her, hb1⟩
  have B1 := Lib.hid hb1
  clear hb1
  rcases her with rfl | rfl
  · go_wp2_with fail
    refine (awake_any _).mono ?_
    rintro e w2 ⟨rfl, hb2⟩
    have B2 := Lib.hid (B1.out.trans (hb2.mono B1.out.size))
    clear hb2
    go_wp2
    go_ret
    exact ⟨rfl, B2.out⟩
  · go_wp2_with fail
    refine (awake_any _).mono ?_
    rintro e w2 ⟨rfl, hb2⟩
    have B2 := Lib.hid (B1.out.trans (hb2.mono B1.out.size))
    clear hb2
    go_wp2
    go_ret
    exact ⟨rfl, B2.out⟩

set_option maxRecDepth 100000 in
set_option maxHeartbeats 1000000 in
theorem lawOrder_no2 (d n m k : Int) (h : solveBad d n k) (w : World) :
    Calls Try.prog 13 #[.int .i64 d, .int .i64 n, .int .i64 m, .int .i64 k] w fun e w' => e = .returned (.bool true) ∧ Below w.heap.size w w' := by
  have H := Lib.hid h
  clear h
  go_enter Try.func13, Try.ntmps13
  go_wp2_with fail
  refine (Solve_tot _ _ _ _).mono ?_
  rintro e w1 ⟨v, er, rfl, her, hb1⟩
  have B1 := Lib.hid hb1
  clear hb1
  rcases her with rfl | rfl
  · go_wp2_with fail
    refine (Solve_no _ _ _ H.out _).mono ?_
    rintro e w' ⟨rfl, rfl⟩
    go_wp2_with fail
    refine (awake_any _).mono ?_
    rintro e w2 ⟨rfl, hb2⟩
    have B2 := Lib.hid (B1.out.trans (hb2.mono B1.out.size))
    clear hb2
    go_wp2
    go_ret
    exact ⟨rfl, B2.out⟩
  · go_wp2_with fail
    refine (Solve_no _ _ _ H.out _).mono ?_
    rintro e w' ⟨rfl, rfl⟩
    go_wp2_with fail
    refine (awake_any _).mono ?_
    rintro e w2 ⟨rfl, hb2⟩
    have B2 := Lib.hid (B1.out.trans (hb2.mono B1.out.size))
    clear hb2
    go_wp2
    go_ret
    exact ⟨rfl, B2.out⟩

theorem lawOrder_any (d n m k : Int) (w : World) :
    Calls Try.prog 13 #[.int .i64 d, .int .i64 n, .int .i64 m, .int .i64 k] w fun e w' => e = .returned (.bool true) ∧ Below w.heap.size w w' := by
  by_cases h1 : solveBad d n m
  · exact lawOrder_no1 d n m k h1 w
  · by_cases h2 : solveBad d n k
    · exact lawOrder_no2 d n m k h2 w
    · have hd : isD d = true := by
        cases e : isD d with
        | true => rfl
        | false => exact (h1 (.inl e)).elim
      have hn : isN n = true := by
        cases e : isN n with
        | true => rfl
        | false => exact (h1 (.inr (.inl e))).elim
      have hm : ¬ (m < 0 ∨ 5000 < m) := fun e => h1 (.inr (.inr e))
      have hk : ¬ (k < 0 ∨ 5000 < k) := fun e => h2 (.inr (.inr e))
      obtain ⟨M, rfl⟩ := Int.eq_ofNat_of_zero_le (show 0 ≤ m by omega)
      obtain ⟨K, rfl⟩ := Int.eq_ofNat_of_zero_le (show 0 ≤ k by omega)
      by_cases hMK : M ≤ K
      · exact lawOrder_le d n hd hn M K (by omega) (by omega) hMK w
      · exact lawOrder_gt d n hd hn K M (by omega) (by omega) (by omega) w
end Go.Proofs.Ytbdadckedhcibaa
