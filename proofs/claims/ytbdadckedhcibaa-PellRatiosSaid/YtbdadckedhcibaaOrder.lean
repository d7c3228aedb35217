/- The order of the solutions, plainly, and the walk of the law PellOrder in every case. No condition on the law's arguments. -/
import Derived.Test.YtbdadckedhcibaaSolves
namespace Go.Proofs.Ytbdadckedhcibaa
open Go.RowKit

theorem sol_mem (d n : Int) : ∀ (z k : Nat), k < (solL d n z).length → ∃ y : Nat, y < z ∧ isHit d n y = true ∧ nth (solL d n z) k = (rootF (sqOf d n y), (y : Int)) ∧ (solL d n y).length = k
  | 0, k, h => by simp [solL] at h
  | z + 1, k, h => by
    by_cases hh : isHit d n z = true
    · rw [solL_hit hh] at h ⊢
      by_cases e : k < (solL d n z).length
      · obtain ⟨y, h1, h2, h3, h4⟩ := sol_mem d n z k e
        refine ⟨y, by omega, h2, ?_, h4⟩
        rw [← h3]
        simp [nth, List.getD, List.getElem?_append_left e]
      · simp at h
        have e' : k = (solL d n z).length := by omega
        refine ⟨z, by omega, hh, ?_, e'.symm⟩
        simp [nth, List.getD, e']
    · have hm : isHit d n z = false := by simpa using hh
      rw [solL_miss hm] at h ⊢
      obtain ⟨y, h1, h2, h3, h4⟩ := sol_mem d n z k h
      exact ⟨y, by omega, h2, h3, h4⟩

theorem solL_mono (d n : Int) {y z : Nat} (h : y ≤ z) : (solL d n y).length ≤ (solL d n z).length := by
  obtain ⟨t, ht⟩ := solL_prefix d n y z h
  rw [ht]; simp

/-- What the law asks of one solution of a list, and of the one before it. -/
theorem sol_facts {d n : Int} (hd : isD d = true) (hn : isN n = true) {z k : Nat} (hz : z ≤ 100001) (hk : k < (solL d n z).length) :
    0 ≤ (nth (solL d n z) k).1 ∧ (nth (solL d n z) k).1 ≤ 1000100 ∧ 0 ≤ (nth (solL d n z) k).2 ∧ (nth (solL d n z) k).2 < (z : Int) ∧
    (nth (solL d n z) k).1 * (nth (solL d n z) k).1 - d * (nth (solL d n z) k).2 * (nth (solL d n z) k).2 = n := by
  obtain ⟨y, h1, h2, h3, h4⟩ := sol_mem d n z k hk
  obtain ⟨s1, s2, s3, s4, s5, s6⟩ := sq_bd hd hn (y := y) (by omega)
  have hq : rootF (sqOf d n y) * rootF (sqOf d n y) = sqOf d n y := by simpa [isHit] using h2
  have h0 := sq_nonneg (rootF (sqOf d n y))
  obtain ⟨r0, r1, -⟩ := rootF_spec (sqOf d n y) (by omega) (by omega)
  rw [h3]
  refine ⟨r0, ?_, by simp, by simp; omega, ?_⟩
  · by_cases e : rootF (sqOf d n y) ≤ 1000100
    · exact e
    · have := sq_le (a := 1000101) (b := rootF (sqOf d n y)) (by omega) (by omega)
      omega
  · simp only
    unfold sqOf at hq ⊢
    omega

theorem sol_rise {d n : Int} (hd : isD d = true) (hn : isN n = true) {z k : Nat} (hz : z ≤ 100001) (hk : k + 1 < (solL d n z).length) :
    (nth (solL d n z) k).2 < (nth (solL d n z) (k + 1)).2 ∧ (nth (solL d n z) k).1 < (nth (solL d n z) (k + 1)).1 := by
  have hd2 := isD_bd hd
  obtain ⟨a1, -, a2, -, a3⟩ := sol_facts hd hn hz (k := k) (by omega)
  obtain ⟨b1, -, b2, -, b3⟩ := sol_facts hd hn hz hk
  obtain ⟨y, h1, h2, h3, h4⟩ := sol_mem d n z k (by omega)
  obtain ⟨y', g1, g2, g3, g4⟩ := sol_mem d n z (k + 1) hk
  have hyy : y < y' := by
    by_cases e : y' ≤ y
    · have := solL_mono d n e; omega
    · omega
  have ey : (nth (solL d n z) k).2 = (y : Int) := by rw [h3]
  have ey' : (nth (solL d n z) (k + 1)).2 = (y' : Int) := by rw [g3]
  have hlt : (nth (solL d n z) k).2 < (nth (solL d n z) (k + 1)).2 := by rw [ey, ey']; omega
  refine ⟨hlt, ?_⟩
  generalize (nth (solL d n z) k).1 = x at *
  generalize (nth (solL d n z) (k + 1)).1 = x' at *
  generalize (nth (solL d n z) k).2 = u at *
  generalize (nth (solL d n z) (k + 1)).2 = u' at *
  have h5 := sq_lt a2 hlt
  have h6 : d * (u * u) < d * (u' * u') := Int.mul_lt_mul_of_pos_left h5 (by omega)
  rw [Int.mul_assoc] at a3 b3
  by_cases e : x' ≤ x
  · have := sq_le b1 e
    omega
  · omega

theorem sol_less {d n : Int} {m z k : Nat} (hm : m ≤ z) (hk : k < (solL d n z).length) :
    (k < (solL d n m).length ↔ (nth (solL d n z) k).2 < (m : Int)) ∧ (k < (solL d n m).length → nth (solL d n m) k = nth (solL d n z) k) := by
  obtain ⟨y, h1, h2, h3, h4⟩ := sol_mem d n z k hk
  have ey : (nth (solL d n z) k).2 = (y : Int) := by rw [h3]
  refine ⟨⟨fun h => ?_, fun h => ?_⟩, fun h => ?_⟩
  · obtain ⟨y', g1, g2, g3, g4⟩ := sol_mem d n m k h
    rw [ey]
    by_cases e : y < m
    · omega
    · have h5 := (nth_hit g2 (show y' < y by omega)).2
      omega
  · rw [ey] at h
    have h5 := (nth_hit h2 (show y < m by omega)).2
    omega
  · obtain ⟨t, ht⟩ := solL_prefix d n m z hm
    rw [ht]
    simp [nth, List.getD, List.getElem?_append_left h]

set_option maxRecDepth 100000 in
set_option maxHeartbeats 4000000 in
theorem lawOrder_le (d n : Int) (hd : isD d = true) (hn : isN n = true) (M K : Nat) (hM : M ≤ 5000) (hK : K ≤ 5000) (hMK : M ≤ K) (w : World) :
    Calls Try.prog 13 #[.int .i64 d, .int .i64 n, .int .i64 (M : Int), .int .i64 (K : Int)] w fun e w' => e = .returned (.bool true) ∧ Below w.heap.size w w' := by
  obtain ⟨A, hA⟩ : ∃ A, A = solL d n (M + 1) := ⟨_, rfl⟩
  obtain ⟨B, hB⟩ : ∃ B, B = solL d n (K + 1) := ⟨_, rfl⟩
  have hlenA : A.length ≤ 5001 := by rw [hA]; have := solL_len d n (M + 1); omega
  have hlenB : B.length ≤ 5001 := by rw [hB]; have := solL_len d n (K + 1); omega
  have hAB : A.length ≤ B.length := by rw [hA, hB]; exact solL_mono d n (by omega)
  have HA := Lib.hid hA
  have HBB := Lib.hid hB
  have HD := Lib.hid hd
  have HN := Lib.hid hn
  have hd2 := isD_bd hd
  obtain ⟨n1, n2, -⟩ := isN_bd hn
  have k1 : decide ((K : Int) < (M : Int)) = false := by simp; omega
  clear hA hB hd hn
  go_enter Try.func13, Try.ntmps13
  go_wp2_with fail
  refine (Solve_row d n HD.out HN.out M hM A HA.out _).mono ?_
  rintro e w1 ⟨ao, cap, rfl, hc1, hc2, hr1⟩
  unfold maxLen at hc2
  have R1 := Lib.hid hr1
  clear hr1
  go_wp2_with fail
  refine (Solve_row d n HD.out HN.out K hK B HBB.out _).mono ?_
  rintro e w2 ⟨bo, cbp, rfl, hd1, hd3, hr2⟩
  unfold maxLen at hd3
  have R2 := Lib.hid (R1.out.later hr2.1)
  have S2 := Lib.hid hr2
  clear hr2 R1
  obtain ⟨na, hna⟩ : ∃ na, A.length = na := ⟨_, rfl⟩
  obtain ⟨nb, hnb⟩ : ∃ nb, B.length = nb := ⟨_, rfl⟩
  rw [hna] at hc1 hlenA hAB
  rw [hnb] at hd1 hlenB hAB
  rw [hna, hnb]
  have HNA := Lib.hid hna
  have HNB := Lib.hid hnb
  clear hna hnb
  go_wp2_with fail
  go_loopg [52] nb (fun gk i wr => ∃ y : Nat, y + gk = nb ∧ i = .int .i64 (y : Int) ∧ SRow A ao w wr ∧ SRow B bo w1 wr)
  case atStart => exact ⟨0, by omega, rfl, R2.out, S2.out⟩
  case round =>
    obtain ⟨y, hy, rfl, ra, rb⟩ := hrel
    have RA := Lib.hid ra
    have RB := Lib.hid rb
    clear ra rb R2 S2
    by_cases hyn : y = nb
    · have hge : (nb : Int) ≤ (y : Int) := by omega
      have hge2 : nb ≤ y := by omega
      have hab : decide ((na : Int) ≤ (nb : Int)) = true := by simp; omega
      clear hyn
      go_wp2_with fail
      refine (awake_any _).mono ?_
      rintro e w3 ⟨rfl, hb3⟩
      have RA2 := Lib.hid (RA.out.later hb3)
      clear hb3
      go_wp2
      go_ret
      exact ⟨rfl, RA2.out.1⟩
    · have hlt : (y : Int) < (nb : Int) := by omega
      have hlt2 : y < nb := by omega
      clear hyn
      have hyB : y < (solL d n (K + 1)).length := by rw [← HBB.out]; have := HNB.out; omega
      obtain ⟨f1, f2, f3, f4, f5⟩ := sol_facts HD.out HN.out (by omega) hyB
      obtain ⟨⟨l1, l2⟩, l3⟩ := sol_less (d := d) (n := n) (m := M + 1) (z := K + 1) (by omega) hyB
      rw [← HBB.out, ← HA.out, HNA.out] at l1 l2 l3
      rw [← HBB.out] at f1 f2 f3 f4 f5
      obtain ⟨gb, hbo, -, -, cb⟩ : ∃ g, bo = some ⟨g, 0, none⟩ ∧ w1.heap.size ≤ g ∧ g < wr.heap.size ∧ Cells2 wr g B := by
        rcases RB.out.2 with h | h
        · have := HNB.out; omega
        · exact h
      subst hbo
      obtain ⟨b1, b2⟩ := cb y (by have := HNB.out; omega)
      have CB := Lib.hid cb
      clear cb
      obtain ⟨X, hX⟩ : ∃ X, (nth B y).1 = X := ⟨_, rfl⟩
      obtain ⟨Y, hY⟩ : ∃ Y, (nth B y).2 = Y := ⟨_, rfl⟩
      rw [hX] at f1 f2 f5 b1
      rw [hY] at f3 f4 f5 l1 l2 b2
      have HX := Lib.hid hX
      have HY := Lib.hid hY
      have HL := Lib.hid l3
      clear hX hY l3
      have x1 : 0 ≤ X * X := sq_nonneg X
      have x2 : X * X ≤ 1000100 * 1000100 := sq_le f1 f2
      have x3 : 0 ≤ d * Y := Int.mul_nonneg (by omega) f3
      have x4 : d * Y ≤ 100 * 5001 := Int.mul_le_mul (by omega) (by omega) f3 (by omega)
      have x5 : 0 ≤ d * Y * Y := Int.mul_nonneg x3 f3
      have x6 : d * Y * Y ≤ 500100 * 5001 := Int.mul_le_mul (by omega) (by omega) f3 (by omega)
      have g44 := guard44
      have n44 := neq44
      have t1 : decide (X < 0) = false := by simp; omega
      have t2 : decide (Y < 0) = false := by simp; omega
      have t3 : (X * X - d * Y * Y != n) = false := by simp [f5]
      clear f5
      cases y with
      | zero =>
        by_cases hya : 0 < na
        · have hYM : Y ≤ (M : Int) := by have := l1 hya; omega
          obtain ⟨ga, hao, -, -, ca⟩ : ∃ g, ao = some ⟨g, 0, none⟩ ∧ w.heap.size ≤ g ∧ g < wr.heap.size ∧ Cells2 wr g A := by
            rcases RA.out.2 with h | h
            · have := HNA.out; omega
            · exact h
          subst hao
          obtain ⟨a1, a2⟩ := ca (0) (by have := HNA.out; omega)
          clear ca
          rw [HL.out hya] at a1 a2
          rw [HX.out] at a1
          rw [HY.out] at a2
          simp only [Nat.zero_mul, Nat.zero_add] at a1 a2
          have a3 := cell_alloc_k (.cells #[.int .i64 X, .int .i64 Y] 44) a1
          have a4 := cell_alloc_k (.cells #[.int .i64 X, .int .i64 Y] 44) a2
          have t5 : decide (Y ≤ (M : Int)) = true := by simp; omega
          have t6 : decide ((0 : Int) < (na : Int)) = true := by simp; omega
          have t7 : decide (0 < na) = true := by simp; omega
          clear l1 l2
          rw [show ((0 : Nat) : Int) = 0 from rfl]
          go_wp2_with fail
          dsimp only [List.append]
          refine wp_region_quiet_lit (by kernel_rfl) (by kernel_rfl) ?_
          repeat (go_big_quiet_step (fail))
          refine wpQuiet_nil ?_
          intro _ hw'
          obtain ⟨nq, hw''⟩ := hw'
          subst hw''
          go_wp2
          have hbl : Below wr.heap.size wr ((wr.alloc (.cells #[.int .i64 X, .int .i64 Y] 44)).drewN nq) := below_drewN ((Below.refl _ _).alloc (Nat.le_refl _) _) _
          go_roundg (gk - 1)
          case rel => exact ⟨1, by omega, by go_num, RA.out.later hbl, RB.out.later hbl⟩
          case measure => omega
        · have hYM : (M : Int) < Y := by
            by_cases h : Y < (M : Int) + 1
            · exact (hya (l2 (by omega))).elim
            · omega
          have t5 : decide (Y ≤ (M : Int)) = false := by simp; omega
          have t6 : decide ((0 : Int) < (na : Int)) = false := by simp; omega
          have t7 : decide (0 < na) = false := by simp; omega
          clear l1 l2
          rw [show ((0 : Nat) : Int) = 0 from rfl]
          go_wp2_with fail
          dsimp only [List.append]
          refine wp_region_quiet_lit (by kernel_rfl) (by kernel_rfl) ?_
          repeat (go_big_quiet_step (fail))
          refine wpQuiet_nil ?_
          intro _ hw'
          obtain ⟨nq, hw''⟩ := hw'
          subst hw''
          go_wp2
          have hbl : Below wr.heap.size wr ((wr.alloc (.cells #[.int .i64 X, .int .i64 Y] 44)).drewN nq) := below_drewN ((Below.refl _ _).alloc (Nat.le_refl _) _) _
          go_roundg (gk - 1)
          case rel => exact ⟨1, by omega, by go_num, RA.out.later hbl, RB.out.later hbl⟩
          case measure => omega
      | succ z =>
        obtain ⟨c1, c2⟩ := CB.out z (by have := HNB.out; omega)
        have hyB' : z + 1 < (solL d n (K + 1)).length := by rw [← HBB.out]; have := HNB.out; omega
        obtain ⟨p1, p2⟩ := sol_rise HD.out HN.out (by omega) hyB'
        rw [← HBB.out, HX.out] at p2
        rw [← HBB.out, HY.out] at p1
        obtain ⟨PX, hPX⟩ : ∃ PX, (nth B z).1 = PX := ⟨_, rfl⟩
        obtain ⟨PY, hPY⟩ : ∃ PY, (nth B z).2 = PY := ⟨_, rfl⟩
        rw [hPX] at c1 p2
        rw [hPY] at c2 p1
        have c3 := cell_alloc_k (.cells #[.int .i64 X, .int .i64 Y] 44) c1
        have c4 := cell_alloc_k (.cells #[.int .i64 X, .int .i64 Y] 44) c2
        have t8 : decide (Y ≤ PY) = false := by simp; omega
        have t9 : decide (X ≤ PX) = false := by simp; omega
        have ez : ((z + 1 : Nat) : Int) = (z : Int) + 1 := by omega
        have t10 : decide (0 < (z : Int) + 1) = true := by simp; try omega
        rw [ez] at hlt
        have z0 : (0 : Int) ≤ (z : Int) := by omega
        have z1 : (z : Int) < (nb : Int) := by omega
        have z2 : z < nb := by omega
        clear hPX hPY hyB'
        by_cases hya : z + 1 < na
        · have hYM : Y ≤ (M : Int) := by have := l1 hya; omega
          obtain ⟨ga, hao, -, -, ca⟩ : ∃ g, ao = some ⟨g, 0, none⟩ ∧ w.heap.size ≤ g ∧ g < wr.heap.size ∧ Cells2 wr g A := by
            rcases RA.out.2 with h | h
            · have := HNA.out; omega
            · exact h
          subst hao
          obtain ⟨a1, a2⟩ := ca (z + 1) (by have := HNA.out; omega)
          clear ca
          rw [HL.out hya] at a1 a2
          rw [HX.out] at a1
          rw [HY.out] at a2
          have a3 := cell_alloc_k (.cells #[.int .i64 X, .int .i64 Y] 44) a1
          have a4 := cell_alloc_k (.cells #[.int .i64 X, .int .i64 Y] 44) a2
          have t5 : decide (Y ≤ (M : Int)) = true := by simp; omega
          have t6 : decide ((z : Int) + 1 < (na : Int)) = true := by simp; omega
          have t7 : decide (z + 1 < na) = true := by simp; omega
          have z3 : (z : Int) + 1 < (na : Int) := by omega
          clear l1 l2
          rw [ez]
          clear ez
          go_wp2_with fail
          dsimp only [List.append]
          refine wp_region_quiet_lit (by kernel_rfl) (by kernel_rfl) ?_
          repeat (go_big_quiet_step (fail))
          refine wpQuiet_nil ?_
          intro _ hw'
          obtain ⟨nq, hw''⟩ := hw'
          subst hw''
          go_wp2
          have hbl : Below wr.heap.size wr ((wr.alloc (.cells #[.int .i64 X, .int .i64 Y] 44)).drewN nq) := below_drewN ((Below.refl _ _).alloc (Nat.le_refl _) _) _
          go_roundg (gk - 1)
          case rel => exact ⟨z + 1 + 1, by omega, by go_num, RA.out.later hbl, RB.out.later hbl⟩
          case measure => omega
        · have hYM : (M : Int) < Y := by
            by_cases h : Y < (M : Int) + 1
            · exact (hya (l2 (by omega))).elim
            · omega
          have t5 : decide (Y ≤ (M : Int)) = false := by simp; omega
          have t6 : decide ((z : Int) + 1 < (na : Int)) = false := by simp; omega
          have t7 : decide (z + 1 < na) = false := by simp; omega
          clear l1 l2
          rw [ez]
          clear ez
          go_wp2_with fail
          dsimp only [List.append]
          refine wp_region_quiet_lit (by kernel_rfl) (by kernel_rfl) ?_
          repeat (go_big_quiet_step (fail))
          refine wpQuiet_nil ?_
          intro _ hw'
          obtain ⟨nq, hw''⟩ := hw'
          subst hw''
          go_wp2
          have hbl : Below wr.heap.size wr ((wr.alloc (.cells #[.int .i64 X, .int .i64 Y] 44)).drewN nq) := below_drewN ((Below.refl _ _).alloc (Nat.le_refl _) _) _
          go_roundg (gk - 1)
          case rel => exact ⟨z + 1 + 1, by omega, by go_num, RA.out.later hbl, RB.out.later hbl⟩
          case measure => omega
end Go.Proofs.Ytbdadckedhcibaa
