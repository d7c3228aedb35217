/- The walk of the law SharesThree. No condition. -/
import Derived.Test.YtbdiknlbmjdpeaaThreeR
import Derived.ChangeKeysEq
namespace Go.Proofs.Ytbdiknlbmjdpeaa
open Go.RowKit
attribute [local go_sem] Oper.semAt_some


theorem elem3 : (Try.prog.info? 3).isSome = true := by kernel_rfl
theorem cells3b : Try.prog.cellsOf 3 = 1 := by kernel_rfl
theorem guard38 : Try.prog.eqGuardType Try.prog.depth 38 = false := by kernel_rfl
theorem guard41 : Try.prog.eqGuardType Try.prog.depth 41 = false := by kernel_rfl
theorem p38_0 (x y z : Int) (w : World) : (part 3 #[.int .i64 x, .int .i64 y, .int .i64 z] (0 * 1)).run Try.prog w = .ok (.int .i64 x) w := by kernel_rfl
theorem p38_1 (x y z : Int) (w : World) : (part 3 #[.int .i64 x, .int .i64 y, .int .i64 z] (1 * 1)).run Try.prog w = .ok (.int .i64 y) w := by kernel_rfl
theorem p38_2 (x y z : Int) (w : World) : (part 3 #[.int .i64 x, .int .i64 y, .int .i64 z] (2 * 1)).run Try.prog w = .ok (.int .i64 z) w := by kernel_rfl
theorem p41_0 (x y : Int) (w : World) : (part 3 #[.int .i64 x, .int .i64 y] (0 * 1)).run Try.prog w = .ok (.int .i64 x) w := by kernel_rfl
theorem p41_1 (x y : Int) (w : World) : (part 3 #[.int .i64 x, .int .i64 y] (1 * 1)).run Try.prog w = .ok (.int .i64 y) w := by kernel_rfl
theorem equal38 (x y z u v s : Int) (w : World) : (Op.equalIn 10000 38 (.agg #[.int .i64 x, .int .i64 y, .int .i64 z]) (.agg #[.int .i64 u, .int .i64 v, .int .i64 s])).run Try.prog w = .ok (x == u && (y == v && z == s)) w := by
  obtain ⟨i, hi⟩ := Option.isSome_iff_exists.1 elem3
  rw [run_equalIn_array w 9999 _ _ Try.underlying38 hi, cells3b]
  have e3 : ∀ (a b : Int) (w : World), (Op.equalIn 9999 3 (.int .i64 a) (.int .i64 b)).run Try.prog w = .ok (a == b) w := fun a b w => run_equalIn_int w 9998 3 .i64 .i64 a b Try.underlying3
  rw [show List.range 3 = [0, 1, 2] from rfl]
  simp only [Op.eqItems, Sem.run_bind, p38_0, p38_1, p38_2, e3, Result.andThen_ok, Sem.run_ite, Sem.run_pure]
  cases h1 : (x == u) <;> cases h2 : (y == v) <;> cases h3 : (z == s) <;> simp
theorem equal41 (x y u v : Int) (w : World) : (Op.equalIn 10000 41 (.agg #[.int .i64 x, .int .i64 y]) (.agg #[.int .i64 u, .int .i64 v])).run Try.prog w = .ok (x == u && y == v) w := by
  obtain ⟨i, hi⟩ := Option.isSome_iff_exists.1 elem3
  rw [run_equalIn_array w 9999 _ _ Try.underlying41 hi, cells3b]
  have e3 : ∀ (a b : Int) (w : World), (Op.equalIn 9999 3 (.int .i64 a) (.int .i64 b)).run Try.prog w = .ok (a == b) w := fun a b w => run_equalIn_int w 9998 3 .i64 .i64 a b Try.underlying3
  rw [show List.range 2 = [0, 1] from rfl]
  simp only [Op.eqItems, Sem.run_bind, p41_0, p41_1, e3, Result.andThen_ok, Sem.run_ite, Sem.run_pure]
  cases h1 : (x == u) <;> cases h2 : (y == v) <;> simp
theorem neq38_same (x y z : Int) (w : World) : (binOp .neq 38 (.agg #[.int .i64 x, .int .i64 y, .int .i64 z]) (.agg #[.int .i64 x, .int .i64 y, .int .i64 z])).run Try.prog w = .ok (.bool false) w := by
  rw [run_neq_struct, equal38]; simp
theorem eql41_same (x y : Int) (w : World) : (binOp .eql 41 (.agg #[.int .i64 x, .int .i64 y]) (.agg #[.int .i64 x, .int .i64 y])).run Try.prog w = .ok (.bool true) w := by
  rw [run_eql_struct, equal41]; simp

/-- What Three answers, and the reference too. -/
theorem three_all (n : Int) : ∃ x y z c : Int, (∀ w, Calls Try.prog 31 #[.int .i64 n] w fun e w' => e = .returned (.tuple #[.agg #[.int .i64 x, .int .i64 y, .int .i64 z], .int .i64 c]) ∧ Below w.heap.size w w') ∧
    (2 ≤ n → n ≤ 300 → ∀ w, Calls Try.prog 33 #[.int .i64 n] w fun e w' => e = .returned (.tuple #[.agg #[.int .i64 x, .int .i64 y, .int .i64 z], .int .i64 c]) ∧ Below w.heap.size w w') ∧
    (n < 2 ∨ 300 < n → x = 0 ∧ y = 0 ∧ z = 0 ∧ c = 2) := by
  by_cases h : 2 ≤ n ∧ n ≤ 300
  · obtain ⟨m, rfl⟩ := Int.eq_ofNat_of_zero_le (show 0 ≤ n by omega)
    have h3 := fun w => Three_yes m (by omega) (by omega) w
    have h4 := fun w => ThreeRef_any m (by omega) (by omega) w
    cases hR : thrF m with
    | none =>
      rw [hR] at h3 h4
      exact ⟨0, 0, 0, 4, h3, fun _ _ => h4, fun h' => by omega⟩
    | some L =>
      rw [hR] at h3 h4
      match L with
      | [x, y, z] => exact ⟨x, y, z, 0, h3, fun _ _ => h4, fun h' => by omega⟩
      | [] => exact ⟨0, 0, 0, 4, fun w => (h3 w).mono fun _ _ h => h.1.elim, fun _ _ w => (h4 w).mono fun _ _ h => h.1.elim, fun h' => by omega⟩
      | [_] => exact ⟨0, 0, 0, 4, fun w => (h3 w).mono fun _ _ h => h.1.elim, fun _ _ w => (h4 w).mono fun _ _ h => h.1.elim, fun h' => by omega⟩
      | [_, _] => exact ⟨0, 0, 0, 4, fun w => (h3 w).mono fun _ _ h => h.1.elim, fun _ _ w => (h4 w).mono fun _ _ h => h.1.elim, fun h' => by omega⟩
      | _ :: _ :: _ :: _ :: _ => exact ⟨0, 0, 0, 4, fun w => (h3 w).mono fun _ _ h => h.1.elim, fun _ _ w => (h4 w).mono fun _ _ h => h.1.elim, fun h' => by omega⟩
  · exact ⟨0, 0, 0, 2, fun w => Three_no n (by omega) w, fun h1 h2 => absurd ⟨h1, h2⟩ h, fun _ => ⟨rfl, rfl, rfl, rfl⟩⟩
theorem split_all (n : Int) : ∃ x y c : Int, (∀ w, Calls Try.prog 32 #[.int .i64 n] w fun e w' => e = .returned (.tuple #[.agg #[.int .i64 x, .int .i64 y], .int .i64 c]) ∧ Below w.heap.size w w') ∧
    (2 ≤ n → n ≤ 100000 → ∀ w, Calls Try.prog 34 #[.int .i64 n] w fun e w' => e = .returned (.tuple #[.agg #[.int .i64 x, .int .i64 y], .int .i64 c]) ∧ Below w.heap.size w w') ∧
    (n < 2 ∨ 100000 < n → x = 0 ∧ y = 0 ∧ c = 2) := by
  by_cases h : 2 ≤ n ∧ n ≤ 100000
  · obtain ⟨m, rfl⟩ := Int.eq_ofNat_of_zero_le (show 0 ≤ n by omega)
    have h3 := fun w => Split_yes m (by omega) (by omega) w
    have h4 := fun w => SplitRef_any m (by omega) (by omega) w
    cases hR : splF m with
    | none =>
      rw [hR] at h3 h4
      exact ⟨0, 0, 4, h3, fun _ _ => h4, fun h' => by omega⟩
    | some L =>
      rw [hR] at h3 h4
      match L with
      | [x, y] => exact ⟨x, y, 0, h3, fun _ _ => h4, fun h' => by omega⟩
      | [] => exact ⟨0, 0, 4, fun w => (h3 w).mono fun _ _ h => h.1.elim, fun _ _ w => (h4 w).mono fun _ _ h => h.1.elim, fun h' => by omega⟩
      | [_] => exact ⟨0, 0, 4, fun w => (h3 w).mono fun _ _ h => h.1.elim, fun _ _ w => (h4 w).mono fun _ _ h => h.1.elim, fun h' => by omega⟩
      | _ :: _ :: _ :: _ => exact ⟨0, 0, 4, fun w => (h3 w).mono fun _ _ h => h.1.elim, fun _ _ w => (h4 w).mono fun _ _ h => h.1.elim, fun h' => by omega⟩
  · exact ⟨0, 0, 2, fun w => Split_no n (by omega) w, fun h1 h2 => absurd ⟨h1, h2⟩ h, fun _ => ⟨rfl, rfl, rfl⟩⟩

set_option maxHeartbeats 16000000 in
set_option maxRecDepth 100000 in
theorem lawThree_any (n d : Int) (w : World) : Calls Try.prog 7 #[.int .i64 n, .int .i64 d] w fun e w' => e = .returned (.bool true) ∧ Below w.heap.size w w' := by
  obtain ⟨x, y, z, c, t1, t2, t3⟩ := three_all n
  obtain ⟨u, v, f, s1, s2, s3⟩ := split_all d
  have HT1 := Lib.hid t1
  have HT2 := Lib.hid t2
  have HT3 := Lib.hid t3
  have HS1 := Lib.hid s1
  have HS2 := Lib.hid s2
  have HS3 := Lib.hid s3
  clear t1 t2 t3 s1 s2 s3
  have n38 := neq38_same
  have q41 := eql41_same
  have ge38 := guard38
  have ge41 := guard41
  by_cases hn : n < 2
  · have k1 : decide (n < 2) = true := by simpa using hn
    obtain ⟨rfl, rfl, rfl, rfl⟩ := HT3.out (.inl hn)
    clear HT2 HT3
    by_cases hd : d < 2
    · have b3 : decide (d < 2) = true := by simpa using hd
      obtain ⟨rfl, rfl, rfl⟩ := HS3.out (.inl hd)
      clear HS2 HS3
      go_enter Try.func7, Try.ntmps7
      go_wp2_with fail
      refine (HT1.out _).mono ?_
      rintro e w1 ⟨rfl, hb1⟩
      obtain ⟨a0, a1, a2⟩ := cell_tri w1 (.int .i64 0) (.int .i64 0) (.int .i64 0) 38
      have HB1 := Lib.hid (hb1.alloc hb1.size (.cells #[.int .i64 0, .int .i64 0, .int .i64 0] 38))
      clear hb1
      go_wp2_with fail
      refine (HS1.out _).mono ?_
      rintro e w2 ⟨rfl, hb2⟩
      have c0 := cell_later a0 hb2
      have c1 := cell_later a1 hb2
      have c2 := cell_later a2 hb2
      have HB2 := Lib.hid (HB1.out.trans (hb2.mono HB1.out.size))
      clear hb2 a0 a1 a2
      have d0 := Lib.cell?_alloc_some (.cells #[.int .i64 0, .int .i64 0] 41) c0
      have d1 := Lib.cell?_alloc_some (.cells #[.int .i64 0, .int .i64 0] 41) c1
      have d2 := Lib.cell?_alloc_some (.cells #[.int .i64 0, .int .i64 0] 41) c2
      obtain ⟨b0, b1⟩ := cell_pair w2 (.int .i64 0) (.int .i64 0) 41
      have HB3 := Lib.hid (HB2.out.alloc HB2.out.size (.cells #[.int .i64 0, .int .i64 0] 41))
      clear c0 c1 c2
      go_wp2_with fail
      refine (awake_any _).mono ?_
      rintro e w8 ⟨rfl, hb8⟩
      have HB8 := Lib.hid (HB3.out.trans (hb8.mono HB3.out.size))
      clear hb8
      go_wp2
      go_ret
      exact ⟨rfl, HB8.out⟩
    · have b3 : decide (d < 2) = false := by simpa using hd
      by_cases hd2 : 100000 < d
      · have b4 : decide (100000 < d) = true := by simpa using hd2
        obtain ⟨rfl, rfl, rfl⟩ := HS3.out (.inr hd2)
        clear HS2 HS3
        go_enter Try.func7, Try.ntmps7
        go_wp2_with fail
        refine (HT1.out _).mono ?_
        rintro e w1 ⟨rfl, hb1⟩
        obtain ⟨a0, a1, a2⟩ := cell_tri w1 (.int .i64 0) (.int .i64 0) (.int .i64 0) 38
        have HB1 := Lib.hid (hb1.alloc hb1.size (.cells #[.int .i64 0, .int .i64 0, .int .i64 0] 38))
        clear hb1
        go_wp2_with fail
        refine (HS1.out _).mono ?_
        rintro e w2 ⟨rfl, hb2⟩
        have c0 := cell_later a0 hb2
        have c1 := cell_later a1 hb2
        have c2 := cell_later a2 hb2
        have HB2 := Lib.hid (HB1.out.trans (hb2.mono HB1.out.size))
        clear hb2 a0 a1 a2
        have d0 := Lib.cell?_alloc_some (.cells #[.int .i64 0, .int .i64 0] 41) c0
        have d1 := Lib.cell?_alloc_some (.cells #[.int .i64 0, .int .i64 0] 41) c1
        have d2 := Lib.cell?_alloc_some (.cells #[.int .i64 0, .int .i64 0] 41) c2
        obtain ⟨b0, b1⟩ := cell_pair w2 (.int .i64 0) (.int .i64 0) 41
        have HB3 := Lib.hid (HB2.out.alloc HB2.out.size (.cells #[.int .i64 0, .int .i64 0] 41))
        clear c0 c1 c2
        go_wp2_with fail
        refine (awake_any _).mono ?_
        rintro e w8 ⟨rfl, hb8⟩
        have HB8 := Lib.hid (HB3.out.trans (hb8.mono HB3.out.size))
        clear hb8
        go_wp2
        go_ret
        exact ⟨rfl, HB8.out⟩
      · have b4 : decide (100000 < d) = false := by simpa using hd2
        have hS := HS2.out (by omega) (by omega)
        have HS2 := Lib.hid hS
        clear hS HS3
        go_enter Try.func7, Try.ntmps7
        go_wp2_with fail
        refine (HT1.out _).mono ?_
        rintro e w1 ⟨rfl, hb1⟩
        obtain ⟨a0, a1, a2⟩ := cell_tri w1 (.int .i64 0) (.int .i64 0) (.int .i64 0) 38
        have HB1 := Lib.hid (hb1.alloc hb1.size (.cells #[.int .i64 0, .int .i64 0, .int .i64 0] 38))
        clear hb1
        go_wp2_with fail
        refine (HS1.out _).mono ?_
        rintro e w2 ⟨rfl, hb2⟩
        have c0 := cell_later a0 hb2
        have c1 := cell_later a1 hb2
        have c2 := cell_later a2 hb2
        have HB2 := Lib.hid (HB1.out.trans (hb2.mono HB1.out.size))
        clear hb2 a0 a1 a2
        have d0 := Lib.cell?_alloc_some (.cells #[.int .i64 u, .int .i64 v] 41) c0
        have d1 := Lib.cell?_alloc_some (.cells #[.int .i64 u, .int .i64 v] 41) c1
        have d2 := Lib.cell?_alloc_some (.cells #[.int .i64 u, .int .i64 v] 41) c2
        obtain ⟨b0, b1⟩ := cell_pair w2 (.int .i64 u) (.int .i64 v) 41
        have HB3 := Lib.hid (HB2.out.alloc HB2.out.size (.cells #[.int .i64 u, .int .i64 v] 41))
        clear c0 c1 c2
        obtain ⟨W3, hW3⟩ : ∃ W3, w2.alloc (.cells #[.int .i64 u, .int .i64 v] 41) = W3 := ⟨_, rfl⟩
        rw [hW3] at d0 d1 d2 b0 b1 HB3
        obtain ⟨ga, hga⟩ : ∃ ga, w1.heap.size = ga := ⟨_, rfl⟩
        obtain ⟨gb, hgb⟩ : ∃ gb, w2.heap.size = gb := ⟨_, rfl⟩
        rw [hga] at d0 d1 d2
        rw [hgb] at b0 b1
        go_wp2_with fail
        refine (HS2.out _).mono ?_
        rintro e w6 ⟨rfl, hb6⟩
        clear hW3 hga hgb
        have i0 := Lib.cell?_alloc_some (.cells #[.int .i64 u, .int .i64 v] 41) (cell_later b0 hb6)
        have i1 := Lib.cell?_alloc_some (.cells #[.int .i64 u, .int .i64 v] 41) (cell_later b1 hb6)
        have HB6 := Lib.hid (HB3.out.trans (hb6.mono HB3.out.size))
        have HB7 := Lib.hid (HB6.out.alloc HB6.out.size (.cells #[.int .i64 u, .int .i64 v] 41))
        obtain ⟨j0, j1⟩ := cell_pair w6 (.int .i64 u) (.int .i64 v) 41
        clear hb6 b0 b1
        obtain ⟨W7, hW7⟩ : ∃ W7, w6.alloc (.cells #[.int .i64 u, .int .i64 v] 41) = W7 := ⟨_, rfl⟩
        rw [hW7] at i0 i1 j0 j1 HB7
        obtain ⟨gd, hgd⟩ : ∃ gd, w6.heap.size = gd := ⟨_, rfl⟩
        rw [hgd] at j0 j1
        go_wp2_with fail
        refine (awake_any _).mono ?_
        rintro e w8 ⟨rfl, hb8⟩
        have HB8 := Lib.hid (HB7.out.trans (hb8.mono HB7.out.size))
        clear hb8
        go_wp2
        go_ret
        exact ⟨rfl, HB8.out⟩
  · have k1 : decide (n < 2) = false := by simpa using hn
    by_cases hn2 : 300 < n
    · have k2 : decide (300 < n) = true := by simpa using hn2
      obtain ⟨rfl, rfl, rfl, rfl⟩ := HT3.out (.inr hn2)
      clear HT2 HT3
      by_cases hd : d < 2
      · have b3 : decide (d < 2) = true := by simpa using hd
        obtain ⟨rfl, rfl, rfl⟩ := HS3.out (.inl hd)
        clear HS2 HS3
        go_enter Try.func7, Try.ntmps7
        go_wp2_with fail
        refine (HT1.out _).mono ?_
        rintro e w1 ⟨rfl, hb1⟩
        obtain ⟨a0, a1, a2⟩ := cell_tri w1 (.int .i64 0) (.int .i64 0) (.int .i64 0) 38
        have HB1 := Lib.hid (hb1.alloc hb1.size (.cells #[.int .i64 0, .int .i64 0, .int .i64 0] 38))
        clear hb1
        go_wp2_with fail
        refine (HS1.out _).mono ?_
        rintro e w2 ⟨rfl, hb2⟩
        have c0 := cell_later a0 hb2
        have c1 := cell_later a1 hb2
        have c2 := cell_later a2 hb2
        have HB2 := Lib.hid (HB1.out.trans (hb2.mono HB1.out.size))
        clear hb2 a0 a1 a2
        have d0 := Lib.cell?_alloc_some (.cells #[.int .i64 0, .int .i64 0] 41) c0
        have d1 := Lib.cell?_alloc_some (.cells #[.int .i64 0, .int .i64 0] 41) c1
        have d2 := Lib.cell?_alloc_some (.cells #[.int .i64 0, .int .i64 0] 41) c2
        obtain ⟨b0, b1⟩ := cell_pair w2 (.int .i64 0) (.int .i64 0) 41
        have HB3 := Lib.hid (HB2.out.alloc HB2.out.size (.cells #[.int .i64 0, .int .i64 0] 41))
        clear c0 c1 c2
        go_wp2_with fail
        refine (awake_any _).mono ?_
        rintro e w8 ⟨rfl, hb8⟩
        have HB8 := Lib.hid (HB3.out.trans (hb8.mono HB3.out.size))
        clear hb8
        go_wp2
        go_ret
        exact ⟨rfl, HB8.out⟩
      · have b3 : decide (d < 2) = false := by simpa using hd
        by_cases hd2 : 100000 < d
        · have b4 : decide (100000 < d) = true := by simpa using hd2
          obtain ⟨rfl, rfl, rfl⟩ := HS3.out (.inr hd2)
          clear HS2 HS3
          go_enter Try.func7, Try.ntmps7
          go_wp2_with fail
          refine (HT1.out _).mono ?_
          rintro e w1 ⟨rfl, hb1⟩
          obtain ⟨a0, a1, a2⟩ := cell_tri w1 (.int .i64 0) (.int .i64 0) (.int .i64 0) 38
          have HB1 := Lib.hid (hb1.alloc hb1.size (.cells #[.int .i64 0, .int .i64 0, .int .i64 0] 38))
          clear hb1
          go_wp2_with fail
          refine (HS1.out _).mono ?_
          rintro e w2 ⟨rfl, hb2⟩
          have c0 := cell_later a0 hb2
          have c1 := cell_later a1 hb2
          have c2 := cell_later a2 hb2
          have HB2 := Lib.hid (HB1.out.trans (hb2.mono HB1.out.size))
          clear hb2 a0 a1 a2
          have d0 := Lib.cell?_alloc_some (.cells #[.int .i64 0, .int .i64 0] 41) c0
          have d1 := Lib.cell?_alloc_some (.cells #[.int .i64 0, .int .i64 0] 41) c1
          have d2 := Lib.cell?_alloc_some (.cells #[.int .i64 0, .int .i64 0] 41) c2
          obtain ⟨b0, b1⟩ := cell_pair w2 (.int .i64 0) (.int .i64 0) 41
          have HB3 := Lib.hid (HB2.out.alloc HB2.out.size (.cells #[.int .i64 0, .int .i64 0] 41))
          clear c0 c1 c2
          go_wp2_with fail
          refine (awake_any _).mono ?_
          rintro e w8 ⟨rfl, hb8⟩
          have HB8 := Lib.hid (HB3.out.trans (hb8.mono HB3.out.size))
          clear hb8
          go_wp2
          go_ret
          exact ⟨rfl, HB8.out⟩
        · have b4 : decide (100000 < d) = false := by simpa using hd2
          have hS := HS2.out (by omega) (by omega)
          have HS2 := Lib.hid hS
          clear hS HS3
          go_enter Try.func7, Try.ntmps7
          go_wp2_with fail
          refine (HT1.out _).mono ?_
          rintro e w1 ⟨rfl, hb1⟩
          obtain ⟨a0, a1, a2⟩ := cell_tri w1 (.int .i64 0) (.int .i64 0) (.int .i64 0) 38
          have HB1 := Lib.hid (hb1.alloc hb1.size (.cells #[.int .i64 0, .int .i64 0, .int .i64 0] 38))
          clear hb1
          go_wp2_with fail
          refine (HS1.out _).mono ?_
          rintro e w2 ⟨rfl, hb2⟩
          have c0 := cell_later a0 hb2
          have c1 := cell_later a1 hb2
          have c2 := cell_later a2 hb2
          have HB2 := Lib.hid (HB1.out.trans (hb2.mono HB1.out.size))
          clear hb2 a0 a1 a2
          have d0 := Lib.cell?_alloc_some (.cells #[.int .i64 u, .int .i64 v] 41) c0
          have d1 := Lib.cell?_alloc_some (.cells #[.int .i64 u, .int .i64 v] 41) c1
          have d2 := Lib.cell?_alloc_some (.cells #[.int .i64 u, .int .i64 v] 41) c2
          obtain ⟨b0, b1⟩ := cell_pair w2 (.int .i64 u) (.int .i64 v) 41
          have HB3 := Lib.hid (HB2.out.alloc HB2.out.size (.cells #[.int .i64 u, .int .i64 v] 41))
          clear c0 c1 c2
          obtain ⟨W3, hW3⟩ : ∃ W3, w2.alloc (.cells #[.int .i64 u, .int .i64 v] 41) = W3 := ⟨_, rfl⟩
          rw [hW3] at d0 d1 d2 b0 b1 HB3
          obtain ⟨ga, hga⟩ : ∃ ga, w1.heap.size = ga := ⟨_, rfl⟩
          obtain ⟨gb, hgb⟩ : ∃ gb, w2.heap.size = gb := ⟨_, rfl⟩
          rw [hga] at d0 d1 d2
          rw [hgb] at b0 b1
          go_wp2_with fail
          refine (HS2.out _).mono ?_
          rintro e w6 ⟨rfl, hb6⟩
          clear hW3 hga hgb
          have i0 := Lib.cell?_alloc_some (.cells #[.int .i64 u, .int .i64 v] 41) (cell_later b0 hb6)
          have i1 := Lib.cell?_alloc_some (.cells #[.int .i64 u, .int .i64 v] 41) (cell_later b1 hb6)
          have HB6 := Lib.hid (HB3.out.trans (hb6.mono HB3.out.size))
          have HB7 := Lib.hid (HB6.out.alloc HB6.out.size (.cells #[.int .i64 u, .int .i64 v] 41))
          obtain ⟨j0, j1⟩ := cell_pair w6 (.int .i64 u) (.int .i64 v) 41
          clear hb6 b0 b1
          obtain ⟨W7, hW7⟩ : ∃ W7, w6.alloc (.cells #[.int .i64 u, .int .i64 v] 41) = W7 := ⟨_, rfl⟩
          rw [hW7] at i0 i1 j0 j1 HB7
          obtain ⟨gd, hgd⟩ : ∃ gd, w6.heap.size = gd := ⟨_, rfl⟩
          rw [hgd] at j0 j1
          go_wp2_with fail
          refine (awake_any _).mono ?_
          rintro e w8 ⟨rfl, hb8⟩
          have HB8 := Lib.hid (HB7.out.trans (hb8.mono HB7.out.size))
          clear hb8
          go_wp2
          go_ret
          exact ⟨rfl, HB8.out⟩
    · have k2 : decide (300 < n) = false := by simpa using hn2
      have hT := HT2.out (by omega) (by omega)
      have HT2 := Lib.hid hT
      clear hT HT3
      by_cases hd : d < 2
      · have b3 : decide (d < 2) = true := by simpa using hd
        obtain ⟨rfl, rfl, rfl⟩ := HS3.out (.inl hd)
        clear HS2 HS3
        go_enter Try.func7, Try.ntmps7
        go_wp2_with fail
        refine (HT1.out _).mono ?_
        rintro e w1 ⟨rfl, hb1⟩
        obtain ⟨a0, a1, a2⟩ := cell_tri w1 (.int .i64 x) (.int .i64 y) (.int .i64 z) 38
        have HB1 := Lib.hid (hb1.alloc hb1.size (.cells #[.int .i64 x, .int .i64 y, .int .i64 z] 38))
        clear hb1
        go_wp2_with fail
        refine (HS1.out _).mono ?_
        rintro e w2 ⟨rfl, hb2⟩
        have c0 := cell_later a0 hb2
        have c1 := cell_later a1 hb2
        have c2 := cell_later a2 hb2
        have HB2 := Lib.hid (HB1.out.trans (hb2.mono HB1.out.size))
        clear hb2 a0 a1 a2
        have d0 := Lib.cell?_alloc_some (.cells #[.int .i64 0, .int .i64 0] 41) c0
        have d1 := Lib.cell?_alloc_some (.cells #[.int .i64 0, .int .i64 0] 41) c1
        have d2 := Lib.cell?_alloc_some (.cells #[.int .i64 0, .int .i64 0] 41) c2
        obtain ⟨b0, b1⟩ := cell_pair w2 (.int .i64 0) (.int .i64 0) 41
        have HB3 := Lib.hid (HB2.out.alloc HB2.out.size (.cells #[.int .i64 0, .int .i64 0] 41))
        clear c0 c1 c2
        go_wp2_with fail
        refine (HT2.out _).mono ?_
        rintro e w4 ⟨rfl, hb4⟩
        have e0 := Lib.cell?_alloc_some (.cells #[.int .i64 x, .int .i64 y, .int .i64 z] 38) (cell_later d0 hb4)
        have e1 := Lib.cell?_alloc_some (.cells #[.int .i64 x, .int .i64 y, .int .i64 z] 38) (cell_later d1 hb4)
        have e2 := Lib.cell?_alloc_some (.cells #[.int .i64 x, .int .i64 y, .int .i64 z] 38) (cell_later d2 hb4)
        have f0 := Lib.cell?_alloc_some (.cells #[.int .i64 x, .int .i64 y, .int .i64 z] 38) (cell_later b0 hb4)
        have f1 := Lib.cell?_alloc_some (.cells #[.int .i64 x, .int .i64 y, .int .i64 z] 38) (cell_later b1 hb4)
        have HB4 := Lib.hid (HB3.out.trans (hb4.mono HB3.out.size))
        have HB5 := Lib.hid (HB4.out.alloc HB4.out.size (.cells #[.int .i64 x, .int .i64 y, .int .i64 z] 38))
        obtain ⟨h0, h1, h2⟩ := cell_tri w4 (.int .i64 x) (.int .i64 y) (.int .i64 z) 38
        clear hb4 d0 d1 d2 b0 b1
        obtain ⟨W5, hW5⟩ : ∃ W5, w4.alloc (.cells #[.int .i64 x, .int .i64 y, .int .i64 z] 38) = W5 := ⟨_, rfl⟩
        rw [hW5] at e0 e1 e2 f0 f1 h0 h1 h2 HB5
        obtain ⟨gc, hgc⟩ : ∃ gc, w4.heap.size = gc := ⟨_, rfl⟩
        rw [hgc] at h0 h1 h2
        go_wp2_with fail
        refine (awake_any _).mono ?_
        rintro e w8 ⟨rfl, hb8⟩
        have HB8 := Lib.hid (HB5.out.trans (hb8.mono HB5.out.size))
        clear hb8
        go_wp2
        go_ret
        exact ⟨rfl, HB8.out⟩
      · have b3 : decide (d < 2) = false := by simpa using hd
        by_cases hd2 : 100000 < d
        · have b4 : decide (100000 < d) = true := by simpa using hd2
          obtain ⟨rfl, rfl, rfl⟩ := HS3.out (.inr hd2)
          clear HS2 HS3
          go_enter Try.func7, Try.ntmps7
          go_wp2_with fail
          refine (HT1.out _).mono ?_
          rintro e w1 ⟨rfl, hb1⟩
          obtain ⟨a0, a1, a2⟩ := cell_tri w1 (.int .i64 x) (.int .i64 y) (.int .i64 z) 38
          have HB1 := Lib.hid (hb1.alloc hb1.size (.cells #[.int .i64 x, .int .i64 y, .int .i64 z] 38))
          clear hb1
          go_wp2_with fail
          refine (HS1.out _).mono ?_
          rintro e w2 ⟨rfl, hb2⟩
          have c0 := cell_later a0 hb2
          have c1 := cell_later a1 hb2
          have c2 := cell_later a2 hb2
          have HB2 := Lib.hid (HB1.out.trans (hb2.mono HB1.out.size))
          clear hb2 a0 a1 a2
          have d0 := Lib.cell?_alloc_some (.cells #[.int .i64 0, .int .i64 0] 41) c0
          have d1 := Lib.cell?_alloc_some (.cells #[.int .i64 0, .int .i64 0] 41) c1
          have d2 := Lib.cell?_alloc_some (.cells #[.int .i64 0, .int .i64 0] 41) c2
          obtain ⟨b0, b1⟩ := cell_pair w2 (.int .i64 0) (.int .i64 0) 41
          have HB3 := Lib.hid (HB2.out.alloc HB2.out.size (.cells #[.int .i64 0, .int .i64 0] 41))
          clear c0 c1 c2
          go_wp2_with fail
          refine (HT2.out _).mono ?_
          rintro e w4 ⟨rfl, hb4⟩
          have e0 := Lib.cell?_alloc_some (.cells #[.int .i64 x, .int .i64 y, .int .i64 z] 38) (cell_later d0 hb4)
          have e1 := Lib.cell?_alloc_some (.cells #[.int .i64 x, .int .i64 y, .int .i64 z] 38) (cell_later d1 hb4)
          have e2 := Lib.cell?_alloc_some (.cells #[.int .i64 x, .int .i64 y, .int .i64 z] 38) (cell_later d2 hb4)
          have f0 := Lib.cell?_alloc_some (.cells #[.int .i64 x, .int .i64 y, .int .i64 z] 38) (cell_later b0 hb4)
          have f1 := Lib.cell?_alloc_some (.cells #[.int .i64 x, .int .i64 y, .int .i64 z] 38) (cell_later b1 hb4)
          have HB4 := Lib.hid (HB3.out.trans (hb4.mono HB3.out.size))
          have HB5 := Lib.hid (HB4.out.alloc HB4.out.size (.cells #[.int .i64 x, .int .i64 y, .int .i64 z] 38))
          obtain ⟨h0, h1, h2⟩ := cell_tri w4 (.int .i64 x) (.int .i64 y) (.int .i64 z) 38
          clear hb4 d0 d1 d2 b0 b1
          obtain ⟨W5, hW5⟩ : ∃ W5, w4.alloc (.cells #[.int .i64 x, .int .i64 y, .int .i64 z] 38) = W5 := ⟨_, rfl⟩
          rw [hW5] at e0 e1 e2 f0 f1 h0 h1 h2 HB5
          obtain ⟨gc, hgc⟩ : ∃ gc, w4.heap.size = gc := ⟨_, rfl⟩
          rw [hgc] at h0 h1 h2
          go_wp2_with fail
          refine (awake_any _).mono ?_
          rintro e w8 ⟨rfl, hb8⟩
          have HB8 := Lib.hid (HB5.out.trans (hb8.mono HB5.out.size))
          clear hb8
          go_wp2
          go_ret
          exact ⟨rfl, HB8.out⟩
        · have b4 : decide (100000 < d) = false := by simpa using hd2
          have hS := HS2.out (by omega) (by omega)
          have HS2 := Lib.hid hS
          clear hS HS3
          go_enter Try.func7, Try.ntmps7
          go_wp2_with fail
          refine (HT1.out _).mono ?_
          rintro e w1 ⟨rfl, hb1⟩
          obtain ⟨a0, a1, a2⟩ := cell_tri w1 (.int .i64 x) (.int .i64 y) (.int .i64 z) 38
          have HB1 := Lib.hid (hb1.alloc hb1.size (.cells #[.int .i64 x, .int .i64 y, .int .i64 z] 38))
          clear hb1
          go_wp2_with fail
          refine (HS1.out _).mono ?_
          rintro e w2 ⟨rfl, hb2⟩
          have c0 := cell_later a0 hb2
          have c1 := cell_later a1 hb2
          have c2 := cell_later a2 hb2
          have HB2 := Lib.hid (HB1.out.trans (hb2.mono HB1.out.size))
          clear hb2 a0 a1 a2
          have d0 := Lib.cell?_alloc_some (.cells #[.int .i64 u, .int .i64 v] 41) c0
          have d1 := Lib.cell?_alloc_some (.cells #[.int .i64 u, .int .i64 v] 41) c1
          have d2 := Lib.cell?_alloc_some (.cells #[.int .i64 u, .int .i64 v] 41) c2
          obtain ⟨b0, b1⟩ := cell_pair w2 (.int .i64 u) (.int .i64 v) 41
          have HB3 := Lib.hid (HB2.out.alloc HB2.out.size (.cells #[.int .i64 u, .int .i64 v] 41))
          clear c0 c1 c2
          obtain ⟨W3, hW3⟩ : ∃ W3, w2.alloc (.cells #[.int .i64 u, .int .i64 v] 41) = W3 := ⟨_, rfl⟩
          rw [hW3] at d0 d1 d2 b0 b1 HB3
          obtain ⟨ga, hga⟩ : ∃ ga, w1.heap.size = ga := ⟨_, rfl⟩
          obtain ⟨gb, hgb⟩ : ∃ gb, w2.heap.size = gb := ⟨_, rfl⟩
          rw [hga] at d0 d1 d2
          rw [hgb] at b0 b1
          go_wp2_with fail
          refine (HT2.out _).mono ?_
          rintro e w4 ⟨rfl, hb4⟩
          clear hW3 hga hgb
          have e0 := Lib.cell?_alloc_some (.cells #[.int .i64 x, .int .i64 y, .int .i64 z] 38) (cell_later d0 hb4)
          have e1 := Lib.cell?_alloc_some (.cells #[.int .i64 x, .int .i64 y, .int .i64 z] 38) (cell_later d1 hb4)
          have e2 := Lib.cell?_alloc_some (.cells #[.int .i64 x, .int .i64 y, .int .i64 z] 38) (cell_later d2 hb4)
          have f0 := Lib.cell?_alloc_some (.cells #[.int .i64 x, .int .i64 y, .int .i64 z] 38) (cell_later b0 hb4)
          have f1 := Lib.cell?_alloc_some (.cells #[.int .i64 x, .int .i64 y, .int .i64 z] 38) (cell_later b1 hb4)
          have HB4 := Lib.hid (HB3.out.trans (hb4.mono HB3.out.size))
          have HB5 := Lib.hid (HB4.out.alloc HB4.out.size (.cells #[.int .i64 x, .int .i64 y, .int .i64 z] 38))
          obtain ⟨h0, h1, h2⟩ := cell_tri w4 (.int .i64 x) (.int .i64 y) (.int .i64 z) 38
          clear hb4 d0 d1 d2 b0 b1
          obtain ⟨W5, hW5⟩ : ∃ W5, w4.alloc (.cells #[.int .i64 x, .int .i64 y, .int .i64 z] 38) = W5 := ⟨_, rfl⟩
          rw [hW5] at e0 e1 e2 f0 f1 h0 h1 h2 HB5
          obtain ⟨gc, hgc⟩ : ∃ gc, w4.heap.size = gc := ⟨_, rfl⟩
          rw [hgc] at h0 h1 h2
          go_wp2_with fail
          refine (HS2.out _).mono ?_
          rintro e w6 ⟨rfl, hb6⟩
          clear hW5 hgc
          have i0 := Lib.cell?_alloc_some (.cells #[.int .i64 u, .int .i64 v] 41) (cell_later f0 hb6)
          have i1 := Lib.cell?_alloc_some (.cells #[.int .i64 u, .int .i64 v] 41) (cell_later f1 hb6)
          have HB6 := Lib.hid (HB5.out.trans (hb6.mono HB5.out.size))
          have HB7 := Lib.hid (HB6.out.alloc HB6.out.size (.cells #[.int .i64 u, .int .i64 v] 41))
          obtain ⟨j0, j1⟩ := cell_pair w6 (.int .i64 u) (.int .i64 v) 41
          clear hb6 f0 f1
          obtain ⟨W7, hW7⟩ : ∃ W7, w6.alloc (.cells #[.int .i64 u, .int .i64 v] 41) = W7 := ⟨_, rfl⟩
          rw [hW7] at i0 i1 j0 j1 HB7
          obtain ⟨gd, hgd⟩ : ∃ gd, w6.heap.size = gd := ⟨_, rfl⟩
          rw [hgd] at j0 j1
          go_wp2_with fail
          refine (awake_any _).mono ?_
          rintro e w8 ⟨rfl, hb8⟩
          have HB8 := Lib.hid (HB7.out.trans (hb8.mono HB7.out.size))
          clear hb8
          go_wp2
          go_ret
          exact ⟨rfl, HB8.out⟩
end Go.Proofs.Ytbdiknlbmjdpeaa
