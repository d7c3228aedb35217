/- The walks of the quotients, slope, turned, sum and the reference's Add. Conditions as stated in each theorem. -/
import Derived.Test.YtoepghlkjbpkfaaDoorGrp
namespace Go.Proofs.YtoepghlkjbpkfaaDoor
open Go.RowKit
attribute [local go_sem] Oper.semAt_some

theorem quot_iff {P x y : Int} (h : isM P = true) (hy : ¬ P ∣ y) (z : Int) (hz : 0 ≤ z ∧ z < P) : (z * y - x) % P = 0 ↔ z = qF x y P := by
  constructor
  · intro e
    exact qF_uniq h hy hz (Int.dvd_of_emod_eq_zero e)
  · rintro rfl
    exact Int.emod_eq_zero_of_dvd (qF_ok h hy).2

set_option maxHeartbeats 2000000 in
theorem quotient_any (x y P : Int) (h : isM P = true) (hy : ¬ P ∣ y) (hx1 : -100000 ≤ x ∧ x ≤ 100000) (hy1 : -1000 ≤ y ∧ y ≤ 1000) (w : World) :
    Calls Tryd.prog 91 #[.int .i64 x, .int .i64 y, .int .i64 P] w fun e w' => e = .returned (.int .i64 (qF x y P)) ∧ w' = w := by
  have hP := isM_le h
  have hq := (qF_ok (x := x) h hy).1
  have HQ := Lib.hid (fun z hz => quot_iff (x := x) h hy z hz)
  obtain ⟨Z, hZ⟩ := Int.eq_ofNat_of_zero_le hq.1
  rw [hZ] at hq HQ ⊢
  have hne : ¬ P = 0 := by omega
  clear h hy hZ
  go_enter Tryd.func91, Tryd.ntmps91
  go_wp2
  go_loopg [7] Z (fun gk s7 wr => ∃ z : Nat, z + gk = Z ∧ s7 = .int .i64 (z : Int) ∧ wr = w)
  case atStart => exact ⟨0, by omega, rfl, rfl⟩
  case round =>
    obtain ⟨z, hk, rfl, rfl⟩ := hrel
    have HK := Lib.hid hk
    have hzz : (z : Int) * y ≤ 31000 ∧ -31000 ≤ (z : Int) * y := by
      have h1 := Int.mul_le_mul_of_nonneg_left hy1.2 (show 0 ≤ (z : Int) by omega)
      have h2 := Int.mul_le_mul_of_nonneg_left hy1.1 (show 0 ≤ (z : Int) by omega)
      omega
    obtain ⟨z0, z1⟩ := hzz
    have ht := tmod_zero ((z : Int) * y - x) P
    have hw : wrap64 ((z : Int) * y) = (z : Int) * y := IntWalk.wrap64_in _ (by omega)
    have hw2 : wrap64 ((z : Int) * y - x) = (z : Int) * y - x := IntWalk.wrap64_in _ (by omega)
    by_cases hlt : z = Z
    · subst hlt
      rw [decide_eq_true ((HQ.out (z : Int) (by omega)).2 rfl)] at ht
      have ht2 : (((z : Int) * y - x).tmod P != 0) = false := by simp only [bne, ht]; rfl
      clear hk
      go_wp2
      go_ret
      exact ⟨rfl, rfl⟩
    · rw [decide_eq_false (fun e => hlt (by have := (HQ.out (z : Int) (by omega)).1 e; omega))] at ht
      have ht2 : (((z : Int) * y - x).tmod P != 0) = true := by simp only [bne, ht]; rfl
      have hzl : z < Z := by omega
      clear hlt hk
      go_wp2
      go_roundg (gk - 1)
      case rel => exact ⟨z + 1, by have := HK.out; omega, by go_num, rfl⟩
      case measure => have := HK.out; omega

set_option maxHeartbeats 2000000 in
theorem quotientR_any (x y P : Int) (h : isM P = true) (hy : ¬ P ∣ y) (hx1 : -100000 ≤ x ∧ x ≤ 100000) (hy1 : -1000 ≤ y ∧ y ≤ 1000) (w : World) :
    Calls Tryd.prog 66 #[.int .i64 x, .int .i64 y, .int .i64 P] w fun e w' => e = .returned (.int .i64 (qF x y P)) ∧ w' = w := by
  have hP := isM_le h
  have hq := (qF_ok (x := x) h hy).1
  have HQ := Lib.hid (fun z hz => quot_iff (x := x) h hy z hz)
  obtain ⟨Z, hZ⟩ := Int.eq_ofNat_of_zero_le hq.1
  rw [hZ] at hq HQ ⊢
  have HM := Lib.hid (fun n W => mod_any n P (by omega) (by omega) W)
  have hne : ¬ P = 0 := by omega
  clear h hy hZ
  go_enter Tryd.func66, Tryd.ntmps66
  go_wp2
  go_loopg [7, 9] Z (fun gk s7 s9 wr => ∃ z : Nat, z + gk = Z ∧ s9 = .int .i64 (z : Int) ∧ wr = w)
  case atStart => exact ⟨0, by omega, rfl, rfl⟩
  case round =>
    obtain ⟨z, hk, rfl, rfl⟩ := hrel
    have HK := Lib.hid hk
    have hzz : y * (z : Int) ≤ 31000 ∧ -31000 ≤ y * (z : Int) := by
      rw [Int.mul_comm]
      have h1 := Int.mul_le_mul_of_nonneg_left hy1.2 (show 0 ≤ (z : Int) by omega)
      have h2 := Int.mul_le_mul_of_nonneg_left hy1.1 (show 0 ≤ (z : Int) by omega)
      omega
    obtain ⟨z0, z1⟩ := hzz
    have l1 : (z : Int) < P := by omega
    have hw : wrap64 (y * (z : Int)) = y * (z : Int) := IntWalk.wrap64_in _ (by omega)
    have hw2 : wrap64 (y * (z : Int) - x) = y * (z : Int) - x := IntWalk.wrap64_in _ (by omega)
    have HX := Lib.hid (fun W => HM.out (y * (z : Int) - x) W)
    have hqq := HQ.out (z : Int) (by omega)
    rw [Int.mul_comm (z : Int) y] at hqq
    obtain ⟨t, ht⟩ : ∃ t, (y * (z : Int) - x) % P = t := ⟨_, rfl⟩
    rw [ht] at HX hqq
    by_cases hlt : z = Z
    · subst hlt
      have h0 := hqq.2 rfl
      subst h0
      clear hk hqq ht
      go_wp2_with fail
      refine (HX.out _).mono ?_
      rintro e w1 ⟨rfl, rfl⟩
      go_wp2
      go_ret
      exact ⟨rfl, rfl⟩
    · have h0 : (t == 0) = false := by
        refine beq_eq_false_iff_ne.2 fun e => hlt ?_
        have := hqq.1 e
        omega
      have hzl : z < Z := by omega
      clear hlt hk hqq ht
      go_wp2_with fail
      refine (HX.out _).mono ?_
      rintro e w1 ⟨rfl, rfl⟩
      go_wp2
      go_roundg (gk - 1)
      case rel => exact ⟨z + 1, by have := HK.out; omega, by go_num, rfl⟩
      case measure => have := HK.out; omega

theorem below3 (w : World) (o o' o'' : Obj) : Below w.heap.size w (((w.alloc o).alloc o').alloc o'') := (below2 w o o').alloc (by simp; omega) o''
theorem below4 (w : World) (a b c d : Obj) : Below w.heap.size w ((((w.alloc a).alloc b).alloc c).alloc d) := (below3 w a b c).alloc (by simp; omega) d
theorem nx_in {P x y A : Int} (hx : 0 ≤ x ∧ x ≤ 31) (hA : 0 ≤ A ∧ A ≤ 31) : (0 ≤ 3 * x ∧ 3 * x ≤ 93) ∧ (0 ≤ 3 * x * x ∧ 3 * x * x ≤ 2883) := by
  have := mul_in (a := 3 * x) (b := x) 93 31 (by omega) (by omega) hx.1 hx.2
  omega

set_option maxHeartbeats 4000000 in
theorem slope_any (P A B : Int) (q r : Pt) (h : isM P = true) (hA : 0 ≤ A ∧ A ≤ 31) (hq : 0 ≤ q.x ∧ q.x < P ∧ 0 ≤ q.y ∧ q.y < P) (hr : 0 ≤ r.x ∧ r.x < P ∧ 0 ≤ r.y ∧ r.y < P)
    (hn : (q = r → ¬ P ∣ 2 * q.y) ∧ (q ≠ r → ¬ P ∣ q.x - r.x)) (w : World) :
    Calls Tryd.prog 83 #[.agg #[.int .i64 P, .int .i64 A, .int .i64 B], .agg #[.int .i64 q.x, .int .i64 q.y, .bool q.f], .agg #[.int .i64 r.x, .int .i64 r.y, .bool r.f]] w fun e w' => e = .returned (.int .i64 (slopeP P A q r)) ∧ Below w.heap.size w w' := by
  have hP := isM_le h
  have HB := Lib.hid (below3 w (.cells #[.int .i64 P, .int .i64 A, .int .i64 B] 30) (.cells #[.int .i64 q.x, .int .i64 q.y, .bool q.f] 34) (.cells #[.int .i64 r.x, .int .i64 r.y, .bool r.f] 34))
  have heq := fun W => eql34 W q r
  unfold slopeP
  by_cases he : q = r
  · have HQ := Lib.hid (fun W => quotient_any (3 * q.x * q.x + A) (2 * q.y) P h (hn.1 he) (by have := nx_in (P := P) (y := 0) (x := q.x) (A := A) (by omega) hA; omega) (by omega) W)
    obtain ⟨⟨a0, a1⟩, ⟨b0, b1⟩⟩ := nx_in (P := P) (y := 0) (x := q.x) (A := A) (by omega) hA
    rw [if_pos he]
    rw [decide_eq_true he] at heq
    clear he hn
    obtain ⟨q0, q1, q2, q3⟩ := hq
    obtain ⟨A0, A1⟩ := hA
    go_enter Tryd.func83, Tryd.ntmps83
    go_wp2_with fail
    refine (HQ.out _).mono ?_
    rintro e w1 ⟨rfl, rfl⟩
    go_wp2
    go_ret
    exact ⟨rfl, HB.out⟩
  · have HQ := Lib.hid (fun W => quotient_any (q.y - r.y) (q.x - r.x) P h (hn.2 he) (by omega) (by omega) W)
    rw [if_neg he]
    rw [decide_eq_false he] at heq
    clear he hn
    obtain ⟨q0, q1, q2, q3⟩ := hq
    obtain ⟨r0, r1, r2, r3⟩ := hr
    go_enter Tryd.func83, Tryd.ntmps83
    go_wp2_with fail
    refine (HQ.out _).mono ?_
    rintro e w1 ⟨rfl, rfl⟩
    go_wp2
    go_ret
    exact ⟨rfl, HB.out⟩

set_option maxHeartbeats 4000000 in
theorem turned_any (P A B : Int) (q : Pt) (h : isM P = true) (hq : 0 ≤ q.x ∧ q.x < P ∧ 0 ≤ q.y ∧ q.y < P) (w : World) :
    Calls Tryd.prog 82 #[.agg #[.int .i64 P, .int .i64 A, .int .i64 B], .agg #[.int .i64 q.x, .int .i64 q.y, .bool q.f]] w fun e w' => e = .returned (.agg #[.int .i64 q.x, .int .i64 ((-q.y) % P), .bool false]) ∧ Below w.heap.size w w' := by
  have hP := isM_le h
  have HR := Lib.hid (fun W => rest_any (-q.y) P (by omega) (by omega) W)
  have HB := Lib.hid (below3 w (.cells #[.int .i64 P, .int .i64 A, .int .i64 B] 30) (.cells #[.int .i64 q.x, .int .i64 q.y, .bool q.f] 34) (.cells #[.int .i64 q.x, .int .i64 ((-q.y) % P), .bool false] 34))
  obtain ⟨Y, hY⟩ : ∃ Y, (-q.y) % P = Y := ⟨_, rfl⟩
  rw [hY] at HR HB ⊢
  obtain ⟨q0, q1, q2, q3⟩ := hq
  have hww : IntKind.i64.wrap (-q.y) = -q.y := IntWalk.i64_in _ (by omega)
  clear hY h
  go_enter Tryd.func82, Tryd.ntmps82
  go_wp2
  go_region_with (first
      | (go_at_call 84; refine (HR.out _).mono ?_; rintro e wx ⟨rfl, rfl⟩))
  all_goals
    go_wp2
    exact bodyPost_ret (v := .agg #[.int .i64 q.x, .int .i64 Y, .bool false]) (by simp [results, Tryd.results82, go_sem]) rfl ⟨rfl, Below.drew HB.out⟩
end Go.Proofs.YtoepghlkjbpkfaaDoor
