/- The walks of root and least and of the reference's Root and Least. Conditions as stated in each theorem. -/
import Derived.Test.YtopfcppmbkidgaaSym
import Derived.Test.YtopfcppmbkidgaaEC
namespace Go.Proofs.Ytopfcppmbkidgaa
open Go.RowKit
attribute [local go_sem] Oper.semAt_some

theorem tmod_zero (z p : Int) : z.tmod p = 0 ↔ p ∣ z := ⟨Int.dvd_of_tmod_eq_zero, Int.tmod_eq_zero_of_dvd⟩
theorem root_fact {x a p : Nat} (ha : a < p) : ((x : Int) * x - a).tmod p = 0 ↔ x * x % p = a := by
  rw [tmod_zero]
  constructor
  · intro h
    rw [← Int.natCast_mul] at h
    rw [dvd_mod_eq h, Nat.mod_eq_of_lt ha]
  · intro h
    have := mod_eq_dvd (p := p) (a := x * x) (b := a) (by rw [h, Nat.mod_eq_of_lt ha])
    rwa [Int.natCast_mul] at this

set_option maxHeartbeats 1000000 in
theorem root_hit (a p r : Nat) (hp : p ≤ 10000) (ha : a < p) (hr : r < p) (hP : r * r % p = a) (hF : ∀ j, j < r → j * j % p ≠ a) (w : World) :
    Calls Try.prog 80 #[.int .i64 (a : Int), .int .i64 (p : Int)] w fun e w' => e = .returned (.tuple #[.int .i64 (r : Int), .bool true]) ∧ w' = w := by
  have HP := Lib.hid hP
  have HF := Lib.hid hF
  have pne : ¬ (p : Int) = 0 := by omega
  clear hP hF
  go_enter Try.func80, Try.ntmps80
  go_wp2
  go_loopg [8] r (fun gk s8 wr => ∃ x : Nat, x + gk = r ∧ s8 = .int .i64 (x : Int) ∧ wr = w)
  case atStart => exact ⟨0, by omega, rfl, rfl⟩
  case round =>
    obtain ⟨x, hx, rfl, rfl⟩ := hrel
    have HX := Lib.hid hx
    have l1 : (x : Int) < (p : Int) := by omega
    have q0 : 0 ≤ (x : Int) * x := Int.mul_nonneg (by omega) (by omega)
    have q1 : (x : Int) * x ≤ 100000000 := by have := Int.mul_le_mul (show (x : Int) ≤ 10000 by omega) (show (x : Int) ≤ 10000 by omega) (by omega) (by decide); omega
    have hw : wrap64 ((x : Int) * x) = (x : Int) * x := IntWalk.wrap64_in _ (by omega)
    have b2 : (x : Int) ≤ 10000 := by omega
    have hw2 : wrap64 ((x : Int) * x - a) = (x : Int) * x - a := IntWalk.wrap64_in _ (by omega)
    by_cases he : x = r
    · have hz := (root_fact (x := x) ha).2 (by rw [he]; exact HP.out)
      have HE := Lib.hid he
      clear hx he
      go_wp2
      go_ret2
      exact ⟨by rw [← HE.out]; rfl, rfl⟩
    · have hz := beq_eq_false_iff_ne.2 (fun h => HF.out x (by omega) ((root_fact (x := x) ha).1 h))
      have HXL := Lib.hid (show x < r by omega)
      clear hx he
      go_wp2
      go_roundg (gk - 1)
      case rel => exact ⟨x + 1, by have := HX.out; have := HXL.out; omega, by go_num, rfl⟩
      case measure => have := HX.out; have := HXL.out; omega
set_option maxHeartbeats 1000000 in
theorem root_miss (a p : Nat) (hp : p ≤ 10000) (ha : a < p) (hF : ∀ j, j < p → j * j % p ≠ a) (w : World) :
    Calls Try.prog 80 #[.int .i64 (a : Int), .int .i64 (p : Int)] w fun e w' => e = .returned (.tuple #[.int .i64 0, .bool false]) ∧ w' = w := by
  have HF := Lib.hid hF
  have pne : ¬ (p : Int) = 0 := by omega
  clear hF
  go_enter Try.func80, Try.ntmps80
  go_wp2
  go_loopg [8] p (fun gk s8 wr => ∃ x : Nat, x + gk = p ∧ s8 = .int .i64 (x : Int) ∧ wr = w)
  case atStart => exact ⟨0, by omega, rfl, rfl⟩
  case round =>
    obtain ⟨x, hx, rfl, rfl⟩ := hrel
    have HX := Lib.hid hx
    have q0 : 0 ≤ (x : Int) * x := Int.mul_nonneg (by omega) (by omega)
    have q1 : (x : Int) * x ≤ 100000000 := by have := Int.mul_le_mul (show (x : Int) ≤ 10000 by omega) (show (x : Int) ≤ 10000 by omega) (by omega) (by decide); omega
    have hw : wrap64 ((x : Int) * x) = (x : Int) * x := IntWalk.wrap64_in _ (by omega)
    have b2 : (x : Int) ≤ 10000 := by omega
    have hw2 : wrap64 ((x : Int) * x - a) = (x : Int) * x - a := IntWalk.wrap64_in _ (by omega)
    by_cases hxp : x < p
    · have l1 : (x : Int) < (p : Int) := by omega
      have hz := beq_eq_false_iff_ne.2 (fun h => HF.out x hxp ((root_fact (x := x) ha).1 h))
      clear hx
      go_wp2
      go_roundg (gk - 1)
      case rel => exact ⟨x + 1, by have := HX.out; omega, by go_num, rfl⟩
      case measure => have := HX.out; omega
    · have l1 : decide ((x : Int) < (p : Int)) = false := decide_eq_false (by omega)
      clear hx
      go_wp2
      go_ret2
      exact ⟨rfl, rfl⟩
set_option maxHeartbeats 1000000 in
theorem rootR_hit (a p r : Nat) (hp : p ≤ 10000) (ha : a < p) (hr : r < p) (hP : r * r % p = a) (hF : ∀ j, j < r → j * j % p ≠ a) (w : World) :
    Calls Try.prog 54 #[.int .i64 (a : Int), .int .i64 (p : Int)] w fun e w' => e = .returned (.tuple #[.int .i64 (r : Int), .int .i64 0]) ∧ w' = w := by
  have HP := Lib.hid hP
  have HF := Lib.hid hF
  have pne : ¬ (p : Int) = 0 := by omega
  clear hP hF
  go_enter Try.func54, Try.ntmps54
  go_wp2
  go_loopg [8] r (fun gk s8 wr => ∃ x : Nat, x + gk = r ∧ s8 = .int .i64 (x : Int) ∧ wr = w)
  case atStart => exact ⟨0, by omega, rfl, rfl⟩
  case round =>
    obtain ⟨x, hx, rfl, rfl⟩ := hrel
    have HX := Lib.hid hx
    have l1 : (x : Int) < (p : Int) := by omega
    have q0 : 0 ≤ (x : Int) * x := Int.mul_nonneg (by omega) (by omega)
    have q1 : (x : Int) * x ≤ 100000000 := by have := Int.mul_le_mul (show (x : Int) ≤ 10000 by omega) (show (x : Int) ≤ 10000 by omega) (by omega) (by decide); omega
    have hw : wrap64 ((x : Int) * x) = (x : Int) * x := IntWalk.wrap64_in _ (by omega)
    have b2 : (x : Int) ≤ 10000 := by omega
    have HEM := Lib.hid (show (x : Int) * x % p = ((x * x % p : Nat) : Int) by rw [Int.natCast_emod, Int.natCast_mul])
    by_cases he : x = r
    · have hz := (show (x : Int) * x % p = (a : Int) by rw [HEM.out, he, HP.out])
      have HE := Lib.hid he
      clear hx he
      go_wp2
      go_ret2
      exact ⟨by rw [← HE.out]; rfl, rfl⟩
    · have hz := beq_eq_false_iff_ne.2 (show (x : Int) * x % p ≠ (a : Int) from fun h => HF.out x (by omega) (by rw [HEM.out] at h; omega))
      have HXL := Lib.hid (show x < r by omega)
      clear hx he
      go_wp2
      go_roundg (gk - 1)
      case rel => exact ⟨x + 1, by have := HX.out; have := HXL.out; omega, by go_num, rfl⟩
      case measure => have := HX.out; have := HXL.out; omega
set_option maxHeartbeats 1000000 in
theorem rootR_miss (a p : Nat) (hp : p ≤ 10000) (ha : a < p) (hF : ∀ j, j < p → j * j % p ≠ a) (w : World) :
    Calls Try.prog 54 #[.int .i64 (a : Int), .int .i64 (p : Int)] w fun e w' => e = .returned (.tuple #[.int .i64 0, .int .i64 4]) ∧ w' = w := by
  have HF := Lib.hid hF
  have pne : ¬ (p : Int) = 0 := by omega
  clear hF
  go_enter Try.func54, Try.ntmps54
  go_wp2
  go_loopg [8] p (fun gk s8 wr => ∃ x : Nat, x + gk = p ∧ s8 = .int .i64 (x : Int) ∧ wr = w)
  case atStart => exact ⟨0, by omega, rfl, rfl⟩
  case round =>
    obtain ⟨x, hx, rfl, rfl⟩ := hrel
    have HX := Lib.hid hx
    have q0 : 0 ≤ (x : Int) * x := Int.mul_nonneg (by omega) (by omega)
    have q1 : (x : Int) * x ≤ 100000000 := by have := Int.mul_le_mul (show (x : Int) ≤ 10000 by omega) (show (x : Int) ≤ 10000 by omega) (by omega) (by decide); omega
    have hw : wrap64 ((x : Int) * x) = (x : Int) * x := IntWalk.wrap64_in _ (by omega)
    have b2 : (x : Int) ≤ 10000 := by omega
    have HEM := Lib.hid (show (x : Int) * x % p = ((x * x % p : Nat) : Int) by rw [Int.natCast_emod, Int.natCast_mul])
    by_cases hxp : x < p
    · have l1 : (x : Int) < (p : Int) := by omega
      have hz := beq_eq_false_iff_ne.2 (show (x : Int) * x % p ≠ (a : Int) from fun h => HF.out x hxp (by rw [HEM.out] at h; omega))
      clear hx
      go_wp2
      go_roundg (gk - 1)
      case rel => exact ⟨x + 1, by have := HX.out; omega, by go_num, rfl⟩
      case measure => have := HX.out; omega
    · have l1 : decide ((x : Int) < (p : Int)) = false := decide_eq_false (by omega)
      clear hx
      go_wp2
      go_ret2
      exact ⟨rfl, rfl⟩

set_option maxHeartbeats 1000000 in
theorem least_any (p r : Nat) (hp : p ≤ 10000) (hp3 : 3 ≤ p) (ho : p % 2 = 1) (h2 : 2 ≤ r) (hr : r ≤ p) (hP : Jv (r : Int) p ≠ 1) (hF : ∀ j : Nat, 2 ≤ j → j < r → Jv (j : Int) p = 1) (w : World) :
    Calls Try.prog 81 #[.int .i64 (p : Int)] w fun e w' => e = .returned (.int .i64 (r : Int)) ∧ Below w.heap.size w w' := by
  have HP := Lib.hid hP
  have HF := Lib.hid hF
  have HB := Lib.hid (Below.refl w.heap.size w)
  have HS := Lib.hid (fun (x : Nat) (hx : x ≤ r) (W : World) => symbol_any (x : Int) (p : Int) ⟨by omega, by omega, by omega, by omega, by omega⟩ W)
  clear hP hF
  go_enter Try.func81, Try.ntmps81
  go_wp2
  go_loopg [3] (r - 2) (fun gk s3 wr => ∃ x : Nat, 2 ≤ x ∧ x + gk = r ∧ s3 = .int .i64 (x : Int) ∧ Below w.heap.size w wr)
  case atStart => exact ⟨2, by omega, by omega, rfl, HB.out⟩
  case round =>
    obtain ⟨x, hx2, hx, rfl, hb⟩ := hrel
    have HX := Lib.hid (And.intro hx2 hx)
    have HC := Lib.hid (HS.out x (by omega) wr)
    have HBB := Lib.hid hb
    have b2 : (x : Int) ≤ 10000 := by omega
    have hsz := hb.size
    have HSZ := Lib.hid hsz
    clear hb hsz
    obtain ⟨v, hv⟩ : ∃ v, Jv (x : Int) p = v := ⟨_, rfl⟩
    rw [hv] at HC
    have HV := Lib.hid hv
    by_cases he : x = r
    · have hz : (v == 1) = false := beq_eq_false_iff_ne.2 (by rw [← HV.out, he]; exact HP.out)
      have HE := Lib.hid he
      clear hv he
      go_wp2_with fail
      refine HC.out.mono ?_
      rintro e w1 ⟨rfl, hb1⟩
      have H1 := Lib.hid (HBB.out.trans (hb1.mono HSZ.out))
      clear hb1
      go_wp2
      go_ret
      exact ⟨ret_int (by rw [HE.out]), H1.out⟩
    · have hz : v = 1 := by rw [← HV.out]; exact HF.out x hx2 (by omega)
      subst hz
      have HXL := Lib.hid (show x < r by omega)
      clear hv he
      go_wp2_with fail
      refine HC.out.mono ?_
      rintro e w1 ⟨rfl, hb1⟩
      have H1 := Lib.hid (HBB.out.trans (hb1.mono HSZ.out))
      clear hb1
      go_wp2
      go_roundg (gk - 1)
      case rel => exact ⟨x + 1, by omega, by have := HX.out; have := HXL.out; omega, by go_num, H1.out⟩
      case measure => have := HX.out; have := HXL.out; omega

set_option maxHeartbeats 1000000 in
theorem leastR_any (p r : Nat) (hp : p ≤ 10000) (h2 : 2 ≤ r) (hr : r < p) (hP : ∀ z, z < p → z * z % p ≠ r) (hF : ∀ j : Nat, 2 ≤ j → j < r → ∃ z, z < p ∧ z * z % p = j ∧ ∀ y, y < z → y * y % p ≠ j) (w : World) :
    Calls Try.prog 53 #[.int .i64 (p : Int)] w fun e w' => e = .returned (.int .i64 (r : Int)) ∧ w' = w := by
  have HP := Lib.hid (fun W => rootR_miss r p hp hr hP W)
  have HF := Lib.hid hF
  have HH := Lib.hid (fun (x z : Nat) (hx : x < p) (hz : z < p) (h1 : z * z % p = x) (h2 : ∀ y, y < z → y * y % p ≠ x) (W : World) => rootR_hit x p z hp hx hz h1 h2 W)
  have pne : ¬ (p : Int) = 0 := by omega
  clear hP hF
  go_enter Try.func53, Try.ntmps53
  go_wp2
  go_loopg [3] (r - 2) (fun gk s3 wr => ∃ x : Nat, 2 ≤ x ∧ x + gk = r ∧ s3 = .int .i64 (x : Int) ∧ wr = w)
  case atStart => exact ⟨2, by omega, by omega, rfl, rfl⟩
  case round =>
    obtain ⟨x, hx2, hx, rfl, rfl⟩ := hrel
    have HX := Lib.hid (And.intro hx2 hx)
    have b2 : (x : Int) ≤ 10000 := by omega
    have em : (x : Int) % (p : Int) = (x : Int) := Int.emod_eq_of_lt (by omega) (by omega)
    by_cases he : x = r
    · have HC := HP
      rw [← he] at HC
      have HE := Lib.hid he
      clear he
      go_wp2_with (go_at_call 54; first | (rw [em]; refine (HC.out _).mono ?_; rintro e w' ⟨rfl, rfl⟩) | (refine (HC.out _).mono ?_; rintro e w' ⟨rfl, rfl⟩))
      go_ret
      exact ⟨ret_int (by rw [HE.out]), rfl⟩
    · obtain ⟨z, z1, z2, z3⟩ := HF.out x hx2 (by omega)
      have HC := Lib.hid (fun W => HH.out x z (by omega) z1 z2 z3 W)
      have HXL := Lib.hid (show x < r by omega)
      clear he z1 z2 z3
      go_wp2_with (go_at_call 54; first | (rw [em]; refine (HC.out _).mono ?_; rintro e w' ⟨rfl, rfl⟩) | (refine (HC.out _).mono ?_; rintro e w' ⟨rfl, rfl⟩))
      go_roundg (gk - 1)
      case rel => exact ⟨x + 1, by omega, by have := HX.out; have := HXL.out; omega, by go_num, rfl⟩
      case measure => have := HX.out; have := HXL.out; omega
end Go.Proofs.Ytopfcppmbkidgaa
