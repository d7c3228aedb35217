/- The walks of gherkinref01.Unit and Right for a D, and of the laws PellUnits and PellExpands in every case. No condition on the laws' arguments. -/
import Derived.Test.YtbdadckedhcibaaRef
namespace Go.Proofs.Ytbdadckedhcibaa
open Go.RowKit

set_option maxRecDepth 100000 in
set_option maxHeartbeats 2000000 in
theorem refUnit_yes (d : Int) (hd : isD d = true) (w : World) :
    Calls Try.prog 23 #[.int .i64 d] w fun e w' => e = .returned (.tuple #[.int .i64 (uX d), .int .i64 (uY d), .int .i64 (uN d)]) ∧ Below w.heap.size w w' := by
  obtain ⟨ua, ub, -, uc⟩ := u_all hd
  have hd2 := isD_bd hd
  have HD := Lib.hid hd
  have HUC := Lib.hid uc
  clear hd uc
  go_enter Try.func23, Try.ntmps23
  go_wp2_with fail
  go_loopg [5] (uK d) (fun gk k wr => ∃ j : Nat, j + gk = uK d ∧ k = .int .i64 (j : Int) ∧ Below w.heap.size w wr)
  case atStart => exact ⟨0, by omega, rfl, Below.refl _ _⟩
  case round =>
    obtain ⟨j, hj, rfl, hb⟩ := hrel
    obtain ⟨f1, f2, f3, f4, f5, f6, f7⟩ := u_facts HD.out (k := j) (by omega)
    have s0 : 0 ≤ cvP d (j + 1) * cvP d (j + 1) := sq_nonneg _
    have s1 : 0 ≤ d * cvQ d (j + 1) := Int.mul_nonneg (by omega) (by omega)
    have s2 : 0 ≤ d * cvQ d (j + 1) * cvQ d (j + 1) := Int.mul_nonneg s1 (by omega)
    have en : cvP d (j + 1) * cvP d (j + 1) - d * cvQ d (j + 1) * cvQ d (j + 1) = nrm d j := rfl
    have hcv := refConvergent_yes d HD.out j (by omega) wr
    rw [show cvt d j = (cvP d (j + 1), cvQ d (j + 1), 0) by unfold cvt; rw [if_pos (by omega)]] at hcv
    have HCV := Lib.hid hcv
    have HB := Lib.hid hb
    clear hcv hb
    by_cases hju : j = uK d
    · have h12 : nrm d j = 1 ∨ nrm d j = -1 := by rw [hju]; exact HUC.out
      have HJ := Lib.hid hju
      clear hju
      rcases h12 with h | h
      · have b1 : (nrm d j == 1) = true := by simp [h]
        clear h
        go_wp2_with fail
        refine HCV.out.mono ?_
        rintro e w1 ⟨rfl, hb1⟩
        go_wp2
        go_ret3
        refine ⟨?_, HB.out.trans (hb1.mono HB.out.size)⟩
        rw [HJ.out]; rfl
      · have b1 : (nrm d j == 1) = false := by simp [h]
        have b2 : (nrm d j == -1) = true := by simp [h]
        clear h
        go_wp2_with fail
        refine HCV.out.mono ?_
        rintro e w1 ⟨rfl, hb1⟩
        go_wp2
        go_ret3
        refine ⟨?_, HB.out.trans (hb1.mono HB.out.size)⟩
        rw [HJ.out]; rfl
    · obtain ⟨n1, n2⟩ := u_not HD.out (k := j) (by omega)
      have b1 : (nrm d j == 1) = false := by simp [n1]
      have b2 : (nrm d j == -1) = false := by simp [n2]
      clear n1 n2
      go_wp2_with fail
      refine HCV.out.mono ?_
      rintro e w1 ⟨rfl, hb1⟩
      have HB1 := Lib.hid (HB.out.trans (hb1.mono HB.out.size))
      clear hb1
      go_wp2
      go_roundg (gk - 1)
      case rel => exact ⟨j + 1, by omega, by go_num, HB1.out⟩
      case measure => omega

set_option maxHeartbeats 400000 in
theorem refRight_yes (d : Int) (hd : isD d = true) (w : World) :
    Calls Try.prog 24 #[.int .i64 d] w fun e w' => e = .returned (.tuple #[.int .i64 (rtX d), .int .i64 (rtY d)]) ∧ Below w.heap.size w w' := by
  have hd2 := isD_bd hd
  obtain ⟨f1, f2, f3, f4, f5, f6, f7⟩ := uU hd
  have s0 : 0 ≤ uX d * uX d := sq_nonneg _
  have s1 : 0 ≤ d * uY d := Int.mul_nonneg (by omega) (by omega)
  have s2 : 0 ≤ d * uY d * uY d := Int.mul_nonneg s1 (by omega)
  have s3 : 0 ≤ 2 * uX d * uY d := Int.mul_nonneg (by omega) (by omega)
  have s4 : 2 * uX d * uY d ≤ 6000000 * 300000 := Int.mul_le_mul (by omega) (by omega) (by omega) (by omega)
  by_cases hn : uN d = 1
  · have b1 : (uN d == 1) = true := by simp [hn]
    have ex : rtX d = uX d := if_pos hn
    have ey : rtY d = uY d := if_pos hn
    rw [ex, ey]
    clear hn ex ey
    go_enter Try.func24, Try.ntmps24
    go_wp2_with (go_at_call 23; refine (refUnit_yes _ hd _).mono ?_; rintro e w' ⟨rfl, hb⟩)
    go_ret2
    exact ⟨rfl, hb⟩
  · have b1 : (uN d == 1) = false := by simp [hn]
    have ex : rtX d = uX d * uX d + d * uY d * uY d := if_neg hn
    have ey : rtY d = 2 * uX d * uY d := if_neg hn
    rw [ex, ey]
    clear hn ex ey
    go_enter Try.func24, Try.ntmps24
    go_wp2_with (go_at_call 23; refine (refUnit_yes _ hd _).mono ?_; rintro e w' ⟨rfl, hb⟩)
    go_ret2
    exact ⟨rfl, hb⟩

set_option maxRecDepth 100000 in
set_option maxHeartbeats 1000000 in
theorem lawUnits_yes (d : Int) (hd : isD d = true) (w : World) :
    Calls Try.prog 4 #[.int .i64 d] w fun e w' => e = .returned (.bool true) ∧ Below w.heap.size w w' := by
  have HD := Lib.hid hd
  clear hd
  go_enter Try.func4, Try.ntmps4
  go_wp2_with fail
  refine (Unit_yes _ HD.out _).mono ?_
  rintro e w1 ⟨rfl, hb1⟩
  have B1 := Lib.hid hb1
  clear hb1
  go_wp2_with fail
  refine (Right_yes _ HD.out _).mono ?_
  rintro e w2 ⟨rfl, hb2⟩
  have B2 := Lib.hid (B1.out.trans (hb2.mono B1.out.size))
  clear hb2 B1
  go_wp2_with fail
  refine (Valid_any _ _).mono ?_
  rintro e w' ⟨rfl, rfl⟩
  rw [HD.out]
  go_wp2_with fail
  refine (refUnit_yes _ HD.out _).mono ?_
  rintro e w3 ⟨rfl, hb3⟩
  have B3 := Lib.hid (B2.out.trans (hb3.mono B2.out.size))
  clear hb3 B2
  go_wp2_with fail
  refine (refRight_yes _ HD.out _).mono ?_
  rintro e w4 ⟨rfl, hb4⟩
  have B4 := Lib.hid (B3.out.trans (hb4.mono B3.out.size))
  clear hb4 B3
  go_wp2_with fail
  refine (awake_any _).mono ?_
  rintro e w5 ⟨rfl, hb5⟩
  have B5 := Lib.hid (B4.out.trans (hb5.mono B4.out.size))
  clear hb5 B4
  go_wp2
  go_ret
  exact ⟨rfl, B5.out⟩

set_option maxRecDepth 100000 in
set_option maxHeartbeats 1000000 in
theorem lawUnits_no (d : Int) (hd : isD d = false) (w : World) :
    Calls Try.prog 4 #[.int .i64 d] w fun e w' => e = .returned (.bool true) ∧ Below w.heap.size w w' := by
  have HD := Lib.hid hd
  clear hd
  go_enter Try.func4, Try.ntmps4
  go_wp2_with fail
  refine (Unit_no _ HD.out _).mono ?_
  rintro e w' ⟨rfl, rfl⟩
  go_wp2_with fail
  refine (Right_no _ HD.out _).mono ?_
  rintro e w' ⟨rfl, rfl⟩
  go_wp2_with fail
  refine (Valid_any _ _).mono ?_
  rintro e w' ⟨rfl, rfl⟩
  rw [HD.out]
  go_wp2_with fail
  refine (awake_any _).mono ?_
  rintro e w' ⟨rfl, hb⟩
  go_wp2
  go_ret
  exact ⟨rfl, hb⟩

theorem lawUnits_any (d : Int) (w : World) :
    Calls Try.prog 4 #[.int .i64 d] w fun e w' => e = .returned (.bool true) ∧ Below w.heap.size w w' := by
  by_cases hd : isD d = true
  · exact lawUnits_yes d hd w
  · exact lawUnits_no d (by simpa using hd) w
end Go.Proofs.Ytbdadckedhcibaa
