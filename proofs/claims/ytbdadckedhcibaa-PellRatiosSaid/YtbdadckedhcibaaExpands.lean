/- The walk of the law PellExpands in every case. No condition on its arguments. -/
import Derived.Test.YtbdadckedhcibaaUnits
namespace Go.Proofs.Ytbdadckedhcibaa
open Go.RowKit

def cfL (d : Int) (n : Nat) : List Int := (List.range n).map fun j => cfA d j
theorem cfL_len (d : Int) (n : Nat) : (cfL d n).length = n := by simp [cfL]
theorem cfL_at (d : Int) {n j : Nat} (h : j < n) : (cfL d n).getD j 0 = cfA d j := by simp [cfL, List.getD, h]
theorem LRow.cells {d : Int} {n g : Nat} {w W : World} (h : LRow d n g w W) : ∀ j, j < (cfL d n).length → W.cell? ⟨g, 0 + j, none⟩ = some (.int .i64 ((cfL d n).getD j 0)) := fun j hj => by
  rw [cfL_len] at hj
  rw [cfL_at d hj, Nat.zero_add]
  exact h.2.2.2 j hj

set_option maxRecDepth 100000 in
set_option maxHeartbeats 1000000 in
theorem lawExpands_no (d k : Int) (hd : isD d = false) (w : World) :
    Calls Try.prog 3 #[.int .i64 d, .int .i64 k] w fun e w' => e = .returned (.bool true) ∧ Below w.heap.size w w' := by
  have HD := Lib.hid hd
  clear hd
  go_enter Try.func3, Try.ntmps3
  go_wp2_with fail
  refine (Expand_no _ HD.out _).mono ?_
  rintro e w' ⟨rfl, rfl⟩
  go_wp2_with fail
  refine (Convergent_no _ _ (.inl HD.out) _).mono ?_
  rintro e w1 ⟨rfl, hb1⟩
  have B1 := Lib.hid hb1
  clear hb1
  go_wp2_with fail
  refine (Valid_any _ _).mono ?_
  rintro e w' ⟨rfl, rfl⟩
  rw [HD.out]
  go_wp2_with fail
  refine (awake_any _).mono ?_
  rintro e w2 ⟨rfl, hb2⟩
  have B2 := Lib.hid (B1.out.trans (hb2.mono B1.out.size))
  clear hb2 B1
  go_wp2
  go_ret
  exact ⟨rfl, B2.out⟩

set_option maxRecDepth 100000 in
set_option maxHeartbeats 1000000 in
theorem lawExpands_in (d : Int) (hd : isD d = true) (K : Nat) (hK : K ≤ 20) (w : World) :
    Calls Try.prog 3 #[.int .i64 d, .int .i64 (K : Int)] w fun e w' => e = .returned (.bool true) ∧ Below w.heap.size w w' := by
  obtain ⟨pa, pb, -, -⟩ := p_all hd
  obtain ⟨n, hn⟩ : ∃ n, n = pL d + 1 := ⟨_, rfl⟩
  have hn2 : 2 ≤ n := by omega
  have hn20 : n ≤ 20 := by omega
  have HN := Lib.hid hn
  have HD := Lib.hid hd
  clear hn hd
  obtain ⟨X, hX⟩ : ∃ X, cvt d K = X := ⟨_, rfl⟩
  have HX := Lib.hid hX
  clear hX
  have k1 : decide ((K : Int) < 0) = false := by simp
  have k2 : decide (20 < (K : Int)) = false := by simp; omega
  go_enter Try.func3, Try.ntmps3
  go_wp2_with fail
  refine (Expand_row d HD.out n HN.out _).mono ?_
  rintro e w1 ⟨g, cap, rfl, hc1, hc2, hr1⟩
  unfold maxLen at hc2
  have R1 := Lib.hid hr1
  clear hr1
  go_wp2_with fail
  have hcv := Convergent_yes d HD.out K hK w1
  rw [HX.out] at hcv
  refine hcv.mono ?_
  clear hcv
  rintro e w2 ⟨rfl, hb2⟩
  have R2 := Lib.hid (R1.out.later hb2)
  clear hb2 R1
  go_wp2_with fail
  refine (Valid_any _ _).mono ?_
  rintro e w' ⟨rfl, rfl⟩
  rw [HD.out]
  go_wp2_with fail
  refine (refExpand_row d HD.out n HN.out _).mono ?_
  rintro e w3 ⟨g2, cap2, rfl, hd1, hd2, hr3⟩
  unfold maxLen at hd2
  have R3 := Lib.hid (R2.out.later hr3.2.2.1)
  have S3 := Lib.hid hr3
  clear hr3 R2
  go_wp2_with fail
  have heq := Try.slices_Equal_int g 0 n cap g2 0 n cap2 (cfL d n) (cfL d n) w3 (by rw [cfL_len]; omega) (by rw [cfL_len]; omega) (by omega) (by omega) R3.out.cells S3.out.cells
  have e1 : ((cfL d n).take n == (cfL d n).take n) = true := by simp
  rw [e1] at heq
  refine heq.mono ?_
  clear heq e1
  rintro e w4 ⟨rfl, q4, rfl⟩
  go_wp2_with fail
  refine (awake_any _).mono ?_
  rintro e w5 ⟨rfl, hb5⟩
  have R5 := Lib.hid (R3.out.later (W' := w5) ((below_drewN (Below.refl _ _) q4).trans hb5))
  clear hb5 R3 S3
  go_wp2_with fail
  have hcv := refConvergent_yes d HD.out K hK w5
  rw [HX.out] at hcv
  refine hcv.mono ?_
  clear hcv
  rintro e w6 ⟨rfl, hb6⟩
  have R6 := Lib.hid (R5.out.later hb6)
  clear hb6 R5
  go_wp2
  go_ret
  exact ⟨rfl, R6.out.2.2.1⟩

set_option maxRecDepth 100000 in
set_option maxHeartbeats 1000000 in
theorem lawExpands_out (d k : Int) (hd : isD d = true) (hk : k < 0 ∨ 20 < k) (w : World) :
    Calls Try.prog 3 #[.int .i64 d, .int .i64 k] w fun e w' => e = .returned (.bool true) ∧ Below w.heap.size w w' := by
  obtain ⟨pa, pb, -, -⟩ := p_all hd
  obtain ⟨n, hn⟩ : ∃ n, n = pL d + 1 := ⟨_, rfl⟩
  have hn2 : 2 ≤ n := by omega
  have hn20 : n ≤ 20 := by omega
  have HN := Lib.hid hn
  have HD := Lib.hid hd
  have HK := Lib.hid hk
  have hor : (decide (k < 0) || decide (20 < k)) = true := by simpa using hk
  clear hn hd hk
  go_enter Try.func3, Try.ntmps3
  go_wp2_with fail
  refine (Expand_row d HD.out n HN.out _).mono ?_
  rintro e w1 ⟨g, cap, rfl, hc1, hc2, hr1⟩
  unfold maxLen at hc2
  have R1 := Lib.hid hr1
  clear hr1
  go_wp2_with fail
  refine (Convergent_no d k (.inr HK.out) _).mono ?_
  rintro e w2 ⟨rfl, hb2⟩
  have R2 := Lib.hid (R1.out.later hb2)
  clear hb2 R1
  go_wp2_with fail
  refine (Valid_any _ _).mono ?_
  rintro e w' ⟨rfl, rfl⟩
  rw [HD.out]
  go_wp2_with fail
  refine (refExpand_row d HD.out n HN.out _).mono ?_
  rintro e w3 ⟨g2, cap2, rfl, hd1, hd2, hr3⟩
  unfold maxLen at hd2
  have R3 := Lib.hid (R2.out.later hr3.2.2.1)
  have S3 := Lib.hid hr3
  clear hr3 R2
  go_wp2_with fail
  have heq := Try.slices_Equal_int g 0 n cap g2 0 n cap2 (cfL d n) (cfL d n) w3 (by rw [cfL_len]; omega) (by rw [cfL_len]; omega) (by omega) (by omega) R3.out.cells S3.out.cells
  have e1 : ((cfL d n).take n == (cfL d n).take n) = true := by simp
  rw [e1] at heq
  refine heq.mono ?_
  clear heq e1
  rintro e w4 ⟨rfl, q4, rfl⟩
  go_wp2_with fail
  refine (awake_any _).mono ?_
  rintro e w5 ⟨rfl, hb5⟩
  have R5 := Lib.hid (R3.out.later (W' := w5) ((below_drewN (Below.refl _ _) q4).trans hb5))
  clear hb5 R3 S3
  rcases HK.out with hk | hk
  · have k1 : decide (k < 0) = true := by simpa using hk
    go_wp2
    go_ret
    exact ⟨rfl, R5.out.2.2.1⟩
  · have k1 : decide (k < 0) = false := by simp; omega
    have k2 : decide (20 < k) = true := by simpa using hk
    go_wp2
    go_ret
    exact ⟨rfl, R5.out.2.2.1⟩

theorem lawExpands_any (d k : Int) (w : World) :
    Calls Try.prog 3 #[.int .i64 d, .int .i64 k] w fun e w' => e = .returned (.bool true) ∧ Below w.heap.size w w' := by
  by_cases hd : isD d = true
  · by_cases hk : k < 0 ∨ 20 < k
    · exact lawExpands_out d k hd hk w
    · obtain ⟨K, rfl⟩ := Int.eq_ofNat_of_zero_le (show 0 ≤ k by omega)
      exact lawExpands_in d hd K (by omega) w
  · exact lawExpands_no d k (by simpa using hd) w
end Go.Proofs.Ytbdadckedhcibaa
