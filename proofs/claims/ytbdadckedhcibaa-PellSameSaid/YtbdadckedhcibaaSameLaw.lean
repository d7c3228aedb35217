/- The law PellSame: its walk in every case. No condition on the arguments. -/
import Derived.Test.YtbdadckedhcibaaSame
namespace Go.Proofs.Ytbdadckedhcibaa
open Go.RowKit

set_option maxHeartbeats 1000000 in
theorem lawSame_no1 (d n x y u v : Int) (w : World) (hd : isD d = false) :
    Calls Try.prog 7 #[.int .i64 d, .int .i64 n, .agg #[.int .i64 x, .int .i64 y], .agg #[.int .i64 u, .int .i64 v]] w fun e w' => e = .returned (.bool true) ∧ Below w.heap.size w w' := by
  have HT := Lib.hid (TwoBox.start w x y u v)
  have HS := Lib.hid (show sameOK d n x y u v = false by simp [sameOK, hd])
  have HD := Lib.hid hd
  clear hd
  go_enter Try.func7, Try.ntmps7
  go_wp2_with fail
  refine (Same_no _ _ _ _ _ _ _ HS.out).mono ?_
  rintro e w1 ⟨rfl, hb1⟩
  have T1 := Lib.hid (HT.out.later hb1)
  have c10 := boxed2_c0 T1.out.2.1
  have c11 := boxed2_c1 T1.out.2.1
  have c20 := boxed2_c0 T1.out.2.2.1
  have c21 := boxed2_c1 T1.out.2.2.1
  clear hb1 HT
  go_wp2_with fail
  refine (Valid_any _ _).mono ?_
  rintro e w' ⟨rfl, rfl⟩
  rw [HD.out]
  go_wp2_with fail
  refine (awake_any _).mono ?_
  rintro e w2 ⟨rfl, hb2⟩
  have T2 := Lib.hid (T1.out.later hb2)
  clear hb2 T1
  go_wp2
  go_ret
  exact ⟨rfl, T2.out.2.2.2⟩

set_option maxHeartbeats 1000000 in
theorem lawSame_no2 (d n x y u v : Int) (w : World) (hd : isD d = true) (hn : isN n = false) :
    Calls Try.prog 7 #[.int .i64 d, .int .i64 n, .agg #[.int .i64 x, .int .i64 y], .agg #[.int .i64 u, .int .i64 v]] w fun e w' => e = .returned (.bool true) ∧ Below w.heap.size w w' := by
  have HT := Lib.hid (TwoBox.start w x y u v)
  have HS := Lib.hid (show sameOK d n x y u v = false by simp [sameOK, hn])
  have HD := Lib.hid hd
  have HN := Lib.hid hn
  clear hd hn
  go_enter Try.func7, Try.ntmps7
  go_wp2_with fail
  refine (Same_no _ _ _ _ _ _ _ HS.out).mono ?_
  rintro e w1 ⟨rfl, hb1⟩
  have T1 := Lib.hid (HT.out.later hb1)
  have c10 := boxed2_c0 T1.out.2.1
  have c11 := boxed2_c1 T1.out.2.1
  have c20 := boxed2_c0 T1.out.2.2.1
  have c21 := boxed2_c1 T1.out.2.2.1
  clear hb1 HT
  go_wp2_with fail
  refine (Valid_any _ _).mono ?_
  rintro e w' ⟨rfl, rfl⟩
  rw [HD.out]
  go_wp2_with fail
  refine (Number_any _ _).mono ?_
  rintro e w' ⟨rfl, rfl⟩
  rw [HN.out]
  go_wp2_with fail
  refine (awake_any _).mono ?_
  rintro e w2 ⟨rfl, hb2⟩
  have T2 := Lib.hid (T1.out.later hb2)
  clear hb2 T1
  go_wp2
  go_ret
  exact ⟨rfl, T2.out.2.2.2⟩

set_option maxHeartbeats 1000000 in
theorem lawSame_no3 (d n x y u v : Int) (w : World) (hd : isD d = true) (hn : isN n = true) (ha : isPair d n x y = false) :
    Calls Try.prog 7 #[.int .i64 d, .int .i64 n, .agg #[.int .i64 x, .int .i64 y], .agg #[.int .i64 u, .int .i64 v]] w fun e w' => e = .returned (.bool true) ∧ Below w.heap.size w w' := by
  have HT := Lib.hid (TwoBox.start w x y u v)
  have HS := Lib.hid (show sameOK d n x y u v = false by simp [sameOK, ha])
  have HD := Lib.hid hd
  have HN := Lib.hid hn
  have HA := Lib.hid ha
  clear hd hn ha
  go_enter Try.func7, Try.ntmps7
  go_wp2_with fail
  refine (Same_no _ _ _ _ _ _ _ HS.out).mono ?_
  rintro e w1 ⟨rfl, hb1⟩
  have T1 := Lib.hid (HT.out.later hb1)
  have c10 := boxed2_c0 T1.out.2.1
  have c11 := boxed2_c1 T1.out.2.1
  have c20 := boxed2_c0 T1.out.2.2.1
  have c21 := boxed2_c1 T1.out.2.2.1
  clear hb1 HT
  go_wp2_with fail
  refine (Valid_any _ _).mono ?_
  rintro e w' ⟨rfl, rfl⟩
  rw [HD.out]
  go_wp2_with fail
  refine (Number_any _ _).mono ?_
  rintro e w' ⟨rfl, rfl⟩
  rw [HN.out]
  go_wp2_with fail
  refine (pair_any _ _ _ _ _ HD.out).mono ?_
  rintro e w2 ⟨rfl, hb2⟩
  rw [HA.out]
  have T2 := Lib.hid (T1.out.later hb2)
  clear c10 c11 c20 c21 hb2 T1
  have c10 := boxed2_c0 T2.out.2.1
  have c11 := boxed2_c1 T2.out.2.1
  have c20 := boxed2_c0 T2.out.2.2.1
  have c21 := boxed2_c1 T2.out.2.2.1
  go_wp2_with fail
  refine (awake_any _).mono ?_
  rintro e w3 ⟨rfl, hb3⟩
  have T3 := Lib.hid (T2.out.later hb3)
  clear hb3 T2
  go_wp2
  go_ret
  exact ⟨rfl, T3.out.2.2.2⟩

set_option maxHeartbeats 1000000 in
theorem lawSame_no4 (d n x y u v : Int) (w : World) (hd : isD d = true) (hn : isN n = true) (ha : isPair d n x y = true) (hb : isPair d n u v = false) :
    Calls Try.prog 7 #[.int .i64 d, .int .i64 n, .agg #[.int .i64 x, .int .i64 y], .agg #[.int .i64 u, .int .i64 v]] w fun e w' => e = .returned (.bool true) ∧ Below w.heap.size w w' := by
  have HT := Lib.hid (TwoBox.start w x y u v)
  have HS := Lib.hid (show sameOK d n x y u v = false by simp [sameOK, hb])
  have HD := Lib.hid hd
  have HN := Lib.hid hn
  have HA := Lib.hid ha
  have HBB := Lib.hid hb
  clear hd hn ha hb
  go_enter Try.func7, Try.ntmps7
  go_wp2_with fail
  refine (Same_no _ _ _ _ _ _ _ HS.out).mono ?_
  rintro e w1 ⟨rfl, hb1⟩
  have T1 := Lib.hid (HT.out.later hb1)
  have c10 := boxed2_c0 T1.out.2.1
  have c11 := boxed2_c1 T1.out.2.1
  have c20 := boxed2_c0 T1.out.2.2.1
  have c21 := boxed2_c1 T1.out.2.2.1
  clear hb1 HT
  go_wp2_with fail
  refine (Valid_any _ _).mono ?_
  rintro e w' ⟨rfl, rfl⟩
  rw [HD.out]
  go_wp2_with fail
  refine (Number_any _ _).mono ?_
  rintro e w' ⟨rfl, rfl⟩
  rw [HN.out]
  go_wp2_with fail
  refine (pair_any _ _ _ _ _ HD.out).mono ?_
  rintro e w2 ⟨rfl, hb2⟩
  rw [HA.out]
  have T2 := Lib.hid (T1.out.later hb2)
  clear c10 c11 c20 c21 hb2 T1
  have c10 := boxed2_c0 T2.out.2.1
  have c11 := boxed2_c1 T2.out.2.1
  have c20 := boxed2_c0 T2.out.2.2.1
  have c21 := boxed2_c1 T2.out.2.2.1
  go_wp2_with fail
  refine (pair_any _ _ _ _ _ HD.out).mono ?_
  rintro e w3 ⟨rfl, hb3⟩
  rw [HBB.out]
  have T3 := Lib.hid (T2.out.later hb3)
  clear c10 c11 c20 c21 hb3 T2
  have c10 := boxed2_c0 T3.out.2.1
  have c11 := boxed2_c1 T3.out.2.1
  have c20 := boxed2_c0 T3.out.2.2.1
  have c21 := boxed2_c1 T3.out.2.2.1
  go_wp2_with fail
  refine (awake_any _).mono ?_
  rintro e w4 ⟨rfl, hb4⟩
  have T4 := Lib.hid (T3.out.later hb4)
  clear hb4 T3
  go_wp2
  go_ret
  exact ⟨rfl, T4.out.2.2.2⟩

theorem lawSame_any (d n x y u v : Int) (w : World) :
    Calls Try.prog 7 #[.int .i64 d, .int .i64 n, .agg #[.int .i64 x, .int .i64 y], .agg #[.int .i64 u, .int .i64 v]] w fun e w' => e = .returned (.bool true) ∧ Below w.heap.size w w' := by
  by_cases hd : isD d = true
  · by_cases hn : isN n = true
    · by_cases ha : isPair d n x y = true
      · by_cases hb : isPair d n u v = true
        · exact lawSame_yes d n x y u v w hd hn ha hb
        · exact lawSame_no4 d n x y u v w hd hn ha (by simpa using hb)
      · exact lawSame_no3 d n x y u v w hd hn (by simpa using ha)
    · exact lawSame_no2 d n x y u v w hd (by simpa using hn)
  · exact lawSame_no1 d n x y u v w (by simpa using hd)
end Go.Proofs.Ytbdadckedhcibaa
