/- The law SumsSigns: its walk, part C. No condition beyond the cases that the names tell. -/
import Derived.Test.YtopfcppmbkidgaaSgnK
namespace Go.Proofs.Ytopfcppmbkidgaa
open Go.RowKit
attribute [local go_sem] Oper.semAt_some

set_option maxHeartbeats 4000000 in
set_option maxRecDepth 100000 in
theorem signs_cy (a n : Nat) (p q : Int) (hT : okT (a : Int) (n : Int)) (h1n : 1 < n) (hP : p ≤ 200) (hP2 : q ≤ 200) (hP3 : p = q) (w : World) :
    Calls Try.prog 7 #[.int .i64 (a : Int), .int .i64 (n : Int), .int .i64 (p : Int), .int .i64 (q : Int)] w fun e w' => e = .returned (.bool true) ∧ Below w.heap.size w w' := by
  have HA := Lib.hid (fun W => awake_any W)
  have HTO := Lib.hid (fun W => Turns_yes a n hT W)
  have ha1 : 1 ≤ a := by
    rcases Nat.eq_zero_or_pos a with e | e
    · subst e
      have := hT.2.2.2.2
      rw [Int.toNat_natCast, Int.toNat_natCast, Nat.gcd_zero_left] at this
      omega
    · exact e
  have HTR := Lib.hid (fun W => turnsR_any (n : Int) (a : Int) (by have := hT.2.1; omega) W)
  rw [trB_yes ha1 (by have := hT.2.2.2.1; omega) (by have := hT.2.2.2.2; rwa [Int.toNat_natCast, Int.toNat_natCast] at this)] at HTR
  have HTS := Lib.hid (fun W => signR_any a n (by have := hT.2.1; omega) (by have := hT.2.1; have := hT.2.2.2.1; omega) W)
  have t1 : (1 : Int) < (n : Int) := by omega
  have t2 : (n : Int) ≤ 200 := hT.2.1
  have t3 : (0 : Int) ≤ (a : Int) := hT.2.2.1
  have t4 : (a : Int) < (n : Int) := hT.2.2.2.1
  clear hT
  subst hP3
  have HPO := Lib.hid (fun W => Points_no p p (fun h => h.2.2.1 rfl) W)
  have KP := Lib.hid (Below.refl w.heap.size w)
  go_enter Try.func7, Try.ntmps7
  go_wp2_with fail
  refine (HTO.out _).mono ?_
  rintro e v1 ⟨rfl, hb⟩
  have K1 := Lib.hid (KP.out.trans (hb.mono KP.out.size))
  clear hb KP
  have KP := K1
  clear K1
  go_wp2_with fail
  refine (HPO.out _).mono ?_
  rintro e v2 ⟨rfl, rfl⟩
  go_wp2_with fail
  refine (HTR.out _).mono ?_
  rintro e v3 ⟨rfl, hb⟩
  have K3 := Lib.hid (KP.out.trans (hb.mono KP.out.size))
  clear hb KP
  have KP := K3
  clear K3
  go_wp2_with fail
  refine (HTS.out _).mono ?_
  rintro e v4 ⟨rfl, hb⟩
  have K4 := Lib.hid (KP.out.trans (hb.mono KP.out.size))
  clear hb KP
  have KP := K4
  clear K4
  go_wp2_with fail
  refine (HA.out _).mono ?_
  rintro e v5 ⟨rfl, hb⟩
  have K5 := Lib.hid (KP.out.trans (hb.mono KP.out.size))
  clear hb KP
  have KP := K5
  clear K5
  go_wp2
  go_ret
  exact ⟨rfl, KP.out⟩

set_option maxHeartbeats 4000000 in
set_option maxRecDepth 100000 in
theorem signs_cz (a n : Nat) (p q : Int) (hT : okT (a : Int) (n : Int)) (h1n : n = 1) (hP : p ≤ 200) (hP2 : q ≤ 200) (hP3 : p = q) (w : World) :
    Calls Try.prog 7 #[.int .i64 (a : Int), .int .i64 (n : Int), .int .i64 (p : Int), .int .i64 (q : Int)] w fun e w' => e = .returned (.bool true) ∧ Below w.heap.size w w' := by
  have HA := Lib.hid (fun W => awake_any W)
  subst h1n
  have ha0 : a = 0 := by have := hT.2.2.2.1; omega
  subst ha0
  have HTO := Lib.hid (fun W => Turns_yes 0 1 hT W)
  have HTR := Lib.hid (fun W => turnsR_any ((1 : Nat) : Int) ((0 : Nat) : Int) (by omega) W)
  rw [show trB ((1 : Nat) : Int) ((0 : Nat) : Int) = false from rfl] at HTR
  have HTS := Lib.hid (fun W => signR_any 0 1 (by omega) (by omega) W)
  clear hT
  subst hP3
  have HPO := Lib.hid (fun W => Points_no p p (fun h => h.2.2.1 rfl) W)
  have KP := Lib.hid (Below.refl w.heap.size w)
  go_enter Try.func7, Try.ntmps7
  go_wp2_with fail
  refine (HTO.out _).mono ?_
  rintro e v1 ⟨rfl, hb⟩
  have K1 := Lib.hid (KP.out.trans (hb.mono KP.out.size))
  clear hb KP
  have KP := K1
  clear K1
  go_wp2_with fail
  refine (HPO.out _).mono ?_
  rintro e v2 ⟨rfl, rfl⟩
  go_wp2_with fail
  refine (HTR.out _).mono ?_
  rintro e v3 ⟨rfl, hb⟩
  have K3 := Lib.hid (KP.out.trans (hb.mono KP.out.size))
  clear hb KP
  have KP := K3
  clear K3
  go_wp2_with fail
  refine (HTS.out _).mono ?_
  rintro e v4 ⟨rfl, hb⟩
  have K4 := Lib.hid (KP.out.trans (hb.mono KP.out.size))
  clear hb KP
  have KP := K4
  clear K4
  go_wp2_with fail
  refine (HA.out _).mono ?_
  rintro e v5 ⟨rfl, hb⟩
  have K5 := Lib.hid (KP.out.trans (hb.mono KP.out.size))
  clear hb KP
  have KP := K5
  clear K5
  go_wp2
  go_ret
  exact ⟨rfl, KP.out⟩

set_option maxHeartbeats 4000000 in
set_option maxRecDepth 100000 in
theorem signs_ca (a n : Int) (p q : Int) (hT : ¬ 1 ≤ n) (hP : p ≤ 200) (hP2 : q ≤ 200) (hP3 : p = q) (w : World) :
    Calls Try.prog 7 #[.int .i64 (a : Int), .int .i64 (n : Int), .int .i64 (p : Int), .int .i64 (q : Int)] w fun e w' => e = .returned (.bool true) ∧ Below w.heap.size w w' := by
  have HA := Lib.hid (fun W => awake_any W)
  have HTO := Lib.hid (fun W => Turns_no a n (fun h => hT h.1) W)
  subst hP3
  have HPO := Lib.hid (fun W => Points_no p p (fun h => h.2.2.1 rfl) W)
  have KP := Lib.hid (Below.refl w.heap.size w)
  go_enter Try.func7, Try.ntmps7
  go_wp2_with fail
  refine (HTO.out _).mono ?_
  rintro e v1 ⟨rfl, hb⟩
  have K1 := Lib.hid (KP.out.trans (hb.mono KP.out.size))
  clear hb KP
  have KP := K1
  clear K1
  go_wp2_with fail
  refine (HPO.out _).mono ?_
  rintro e v2 ⟨rfl, rfl⟩
  go_wp2_with fail
  refine (HA.out _).mono ?_
  rintro e v3 ⟨rfl, hb⟩
  have K3 := Lib.hid (KP.out.trans (hb.mono KP.out.size))
  clear hb KP
  have KP := K3
  clear K3
  go_wp2
  go_ret
  exact ⟨rfl, KP.out⟩

set_option maxHeartbeats 4000000 in
set_option maxRecDepth 100000 in
theorem signs_cb (a n : Int) (p q : Int) (hT : 1 ≤ n) (hT2 : ¬ n ≤ 200) (hP : p ≤ 200) (hP2 : q ≤ 200) (hP3 : p = q) (w : World) :
    Calls Try.prog 7 #[.int .i64 (a : Int), .int .i64 (n : Int), .int .i64 (p : Int), .int .i64 (q : Int)] w fun e w' => e = .returned (.bool true) ∧ Below w.heap.size w w' := by
  have HA := Lib.hid (fun W => awake_any W)
  have HTO := Lib.hid (fun W => Turns_no a n (fun h => hT2 h.2.1) W)
  subst hP3
  have HPO := Lib.hid (fun W => Points_no p p (fun h => h.2.2.1 rfl) W)
  have KP := Lib.hid (Below.refl w.heap.size w)
  go_enter Try.func7, Try.ntmps7
  go_wp2_with fail
  refine (HTO.out _).mono ?_
  rintro e v1 ⟨rfl, hb⟩
  have K1 := Lib.hid (KP.out.trans (hb.mono KP.out.size))
  clear hb KP
  have KP := K1
  clear K1
  go_wp2_with fail
  refine (HPO.out _).mono ?_
  rintro e v2 ⟨rfl, rfl⟩
  go_wp2_with fail
  refine (HA.out _).mono ?_
  rintro e v3 ⟨rfl, hb⟩
  have K3 := Lib.hid (KP.out.trans (hb.mono KP.out.size))
  clear hb KP
  have KP := K3
  clear K3
  go_wp2
  go_ret
  exact ⟨rfl, KP.out⟩

set_option maxHeartbeats 4000000 in
set_option maxRecDepth 100000 in
theorem signs_cc (a n : Int) (p q : Int) (hT : 1 ≤ n) (hT2 : n ≤ 200) (hT3 : ¬ 0 ≤ a) (hP : p ≤ 200) (hP2 : q ≤ 200) (hP3 : p = q) (w : World) :
    Calls Try.prog 7 #[.int .i64 (a : Int), .int .i64 (n : Int), .int .i64 (p : Int), .int .i64 (q : Int)] w fun e w' => e = .returned (.bool true) ∧ Below w.heap.size w w' := by
  have HA := Lib.hid (fun W => awake_any W)
  have HTO := Lib.hid (fun W => Turns_no a n (fun h => hT3 h.2.2.1) W)
  subst hP3
  have HPO := Lib.hid (fun W => Points_no p p (fun h => h.2.2.1 rfl) W)
  have KP := Lib.hid (Below.refl w.heap.size w)
  go_enter Try.func7, Try.ntmps7
  go_wp2_with fail
  refine (HTO.out _).mono ?_
  rintro e v1 ⟨rfl, hb⟩
  have K1 := Lib.hid (KP.out.trans (hb.mono KP.out.size))
  clear hb KP
  have KP := K1
  clear K1
  go_wp2_with fail
  refine (HPO.out _).mono ?_
  rintro e v2 ⟨rfl, rfl⟩
  go_wp2_with fail
  refine (HA.out _).mono ?_
  rintro e v3 ⟨rfl, hb⟩
  have K3 := Lib.hid (KP.out.trans (hb.mono KP.out.size))
  clear hb KP
  have KP := K3
  clear K3
  go_wp2
  go_ret
  exact ⟨rfl, KP.out⟩

set_option maxHeartbeats 4000000 in
set_option maxRecDepth 100000 in
theorem signs_cd (a n : Int) (p q : Int) (hT : 1 ≤ n) (hT2 : n ≤ 200) (hT3 : 0 ≤ a) (hT4 : ¬ a < n) (hP : p ≤ 200) (hP2 : q ≤ 200) (hP3 : p = q) (w : World) :
    Calls Try.prog 7 #[.int .i64 (a : Int), .int .i64 (n : Int), .int .i64 (p : Int), .int .i64 (q : Int)] w fun e w' => e = .returned (.bool true) ∧ Below w.heap.size w w' := by
  have HA := Lib.hid (fun W => awake_any W)
  have HTO := Lib.hid (fun W => Turns_no a n (fun h => hT4 h.2.2.2.1) W)
  subst hP3
  have HPO := Lib.hid (fun W => Points_no p p (fun h => h.2.2.1 rfl) W)
  have KP := Lib.hid (Below.refl w.heap.size w)
  go_enter Try.func7, Try.ntmps7
  go_wp2_with fail
  refine (HTO.out _).mono ?_
  rintro e v1 ⟨rfl, hb⟩
  have K1 := Lib.hid (KP.out.trans (hb.mono KP.out.size))
  clear hb KP
  have KP := K1
  clear K1
  go_wp2_with fail
  refine (HPO.out _).mono ?_
  rintro e v2 ⟨rfl, rfl⟩
  go_wp2_with fail
  refine (HA.out _).mono ?_
  rintro e v3 ⟨rfl, hb⟩
  have K3 := Lib.hid (KP.out.trans (hb.mono KP.out.size))
  clear hb KP
  have KP := K3
  clear K3
  go_wp2
  go_ret
  exact ⟨rfl, KP.out⟩

set_option maxHeartbeats 4000000 in
set_option maxRecDepth 100000 in
theorem signs_ce (a n : Nat) (p q : Int) (hT : 1 ≤ n) (hT2 : n ≤ 200) (hT4 : a < n) (hT5 : ¬ Nat.gcd a n = 1) (hP : p ≤ 200) (hP2 : q ≤ 200) (hP3 : p = q) (w : World) :
    Calls Try.prog 7 #[.int .i64 (a : Int), .int .i64 (n : Int), .int .i64 (p : Int), .int .i64 (q : Int)] w fun e w' => e = .returned (.bool true) ∧ Below w.heap.size w w' := by
  have HA := Lib.hid (fun W => awake_any W)
  have HTO := Lib.hid (fun W => Turns_no (a : Int) (n : Int) (fun h => hT5 (by have := h.2.2.2.2; rwa [Int.toNat_natCast, Int.toNat_natCast] at this)) W)
  have HTR := Lib.hid (fun W => turnsR_any (n : Int) (a : Int) (by omega) W)
  rw [trB_no hT5] at HTR
  have h1n : n ≠ 1 := fun e => hT5 (by rw [e, Nat.gcd_one_right])
  have t1 : (1 : Int) < (n : Int) := by omega
  have t4 : (a : Int) < (n : Int) := by omega
  clear hT5 h1n
  subst hP3
  have HPO := Lib.hid (fun W => Points_no p p (fun h => h.2.2.1 rfl) W)
  have KP := Lib.hid (Below.refl w.heap.size w)
  go_enter Try.func7, Try.ntmps7
  go_wp2_with fail
  refine (HTO.out _).mono ?_
  rintro e v1 ⟨rfl, hb⟩
  have K1 := Lib.hid (KP.out.trans (hb.mono KP.out.size))
  clear hb KP
  have KP := K1
  clear K1
  go_wp2_with fail
  refine (HPO.out _).mono ?_
  rintro e v2 ⟨rfl, rfl⟩
  go_wp2_with fail
  refine (HTR.out _).mono ?_
  rintro e v3 ⟨rfl, hb⟩
  have K3 := Lib.hid (KP.out.trans (hb.mono KP.out.size))
  clear hb KP
  have KP := K3
  clear K3
  go_wp2_with fail
  refine (HA.out _).mono ?_
  rintro e v4 ⟨rfl, hb⟩
  have K4 := Lib.hid (KP.out.trans (hb.mono KP.out.size))
  clear hb KP
  have KP := K4
  clear K4
  go_wp2
  go_ret
  exact ⟨rfl, KP.out⟩

end Go.Proofs.Ytopfcppmbkidgaa
