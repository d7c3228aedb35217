/- The law PartsHalved: its walk in every case. Condition: the slice lies in memory. -/
import Derived.Test.YtfecdpglcdhijaaHalfMath
import Derived.Test.YtfecdpglcdhijaaKindMath
import Derived.Test.YtfecdpglcdhijaaLawKinds
namespace Go.Proofs.Ytfecdpglcdhijaa
open Go.RowKit

theorem kinds_two (n k : Int) (hk : k = 0 ∨ k = 2 ∨ k = 4) : ∃ x e : Int, (e = 0 ∨ e = 2) ∧
    (∀ W, Calls Try.prog 42 #[.int .i64 n, .int .i64 k] W fun e' w' => e' = .returned (.tuple #[.int .i64 x, .int .i64 e]) ∧ Below W.heap.size W w') ∧
    (∀ W, Calls Try.prog 42 #[.int .i64 n, .int .i64 (k + 1)] W fun e' w' => e' = .returned (.tuple #[.int .i64 x, .int .i64 e]) ∧ Below W.heap.size W w') := by
  by_cases hn : n < 0 ∨ 100 < n
  · refine ⟨0, 2, .inr rfl, fun W => (Kinds_no n k hn W).mono ?_, fun W => (Kinds_no n (k + 1) hn W).mono ?_⟩
    all_goals
      rintro e w' ⟨rfl, rfl⟩
      exact ⟨rfl, Below.refl _ _⟩
  · obtain ⟨m, rfl⟩ : ∃ m : Nat, n = (m : Int) := ⟨n.toNat, by omega⟩
    have hm : m ≤ 100 := by omega
    rcases hk with rfl | rfl | rfl
    · refine ⟨_, 0, .inl rfl, fun W => Kinds_yes0 m hm W, fun W => ?_⟩
      rw [euler_all hm]
      exact Kinds_yes1 m hm W
    · refine ⟨_, 0, .inl rfl, fun W => Kinds_yes2 m hm W, fun W => ?_⟩
      rw [rogers_all hm]
      exact Kinds_yes3 m hm W
    · refine ⟨_, 0, .inl rfl, fun W => Kinds_yes4 m hm W, fun W => ?_⟩
      rw [raman_all hm]
      exact Kinds_yes5 m hm W

set_option maxHeartbeats 4000000 in
set_option maxRecDepth 100000 in
theorem lawHalved_00 (a : Option Addr) (n c : Nat) (xs : List Int) (z : Int) (w : World) (h : Ints w a n xs) (hP : isP xs = true) (hO : oddL xs = false) (hD : diffL xs = false) (hc : n ≤ c) (hcm : c ≤ maxLen) :
    Calls Try.prog 12 #[.slice a n c, .int .i64 z] w fun e w' => e = .returned (.bool true) ∧ Below w.heap.size w w' := by
  have HT := Lib.hid (At.start h)
  have HP := Lib.hid hP
  have hn : n ≤ 4611686018427387904 := by have := isP_len hP; rw [h.1] at this; omega
  have HC := Lib.hid (And.intro hc (And.intro hn hcm))
  have HO := Lib.hid hO
  have HD := Lib.hid hD
  clear hO hD
  clear h hP hc hcm
  go_enter Try.func12, Try.ntmps12
  go_wp2_with fail
  refine (list_yes a n c xs _ HT.out.i HP.out HC.out.1 HC.out.2.2).mono ?_
  rintro e w1 ⟨a1, c1, rfl, ho1, -, -, hb1⟩
  have T1 := Lib.hid (HT.out.later hb1)
  have O1 := Lib.hid (Ints.own ho1).1
  clear ho1 hb1 HT
  go_wp2_with fail
  refine (Glaisher_no a1 n c1 xs _ O1.out (by have := isP_len HP.out; omega) (by rw [HO.out]; rfl)).mono ?_
  rintro e w2 ⟨rfl, hb2⟩
  have T2 := Lib.hid (T1.out.later hb2)
  clear hb2 T1 O1
  go_wp2_with fail
  refine (list_yes a n c xs _ T2.out.i HP.out HC.out.1 HC.out.2.2).mono ?_
  rintro e w4 ⟨a4, c4, rfl, ho4, -, -, hb4⟩
  have T4 := Lib.hid (T2.out.later hb4)
  have O4 := Lib.hid (Ints.own ho4).1
  clear ho4 hb4 T2
  go_wp2_with fail
  refine (Odds_no a4 n c4 xs _ O4.out (by have := isP_len HP.out; omega) (by rw [HD.out]; rfl)).mono ?_
  rintro e w5 ⟨rfl, hb5⟩
  have T5 := Lib.hid (T4.out.later hb5)
  clear hb5 T4 O4
  go_wp2_with fail
  go_loopg [13] 3 (fun gk i wr => ∃ (k : Int), k + 2 * (gk : Int) = 6 ∧ 0 ≤ k ∧ i = .int .i64 k ∧ At w wr a n xs)
  case atStart => exact ⟨0, by omega, by omega, rfl, T5.out⟩
  case round =>
    obtain ⟨k, hgk, hk0, rfl, hT⟩ := hrel
    have R := Lib.hid hT
    have HGK := Lib.hid hgk
    clear hT T5
    by_cases hk6 : k = 6
    · subst hk6
      clear hgk
      go_wp2_with fail
      refine (awake_any _).mono ?_
      rintro e w9 ⟨rfl, hb9⟩
      have T9 := Lib.hid (R.out.later hb9)
      clear hb9
      go_wp2_with fail
      go_ret
      exact ⟨rfl, T9.out.b⟩
    · have hk : k = 0 ∨ k = 2 ∨ k = 4 := by omega
      obtain ⟨x, ee, hee, hq1, hq2⟩ := kinds_two z k hk
      have Q1 := Lib.hid hq1
      have Q2 := Lib.hid hq2
      have hlt : k < 6 := by omega
      have hk4 : k ≤ 4 := by omega
      clear hq1 hq2 hk hk6 hgk
      rcases hee with rfl | rfl
      all_goals
        go_wp2_with fail
        refine (Q1.out _).mono ?_
        rintro e w5 ⟨rfl, hb5⟩
        have R5 := Lib.hid (R.out.later hb5)
        clear hb5
        go_wp2_with fail
        refine (Q2.out _).mono ?_
        rintro e w6 ⟨rfl, hb6⟩
        have R6 := Lib.hid (R5.out.later hb6)
        clear hb6 R5
        go_wp2_with fail
        go_roundg (gk - 1)
        case rel => exact ⟨k + 2, by have := HGK.out; omega, by omega, by go_num, R6.out⟩
        case measure => have := HGK.out; omega

set_option maxHeartbeats 4000000 in
set_option maxRecDepth 100000 in
theorem lawHalved_01 (a : Option Addr) (n c : Nat) (xs : List Int) (z : Int) (w : World) (h : Ints w a n xs) (hP : isP xs = true) (hO : oddL xs = false) (hD : diffL xs = true) (hc : n ≤ c) (hcm : c ≤ maxLen) :
    Calls Try.prog 12 #[.slice a n c, .int .i64 z] w fun e w' => e = .returned (.bool true) ∧ Below w.heap.size w w' := by
  have HT := Lib.hid (At.start h)
  have HP := Lib.hid hP
  have hn : n ≤ 4611686018427387904 := by have := isP_len hP; rw [h.1] at this; omega
  have HC := Lib.hid (And.intro hc (And.intro hn hcm))
  obtain ⟨p1, p2, p3⟩ := odds_all hP hD
  obtain ⟨KX, hKX⟩ : ∃ KX, halfF xs 0 = KX := ⟨_, rfl⟩
  rw [hKX] at p1 p2 p3
  have HKX := Lib.hid hKX
  have P2 := Lib.hid (And.intro p1 (And.intro p2 p3))
  clear hKX p1 p2 p3
  have HO := Lib.hid hO
  have HD := Lib.hid hD
  clear hO hD
  clear h hP hc hcm
  go_enter Try.func12, Try.ntmps12
  go_wp2_with fail
  refine (list_yes a n c xs _ HT.out.i HP.out HC.out.1 HC.out.2.2).mono ?_
  rintro e w1 ⟨a1, c1, rfl, ho1, -, -, hb1⟩
  have T1 := Lib.hid (HT.out.later hb1)
  have O1 := Lib.hid (Ints.own ho1).1
  clear ho1 hb1 HT
  go_wp2_with fail
  refine (Glaisher_no a1 n c1 xs _ O1.out (by have := isP_len HP.out; omega) (by rw [HO.out]; rfl)).mono ?_
  rintro e w2 ⟨rfl, hb2⟩
  have T2 := Lib.hid (T1.out.later hb2)
  clear hb2 T1 O1
  go_wp2_with fail
  refine (list_yes a n c xs _ T2.out.i HP.out HC.out.1 HC.out.2.2).mono ?_
  rintro e w4 ⟨a4, c4, rfl, ho4, -, -, hb4⟩
  have T4 := Lib.hid (T2.out.later hb4)
  have O4 := Lib.hid (Ints.own ho4).1
  clear ho4 hb4 T2
  go_wp2_with fail
  refine (Odds_yes a4 n c4 xs _ O4.out HP.out HD.out).mono ?_
  rintro e w5 ⟨a5, c5, m5, rfl, hi5, hb5⟩
  rw [HKX.out] at hi5
  have T5 := Lib.hid (T4.out.later hb5)
  have A5 := Lib.hid hi5
  clear hi5 hb5 T4 O4
  go_wp2_with fail
  refine (Glaisher_yes a5 m5 c5 KX _ A5.out P2.out.1 P2.out.2.1).mono ?_
  rintro e u5 ⟨b5, d5, q5, rfl, hj5, hv5⟩
  rw [P2.out.2.2] at hj5
  have hq5 : q5 ≤ 100 := by have := isP_len HP.out; rw [← hj5.1]; omega
  have U5 := Lib.hid (T5.out.later hv5)
  have B5 := Lib.hid hj5
  clear hj5 hv5 T5 A5
  go_wp2_with fail
  refine (equal_any _ _ _ _ _ _ xs xs _ B5.out U5.out.i (by omega) HC.out.2.1).mono ?_
  rintro e v5 ⟨rfl, r5, rfl⟩
  rw [beq_self_eq_true]
  have T6 := Lib.hid (U5.out.later (below_drewN (Below.refl _ _) r5))
  clear U5 B5
  go_wp2_with fail
  go_loopg [13] 3 (fun gk i wr => ∃ (k : Int), k + 2 * (gk : Int) = 6 ∧ 0 ≤ k ∧ i = .int .i64 k ∧ At w wr a n xs)
  case atStart => exact ⟨0, by omega, by omega, rfl, T6.out⟩
  case round =>
    obtain ⟨k, hgk, hk0, rfl, hT⟩ := hrel
    have R := Lib.hid hT
    have HGK := Lib.hid hgk
    clear hT T6
    by_cases hk6 : k = 6
    · subst hk6
      clear hgk
      go_wp2_with fail
      refine (awake_any _).mono ?_
      rintro e w9 ⟨rfl, hb9⟩
      have T9 := Lib.hid (R.out.later hb9)
      clear hb9
      go_wp2_with fail
      go_ret
      exact ⟨rfl, T9.out.b⟩
    · have hk : k = 0 ∨ k = 2 ∨ k = 4 := by omega
      obtain ⟨x, ee, hee, hq1, hq2⟩ := kinds_two z k hk
      have Q1 := Lib.hid hq1
      have Q2 := Lib.hid hq2
      have hlt : k < 6 := by omega
      have hk4 : k ≤ 4 := by omega
      clear hq1 hq2 hk hk6 hgk
      rcases hee with rfl | rfl
      all_goals
        go_wp2_with fail
        refine (Q1.out _).mono ?_
        rintro e w5 ⟨rfl, hb5⟩
        have R5 := Lib.hid (R.out.later hb5)
        clear hb5
        go_wp2_with fail
        refine (Q2.out _).mono ?_
        rintro e w6 ⟨rfl, hb6⟩
        have R6 := Lib.hid (R5.out.later hb6)
        clear hb6 R5
        go_wp2_with fail
        go_roundg (gk - 1)
        case rel => exact ⟨k + 2, by have := HGK.out; omega, by omega, by go_num, R6.out⟩
        case measure => have := HGK.out; omega

set_option maxHeartbeats 4000000 in
set_option maxRecDepth 100000 in
theorem lawHalved_10 (a : Option Addr) (n c : Nat) (xs : List Int) (z : Int) (w : World) (h : Ints w a n xs) (hP : isP xs = true) (hO : oddL xs = true) (hD : diffL xs = false) (hc : n ≤ c) (hcm : c ≤ maxLen) :
    Calls Try.prog 12 #[.slice a n c, .int .i64 z] w fun e w' => e = .returned (.bool true) ∧ Below w.heap.size w w' := by
  have HT := Lib.hid (At.start h)
  have HP := Lib.hid hP
  have hn : n ≤ 4611686018427387904 := by have := isP_len hP; rw [h.1] at this; omega
  have HC := Lib.hid (And.intro hc (And.intro hn hcm))
  obtain ⟨p1, p2, p3⟩ := gla_all hP hO
  obtain ⟨JX, hJX⟩ : ∃ JX, joinF xs 0 = JX := ⟨_, rfl⟩
  rw [hJX] at p1 p2 p3
  have HJX := Lib.hid hJX
  have P1 := Lib.hid (And.intro p1 (And.intro p2 p3))
  clear hJX p1 p2 p3
  have HO := Lib.hid hO
  have HD := Lib.hid hD
  clear hO hD
  clear h hP hc hcm
  go_enter Try.func12, Try.ntmps12
  go_wp2_with fail
  refine (list_yes a n c xs _ HT.out.i HP.out HC.out.1 HC.out.2.2).mono ?_
  rintro e w1 ⟨a1, c1, rfl, ho1, -, -, hb1⟩
  have T1 := Lib.hid (HT.out.later hb1)
  have O1 := Lib.hid (Ints.own ho1).1
  clear ho1 hb1 HT
  go_wp2_with fail
  refine (Glaisher_yes a1 n c1 xs _ O1.out HP.out HO.out).mono ?_
  rintro e w2 ⟨a2, c2, m2, rfl, hi2, hb2⟩
  rw [HJX.out] at hi2
  have T2 := Lib.hid (T1.out.later hb2)
  have A2 := Lib.hid hi2
  clear hi2 hb2 T1 O1
  go_wp2_with fail
  refine (Odds_yes a2 m2 c2 JX _ A2.out P1.out.1 P1.out.2.1).mono ?_
  rintro e u2 ⟨b2, d2, q2, rfl, hj2, hv2⟩
  rw [P1.out.2.2] at hj2
  have hq2 : q2 ≤ 100 := by have := isP_len HP.out; rw [← hj2.1]; omega
  have U2 := Lib.hid (T2.out.later hv2)
  have B2 := Lib.hid hj2
  clear hj2 hv2 T2 A2
  go_wp2_with fail
  refine (equal_any _ _ _ _ _ _ xs xs _ B2.out U2.out.i (by omega) HC.out.2.1).mono ?_
  rintro e v2 ⟨rfl, r2, rfl⟩
  rw [beq_self_eq_true]
  have T3 := Lib.hid (U2.out.later (below_drewN (Below.refl _ _) r2))
  clear U2 B2
  go_wp2_with fail
  refine (list_yes a n c xs _ T3.out.i HP.out HC.out.1 HC.out.2.2).mono ?_
  rintro e w4 ⟨a4, c4, rfl, ho4, -, -, hb4⟩
  have T4 := Lib.hid (T3.out.later hb4)
  have O4 := Lib.hid (Ints.own ho4).1
  clear ho4 hb4 T3
  go_wp2_with fail
  refine (Odds_no a4 n c4 xs _ O4.out (by have := isP_len HP.out; omega) (by rw [HD.out]; rfl)).mono ?_
  rintro e w5 ⟨rfl, hb5⟩
  have T5 := Lib.hid (T4.out.later hb5)
  clear hb5 T4 O4
  go_wp2_with fail
  go_loopg [13] 3 (fun gk i wr => ∃ (k : Int), k + 2 * (gk : Int) = 6 ∧ 0 ≤ k ∧ i = .int .i64 k ∧ At w wr a n xs)
  case atStart => exact ⟨0, by omega, by omega, rfl, T5.out⟩
  case round =>
    obtain ⟨k, hgk, hk0, rfl, hT⟩ := hrel
    have R := Lib.hid hT
    have HGK := Lib.hid hgk
    clear hT T5
    by_cases hk6 : k = 6
    · subst hk6
      clear hgk
      go_wp2_with fail
      refine (awake_any _).mono ?_
      rintro e w9 ⟨rfl, hb9⟩
      have T9 := Lib.hid (R.out.later hb9)
      clear hb9
      go_wp2_with fail
      go_ret
      exact ⟨rfl, T9.out.b⟩
    · have hk : k = 0 ∨ k = 2 ∨ k = 4 := by omega
      obtain ⟨x, ee, hee, hq1, hq2⟩ := kinds_two z k hk
      have Q1 := Lib.hid hq1
      have Q2 := Lib.hid hq2
      have hlt : k < 6 := by omega
      have hk4 : k ≤ 4 := by omega
      clear hq1 hq2 hk hk6 hgk
      rcases hee with rfl | rfl
      all_goals
        go_wp2_with fail
        refine (Q1.out _).mono ?_
        rintro e w5 ⟨rfl, hb5⟩
        have R5 := Lib.hid (R.out.later hb5)
        clear hb5
        go_wp2_with fail
        refine (Q2.out _).mono ?_
        rintro e w6 ⟨rfl, hb6⟩
        have R6 := Lib.hid (R5.out.later hb6)
        clear hb6 R5
        go_wp2_with fail
        go_roundg (gk - 1)
        case rel => exact ⟨k + 2, by have := HGK.out; omega, by omega, by go_num, R6.out⟩
        case measure => have := HGK.out; omega

set_option maxHeartbeats 4000000 in
set_option maxRecDepth 100000 in
theorem lawHalved_11 (a : Option Addr) (n c : Nat) (xs : List Int) (z : Int) (w : World) (h : Ints w a n xs) (hP : isP xs = true) (hO : oddL xs = true) (hD : diffL xs = true) (hc : n ≤ c) (hcm : c ≤ maxLen) :
    Calls Try.prog 12 #[.slice a n c, .int .i64 z] w fun e w' => e = .returned (.bool true) ∧ Below w.heap.size w w' := by
  have HT := Lib.hid (At.start h)
  have HP := Lib.hid hP
  have hn : n ≤ 4611686018427387904 := by have := isP_len hP; rw [h.1] at this; omega
  have HC := Lib.hid (And.intro hc (And.intro hn hcm))
  obtain ⟨p1, p2, p3⟩ := gla_all hP hO
  obtain ⟨JX, hJX⟩ : ∃ JX, joinF xs 0 = JX := ⟨_, rfl⟩
  rw [hJX] at p1 p2 p3
  have HJX := Lib.hid hJX
  have P1 := Lib.hid (And.intro p1 (And.intro p2 p3))
  clear hJX p1 p2 p3
  obtain ⟨p1, p2, p3⟩ := odds_all hP hD
  obtain ⟨KX, hKX⟩ : ∃ KX, halfF xs 0 = KX := ⟨_, rfl⟩
  rw [hKX] at p1 p2 p3
  have HKX := Lib.hid hKX
  have P2 := Lib.hid (And.intro p1 (And.intro p2 p3))
  clear hKX p1 p2 p3
  have HO := Lib.hid hO
  have HD := Lib.hid hD
  clear hO hD
  clear h hP hc hcm
  go_enter Try.func12, Try.ntmps12
  go_wp2_with fail
  refine (list_yes a n c xs _ HT.out.i HP.out HC.out.1 HC.out.2.2).mono ?_
  rintro e w1 ⟨a1, c1, rfl, ho1, -, -, hb1⟩
  have T1 := Lib.hid (HT.out.later hb1)
  have O1 := Lib.hid (Ints.own ho1).1
  clear ho1 hb1 HT
  go_wp2_with fail
  refine (Glaisher_yes a1 n c1 xs _ O1.out HP.out HO.out).mono ?_
  rintro e w2 ⟨a2, c2, m2, rfl, hi2, hb2⟩
  rw [HJX.out] at hi2
  have T2 := Lib.hid (T1.out.later hb2)
  have A2 := Lib.hid hi2
  clear hi2 hb2 T1 O1
  go_wp2_with fail
  refine (Odds_yes a2 m2 c2 JX _ A2.out P1.out.1 P1.out.2.1).mono ?_
  rintro e u2 ⟨b2, d2, q2, rfl, hj2, hv2⟩
  rw [P1.out.2.2] at hj2
  have hq2 : q2 ≤ 100 := by have := isP_len HP.out; rw [← hj2.1]; omega
  have U2 := Lib.hid (T2.out.later hv2)
  have B2 := Lib.hid hj2
  clear hj2 hv2 T2 A2
  go_wp2_with fail
  refine (equal_any _ _ _ _ _ _ xs xs _ B2.out U2.out.i (by omega) HC.out.2.1).mono ?_
  rintro e v2 ⟨rfl, r2, rfl⟩
  rw [beq_self_eq_true]
  have T3 := Lib.hid (U2.out.later (below_drewN (Below.refl _ _) r2))
  clear U2 B2
  go_wp2_with fail
  refine (list_yes a n c xs _ T3.out.i HP.out HC.out.1 HC.out.2.2).mono ?_
  rintro e w4 ⟨a4, c4, rfl, ho4, -, -, hb4⟩
  have T4 := Lib.hid (T3.out.later hb4)
  have O4 := Lib.hid (Ints.own ho4).1
  clear ho4 hb4 T3
  go_wp2_with fail
  refine (Odds_yes a4 n c4 xs _ O4.out HP.out HD.out).mono ?_
  rintro e w5 ⟨a5, c5, m5, rfl, hi5, hb5⟩
  rw [HKX.out] at hi5
  have T5 := Lib.hid (T4.out.later hb5)
  have A5 := Lib.hid hi5
  clear hi5 hb5 T4 O4
  go_wp2_with fail
  refine (Glaisher_yes a5 m5 c5 KX _ A5.out P2.out.1 P2.out.2.1).mono ?_
  rintro e u5 ⟨b5, d5, q5, rfl, hj5, hv5⟩
  rw [P2.out.2.2] at hj5
  have hq5 : q5 ≤ 100 := by have := isP_len HP.out; rw [← hj5.1]; omega
  have U5 := Lib.hid (T5.out.later hv5)
  have B5 := Lib.hid hj5
  clear hj5 hv5 T5 A5
  go_wp2_with fail
  refine (equal_any _ _ _ _ _ _ xs xs _ B5.out U5.out.i (by omega) HC.out.2.1).mono ?_
  rintro e v5 ⟨rfl, r5, rfl⟩
  rw [beq_self_eq_true]
  have T6 := Lib.hid (U5.out.later (below_drewN (Below.refl _ _) r5))
  clear U5 B5
  go_wp2_with fail
  go_loopg [13] 3 (fun gk i wr => ∃ (k : Int), k + 2 * (gk : Int) = 6 ∧ 0 ≤ k ∧ i = .int .i64 k ∧ At w wr a n xs)
  case atStart => exact ⟨0, by omega, by omega, rfl, T6.out⟩
  case round =>
    obtain ⟨k, hgk, hk0, rfl, hT⟩ := hrel
    have R := Lib.hid hT
    have HGK := Lib.hid hgk
    clear hT T6
    by_cases hk6 : k = 6
    · subst hk6
      clear hgk
      go_wp2_with fail
      refine (awake_any _).mono ?_
      rintro e w9 ⟨rfl, hb9⟩
      have T9 := Lib.hid (R.out.later hb9)
      clear hb9
      go_wp2_with fail
      go_ret
      exact ⟨rfl, T9.out.b⟩
    · have hk : k = 0 ∨ k = 2 ∨ k = 4 := by omega
      obtain ⟨x, ee, hee, hq1, hq2⟩ := kinds_two z k hk
      have Q1 := Lib.hid hq1
      have Q2 := Lib.hid hq2
      have hlt : k < 6 := by omega
      have hk4 : k ≤ 4 := by omega
      clear hq1 hq2 hk hk6 hgk
      rcases hee with rfl | rfl
      all_goals
        go_wp2_with fail
        refine (Q1.out _).mono ?_
        rintro e w5 ⟨rfl, hb5⟩
        have R5 := Lib.hid (R.out.later hb5)
        clear hb5
        go_wp2_with fail
        refine (Q2.out _).mono ?_
        rintro e w6 ⟨rfl, hb6⟩
        have R6 := Lib.hid (R5.out.later hb6)
        clear hb6 R5
        go_wp2_with fail
        go_roundg (gk - 1)
        case rel => exact ⟨k + 2, by have := HGK.out; omega, by omega, by go_num, R6.out⟩
        case measure => have := HGK.out; omega

set_option maxHeartbeats 4000000 in
set_option maxRecDepth 100000 in
theorem lawHalved_no (a : Option Addr) (n c : Nat) (xs : List Int) (z : Int) (w : World) (h : Ints w a n xs) (hP : isP xs = false) (hn0 : n ≤ 4611686018427387904) (hc : n ≤ c) (hcm : c ≤ maxLen) :
    Calls Try.prog 12 #[.slice a n c, .int .i64 z] w fun e w' => e = .returned (.bool true) ∧ Below w.heap.size w w' := by
  have HT := Lib.hid (At.start h)
  have HP := Lib.hid hP
  have hn : n ≤ 4611686018427387904 := hn0
  have HC := Lib.hid (And.intro hc (And.intro hn hcm))
  clear h hP hc hcm
  go_enter Try.func12, Try.ntmps12
  go_wp2_with fail
  refine (list_no a n c xs _ HT.out.i HP.out HC.out.1 HC.out.2.1 HC.out.2.2).mono ?_
  rintro e w1 ⟨a1, c1, m1, ys1, rfl, hm1, hy1, ho1, -, -, hb1⟩
  have T1 := Lib.hid (HT.out.later hb1)
  have O1 := Lib.hid (And.intro (Ints.own ho1).1 hy1)
  clear ho1 hy1 hb1 HT
  go_wp2_with fail
  refine (Glaisher_no a1 m1 c1 ys1 _ O1.out.1 (by omega) (by rw [O1.out.2, Bool.and_false])).mono ?_
  rintro e w2 ⟨rfl, hb2⟩
  have T2 := Lib.hid (T1.out.later hb2)
  clear hb2 T1 O1
  go_wp2_with fail
  refine (list_no a n c xs _ T2.out.i HP.out HC.out.1 HC.out.2.1 HC.out.2.2).mono ?_
  rintro e w4 ⟨a4, c4, m4, ys4, rfl, hm4, hy4, ho4, -, -, hb4⟩
  have T4 := Lib.hid (T2.out.later hb4)
  have O4 := Lib.hid (And.intro (Ints.own ho4).1 hy4)
  clear ho4 hy4 hb4 T2
  go_wp2_with fail
  refine (Odds_no a4 m4 c4 ys4 _ O4.out.1 (by omega) (by rw [O4.out.2, Bool.and_false])).mono ?_
  rintro e w5 ⟨rfl, hb5⟩
  have T5 := Lib.hid (T4.out.later hb5)
  clear hb5 T4 O4
  go_wp2_with fail
  go_loopg [13] 3 (fun gk i wr => ∃ (k : Int), k + 2 * (gk : Int) = 6 ∧ 0 ≤ k ∧ i = .int .i64 k ∧ At w wr a n xs)
  case atStart => exact ⟨0, by omega, by omega, rfl, T5.out⟩
  case round =>
    obtain ⟨k, hgk, hk0, rfl, hT⟩ := hrel
    have R := Lib.hid hT
    have HGK := Lib.hid hgk
    clear hT T5
    by_cases hk6 : k = 6
    · subst hk6
      clear hgk
      go_wp2_with fail
      refine (awake_any _).mono ?_
      rintro e w9 ⟨rfl, hb9⟩
      have T9 := Lib.hid (R.out.later hb9)
      clear hb9
      go_wp2_with fail
      go_ret
      exact ⟨rfl, T9.out.b⟩
    · have hk : k = 0 ∨ k = 2 ∨ k = 4 := by omega
      obtain ⟨x, ee, hee, hq1, hq2⟩ := kinds_two z k hk
      have Q1 := Lib.hid hq1
      have Q2 := Lib.hid hq2
      have hlt : k < 6 := by omega
      have hk4 : k ≤ 4 := by omega
      clear hq1 hq2 hk hk6 hgk
      rcases hee with rfl | rfl
      all_goals
        go_wp2_with fail
        refine (Q1.out _).mono ?_
        rintro e w5 ⟨rfl, hb5⟩
        have R5 := Lib.hid (R.out.later hb5)
        clear hb5
        go_wp2_with fail
        refine (Q2.out _).mono ?_
        rintro e w6 ⟨rfl, hb6⟩
        have R6 := Lib.hid (R5.out.later hb6)
        clear hb6 R5
        go_wp2_with fail
        go_roundg (gk - 1)
        case rel => exact ⟨k + 2, by have := HGK.out; omega, by omega, by go_num, R6.out⟩
        case measure => have := HGK.out; omega

theorem lawHalved_any (a : Option Addr) (n c : Nat) (xs : List Int) (z : Int) (w : World) (h : Ints w a n xs) (hc : n ≤ c) (hn : n ≤ 4611686018427387904) (hcm : c ≤ maxLen) :
    Calls Try.prog 12 #[.slice a n c, .int .i64 z] w fun e w' => e = .returned (.bool true) ∧ Below w.heap.size w w' := by
  cases hP : isP xs
  · exact lawHalved_no a n c xs z w h hP hn hc hcm
  · cases hO : oddL xs <;> cases hD : diffL xs
    · exact lawHalved_00 a n c xs z w h hP hO hD hc hcm
    · exact lawHalved_01 a n c xs z w h hP hO hD hc hcm
    · exact lawHalved_10 a n c xs z w h hP hO hD hc hcm
    · exact lawHalved_11 a n c xs z w h hP hO hD hc hcm
end Go.Proofs.Ytfecdpglcdhijaa
