/- The law PartsPairs: its walk in every case. Condition: the slice lies in memory. -/
import Derived.Test.YtfecdpglcdhijaaPairCalls
import Derived.Test.YtfecdpglcdhijaaFrank2
namespace Go.Proofs.Ytfecdpglcdhijaa
open Go.RowKit
set_option maxRecDepth 100000 in
theorem joinF_short {xs : List Int} (h : goodL xs) : (joinF xs 0).length ≤ 1000000 ∧ (halfF xs 0).length ≤ 1000000 := by
  have key1 : ∀ (N : Nat) (ys : List Int) (j : Nat), ys.length * 50 + (ys.length - j) ≤ N → ys.length ≤ 30 → (joinF ys j).length ≤ 30 := by
    intro N
    induction N with
    | zero =>
      intro ys j h1 h2
      rw [joinF_end (by omega)]
      exact h2
    | succ N ih =>
      intro ys j h1 h2
      by_cases h : j + 1 < ys.length
      · by_cases he : ys.getD (j + 1) 0 = ys.getD j 0
        · rw [joinF_join h he]
          have hl : (sortD (ys.take j ++ (ys.getD j 0 * 2) :: ys.drop (j + 2))).length = ys.length - 1 := by
            rw [sortD_len]
            simp
            omega
          exact ih _ 0 (by rw [hl]; omega) (by rw [hl]; omega)
        · rw [joinF_on h he]
          exact ih ys (j + 1) (by omega) h2
      · rw [joinF_end h]
        exact h2
  have key2 : ∀ (N : Nat) (ys : List Int) (j : Nat), (31 - ys.length) * 50 + (ys.length - j) ≤ N → goodL ys → (halfF ys j).length ≤ 30 := by
    intro N
    induction N with
    | zero =>
      intro ys j h1 h2
      have := h2.len
      omega
    | succ N ih =>
      intro ys j h1 h2
      have hl30 := h2.len
      by_cases h : j < ys.length
      · by_cases he : ys.getD j 0 % 2 = 0
        · rw [halfF_half h hl30 he]
          have hl : (sortD (ys.take j ++ (ys.getD j 0 / 2) :: (ys.getD j 0 / 2) :: ys.drop (j + 1))).length = ys.length + 1 := by
            rw [sortD_len]
            simp
            omega
          have hg := (h2.half h he).sort
          exact ih _ 0 (by have := hg.len; rw [hl] at this ⊢; omega) hg
        · rw [halfF_on h hl30 he]
          exact ih ys (j + 1) (by omega) h2
      · rw [halfF_end h]
        exact hl30
  exact ⟨by have := key1 _ xs 0 (Nat.le_refl _) h.len; omega, by have := key2 _ xs 0 (Nat.le_refl _) h; omega⟩

set_option maxHeartbeats 4000000 in
theorem lawPairs_00 (a : Option Addr) (n c : Nat) (xs : List Int) (w : World) (h : Ints w a n xs) (hP : isP xs = true) (hO : oddL xs = false) (hD : diffL xs = false) (hc : n ≤ c) (hcm : c ≤ maxLen) :
    Calls Try.prog 6 #[.slice a n c] w fun e w' => e = .returned (.bool true) ∧ Below w.heap.size w w' := by
  have HT := Lib.hid (At.start h)
  have HP := Lib.hid hP
  have HO := Lib.hid hO
  have HD := Lib.hid hD
  have hn : n ≤ 30 := by have := isP_len hP; rw [h.1] at this; exact this
  have HC := Lib.hid (And.intro hc hcm)
  obtain ⟨hs1, hs2⟩ := joinF_short (isP_good hP)
  obtain ⟨JX, hJX⟩ : ∃ JX, joinF xs 0 = JX := ⟨_, rfl⟩
  obtain ⟨KX, hKX⟩ : ∃ KX, halfF xs 0 = KX := ⟨_, rfl⟩
  rw [hJX] at hs1
  rw [hKX] at hs2
  have HJX := Lib.hid hJX
  have HKX := Lib.hid hKX
  have HS := Lib.hid (And.intro hs1 hs2)
  clear h hP hO hD hc hcm hJX hKX hs1 hs2
  go_enter Try.func6, Try.ntmps6
  go_wp2_with fail
  refine (list_yes a n c xs _ HT.out.i HP.out HC.out.1 HC.out.2).mono ?_
  rintro e w1 ⟨a1, c1, rfl, ho1, hc1, -, hb1⟩
  have T1 := Lib.hid (HT.out.later hb1)
  have O1 := Lib.hid (Ints.own ho1).1
  clear ho1 hc1 hb1 HT
  go_wp2_with fail
  refine (Glaisher_no a1 n c1 xs _ O1.out (by omega) (by rw [HO.out]; rfl)).mono ?_
  rintro e w2 ⟨rfl, hb2⟩
  have T2 := Lib.hid (T1.out.later hb2)
  clear hb2 T1 O1
  go_wp2_with fail
  refine (list_yes a n c xs _ T2.out.i HP.out HC.out.1 HC.out.2).mono ?_
  rintro e w3 ⟨a3, c3, rfl, ho3, hc3, -, hb3⟩
  have T3 := Lib.hid (T2.out.later hb3)
  have O3 := Lib.hid (Ints.own ho3).1
  clear ho3 hc3 hb3 T2
  go_wp2_with fail
  refine (Odds_no a3 n c3 xs _ O3.out (by omega) (by rw [HD.out]; rfl)).mono ?_
  rintro e w4 ⟨rfl, hb4⟩
  have T4 := Lib.hid (T3.out.later hb4)
  clear hb4 T3 O3
  go_wp2_with fail
  refine (refValid_any a n c xs _ T4.out.i (by omega)).mono ?_
  rintro e w' ⟨rfl, rfl⟩
  rw [HP.out]
  go_wp2_with fail
  refine (refOdd_any a n c xs _ T4.out.i (by omega)).mono ?_
  rintro e w' ⟨rfl, rfl⟩
  rw [HO.out]
  go_wp2_with fail
  refine (refValid_any a n c xs _ T4.out.i (by omega)).mono ?_
  rintro e w' ⟨rfl, rfl⟩
  rw [HP.out]
  go_wp2_with fail
  refine (refDifferent_any a n c xs _ T4.out.i (by omega)).mono ?_
  rintro e w' ⟨rfl, rfl⟩
  rw [HD.out]
  go_wp2_with fail
  refine (awake_any _).mono ?_
  rintro e w9 ⟨rfl, hb9⟩
  have T9 := Lib.hid (T4.out.later hb9)
  clear hb9
  go_wp2_with fail
  go_ret
  exact ⟨rfl, T9.out.b⟩

set_option maxHeartbeats 4000000 in
theorem lawPairs_01 (a : Option Addr) (n c : Nat) (xs : List Int) (w : World) (h : Ints w a n xs) (hP : isP xs = true) (hO : oddL xs = false) (hD : diffL xs = true) (hc : n ≤ c) (hcm : c ≤ maxLen) :
    Calls Try.prog 6 #[.slice a n c] w fun e w' => e = .returned (.bool true) ∧ Below w.heap.size w w' := by
  have HT := Lib.hid (At.start h)
  have HP := Lib.hid hP
  have HO := Lib.hid hO
  have HD := Lib.hid hD
  have hn : n ≤ 30 := by have := isP_len hP; rw [h.1] at this; exact this
  have HC := Lib.hid (And.intro hc hcm)
  obtain ⟨hs1, hs2⟩ := joinF_short (isP_good hP)
  obtain ⟨JX, hJX⟩ : ∃ JX, joinF xs 0 = JX := ⟨_, rfl⟩
  obtain ⟨KX, hKX⟩ : ∃ KX, halfF xs 0 = KX := ⟨_, rfl⟩
  rw [hJX] at hs1
  rw [hKX] at hs2
  have HJX := Lib.hid hJX
  have HKX := Lib.hid hKX
  have HS := Lib.hid (And.intro hs1 hs2)
  clear h hP hO hD hc hcm hJX hKX hs1 hs2
  go_enter Try.func6, Try.ntmps6
  go_wp2_with fail
  refine (list_yes a n c xs _ HT.out.i HP.out HC.out.1 HC.out.2).mono ?_
  rintro e w1 ⟨a1, c1, rfl, ho1, hc1, -, hb1⟩
  have T1 := Lib.hid (HT.out.later hb1)
  have O1 := Lib.hid (Ints.own ho1).1
  clear ho1 hc1 hb1 HT
  go_wp2_with fail
  refine (Glaisher_no a1 n c1 xs _ O1.out (by omega) (by rw [HO.out]; rfl)).mono ?_
  rintro e w2 ⟨rfl, hb2⟩
  have T2 := Lib.hid (T1.out.later hb2)
  clear hb2 T1 O1
  go_wp2_with fail
  refine (list_yes a n c xs _ T2.out.i HP.out HC.out.1 HC.out.2).mono ?_
  rintro e w3 ⟨a3, c3, rfl, ho3, hc3, -, hb3⟩
  have T3 := Lib.hid (T2.out.later hb3)
  have O3 := Lib.hid (Ints.own ho3).1
  clear ho3 hc3 hb3 T2
  go_wp2_with fail
  refine (Odds_yes a3 n c3 xs _ O3.out HP.out HD.out).mono ?_
  rintro e w4 ⟨a4, c4, m4, rfl, hi4, hb4⟩
  rw [HKX.out] at hi4
  have hm4 : m4 ≤ 1000000 := by have := HS.out.2; rw [← hi4.1]; exact this
  have T4 := Lib.hid (T3.out.later hb4)
  have B4 := Lib.hid hi4
  clear hi4 hb4 T3 O3
  go_wp2_with fail
  refine (refValid_any a n c xs _ T4.out.i (by omega)).mono ?_
  rintro e w' ⟨rfl, rfl⟩
  rw [HP.out]
  go_wp2_with fail
  refine (refOdd_any a n c xs _ T4.out.i (by omega)).mono ?_
  rintro e w' ⟨rfl, rfl⟩
  rw [HO.out]
  go_wp2_with fail
  refine (refValid_any a n c xs _ T4.out.i (by omega)).mono ?_
  rintro e w' ⟨rfl, rfl⟩
  rw [HP.out]
  go_wp2_with fail
  refine (refDifferent_any a n c xs _ T4.out.i (by omega)).mono ?_
  rintro e w' ⟨rfl, rfl⟩
  rw [HD.out]
  go_wp2_with fail
  refine (refOdds_any a n c xs _ T4.out.i HP.out).mono ?_
  rintro e w7 ⟨a7, c7, m7, rfl, hr7, hl7, hb7⟩
  rw [HKX.out] at hr7 hl7
  have hm7 : m7 ≤ 1000000 := by have := HS.out.2; rw [← hl7]; exact this
  have T7 := Lib.hid (T4.out.later hb7)
  have B7 := Lib.hid (B4.out.below hb7)
  have R7 := Lib.hid ((Ints.own hr7).1.cast hl7)
  clear hr7 hl7 hb7 T4 B4
  go_wp2_with fail
  refine (equal_any _ _ _ _ _ _ KX KX _ B7.out R7.out (by omega) (by omega)).mono ?_
  rintro e w8 ⟨rfl, q8, rfl⟩
  rw [beq_self_eq_true]
  have T8 := Lib.hid (T7.out.later (below_drewN (Below.refl _ _) q8))
  clear T7 B7 R7
  go_wp2_with fail
  refine (awake_any _).mono ?_
  rintro e w9 ⟨rfl, hb9⟩
  have T9 := Lib.hid (T8.out.later hb9)
  clear hb9
  go_wp2_with fail
  go_ret
  exact ⟨rfl, T9.out.b⟩

set_option maxHeartbeats 4000000 in
theorem lawPairs_10 (a : Option Addr) (n c : Nat) (xs : List Int) (w : World) (h : Ints w a n xs) (hP : isP xs = true) (hO : oddL xs = true) (hD : diffL xs = false) (hc : n ≤ c) (hcm : c ≤ maxLen) :
    Calls Try.prog 6 #[.slice a n c] w fun e w' => e = .returned (.bool true) ∧ Below w.heap.size w w' := by
  have HT := Lib.hid (At.start h)
  have HP := Lib.hid hP
  have HO := Lib.hid hO
  have HD := Lib.hid hD
  have hn : n ≤ 30 := by have := isP_len hP; rw [h.1] at this; exact this
  have HC := Lib.hid (And.intro hc hcm)
  obtain ⟨hs1, hs2⟩ := joinF_short (isP_good hP)
  obtain ⟨JX, hJX⟩ : ∃ JX, joinF xs 0 = JX := ⟨_, rfl⟩
  obtain ⟨KX, hKX⟩ : ∃ KX, halfF xs 0 = KX := ⟨_, rfl⟩
  rw [hJX] at hs1
  rw [hKX] at hs2
  have HJX := Lib.hid hJX
  have HKX := Lib.hid hKX
  have HS := Lib.hid (And.intro hs1 hs2)
  clear h hP hO hD hc hcm hJX hKX hs1 hs2
  go_enter Try.func6, Try.ntmps6
  go_wp2_with fail
  refine (list_yes a n c xs _ HT.out.i HP.out HC.out.1 HC.out.2).mono ?_
  rintro e w1 ⟨a1, c1, rfl, ho1, hc1, -, hb1⟩
  have T1 := Lib.hid (HT.out.later hb1)
  have O1 := Lib.hid (Ints.own ho1).1
  clear ho1 hc1 hb1 HT
  go_wp2_with fail
  refine (Glaisher_yes a1 n c1 xs _ O1.out HP.out HO.out).mono ?_
  rintro e w2 ⟨a2, c2, m2, rfl, hi2, hb2⟩
  rw [HJX.out] at hi2
  have hm2 : m2 ≤ 1000000 := by have := HS.out.1; rw [← hi2.1]; exact this
  have T2 := Lib.hid (T1.out.later hb2)
  have A2 := Lib.hid hi2
  clear hi2 hb2 T1 O1
  go_wp2_with fail
  refine (list_yes a n c xs _ T2.out.i HP.out HC.out.1 HC.out.2).mono ?_
  rintro e w3 ⟨a3, c3, rfl, ho3, hc3, -, hb3⟩
  have T3 := Lib.hid (T2.out.later hb3)
  have O3 := Lib.hid (Ints.own ho3).1
  have A3 := Lib.hid (A2.out.below hb3)
  clear A2
  clear ho3 hc3 hb3 T2
  go_wp2_with fail
  refine (Odds_no a3 n c3 xs _ O3.out (by omega) (by rw [HD.out]; rfl)).mono ?_
  rintro e w4 ⟨rfl, hb4⟩
  have T4 := Lib.hid (T3.out.later hb4)
  have A4 := Lib.hid (A3.out.below hb4)
  clear A3
  clear hb4 T3 O3
  go_wp2_with fail
  refine (refValid_any a n c xs _ T4.out.i (by omega)).mono ?_
  rintro e w' ⟨rfl, rfl⟩
  rw [HP.out]
  go_wp2_with fail
  refine (refOdd_any a n c xs _ T4.out.i (by omega)).mono ?_
  rintro e w' ⟨rfl, rfl⟩
  rw [HO.out]
  go_wp2_with fail
  refine (refGlaisher_any a n c xs _ T4.out.i HP.out).mono ?_
  rintro e w5 ⟨a5, c5, m5, rfl, hr5, hl5, hb5⟩
  rw [HJX.out] at hr5 hl5
  have hm5 : m5 ≤ 1000000 := by have := HS.out.1; rw [← hl5]; exact this
  have T5 := Lib.hid (T4.out.later hb5)
  have A5 := Lib.hid (A4.out.below hb5)
  have R5 := Lib.hid ((Ints.own hr5).1.cast hl5)
  clear hr5 hl5 hb5 T4 A4
  go_wp2_with fail
  refine (equal_any _ _ _ _ _ _ JX JX _ A5.out R5.out (by omega) (by omega)).mono ?_
  rintro e w6 ⟨rfl, q6, rfl⟩
  rw [beq_self_eq_true]
  have T6 := Lib.hid (T5.out.later (below_drewN (Below.refl _ _) q6))
  clear T5 A5 R5
  go_wp2_with fail
  refine (refValid_any a n c xs _ T6.out.i (by omega)).mono ?_
  rintro e w' ⟨rfl, rfl⟩
  rw [HP.out]
  go_wp2_with fail
  refine (refDifferent_any a n c xs _ T6.out.i (by omega)).mono ?_
  rintro e w' ⟨rfl, rfl⟩
  rw [HD.out]
  go_wp2_with fail
  refine (awake_any _).mono ?_
  rintro e w9 ⟨rfl, hb9⟩
  have T9 := Lib.hid (T6.out.later hb9)
  clear hb9
  go_wp2_with fail
  go_ret
  exact ⟨rfl, T9.out.b⟩

set_option maxHeartbeats 4000000 in
theorem lawPairs_11 (a : Option Addr) (n c : Nat) (xs : List Int) (w : World) (h : Ints w a n xs) (hP : isP xs = true) (hO : oddL xs = true) (hD : diffL xs = true) (hc : n ≤ c) (hcm : c ≤ maxLen) :
    Calls Try.prog 6 #[.slice a n c] w fun e w' => e = .returned (.bool true) ∧ Below w.heap.size w w' := by
  have HT := Lib.hid (At.start h)
  have HP := Lib.hid hP
  have HO := Lib.hid hO
  have HD := Lib.hid hD
  have hn : n ≤ 30 := by have := isP_len hP; rw [h.1] at this; exact this
  have HC := Lib.hid (And.intro hc hcm)
  obtain ⟨hs1, hs2⟩ := joinF_short (isP_good hP)
  obtain ⟨JX, hJX⟩ : ∃ JX, joinF xs 0 = JX := ⟨_, rfl⟩
  obtain ⟨KX, hKX⟩ : ∃ KX, halfF xs 0 = KX := ⟨_, rfl⟩
  rw [hJX] at hs1
  rw [hKX] at hs2
  have HJX := Lib.hid hJX
  have HKX := Lib.hid hKX
  have HS := Lib.hid (And.intro hs1 hs2)
  clear h hP hO hD hc hcm hJX hKX hs1 hs2
  go_enter Try.func6, Try.ntmps6
  go_wp2_with fail
  refine (list_yes a n c xs _ HT.out.i HP.out HC.out.1 HC.out.2).mono ?_
  rintro e w1 ⟨a1, c1, rfl, ho1, hc1, -, hb1⟩
  have T1 := Lib.hid (HT.out.later hb1)
  have O1 := Lib.hid (Ints.own ho1).1
  clear ho1 hc1 hb1 HT
  go_wp2_with fail
  refine (Glaisher_yes a1 n c1 xs _ O1.out HP.out HO.out).mono ?_
  rintro e w2 ⟨a2, c2, m2, rfl, hi2, hb2⟩
  rw [HJX.out] at hi2
  have hm2 : m2 ≤ 1000000 := by have := HS.out.1; rw [← hi2.1]; exact this
  have T2 := Lib.hid (T1.out.later hb2)
  have A2 := Lib.hid hi2
  clear hi2 hb2 T1 O1
  go_wp2_with fail
  refine (list_yes a n c xs _ T2.out.i HP.out HC.out.1 HC.out.2).mono ?_
  rintro e w3 ⟨a3, c3, rfl, ho3, hc3, -, hb3⟩
  have T3 := Lib.hid (T2.out.later hb3)
  have O3 := Lib.hid (Ints.own ho3).1
  have A3 := Lib.hid (A2.out.below hb3)
  clear A2
  clear ho3 hc3 hb3 T2
  go_wp2_with fail
  refine (Odds_yes a3 n c3 xs _ O3.out HP.out HD.out).mono ?_
  rintro e w4 ⟨a4, c4, m4, rfl, hi4, hb4⟩
  rw [HKX.out] at hi4
  have hm4 : m4 ≤ 1000000 := by have := HS.out.2; rw [← hi4.1]; exact this
  have T4 := Lib.hid (T3.out.later hb4)
  have B4 := Lib.hid hi4
  have A4 := Lib.hid (A3.out.below hb4)
  clear A3
  clear hi4 hb4 T3 O3
  go_wp2_with fail
  refine (refValid_any a n c xs _ T4.out.i (by omega)).mono ?_
  rintro e w' ⟨rfl, rfl⟩
  rw [HP.out]
  go_wp2_with fail
  refine (refOdd_any a n c xs _ T4.out.i (by omega)).mono ?_
  rintro e w' ⟨rfl, rfl⟩
  rw [HO.out]
  go_wp2_with fail
  refine (refGlaisher_any a n c xs _ T4.out.i HP.out).mono ?_
  rintro e w5 ⟨a5, c5, m5, rfl, hr5, hl5, hb5⟩
  rw [HJX.out] at hr5 hl5
  have hm5 : m5 ≤ 1000000 := by have := HS.out.1; rw [← hl5]; exact this
  have T5 := Lib.hid (T4.out.later hb5)
  have A5 := Lib.hid (A4.out.below hb5)
  have R5 := Lib.hid ((Ints.own hr5).1.cast hl5)
  have B5 := Lib.hid (B4.out.below hb5)
  clear B4
  clear hr5 hl5 hb5 T4 A4
  go_wp2_with fail
  refine (equal_any _ _ _ _ _ _ JX JX _ A5.out R5.out (by omega) (by omega)).mono ?_
  rintro e w6 ⟨rfl, q6, rfl⟩
  rw [beq_self_eq_true]
  have T6 := Lib.hid (T5.out.later (below_drewN (Below.refl _ _) q6))
  have B6 := Lib.hid (B5.out.below (below_drewN (Below.refl _ _) q6))
  clear B5
  clear T5 A5 R5
  go_wp2_with fail
  refine (refValid_any a n c xs _ T6.out.i (by omega)).mono ?_
  rintro e w' ⟨rfl, rfl⟩
  rw [HP.out]
  go_wp2_with fail
  refine (refDifferent_any a n c xs _ T6.out.i (by omega)).mono ?_
  rintro e w' ⟨rfl, rfl⟩
  rw [HD.out]
  go_wp2_with fail
  refine (refOdds_any a n c xs _ T6.out.i HP.out).mono ?_
  rintro e w7 ⟨a7, c7, m7, rfl, hr7, hl7, hb7⟩
  rw [HKX.out] at hr7 hl7
  have hm7 : m7 ≤ 1000000 := by have := HS.out.2; rw [← hl7]; exact this
  have T7 := Lib.hid (T6.out.later hb7)
  have B7 := Lib.hid (B6.out.below hb7)
  have R7 := Lib.hid ((Ints.own hr7).1.cast hl7)
  clear hr7 hl7 hb7 T6 B6
  go_wp2_with fail
  refine (equal_any _ _ _ _ _ _ KX KX _ B7.out R7.out (by omega) (by omega)).mono ?_
  rintro e w8 ⟨rfl, q8, rfl⟩
  rw [beq_self_eq_true]
  have T8 := Lib.hid (T7.out.later (below_drewN (Below.refl _ _) q8))
  clear T7 B7 R7
  go_wp2_with fail
  refine (awake_any _).mono ?_
  rintro e w9 ⟨rfl, hb9⟩
  have T9 := Lib.hid (T8.out.later hb9)
  clear hb9
  go_wp2_with fail
  go_ret
  exact ⟨rfl, T9.out.b⟩

set_option maxHeartbeats 4000000 in
theorem lawPairs_no (a : Option Addr) (n c : Nat) (xs : List Int) (w : World) (h : Ints w a n xs) (hP : isP xs = false) (hc : n ≤ c) (hn : n ≤ 4611686018427387904) (hcm : c ≤ maxLen) :
    Calls Try.prog 6 #[.slice a n c] w fun e w' => e = .returned (.bool true) ∧ Below w.heap.size w w' := by
  have HT := Lib.hid (At.start h)
  have HP := Lib.hid hP
  have HC := Lib.hid (And.intro hc (And.intro hn hcm))
  clear h hP hc hn hcm
  go_enter Try.func6, Try.ntmps6
  go_wp2_with fail
  refine (list_no a n c xs _ HT.out.i HP.out HC.out.1 HC.out.2.1 HC.out.2.2).mono ?_
  rintro e w1 ⟨a1, c1, m1, ys1, rfl, hm1, hy1, ho1, -, -, hb1⟩
  have T1 := Lib.hid (HT.out.later hb1)
  have O1 := Lib.hid (And.intro (Ints.own ho1).1 hy1)
  clear ho1 hy1 hb1 HT
  go_wp2_with fail
  refine (Glaisher_no a1 m1 c1 ys1 _ O1.out.1 (by omega) (by rw [O1.out.2, Bool.and_false])).mono ?_
  rintro e w2 ⟨rfl, hb2⟩
  have T2 := Lib.hid (T1.out.later hb2)
  clear hb2 T1 O1
  go_wp2_with fail
  refine (list_no a n c xs _ T2.out.i HP.out HC.out.1 HC.out.2.1 HC.out.2.2).mono ?_
  rintro e w3 ⟨a3, c3, m3, ys3, rfl, hm3, hy3, ho3, -, -, hb3⟩
  have T3 := Lib.hid (T2.out.later hb3)
  have O3 := Lib.hid (And.intro (Ints.own ho3).1 hy3)
  clear ho3 hy3 hb3 T2
  go_wp2_with fail
  refine (Odds_no a3 m3 c3 ys3 _ O3.out.1 (by omega) (by rw [O3.out.2, Bool.and_false])).mono ?_
  rintro e w4 ⟨rfl, hb4⟩
  have T4 := Lib.hid (T3.out.later hb4)
  clear hb4 T3 O3
  go_wp2_with fail
  refine (refValid_any a n c xs _ T4.out.i HC.out.2.1).mono ?_
  rintro e w' ⟨rfl, rfl⟩
  rw [HP.out]
  go_wp2_with fail
  refine (refValid_any a n c xs _ T4.out.i HC.out.2.1).mono ?_
  rintro e w' ⟨rfl, rfl⟩
  rw [HP.out]
  go_wp2_with fail
  refine (awake_any _).mono ?_
  rintro e w9 ⟨rfl, hb9⟩
  have T9 := Lib.hid (T4.out.later hb9)
  clear hb9
  go_wp2_with fail
  go_ret
  exact ⟨rfl, T9.out.b⟩

theorem lawPairs_any (a : Option Addr) (n c : Nat) (xs : List Int) (w : World) (h : Ints w a n xs) (hc : n ≤ c) (hn : n ≤ 4611686018427387904) (hcm : c ≤ maxLen) :
    Calls Try.prog 6 #[.slice a n c] w fun e w' => e = .returned (.bool true) ∧ Below w.heap.size w w' := by
  cases hP : isP xs
  · exact lawPairs_no a n c xs w h hP hc hn hcm
  · cases hO : oddL xs <;> cases hD : diffL xs
    · exact lawPairs_00 a n c xs w h hP hO hD hc hcm
    · exact lawPairs_01 a n c xs w h hP hO hD hc hcm
    · exact lawPairs_10 a n c xs w h hP hO hD hc hcm
    · exact lawPairs_11 a n c xs w h hP hO hD hc hcm
end Go.Proofs.Ytfecdpglcdhijaa
