/- The law PartsMoved: its walk in every case. Condition: the slice lies in memory. -/
import Derived.Test.YtfecdpglcdhijaaMoveMath
import Derived.Test.YtfecdpglcdhijaaLawFrank
namespace Go.Proofs.Ytfecdpglcdhijaa
open Go.RowKit

set_option maxHeartbeats 2000000 in
theorem lawMoved_fail (a : Option Addr) (n c : Nat) (xs : List Int) (w : World) (h : Ints w a n xs) (hP : isP xs = true) (hn1 : 1 ≤ n) (hD : diffL xs = true) (hF : failL xs = true) (hc : n ≤ c) (hcm : c ≤ maxLen) :
    Calls Try.prog 11 #[.slice a n c] w fun e w' => e = .returned (.bool true) ∧ Below w.heap.size w w' := by
  have HT := Lib.hid (At.start h)
  have HP := Lib.hid hP
  have HD := Lib.hid hD
  have HF := Lib.hid hF
  have hn : n ≤ 30 := by have := isP_len hP; rw [h.1] at this; exact this
  have HC := Lib.hid (And.intro hc hcm)
  have hbd : ∀ j, j < n → 0 ≤ xs.getD j 0 ∧ xs.getD j 0 ≤ 1000 := fun j hj => by have := isP_at hP (j := j) (by rw [h.1]; exact hj); omega
  have HBD := Lib.hid hbd
  obtain ⟨s1, s2⟩ := isP_sum hP
  obtain ⟨S, hS⟩ : ∃ S : Nat, sumL xs = (S : Int) := ⟨(sumL xs).toNat, by omega⟩
  have hpen : penF S S = 1 - 2 * ((n : Int) % 2) := by
    rcases moved_all hP hD (by rw [h.1]; exact hn1) with ⟨-, h2⟩ | ⟨h2, -⟩
    · rw [hS, h.1] at h2
      exact h2
    · rw [hF] at h2; cases h2
  rw [hS] at s2
  have HS := Lib.hid hS
  have hpt := Pentagonal_yes S (by omega)
  rw [hpen] at hpt
  have HPT := Lib.hid hpt
  have n0 : (0 : Int) ≤ (n : Int) := by omega
  clear h hP hD hF hc hcm hbd hS hpen hpt s1
  go_enter Try.func11, Try.ntmps11
  go_wp2_with fail
  refine (list_yes a n c xs _ HT.out.i HP.out HC.out.1 HC.out.2).mono ?_
  rintro e w1 ⟨a1, c1, rfl, ho1, hc1, -, hb1⟩
  have T1 := Lib.hid (HT.out.later hb1)
  have O1 := Lib.hid (And.intro (Ints.own ho1).1 hc1)
  clear ho1 hc1 hb1 HT
  go_wp2_with fail
  refine (franklin_fail a1 n c1 xs _ O1.out.1 hn1 HD.out HP.out O1.out.2 HF.out).mono ?_
  rintro e w2 ⟨rfl, hb2⟩
  have T2 := Lib.hid (T1.out.later hb2)
  clear hb2 T1 O1
  go_wp2_with fail
  refine (Sum_any a n c xs _ T2.out.i (by omega) HBD.out).mono ?_
  rintro e w' ⟨rfl, rfl⟩
  rw [HS.out]
  go_wp2_with fail
  refine (HPT.out _).mono ?_
  rintro e w3 ⟨rfl, hb3⟩
  have T3 := Lib.hid (T2.out.later hb3)
  have hmod : Int.tmod (n : Int) 2 = (n : Int) % 2 := Int.tmod_eq_emod_of_nonneg n0
  have hm1 : 0 ≤ (n : Int) % 2 := by omega
  have hm2 : (n : Int) % 2 ≤ 1 := by omega
  clear hb3 T2
  go_wp2_with fail
  refine (awake_any _).mono ?_
  rintro e w5 ⟨rfl, hb5⟩
  have T5 := Lib.hid (T3.out.later hb5)
  clear hb5 T3
  go_wp2_with fail
  go_ret
  exact ⟨rfl, T5.out.b⟩

set_option maxHeartbeats 2000000 in
theorem lawMoved_ok (a : Option Addr) (n c : Nat) (xs : List Int) (w : World) (h : Ints w a n xs) (hP : isP xs = true) (hn1 : 1 ≤ n) (hD : diffL xs = true) (hF : failL xs = false) (hc : n ≤ c) (hcm : c ≤ maxLen) :
    Calls Try.prog 11 #[.slice a n c] w fun e w' => e = .returned (.bool true) ∧ Below w.heap.size w w' := by
  have HT := Lib.hid (At.start h)
  have HP := Lib.hid hP
  have HD := Lib.hid hD
  have HF := Lib.hid hF
  have hn : n ≤ 30 := by have := isP_len hP; rw [h.1] at this; exact this
  have HC := Lib.hid (And.intro hc hcm)
  have hbd : ∀ j, j < n → 0 ≤ xs.getD j 0 ∧ xs.getD j 0 ≤ 1000 := fun j hj => by have := isP_at hP (j := j) (by rw [h.1]; exact hj); omega
  have HBD := Lib.hid hbd
  obtain ⟨-, m1, m2, m3, m4, m5, m6⟩ := (moved_all hP hD (by rw [h.1]; exact hn1)).resolve_left (by rw [hF]; simp)
  obtain ⟨l1, l2⟩ := moveL_len hP (by rw [h.1]; exact hn1) hF
  obtain ⟨M, hM⟩ : ∃ M, moveL xs = M := ⟨_, rfl⟩
  rw [hM] at m1 m2 m3 m4 m5 m6 l1 l2
  obtain ⟨L, hL⟩ : ∃ L, M.length = L := ⟨_, rfl⟩
  have hbm : ∀ j, j < L → 0 ≤ M.getD j 0 ∧ M.getD j 0 ≤ 1000 := fun j hj => by have := isP_at m1 (j := j) (by rw [hL]; exact hj); omega
  rw [hL] at l1 l2 m6
  rw [h.1] at m6
  have HBM := Lib.hid hbm
  have HM := Lib.hid (And.intro hM hL)
  have HMM := Lib.hid (And.intro m1 (And.intro m2 (And.intro m3 m4)))
  have HM5 := Lib.hid m5
  have HXL := Lib.hid h.1
  have hdd2 : ((L : Int) - (n : Int)) * ((L : Int) - (n : Int)) = 1 := by
    rcases m6 with h | h
    · rw [h, show ((n + 1 : Nat) : Int) - (n : Int) = 1 by omega]; rfl
    · rw [h, show (L : Int) - ((L + 1 : Nat) : Int) = -1 by omega]; rfl
  have HDD := Lib.hid hdd2
  clear h hP hD hF hc hcm hbd hM hL m1 m2 m3 m4 m5 m6 hbm hdd2
  go_enter Try.func11, Try.ntmps11
  go_wp2_with fail
  refine (list_yes a n c xs _ HT.out.i HP.out HC.out.1 HC.out.2).mono ?_
  rintro e w1 ⟨a1, c1, rfl, ho1, hc1, -, hb1⟩
  have T1 := Lib.hid (HT.out.later hb1)
  have O1 := Lib.hid (And.intro (Ints.own ho1).1 hc1)
  clear ho1 hc1 hb1 HT
  go_wp2_with fail
  refine (franklin_ok a1 n c1 xs M L _ O1.out.1 hn1 HD.out HP.out O1.out.2 HF.out HM.out.1 HM.out.2).mono ?_
  rintro e w2 ⟨g2, c2, rfl, ho2, hb2⟩
  have T2 := Lib.hid (T1.out.later hb2)
  have A2 := Lib.hid (Ints.own ho2).1
  clear ho2 hb2 T1 O1
  go_wp2_with fail
  refine (clone_any _ L c2 M _ A2.out (by omega)).mono ?_
  rintro e w3 ⟨a3, c3, rfl, ho3, hc3, -, hb3⟩
  have T3 := Lib.hid (T2.out.later hb3)
  have A3 := Lib.hid (A2.out.below hb3)
  have O3 := Lib.hid (And.intro (Ints.own ho3).1 hc3)
  clear ho3 hc3 hb3 T2 A2
  go_wp2_with fail
  refine (franklin_ok a3 L c3 M xs n _ O3.out.1 l1 HMM.out.2.1 HMM.out.1 O3.out.2 HMM.out.2.2.1 HMM.out.2.2.2 HXL.out).mono ?_
  rintro e w4 ⟨g4, c4, rfl, ho4, hb4⟩
  have T4 := Lib.hid (T3.out.later hb4)
  have A4 := Lib.hid (A3.out.below hb4)
  have B4 := Lib.hid (Ints.own ho4).1
  clear ho4 hb4 T3 A3 O3
  go_wp2_with fail
  refine (equal_any _ _ _ _ _ _ xs xs _ B4.out T4.out.i (by omega) (by omega)).mono ?_
  rintro e w5 ⟨rfl, q, rfl⟩
  rw [beq_self_eq_true]
  have T5 := Lib.hid (T4.out.later (below_drewN (Below.refl _ _) q))
  have A5 := Lib.hid (A4.out.below (below_drewN (Below.refl _ _) q))
  have hdd := HDD.out
  have hguard : (((L : Int) - (n : Int)) * ((L : Int) - (n : Int)) == 1) = true := by rw [HDD.out]; rfl
  clear T4 A4 B4
  go_wp2_with fail
  refine (Sum_any _ L c2 M _ A5.out (by omega) HBM.out).mono ?_
  rintro e w' ⟨rfl, rfl⟩
  rw [HM5.out]
  go_wp2_with fail
  refine (Sum_any a n c xs _ T5.out.i (by omega) HBD.out).mono ?_
  rintro e w' ⟨rfl, rfl⟩
  go_wp2_with fail
  refine (awake_any _).mono ?_
  rintro e w6 ⟨rfl, hb6⟩
  have T6 := Lib.hid (T5.out.later hb6)
  clear hb6 T5
  go_wp2_with fail
  go_ret
  exact ⟨rfl, T6.out.b⟩

set_option maxHeartbeats 2000000 in
theorem lawMoved_no (a : Option Addr) (n c : Nat) (xs : List Int) (w : World) (h : Ints w a n xs) (hB : (decide (0 < n) && (diffL xs && isP xs)) = false) (hc : n ≤ c) (hn : n ≤ 4611686018427387904) (hcm : c ≤ maxLen) :
    Calls Try.prog 11 #[.slice a n c] w fun e w' => e = .returned (.bool true) ∧ Below w.heap.size w w' := by
  have HT := Lib.hid (At.start h)
  have HC := Lib.hid (And.intro hc (And.intro hn hcm))
  have hcase : ∀ (ao : Option Addr) (co m : Nat) (ys : List Int) (W : World), Ints W ao m ys → m ≤ 34 → ys = xs.take 34 → (decide (0 < m) && (diffL ys && isP ys)) = false := by
    intro ao co m ys W hi hm hy
    by_cases hP : isP xs = true
    · rw [isP_take_yes hP] at hy
      rw [hy, ← hB]
      have : m = n := by rw [← hi.1, hy, h.1]
      rw [this]
    · have : isP ys = false := by rw [hy, isP_take]; simpa using hP
      rw [this, Bool.and_false, Bool.and_false]
  have HCASE := Lib.hid hcase
  clear h hB hc hn hcm hcase
  go_enter Try.func11, Try.ntmps11
  go_wp2_with fail
  refine (list_any a n c xs _ HT.out.i HC.out.1 HC.out.2.1 HC.out.2.2).mono ?_
  rintro e w1 ⟨a1, c1, m1, rfl, hm1, ho1, -, -, hb1⟩
  have T1 := Lib.hid (HT.out.later hb1)
  have O1 := Lib.hid (And.intro (Ints.own ho1).1 (HCASE.out a1 c1 m1 _ _ (Ints.own ho1).1 hm1 rfl))
  clear ho1 hb1 HT
  go_wp2_with fail
  refine (Franklin_no a1 m1 c1 _ _ O1.out.1 (by omega) O1.out.2).mono ?_
  rintro e w2 ⟨rfl, hb2⟩
  have T2 := Lib.hid (T1.out.later hb2)
  clear hb2 T1 O1
  go_wp2_with fail
  refine (awake_any _).mono ?_
  rintro e w3 ⟨rfl, hb3⟩
  have T3 := Lib.hid (T2.out.later hb3)
  clear hb3 T2
  go_wp2_with fail
  go_ret
  exact ⟨rfl, T3.out.b⟩

theorem lawMoved_any (a : Option Addr) (n c : Nat) (xs : List Int) (w : World) (h : Ints w a n xs) (hc : n ≤ c) (hn : n ≤ 4611686018427387904) (hcm : c ≤ maxLen) :
    Calls Try.prog 11 #[.slice a n c] w fun e w' => e = .returned (.bool true) ∧ Below w.heap.size w w' := by
  by_cases hB : (decide (0 < n) && (diffL xs && isP xs)) = true
  · rw [Bool.and_eq_true, Bool.and_eq_true, decide_eq_true_eq] at hB
    by_cases hF : failL xs = true
    · exact lawMoved_fail a n c xs w h hB.2.2 hB.1 hB.2.1 hF hc hcm
    · exact lawMoved_ok a n c xs w h hB.2.2 hB.1 hB.2.1 (by simpa using hF) hc hcm
  · exact lawMoved_no a n c xs w h (by simpa using hB) hc hn hcm
end Go.Proofs.Ytfecdpglcdhijaa
