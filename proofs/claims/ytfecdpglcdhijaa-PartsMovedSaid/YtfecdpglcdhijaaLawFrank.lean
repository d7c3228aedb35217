/- The law PartsFranklin: its walk in every case. Condition: the slice lies in memory. -/
import Derived.Test.YtfecdpglcdhijaaFrank4
namespace Go.Proofs.Ytfecdpglcdhijaa
open Go.RowKit

theorem franklin_fail (a : Option Addr) (n c : Nat) (xs : List Int) (w : World) (h : Ints w a n xs) (hn : 1 ≤ n) (hD : diffL xs = true) (hP : isP xs = true) (hcn : n ≤ c) (hF : failL xs = true) :
    Calls Try.prog 34 #[.slice a n c] w fun e w' => e = .returned (.tuple #[.slice none 0 0, .int .i64 5]) ∧ Below w.heap.size w w' :=
  (Franklin_yes a n c xs w h hn hD hP hcn).mono fun e w' h1 => by
    rcases h1 with ⟨-, h2, h3⟩ | ⟨h2, -⟩
    · exact ⟨h2, h3⟩
    · rw [hF] at h2; cases h2
theorem franklin_ok (a : Option Addr) (n c : Nat) (xs M : List Int) (L : Nat) (w : World) (h : Ints w a n xs) (hn : 1 ≤ n) (hD : diffL xs = true) (hP : isP xs = true) (hcn : n ≤ c) (hF : failL xs = false) (hM : moveL xs = M) (hL : M.length = L) :
    Calls Try.prog 34 #[.slice a n c] w fun e w' => ∃ g co, e = .returned (.tuple #[.slice (some ⟨g, 0, none⟩) L co, .int .i64 0]) ∧ w'.ownsRow w.heap.size 3 1 (.slice (some ⟨g, 0, none⟩) L co) L (M.map (Value.int .i64)) ∧ Below w.heap.size w w' :=
  (Franklin_yes a n c xs w h hn hD hP hcn).mono fun e w' h1 => by
    subst hM hL
    rcases h1 with ⟨h2, -⟩ | ⟨-, h3⟩
    · rw [hF] at h2; cases h2
    · exact h3
theorem refFranklin_fail (a : Option Addr) (n c : Nat) (xs : List Int) (w : World) (h : Ints w a n xs) (hn : 1 ≤ n) (hP : isP xs = true) (hF : failL xs = true) :
    Calls Try.prog 36 #[.slice a n c] w fun e w' => e = .returned (.tuple #[.slice none 0 0, .int .i64 5]) ∧ Below w.heap.size w w' :=
  (refFranklin_any a n c xs w h hP hn).mono fun e w' h1 => by
    rcases h1 with ⟨-, h2, h3⟩ | ⟨h2, -⟩
    · exact ⟨h2, h3⟩
    · rw [hF] at h2; cases h2
theorem refFranklin_ok (a : Option Addr) (n c : Nat) (xs M : List Int) (L : Nat) (w : World) (h : Ints w a n xs) (hn : 1 ≤ n) (hP : isP xs = true) (hF : failL xs = false) (hM : moveL xs = M) (hL : M.length = L) :
    Calls Try.prog 36 #[.slice a n c] w fun e w' => ∃ g co, e = .returned (.tuple #[.slice (some ⟨g, 0, none⟩) L co, .int .i64 0]) ∧ w'.ownsRow w.heap.size 3 1 (.slice (some ⟨g, 0, none⟩) L co) L (M.map (Value.int .i64)) ∧ Below w.heap.size w w' :=
  (refFranklin_any a n c xs w h hP hn).mono fun e w' h1 => by
    subst hM hL
    rcases h1 with ⟨h2, -⟩ | ⟨-, h3⟩
    · rw [hF] at h2; cases h2
    · exact h3

set_option maxHeartbeats 2000000 in
theorem lawFrank_yes (a : Option Addr) (n c : Nat) (xs : List Int) (w : World) (h : Ints w a n xs) (hP : isP xs = true) (hn1 : 1 ≤ n) (hD : diffL xs = true) (hc : n ≤ c) (hcm : c ≤ maxLen) :
    Calls Try.prog 5 #[.slice a n c] w fun e w' => e = .returned (.bool true) ∧ Below w.heap.size w w' := by
  have HT := Lib.hid (At.start h)
  have HP := Lib.hid hP
  have HD := Lib.hid hD
  have hn : n ≤ 30 := by have := isP_len hP; rw [h.1] at this; exact this
  have hlen := fun hF => moveL_len hP (by rw [h.1]; exact hn1) hF
  have HLEN := Lib.hid hlen
  have HC := Lib.hid (And.intro hc hcm)
  have hnz : ((n : Int) == 0) = false := by simp; omega
  clear h hP hD hc hcm hlen
  by_cases hF : failL xs = true
  · have HF := Lib.hid hF
    clear hF
    go_enter Try.func5, Try.ntmps5
    go_wp2_with fail
    refine (list_yes a n c xs _ HT.out.i HP.out HC.out.1 HC.out.2).mono ?_
    rintro e w1 ⟨a1, c1, rfl, ho1, hc1, -, hb1⟩
    have T1 := Lib.hid (HT.out.later hb1)
    have O1 := Lib.hid (And.intro (Ints.own ho1).1 hc1)
    clear ho1 hc1 hb1 HT
    go_wp2_with fail
    refine (franklin_fail a1 n c1 xs _ O1.out.1 hn1 HD.out HP.out O1.out.2 HF.out).mono ?_
    rintro e w2 ⟨rfl, hb2⟩
    have T2 := Lib.hid (T1.out.later hb2)
    clear hb2 T1 O1
    go_wp2_with fail
    refine (refValid_any a n c xs _ T2.out.i (by omega)).mono ?_
    rintro e w' ⟨rfl, rfl⟩
    rw [HP.out]
    go_wp2_with fail
    refine (refDifferent_any a n c xs _ T2.out.i (by omega)).mono ?_
    rintro e w' ⟨rfl, rfl⟩
    rw [HD.out]
    go_wp2_with fail
    refine (refFranklin_fail a n c xs _ T2.out.i hn1 HP.out HF.out).mono ?_
    rintro e w3 ⟨rfl, hb3⟩
    have T3 := Lib.hid (T2.out.later hb3)
    clear hb3 T2
    go_wp2_with fail
    refine (equal_any _ _ _ _ _ _ [] [] _ (Ints.nil _ _) (Ints.nil _ _) (by omega) (by omega)).mono ?_
    rintro e w4 ⟨rfl, q, rfl⟩
    rw [beq_self_eq_true]
    have T4 := Lib.hid (T3.out.later (below_drewN (Below.refl _ _) q))
    clear T3
    go_wp2_with fail
    refine (awake_any _).mono ?_
    rintro e w5 ⟨rfl, hb5⟩
    have T5 := Lib.hid (T4.out.later hb5)
    clear hb5 T4
    go_wp2_with fail
    go_ret
    exact ⟨rfl, T5.out.b⟩
  · have hF' : failL xs = false := by simpa using hF
    have HF := Lib.hid hF'
    obtain ⟨l1, l2⟩ := HLEN.out hF'
    obtain ⟨M, hM⟩ : ∃ M, moveL xs = M := ⟨_, rfl⟩
    obtain ⟨L, hL⟩ : ∃ L, M.length = L := ⟨_, rfl⟩
    rw [hM, hL] at l1 l2
    have HM := Lib.hid hM
    have HL := Lib.hid hL
    clear hF hF' hM hL
    go_enter Try.func5, Try.ntmps5
    go_wp2_with fail
    refine (list_yes a n c xs _ HT.out.i HP.out HC.out.1 HC.out.2).mono ?_
    rintro e w1 ⟨a1, c1, rfl, ho1, hc1, -, hb1⟩
    have T1 := Lib.hid (HT.out.later hb1)
    have O1 := Lib.hid (And.intro (Ints.own ho1).1 hc1)
    clear ho1 hc1 hb1 HT
    go_wp2_with fail
    refine (franklin_ok a1 n c1 xs M L _ O1.out.1 hn1 HD.out HP.out O1.out.2 HF.out HM.out HL.out).mono ?_
    rintro e w2 ⟨g2, c2, rfl, ho2, hb2⟩
    have T2 := Lib.hid (T1.out.later hb2)
    have A2 := Lib.hid (Ints.own ho2).1
    clear ho2 hb2 T1 O1
    go_wp2_with fail
    refine (refValid_any a n c xs _ T2.out.i (by omega)).mono ?_
    rintro e w' ⟨rfl, rfl⟩
    rw [HP.out]
    go_wp2_with fail
    refine (refDifferent_any a n c xs _ T2.out.i (by omega)).mono ?_
    rintro e w' ⟨rfl, rfl⟩
    rw [HD.out]
    go_wp2_with fail
    refine (refFranklin_ok a n c xs M L _ T2.out.i hn1 HP.out HF.out HM.out HL.out).mono ?_
    rintro e w3 ⟨g3, c3, rfl, ho3, hb3⟩
    have T3 := Lib.hid (T2.out.later hb3)
    have A3 := Lib.hid (A2.out.below hb3)
    have O3 := Lib.hid (Ints.own ho3).1
    clear ho3 hb3 T2 A2
    go_wp2_with fail
    refine (equal_any _ _ _ _ _ _ M M _ A3.out O3.out (by omega) (by omega)).mono ?_
    rintro e w4 ⟨rfl, q, rfl⟩
    rw [beq_self_eq_true]
    have T4 := Lib.hid (T3.out.later (below_drewN (Below.refl _ _) q))
    clear T3 A3 O3
    go_wp2_with fail
    refine (awake_any _).mono ?_
    rintro e w5 ⟨rfl, hb5⟩
    have T5 := Lib.hid (T4.out.later hb5)
    clear hb5 T4
    go_wp2_with fail
    go_ret
    exact ⟨rfl, T5.out.b⟩

set_option maxHeartbeats 2000000 in
theorem lawFrank_no (a : Option Addr) (n c : Nat) (xs : List Int) (w : World) (h : Ints w a n xs) (hB : isP xs = false ∨ n = 0 ∨ (isP xs = true ∧ diffL xs = false)) (hc : n ≤ c) (hn : n ≤ 4611686018427387904) (hcm : c ≤ maxLen) :
    Calls Try.prog 5 #[.slice a n c] w fun e w' => e = .returned (.bool true) ∧ Below w.heap.size w w' := by
  have HT := Lib.hid (At.start h)
  have HC := Lib.hid (And.intro hc (And.intro hn hcm))
  have HN := Lib.hid h.1
  clear h hc hn hcm
  rcases hB with hP | h0 | ⟨hP, hD⟩
  · have HP := Lib.hid hP
    clear hP
    go_enter Try.func5, Try.ntmps5
    go_wp2_with fail
    refine (list_no a n c xs _ HT.out.i HP.out HC.out.1 HC.out.2.1 HC.out.2.2).mono ?_
    rintro e w1 ⟨a1, c1, m1, ys1, rfl, hm1, hy1, ho1, -, -, hb1⟩
    have T1 := Lib.hid (HT.out.later hb1)
    have O1 := Lib.hid (And.intro (Ints.own ho1).1 hy1)
    clear ho1 hy1 hb1 HT
    go_wp2_with fail
    refine (Franklin_no a1 m1 c1 ys1 _ O1.out.1 (by omega) (by rw [O1.out.2, Bool.and_false, Bool.and_false])).mono ?_
    rintro e w2 ⟨rfl, hb2⟩
    have T2 := Lib.hid (T1.out.later hb2)
    clear hb2 T1 O1
    go_wp2_with fail
    refine (refValid_any a n c xs _ T2.out.i HC.out.2.1).mono ?_
    rintro e w' ⟨rfl, rfl⟩
    rw [HP.out]
    go_wp2_with fail
    refine (awake_any _).mono ?_
    rintro e w3 ⟨rfl, hb3⟩
    have T3 := Lib.hid (T2.out.later hb3)
    clear hb3 T2
    go_wp2_with fail
    go_ret
    exact ⟨rfl, T3.out.b⟩
  · subst h0
    have hx : xs = [] := List.length_eq_zero_iff.1 HN.out
    subst hx
    have hP : isP [] = true := rfl
    have HP := Lib.hid hP
    clear hP
    go_enter Try.func5, Try.ntmps5
    go_wp2_with fail
    refine (list_yes a 0 c [] _ HT.out.i HP.out HC.out.1 HC.out.2.2).mono ?_
    rintro e w1 ⟨a1, c1, rfl, ho1, hc1, -, hb1⟩
    have T1 := Lib.hid (HT.out.later hb1)
    have O1 := Lib.hid (Ints.own ho1).1
    clear ho1 hc1 hb1 HT
    go_wp2_with fail
    refine (Franklin_no a1 0 c1 [] _ O1.out (by omega) rfl).mono ?_
    rintro e w2 ⟨rfl, hb2⟩
    have T2 := Lib.hid (T1.out.later hb2)
    clear hb2 T1 O1
    go_wp2_with fail
    refine (refValid_any a 0 c [] _ T2.out.i (by omega)).mono ?_
    rintro e w' ⟨rfl, rfl⟩
    rw [HP.out]
    go_wp2_with fail
    refine (awake_any _).mono ?_
    rintro e w3 ⟨rfl, hb3⟩
    have T3 := Lib.hid (T2.out.later hb3)
    clear hb3 T2
    go_wp2_with fail
    go_ret
    exact ⟨rfl, T3.out.b⟩
  · have HP := Lib.hid hP
    have HD := Lib.hid hD
    have hn1 : 1 ≤ n := by
      by_cases h0 : n = 0
      · have hx : xs = [] := List.length_eq_zero_iff.1 (by rw [HN.out]; exact h0)
        rw [hx] at hD
        cases hD
      · omega
    have hn : n ≤ 30 := by have := isP_len hP; rw [HN.out] at this; exact this
    have hnz : ((n : Int) == 0) = false := by simp; omega
    clear hP hD
    go_enter Try.func5, Try.ntmps5
    go_wp2_with fail
    refine (list_yes a n c xs _ HT.out.i HP.out HC.out.1 HC.out.2.2).mono ?_
    rintro e w1 ⟨a1, c1, rfl, ho1, hc1, -, hb1⟩
    have T1 := Lib.hid (HT.out.later hb1)
    have O1 := Lib.hid (Ints.own ho1).1
    clear ho1 hc1 hb1 HT
    go_wp2_with fail
    refine (Franklin_no a1 n c1 xs _ O1.out (by omega) (by rw [HD.out, Bool.false_and, Bool.and_false])).mono ?_
    rintro e w2 ⟨rfl, hb2⟩
    have T2 := Lib.hid (T1.out.later hb2)
    clear hb2 T1 O1
    go_wp2_with fail
    refine (refValid_any a n c xs _ T2.out.i (by omega)).mono ?_
    rintro e w' ⟨rfl, rfl⟩
    rw [HP.out]
    go_wp2_with fail
    refine (refDifferent_any a n c xs _ T2.out.i (by omega)).mono ?_
    rintro e w' ⟨rfl, rfl⟩
    rw [HD.out]
    go_wp2_with fail
    refine (awake_any _).mono ?_
    rintro e w3 ⟨rfl, hb3⟩
    have T3 := Lib.hid (T2.out.later hb3)
    clear hb3 T2
    go_wp2_with fail
    go_ret
    exact ⟨rfl, T3.out.b⟩

theorem lawFrank_any (a : Option Addr) (n c : Nat) (xs : List Int) (w : World) (h : Ints w a n xs) (hc : n ≤ c) (hn : n ≤ 4611686018427387904) (hcm : c ≤ maxLen) :
    Calls Try.prog 5 #[.slice a n c] w fun e w' => e = .returned (.bool true) ∧ Below w.heap.size w w' := by
  by_cases hP : isP xs = true
  · by_cases h0 : n = 0
    · exact lawFrank_no a n c xs w h (.inr (.inl h0)) hc hn hcm
    · by_cases hD : diffL xs = true
      · exact lawFrank_yes a n c xs w h hP (by omega) hD hc hcm
      · exact lawFrank_no a n c xs w h (.inr (.inr ⟨hP, by simpa using hD⟩)) hc hn hcm
  · exact lawFrank_no a n c xs w h (.inl (by simpa using hP)) hc hn hcm
end Go.Proofs.Ytfecdpglcdhijaa
