/- The law PartsShapes: its walk in every case. Condition: the slice lies in memory. -/
import Derived.Test.YtfecdpglcdhijaaAwake
namespace Go.Proofs.Ytfecdpglcdhijaa
open Go.RowKit

/-- The argument lies as it lay, in a world that is w's or later. -/
structure At (w W : World) (a : Option Addr) (n : Nat) (xs : List Int) : Prop where
  b : Below w.heap.size w W
  i : Ints W a n xs
theorem At.start {w : World} {a : Option Addr} {n : Nat} {xs : List Int} (h : Ints w a n xs) : At w w a n xs := ⟨Below.refl _ _, h⟩
theorem At.later {w W W' : World} {a : Option Addr} {n : Nat} {xs : List Int} (h : At w W a n xs) (hb : Below W.heap.size W W') : At w W' a n xs := ⟨h.b.trans (hb.mono h.b.size), h.i.below hb⟩

/-- A copy of a partition. -/
theorem list_yes (a : Option Addr) (n c : Nat) (xs : List Int) (w : World) (h : Ints w a n xs) (hP : isP xs = true) (hc : n ≤ c) (hcm : c ≤ maxLen) :
    Calls Try.prog 24 #[.slice a n c] w fun e w' => ∃ ao co, e = .returned (.slice ao n co) ∧ w'.ownsRow w.heap.size 3 1 (.slice ao n co) n (xs.map (Value.int .i64)) ∧ n ≤ co ∧ co ≤ maxLen ∧ Below w.heap.size w w' := by
  have hn := isP_len hP
  rw [h.1] at hn
  refine (list_any a n c xs w h hc (by omega) hcm).mono ?_
  rintro e w' ⟨ao, co, m, rfl, hm, ho, h1, h2, hb⟩
  rw [isP_take_yes hP] at ho
  have : m = n := (Ints.own ho).1.1.symm.trans h.1
  subst this
  exact ⟨ao, co, rfl, ho, h1, h2, hb⟩
/-- A copy of the beginning of no partition is no partition. -/
theorem list_no (a : Option Addr) (n c : Nat) (xs : List Int) (w : World) (h : Ints w a n xs) (hP : isP xs = false) (hc : n ≤ c) (hn : n ≤ 4611686018427387904) (hcm : c ≤ maxLen) :
    Calls Try.prog 24 #[.slice a n c] w fun e w' => ∃ ao co m ys, e = .returned (.slice ao m co) ∧ m ≤ 34 ∧ isP ys = false ∧ w'.ownsRow w.heap.size 3 1 (.slice ao m co) m (ys.map (Value.int .i64)) ∧ m ≤ co ∧ co ≤ maxLen ∧ Below w.heap.size w w' := by
  refine (list_any a n c xs w h hc hn hcm).mono ?_
  rintro e w' ⟨ao, co, m, rfl, hm, ho, h1, h2, hb⟩
  exact ⟨ao, co, m, xs.take 34, rfl, hm, by rw [isP_take]; exact hP, ho, h1, h2, hb⟩

set_option maxHeartbeats 2000000 in
theorem lawShapes_yes (a : Option Addr) (n c : Nat) (xs : List Int) (w : World) (h : Ints w a n xs) (hP : isP xs = true) (hc : n ≤ c) (hcm : c ≤ maxLen) :
    Calls Try.prog 4 #[.slice a n c] w fun e w' => e = .returned (.bool true) ∧ Below w.heap.size w w' := by
  have HT := Lib.hid (At.start h)
  have HP := Lib.hid hP
  have hn : n ≤ 30 := by have := isP_len hP; rw [h.1] at this; exact this
  have HC := Lib.hid (And.intro hc hcm)
  obtain ⟨K, hK⟩ : ∃ K, conjL xs = K := ⟨_, rfl⟩
  have HK := Lib.hid hK
  have hkl : K.length ≤ 30 := by
    rw [← hK, conjL_len, headD_getD]
    by_cases h0 : 0 < xs.length
    · have := isP_at hP h0; omega
    · have : xs = [] := List.length_eq_zero_iff.1 (by omega)
      subst this
      simp
  obtain ⟨k, hk⟩ : ∃ k, K.length = k := ⟨_, rfl⟩
  rw [hk] at hkl
  have HKL := Lib.hid hk
  clear h hP hc hcm hK hk
  go_enter Try.func4, Try.ntmps4
  go_wp2_with fail
  refine (list_yes a n c xs _ HT.out.i HP.out HC.out.1 HC.out.2).mono ?_
  rintro e w1 ⟨a1, c1, rfl, ho1, hc1, hm1, hb1⟩
  have T1 := Lib.hid (HT.out.later hb1)
  have O1 := Lib.hid (And.intro (Ints.own ho1).1 (And.intro hc1 hm1))
  clear ho1 hc1 hm1 hb1 HT
  go_wp2_with fail
  refine (Conjugate_yes a1 n c1 xs _ O1.out.1 HP.out O1.out.2.1 O1.out.2.2).mono ?_
  rintro e w2 ⟨a2, c2, rfl, ho2, hb2⟩
  rw [HK.out] at ho2 ⊢
  rw [HKL.out] at ho2 ⊢
  have T2 := Lib.hid (T1.out.later hb2)
  have A2 := Lib.hid (Ints.own ho2).1
  clear ho2 hb2 T1 O1
  go_wp2_with fail
  refine (list_yes a n c xs _ T2.out.i HP.out HC.out.1 HC.out.2).mono ?_
  rintro e w3 ⟨a3, c3, rfl, ho3, hc3, hm3, hb3⟩
  have T3 := Lib.hid (T2.out.later hb3)
  have A3 := Lib.hid (A2.out.below hb3)
  have O3 := Lib.hid (Ints.own ho3).1
  clear ho3 hc3 hm3 hb3 T2 A2
  go_wp2_with fail
  refine (Square_any a3 n c3 xs _ O3.out (by omega)).mono ?_
  rintro e w' ⟨rfl, rfl⟩
  rw [if_pos HP.out, if_pos HP.out]
  clear O3
  go_wp2_with fail
  refine (list_yes a n c xs _ T3.out.i HP.out HC.out.1 HC.out.2).mono ?_
  rintro e w4 ⟨a4, c4, rfl, ho4, hc4, hm4, hb4⟩
  have T4 := Lib.hid (T3.out.later hb4)
  have A4 := Lib.hid (A3.out.below hb4)
  have O4 := Lib.hid (Ints.own ho4).1
  clear ho4 hc4 hm4 hb4 T3 A3
  go_wp2_with fail
  refine (Rank_any a4 n c4 xs _ O4.out (by omega)).mono ?_
  rintro e w' ⟨rfl, rfl⟩
  rw [if_pos HP.out, if_pos HP.out]
  clear O4
  go_wp2_with fail
  refine (list_yes a n c xs _ T4.out.i HP.out HC.out.1 HC.out.2).mono ?_
  rintro e w5 ⟨a5, c5, rfl, ho5, hc5, hm5, hb5⟩
  have T5 := Lib.hid (T4.out.later hb5)
  have A5 := Lib.hid (A4.out.below hb5)
  have O5 := Lib.hid (Ints.own ho5).1
  clear ho5 hc5 hm5 hb5 T4 A4
  go_wp2_with fail
  refine (Crank_any a5 n c5 xs _ O5.out (by omega)).mono ?_
  rintro e w' ⟨rfl, rfl⟩
  rw [if_pos HP.out, if_pos HP.out]
  clear O5
  go_wp2_with fail
  refine (refValid_any a n c xs _ T5.out.i (by omega)).mono ?_
  rintro e w' ⟨rfl, rfl⟩
  rw [HP.out]
  go_wp2_with fail
  refine (refConj_any a n c xs _ T5.out.i HP.out).mono ?_
  rintro e w6 ⟨a6, c6, rfl, ho6, hb6⟩
  rw [HK.out] at ho6 ⊢
  rw [HKL.out] at ho6 ⊢
  have T6 := Lib.hid (T5.out.later hb6)
  have A6 := Lib.hid (A5.out.below hb6)
  have O6 := Lib.hid (Ints.own ho6).1
  clear ho6 hb6 T5 A5
  go_wp2_with fail
  refine (equal_any _ _ _ _ _ _ K K _ A6.out O6.out (by omega) (by omega)).mono ?_
  rintro e w7 ⟨rfl, q, rfl⟩
  rw [beq_self_eq_true]
  have T7 := Lib.hid (T6.out.later (below_drewN (Below.refl _ _) q))
  clear T6 A6 O6
  go_wp2_with fail
  refine (refSquare_any a n c xs _ T7.out.i (by omega)).mono ?_
  rintro e w' ⟨rfl, rfl⟩
  go_wp2_with fail
  refine (refRank_any a n c xs _ T7.out.i HP.out).mono ?_
  rintro e w' ⟨rfl, rfl⟩
  go_wp2_with fail
  refine (refCrank_any a n c xs _ T7.out.i HP.out).mono ?_
  rintro e w' ⟨rfl, rfl⟩
  go_wp2_with fail
  refine (awake_any _).mono ?_
  rintro e w8 ⟨rfl, hb8⟩
  have T8 := Lib.hid (T7.out.later hb8)
  clear hb8 T7
  go_wp2_with fail
  go_ret
  exact ⟨rfl, T8.out.b⟩
set_option maxHeartbeats 2000000 in
theorem lawShapes_no (a : Option Addr) (n c : Nat) (xs : List Int) (w : World) (h : Ints w a n xs) (hP : isP xs = false) (hc : n ≤ c) (hn : n ≤ 4611686018427387904) (hcm : c ≤ maxLen) :
    Calls Try.prog 4 #[.slice a n c] w fun e w' => e = .returned (.bool true) ∧ Below w.heap.size w w' := by
  have HT := Lib.hid (At.start h)
  have HP := Lib.hid hP
  have HC := Lib.hid (And.intro hc (And.intro hn hcm))
  clear h hP hc hn hcm
  go_enter Try.func4, Try.ntmps4
  go_wp2_with fail
  refine (list_no a n c xs _ HT.out.i HP.out HC.out.1 HC.out.2.1 HC.out.2.2).mono ?_
  rintro e w1 ⟨a1, c1, m1, ys1, rfl, hm1, hy1, ho1, -, -, hb1⟩
  have T1 := Lib.hid (HT.out.later hb1)
  have O1 := Lib.hid (And.intro (Ints.own ho1).1 hy1)
  clear ho1 hy1 hb1 HT
  go_wp2_with fail
  refine (Conjugate_no a1 m1 c1 ys1 _ O1.out.1 O1.out.2 (by omega)).mono ?_
  rintro e w' ⟨rfl, rfl⟩
  clear O1
  go_wp2_with fail
  refine (list_no a n c xs _ T1.out.i HP.out HC.out.1 HC.out.2.1 HC.out.2.2).mono ?_
  rintro e w2 ⟨a2, c2, m2, ys2, rfl, hm2, hy2, ho2, -, -, hb2⟩
  have T2 := Lib.hid (T1.out.later hb2)
  have O2 := Lib.hid (And.intro (Ints.own ho2).1 hy2)
  clear ho2 hy2 hb2 T1
  go_wp2_with fail
  refine (Square_any a2 m2 c2 ys2 _ O2.out.1 (by omega)).mono ?_
  rintro e w' ⟨rfl, rfl⟩
  rw [O2.out.2]
  simp only [Bool.false_eq_true, if_false]
  clear O2
  go_wp2_with fail
  refine (list_no a n c xs _ T2.out.i HP.out HC.out.1 HC.out.2.1 HC.out.2.2).mono ?_
  rintro e w3 ⟨a3, c3, m3, ys3, rfl, hm3, hy3, ho3, -, -, hb3⟩
  have T3 := Lib.hid (T2.out.later hb3)
  have O3 := Lib.hid (And.intro (Ints.own ho3).1 hy3)
  clear ho3 hy3 hb3 T2
  go_wp2_with fail
  refine (Rank_any a3 m3 c3 ys3 _ O3.out.1 (by omega)).mono ?_
  rintro e w' ⟨rfl, rfl⟩
  rw [O3.out.2]
  simp only [Bool.false_eq_true, if_false]
  clear O3
  go_wp2_with fail
  refine (list_no a n c xs _ T3.out.i HP.out HC.out.1 HC.out.2.1 HC.out.2.2).mono ?_
  rintro e w4 ⟨a4, c4, m4, ys4, rfl, hm4, hy4, ho4, -, -, hb4⟩
  have T4 := Lib.hid (T3.out.later hb4)
  have O4 := Lib.hid (And.intro (Ints.own ho4).1 hy4)
  clear ho4 hy4 hb4 T3
  go_wp2_with fail
  refine (Crank_any a4 m4 c4 ys4 _ O4.out.1 (by omega)).mono ?_
  rintro e w' ⟨rfl, rfl⟩
  rw [O4.out.2]
  simp only [Bool.false_eq_true, if_false]
  clear O4
  go_wp2_with fail
  refine (refValid_any a n c xs _ T4.out.i HC.out.2.1).mono ?_
  rintro e w' ⟨rfl, rfl⟩
  rw [HP.out]
  go_wp2_with fail
  refine (awake_any _).mono ?_
  rintro e w5 ⟨rfl, hb5⟩
  have T5 := Lib.hid (T4.out.later hb5)
  clear hb5 T4
  go_wp2_with fail
  go_ret
  exact ⟨rfl, T5.out.b⟩

theorem lawShapes_any (a : Option Addr) (n c : Nat) (xs : List Int) (w : World) (h : Ints w a n xs) (hc : n ≤ c) (hn : n ≤ 4611686018427387904) (hcm : c ≤ maxLen) :
    Calls Try.prog 4 #[.slice a n c] w fun e w' => e = .returned (.bool true) ∧ Below w.heap.size w w' := by
  by_cases hP : isP xs = true
  · exact lawShapes_yes a n c xs w h hP hc hcm
  · exact lawShapes_no a n c xs w h (by simpa using hP) hc hn hcm
end Go.Proofs.Ytfecdpglcdhijaa
