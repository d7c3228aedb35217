/- The law PartsHooks: its walk in every case. Condition: the slice lies in memory. -/
import Derived.Test.YtfecdpglcdhijaaFill
namespace Go.Proofs.Ytfecdpglcdhijaa
open Go.RowKit

theorem hooksL_small {xs : List Int} (hP : isP xs = true) : ∀ l ∈ hooksL xs, l.length ≤ 1000 := by
  intro l hl
  obtain ⟨i, hi, rfl⟩ := List.mem_map.1 hl
  have hi := List.mem_range.1 hi
  have := isP_at hP hi
  rw [hkL, hkPre, List.length_map, List.length_range]
  omega

theorem sameHooks (a1 a2 : Option Addr) (n c d : Nat) (xs : List Int) (w : World) (hP : isP xs = true) (hl : xs.length = n) (hn : n ≤ 30) (h1 : TabR w a1 (hooksL xs)) (h2 : TabR w a2 (hooksL xs)) :
    Calls Try.prog 19 #[.slice a1 n c, .slice a2 n d] w fun e w' => e = .returned (.bool true) ∧ ∃ q, w' = w.drewN q := by
  have hE := same_any a1 a2 c d (hooksL xs) (hooksL xs) w h1 h2 (by rw [hooksL_len]; omega) (by rw [hooksL_len]; omega) (hooksL_small hP) (hooksL_small hP)
  rw [hooksL_len, hl, beq_self_eq_true] at hE
  exact hE

set_option maxHeartbeats 2000000 in
set_option maxRecDepth 100000 in
theorem lawHooks_yes (a : Option Addr) (n c : Nat) (xs : List Int) (w : World) (h : Ints w a n xs) (hP : isP xs = true) (hc : n ≤ c) (hcm : c ≤ maxLen) :
    Calls Try.prog 8 #[.slice a n c] w fun e w' => e = .returned (.bool true) ∧ Below w.heap.size w w' := by
  have HT := Lib.hid (At.start h)
  have HP := Lib.hid hP
  have hn : n ≤ 30 := by have := isP_len hP; rw [h.1] at this; exact this
  have HC := Lib.hid (And.intro hc hcm)
  have HL := Lib.hid h.1
  have hbd : ∀ j, j < n → 0 ≤ xs.getD j 0 ∧ xs.getD j 0 ≤ 1000 := fun j hj => by have := isP_at hP (j := j) (by rw [h.1]; exact hj); omega
  have HBD := Lib.hid hbd
  obtain ⟨S, hS⟩ : ∃ S, sumL xs = S := ⟨_, rfl⟩
  have HS := Lib.hid hS
  clear h hP hc hcm hbd hS
  by_cases hs : S ≤ 20
  · have hs20 : sumL xs ≤ 20 := by rw [HS.out]; exact hs
    have hgt : ¬ (20 : Int) < S := by omega
    obtain ⟨F, hF⟩ : ∃ F, factF (sumL xs).toNat / prodF xs = F := ⟨_, rfl⟩
    have HF := Lib.hid hF
    have HS20 := Lib.hid hs20
    clear hs hs20 hF
    go_enter Try.func8, Try.ntmps8
    go_wp2_with fail
    refine (list_yes a n c xs _ HT.out.i HP.out HC.out.1 HC.out.2).mono ?_
    rintro e w1 ⟨a1, c1, rfl, ho1, hc1, hm1, hb1⟩
    have T1 := Lib.hid (HT.out.later hb1)
    have O1 := Lib.hid (And.intro (Ints.own ho1).1 (And.intro hc1 hm1))
    clear ho1 hc1 hm1 hb1 HT
    go_wp2_with fail
    refine (Hooks_yes a1 n c1 xs _ O1.out.1 HP.out O1.out.2.1 O1.out.2.2).mono ?_
    rintro e w2 ⟨g2, rfl, ht2, hb2⟩
    have T2 := Lib.hid (T1.out.later hb2)
    have A2 := Lib.hid ht2.read.1
    clear ht2 hb2 T1 O1
    go_wp2_with fail
    refine (list_yes a n c xs _ T2.out.i HP.out HC.out.1 HC.out.2).mono ?_
    rintro e w3 ⟨a3, c3, rfl, ho3, hc3, hm3, hb3⟩
    have T3 := Lib.hid (T2.out.later hb3)
    have A3 := Lib.hid (A2.out.below hb3)
    have O3 := Lib.hid (And.intro (Ints.own ho3).1 (And.intro hc3 hm3))
    clear ho3 hc3 hm3 hb3 T2 A2
    go_wp2_with fail
    refine (Fillings_yes a3 n c3 xs _ O3.out.1 HP.out HS20.out O3.out.2.1 O3.out.2.2).mono ?_
    rintro e w4 ⟨rfl, hb4⟩
    rw [HF.out]
    have T4 := Lib.hid (T3.out.later hb4)
    have A4 := Lib.hid (A3.out.below hb4)
    clear hb4 T3 A3 O3
    go_wp2_with fail
    refine (refValid_any a n c xs _ T4.out.i (by omega)).mono ?_
    rintro e w' ⟨rfl, rfl⟩
    rw [HP.out]
    go_wp2_with fail
    refine (refHooks_any a n c xs _ T4.out.i HP.out).mono ?_
    rintro e w5 ⟨a5, c5, rfl, ht5, hb5⟩
    have T5 := Lib.hid (T4.out.later hb5)
    have A5 := Lib.hid (A4.out.below hb5)
    have B5 := Lib.hid ht5.read.1
    clear ht5 hb5 T4 A4
    go_wp2_with fail
    refine (sameHooks _ _ n _ _ xs _ HP.out HL.out hn A5.out B5.out).mono ?_
    rintro e w6 ⟨rfl, q, rfl⟩
    have T6 := Lib.hid (T5.out.later (below_drewN (Below.refl _ _) q))
    clear T5 A5 B5
    go_wp2_with fail
    refine (awake_any _).mono ?_
    rintro e w7 ⟨rfl, hb7⟩
    have T7 := Lib.hid (T6.out.later hb7)
    clear hb7 T6
    go_wp2_with fail
    refine (Sum_any a n c xs _ T7.out.i (by omega) HBD.out).mono ?_
    rintro e w' ⟨rfl, rfl⟩
    rw [HS.out]
    go_wp2_with fail
    refine (refFillings_any a n c xs _ T7.out.i HP.out HS20.out).mono ?_
    rintro e w8 ⟨rfl, hb8⟩
    rw [HF.out]
    have T8 := Lib.hid (T7.out.later hb8)
    clear hb8 T7
    go_wp2_with fail
    go_ret
    exact ⟨rfl, T8.out.b⟩
  · have hgt : (20 : Int) < S := by omega
    have hB : (isP xs && decide (sumL xs ≤ 20)) = false := by rw [HS.out]; simp; omega
    have HB := Lib.hid hB
    clear hs hB
    go_enter Try.func8, Try.ntmps8
    go_wp2_with fail
    refine (list_yes a n c xs _ HT.out.i HP.out HC.out.1 HC.out.2).mono ?_
    rintro e w1 ⟨a1, c1, rfl, ho1, hc1, hm1, hb1⟩
    have T1 := Lib.hid (HT.out.later hb1)
    have O1 := Lib.hid (And.intro (Ints.own ho1).1 (And.intro hc1 hm1))
    clear ho1 hc1 hm1 hb1 HT
    go_wp2_with fail
    refine (Hooks_yes a1 n c1 xs _ O1.out.1 HP.out O1.out.2.1 O1.out.2.2).mono ?_
    rintro e w2 ⟨g2, rfl, ht2, hb2⟩
    have T2 := Lib.hid (T1.out.later hb2)
    have A2 := Lib.hid ht2.read.1
    clear ht2 hb2 T1 O1
    go_wp2_with fail
    refine (list_yes a n c xs _ T2.out.i HP.out HC.out.1 HC.out.2).mono ?_
    rintro e w3 ⟨a3, c3, rfl, ho3, -, -, hb3⟩
    have T3 := Lib.hid (T2.out.later hb3)
    have A3 := Lib.hid (A2.out.below hb3)
    have O3 := Lib.hid (Ints.own ho3).1
    clear ho3 hb3 T2 A2
    go_wp2_with fail
    refine (Fillings_no a3 n c3 xs _ O3.out HB.out (by omega)).mono ?_
    rintro e w' ⟨rfl, rfl⟩
    clear O3
    go_wp2_with fail
    refine (refValid_any a n c xs _ T3.out.i (by omega)).mono ?_
    rintro e w' ⟨rfl, rfl⟩
    rw [HP.out]
    go_wp2_with fail
    refine (refHooks_any a n c xs _ T3.out.i HP.out).mono ?_
    rintro e w5 ⟨a5, c5, rfl, ht5, hb5⟩
    have T5 := Lib.hid (T3.out.later hb5)
    have A5 := Lib.hid (A3.out.below hb5)
    have B5 := Lib.hid ht5.read.1
    clear ht5 hb5 T3 A3
    go_wp2_with fail
    refine (sameHooks _ _ n _ _ xs _ HP.out HL.out hn A5.out B5.out).mono ?_
    rintro e w6 ⟨rfl, q, rfl⟩
    have T6 := Lib.hid (T5.out.later (below_drewN (Below.refl _ _) q))
    clear T5 A5 B5
    go_wp2_with fail
    refine (awake_any _).mono ?_
    rintro e w7 ⟨rfl, hb7⟩
    have T7 := Lib.hid (T6.out.later hb7)
    clear hb7 T6
    go_wp2_with fail
    refine (Sum_any a n c xs _ T7.out.i (by omega) HBD.out).mono ?_
    rintro e w' ⟨rfl, rfl⟩
    rw [HS.out]
    go_wp2_with fail
    go_ret
    exact ⟨rfl, T7.out.b⟩

set_option maxHeartbeats 2000000 in
set_option maxRecDepth 100000 in
theorem lawHooks_no (a : Option Addr) (n c : Nat) (xs : List Int) (w : World) (h : Ints w a n xs) (hP : isP xs = false) (hc : n ≤ c) (hn : n ≤ 4611686018427387904) (hcm : c ≤ maxLen) :
    Calls Try.prog 8 #[.slice a n c] w fun e w' => e = .returned (.bool true) ∧ Below w.heap.size w w' := by
  have HT := Lib.hid (At.start h)
  have HP := Lib.hid hP
  have HC := Lib.hid (And.intro hc (And.intro hn hcm))
  clear h hP hc hn hcm
  go_enter Try.func8, Try.ntmps8
  go_wp2_with fail
  refine (list_no a n c xs _ HT.out.i HP.out HC.out.1 HC.out.2.1 HC.out.2.2).mono ?_
  rintro e w1 ⟨a1, c1, m1, ys1, rfl, hm1, hy1, ho1, -, -, hb1⟩
  have T1 := Lib.hid (HT.out.later hb1)
  have O1 := Lib.hid (And.intro (Ints.own ho1).1 hy1)
  clear ho1 hy1 hb1 HT
  go_wp2_with fail
  refine (Hooks_no a1 m1 c1 ys1 _ O1.out.1 O1.out.2 (by omega)).mono ?_
  rintro e w' ⟨rfl, rfl⟩
  clear O1
  go_wp2_with fail
  refine (list_no a n c xs _ T1.out.i HP.out HC.out.1 HC.out.2.1 HC.out.2.2).mono ?_
  rintro e w2 ⟨a2, c2, m2, ys2, rfl, hm2, hy2, ho2, -, -, hb2⟩
  have T2 := Lib.hid (T1.out.later hb2)
  have O2 := Lib.hid (And.intro (Ints.own ho2).1 hy2)
  clear ho2 hy2 hb2 T1
  go_wp2_with fail
  refine (Fillings_no a2 m2 c2 ys2 _ O2.out.1 (by rw [O2.out.2, Bool.false_and]) (by omega)).mono ?_
  rintro e w' ⟨rfl, rfl⟩
  clear O2
  go_wp2_with fail
  refine (refValid_any a n c xs _ T2.out.i HC.out.2.1).mono ?_
  rintro e w' ⟨rfl, rfl⟩
  rw [HP.out]
  go_wp2_with fail
  refine (awake_any _).mono ?_
  rintro e w3 ⟨rfl, hb3⟩
  have T3 := Lib.hid (T2.out.later hb3)
  clear hb3 T2
  go_wp2_with fail
  go_ret
  exact ⟨rfl, T3.out.b⟩

theorem lawHooks_any (a : Option Addr) (n c : Nat) (xs : List Int) (w : World) (h : Ints w a n xs) (hc : n ≤ c) (hn : n ≤ 4611686018427387904) (hcm : c ≤ maxLen) :
    Calls Try.prog 8 #[.slice a n c] w fun e w' => e = .returned (.bool true) ∧ Below w.heap.size w w' := by
  by_cases hP : isP xs = true
  · exact lawHooks_yes a n c xs w h hP hc hcm
  · exact lawHooks_no a n c xs w h (by simpa using hP) hc hn hcm
end Go.Proofs.Ytfecdpglcdhijaa
