/- The law NumeralAdds: its walk in every case. Condition: the slices lie in memory. -/
import Derived.Test.YtbdabpmpfciibaaAdds
namespace Go.Proofs.Ytbdabpmpfciibaa
open Go.RowKit

theorem take_both {xs ys : List Int} (P : List Int → List Int → Prop) (h : isN xs = true → isN ys = true → P xs ys) : isN xs = true → isN ys = true → P (xs.take 40) (ys.take 40) := by
  intro h1 h2
  rw [isN_take_yes h1, isN_take_yes h2]
  exact h h1 h2
theorem addL_take (xs ys : List Int) : addL (xs.take 40) (ys.take 40) = addL xs ys := by
  unfold addL
  rw [isN_take, isN_take]
  by_cases h1 : isN xs = true
  · by_cases h2 : isN ys = true
    · rw [isN_take_yes h1, isN_take_yes h2]
    · rw [if_neg (fun h => h2 h.2.1), if_neg (fun h => h2 h.2.1)]
  · rw [if_neg (fun h => h1 h.1), if_neg (fun h => h1 h.1)]
theorem addE_take (xs ys : List Int) : addE (xs.take 40) (ys.take 40) = addE xs ys := by
  unfold addE
  rw [isN_take, isN_take]
  by_cases h1 : isN xs = true
  · by_cases h2 : isN ys = true
    · rw [isN_take_yes h1, isN_take_yes h2]
    · rw [if_neg (fun h => h2 h.2), if_neg (fun h => h2 h.2)]
  · rw [if_neg (fun h => h1 h.1), if_neg (fun h => h1 h.1)]
theorem lessB_take (xs ys : List Int) : lessB (xs.take 40) (ys.take 40) = lessB xs ys := by
  unfold lessB
  rw [isN_take, isN_take]
  by_cases h1 : isN xs = true
  · by_cases h2 : isN ys = true
    · rw [isN_take_yes h1, isN_take_yes h2]
    · have : isN ys = false := by simpa using h2
      simp [this]
  · have : isN xs = false := by simpa using h1
    simp [this]
theorem lessE_take (xs ys : List Int) : lessE (xs.take 40) (ys.take 40) = lessE xs ys := by
  unfold lessE
  rw [isN_take, isN_take]

/-- Two arguments that lie as they lay. -/
structure At2 (w W : World) (a1 : Option Addr) (n : Nat) (xs : List Int) (a2 : Option Addr) (m : Nat) (ys : List Int) : Prop where
  b : Below w.heap.size w W
  i : Ints W a1 n xs
  j : Ints W a2 m ys
theorem At2.later {w W W' : World} {a1 a2 : Option Addr} {n m : Nat} {xs ys : List Int} (h : At2 w W a1 n xs a2 m ys) (hb : Below W.heap.size W W') : At2 w W' a1 n xs a2 m ys := ⟨h.b.trans (hb.mono h.b.size), h.i.below hb, h.j.below hb⟩

set_option maxHeartbeats 4000000 in
set_option maxRecDepth 100000 in
theorem lawAdds_any (a1 a2 : Option Addr) (n m c d : Nat) (xs ys : List Int) (w : World) (h1 : Ints w a1 n xs) (h2 : Ints w a2 m ys) (hc : n ≤ c) (hn : n ≤ 4611686018427387904) (hcm : c ≤ maxLen) (hd : m ≤ d) (hm : m ≤ 4611686018427387904) (hdm : d ≤ maxLen) :
    Calls Try.prog 4 #[.slice a1 n c, .slice a2 m d] w fun e w' => e = .returned (.bool true) ∧ Below w.heap.size w w' := by
  have T0 := Lib.hid (At2.mk (Below.refl _ w) h1 h2)
  have HC := Lib.hid (And.intro hc (And.intro hcm (And.intro hd hdm)))
  have HTL := Lib.hid (And.intro (addL_take xs ys) (And.intro (addE_take xs ys) (And.intro (lessB_take xs ys) (lessE_take xs ys))))
  obtain ⟨L, hL⟩ : ∃ L, addL xs ys = L := ⟨_, rfl⟩
  obtain ⟨E, hE⟩ : ∃ E, addE xs ys = E := ⟨_, rfl⟩
  obtain ⟨B, hB⟩ : ∃ B, lessB xs ys = B := ⟨_, rfl⟩
  obtain ⟨F, hF⟩ : ∃ F, lessE xs ys = F := ⟨_, rfl⟩
  rw [hL, hE, hB, hF] at HTL
  have HD := Lib.hid (And.intro hL (And.intro hE (And.intro hB hF)))
  clear h1 h2 hc hcm hd hdm hL hE hB hF
  go_enter Try.func4, Try.ntmps4
  go_wp2_with fail
  refine (list_row a1 n c xs _ T0.out.i HC.out.1 hn HC.out.2.1).mono ?_
  rintro e w1 ⟨b1, n1, c1, rfl, hn1, hi1, -, -, hb1⟩
  have T1 := Lib.hid (T0.out.later hb1)
  have I1 := Lib.hid hi1
  clear hi1 hb1 T0
  go_wp2_with fail
  refine (list_row a2 m d ys _ T1.out.j HC.out.2.2.1 hm HC.out.2.2.2).mono ?_
  rintro e w2 ⟨b2, n2, c2, rfl, hn2, hi2, -, -, hb2⟩
  have T2 := Lib.hid (T1.out.later hb2)
  have I2 := Lib.hid (And.intro (I1.out.below hb2) hi2)
  clear hi2 hb2 T1 I1
  go_wp2_with fail
  refine (Add_any b1 b2 n1 n2 c1 c2 _ _ _ I2.out.1 I2.out.2 (by omega) (by omega)).mono ?_
  rintro e w3 ⟨b3, n3, c3, rfl, hi3, hn3, -, -, hb3⟩
  rw [HTL.out.1] at hi3
  rw [HTL.out.2.1]
  have T3 := Lib.hid (T2.out.later hb3)
  have R3 := Lib.hid hi3
  clear hi3 hb3 T2 I2
  go_wp2_with fail
  refine (list_row a1 n c xs _ T3.out.i HC.out.1 hn HC.out.2.1).mono ?_
  rintro e w4 ⟨b4, n4, c4, rfl, hn4, hi4, -, -, hb4⟩
  have T4 := Lib.hid (T3.out.later hb4)
  have I4 := Lib.hid hi4
  have R4 := Lib.hid (R3.out.below hb4)
  clear hi4 hb4 T3 R3
  go_wp2_with fail
  refine (list_row a2 m d ys _ T4.out.j HC.out.2.2.1 hm HC.out.2.2.2).mono ?_
  rintro e w5 ⟨b5, n5, c5, rfl, hn5, hi5, -, -, hb5⟩
  have T5 := Lib.hid (T4.out.later hb5)
  have I5 := Lib.hid (And.intro (I4.out.below hb5) hi5)
  have R5 := Lib.hid (R4.out.below hb5)
  clear hi5 hb5 T4 I4 R4
  go_wp2_with fail
  refine (Less_any b4 b5 n4 n5 c4 c5 _ _ _ I5.out.1 I5.out.2 (by omega) (by omega)).mono ?_
  rintro e w6 ⟨rfl, rfl⟩
  rw [HTL.out.2.2.1, HTL.out.2.2.2]
  clear I5
  go_wp2_with fail
  refine (refValid_any a1 n c xs _ T5.out.i hn).mono ?_
  rintro e w' ⟨rfl, rfl⟩
  by_cases hx : isN xs = true
  · by_cases hy : isN ys = true
    · have HX := Lib.hid hx
      have HY := Lib.hid hy
      have hF : F = 0 := by rw [← HD.out.2.2.2]; unfold lessE; rw [if_pos ⟨hx, hy⟩]
      have hB : B = decide (valL xs < valL ys) := by rw [← HD.out.2.2.1]; unfold lessB; rw [hx, hy, Bool.true_and, Bool.true_and]
      rw [hx]
      subst hF hB
      clear hx hy
      go_wp2_with fail
      refine (refValid_any a2 m d ys _ T5.out.j hm).mono ?_
      rintro e w'' ⟨rfl, rfl⟩
      rw [HY.out]
      go_wp2_with fail
      refine (refAdd_any a1 a2 n m c d xs ys _ T5.out.i T5.out.j HX.out HY.out).mono ?_
      rintro e w7 ⟨b7, n7, c7, rfl, hi7, hn7, hb7⟩
      rw [HD.out.1] at hi7
      rw [HD.out.2.1]
      have T7 := Lib.hid (T5.out.later hb7)
      have R7 := Lib.hid (And.intro (R5.out.below hb7) hi7)
      clear hi7 hb7 T5 R5
      go_wp2_with fail
      refine (equal_any _ _ _ _ _ _ L L _ R7.out.1 R7.out.2 (by omega) (by omega)).mono ?_
      rintro e w8 ⟨rfl, q, rfl⟩
      rw [beq_self_eq_true]
      have T8 := Lib.hid (T7.out.later (below_drewN (Below.refl _ _) q))
      clear T7 R7
      go_wp2_with fail
      refine (refValue_any a1 n c xs _ T8.out.i HX.out).mono ?_
      rintro e w9 ⟨rfl, rfl⟩
      go_wp2_with fail
      refine (refValue_any a2 m d ys _ T8.out.j HY.out).mono ?_
      rintro e w10 ⟨rfl, rfl⟩
      obtain ⟨A, hA⟩ : ∃ A, valL xs = A := ⟨_, rfl⟩
      obtain ⟨C, hC⟩ : ∃ C, valL ys = C := ⟨_, rfl⟩
      rw [hA, hC]
      clear HD HTL hA hC
      go_wp2_with fail
      refine (awake_any _).mono ?_
      rintro e w11 ⟨rfl, hb11⟩
      have T11 := Lib.hid (T8.out.later hb11)
      clear hb11 T8
      go_wp2
      go_ret
      exact ⟨rfl, T11.out.b⟩
    · have hy' : isN ys = false := by simpa using hy
      have hF : F = 2 := by rw [← HD.out.2.2.2]; unfold lessE; rw [if_neg (fun h => hy h.2)]
      have hB : B = false := by rw [← HD.out.2.2.1]; unfold lessB; rw [hy', Bool.and_false, Bool.false_and]
      have hE : E = 2 := by rw [← HD.out.2.1]; unfold addE; rw [if_neg (fun h => hy h.2)]
      have hL : L = [] := by rw [← HD.out.1]; unfold addL; rw [if_neg (fun h => hy h.2.1)]
      rw [hL] at R5
      have hn30 : n3 = 0 := R5.out.1.symm
      have HY := Lib.hid hy'
      rw [hx]
      subst hF hB hE hn30
      clear hx hy hy' hL HD HTL
      go_wp2_with fail
      refine (refValid_any a2 m d ys _ T5.out.j hm).mono ?_
      rintro e w'' ⟨rfl, rfl⟩
      rw [HY.out]
      go_wp2_with fail
      refine (awake_any _).mono ?_
      rintro e w11 ⟨rfl, hb11⟩
      have T11 := Lib.hid (T5.out.later hb11)
      clear hb11 T5
      go_wp2
      go_ret
      exact ⟨rfl, T11.out.b⟩
  · have hx' : isN xs = false := by simpa using hx
    have hF : F = 2 := by rw [← HD.out.2.2.2]; unfold lessE; rw [if_neg (fun h => hx h.1)]
    have hB : B = false := by rw [← HD.out.2.2.1]; unfold lessB; rw [hx', Bool.false_and, Bool.false_and]
    have hE : E = 2 := by rw [← HD.out.2.1]; unfold addE; rw [if_neg (fun h => hx h.1)]
    have hL : L = [] := by rw [← HD.out.1]; unfold addL; rw [if_neg (fun h => hx h.1)]
    rw [hL] at R5
    have hn30 : n3 = 0 := R5.out.1.symm
    rw [hx']
    subst hF hB hE hn30
    clear hx hx' hL HD HTL
    go_wp2_with fail
    refine (awake_any _).mono ?_
    rintro e w11 ⟨rfl, hb11⟩
    have T11 := Lib.hid (T5.out.later hb11)
    clear hb11 T5
    go_wp2
    go_ret
    exact ⟨rfl, T11.out.b⟩
end Go.Proofs.Ytbdabpmpfciibaa
