/- The walks of numeral.Add and Less, of the reference's Add, and of the law NumeralAdds. Condition: the slices lie in memory. -/
import Derived.Test.YtbdabpmpfciibaaConcat
namespace Go.Proofs.Ytbdabpmpfciibaa
open Go.RowKit
attribute [local go_sem] Oper.semAt_some

/-- What Add and Less tell. -/
def addL (xs ys : List Int) : List Int := if isN xs = true ∧ isN ys = true ∧ valL xs + valL ys ≤ 1000000000000 then enc (valL xs + valL ys) else []
def addE (xs ys : List Int) : Int := if isN xs = true ∧ isN ys = true then (if valL xs + valL ys ≤ 1000000000000 then 0 else 6) else 2
def lessB (xs ys : List Int) : Bool := isN xs && isN ys && decide (valL xs < valL ys)
def lessE (xs ys : List Int) : Int := if isN xs = true ∧ isN ys = true then 0 else 2
theorem allTwo_append {xs ys : List Int} (h1 : allTwo xs) (h2 : allTwo ys) : allTwo (xs ++ ys) := by
  intro j hj
  by_cases h : j < xs.length
  · have := h1 j h
    simpa [List.getD, List.getElem?_append_left h] using this
  · rw [List.length_append] at hj
    have := h2 (j - xs.length) (by omega)
    simpa [List.getD, List.getElem?_append_right (Nat.le_of_not_lt h)] using this
theorem valL_append (a b : List Int) : valL (a ++ b) = valL a + valL b := sumF_append 0 a b
theorem valL_nonneg (l : List Int) : 0 ≤ valL l := sumF_nonneg 0 l

set_option maxHeartbeats 4000000 in
theorem Add_any (a1 a2 : Option Addr) (n m c d : Nat) (xs ys : List Int) (w : World) (h1 : Ints w a1 n xs) (h2 : Ints w a2 m ys) (hn : n ≤ 1000) (hm : m ≤ 1000) :
    Calls Try.prog 28 #[.slice a1 n c, .slice a2 m d] w fun e w' => ∃ a N cc, e = .returned (.tuple #[.slice a N cc, .int .i64 (addE xs ys)]) ∧ Ints w' a N (addL xs ys) ∧ N ≤ 30 ∧ N ≤ cc ∧ cc ≤ maxLen ∧ Below w.heap.size w w' := by
  have H1 := Lib.hid h1
  have H2 := Lib.hid h2
  have E1 := Lib.hid (rfl : addE xs ys = addE xs ys)
  by_cases hx : isN xs = true
  · by_cases hy : isN ys = true
    · have HX := Lib.hid hx
      have HY := Lib.hid hy
      have H12 := Lib.hid (allTwo_append (isN_two hx) (isN_two hy))
      have hv := valL_append xs ys
      have v1 := isN_val hx
      have v2 := isN_val hy
      by_cases hs : valL xs + valL ys ≤ 1000000000000
      · have hE : addE xs ys = 0 := by unfold addE; rw [if_pos ⟨hx, hy⟩, if_pos hs]
        have hL : addL xs ys = enc (valL (xs ++ ys)) := by unfold addL; rw [if_pos ⟨hx, hy, hs⟩, hv]
        have ht : totV (xs ++ ys) = valL (xs ++ ys) ∧ totE (xs ++ ys) = 0 := by
          unfold totV totE
          rw [if_neg (by omega), if_neg (by omega)]
          exact ⟨rfl, rfl⟩
        rw [hE, hL]
        have hnum : isNum (valL (xs ++ ys)) = true := isNum_mk (by omega) (by omega)
        obtain ⟨S, hS⟩ : ∃ S, valL (xs ++ ys) = S := ⟨_, rfl⟩
        rw [hS] at ht hnum ⊢
        have hEn := encode_any S (isNum_yes hnum).1 (by have := (isNum_yes hnum).2; omega)
        have hlen := enc_len hnum
        have HLEN := Lib.hid hlen
        have HT := Lib.hid ht
        have HEn := Lib.hid hEn
        clear h1 h2 hx hy hv v1 v2 hs hE hL ht hS hnum hEn hlen E1
        go_enter Try.func28, Try.ntmps28
        go_wp2_with fail
        refine (validNumeral_any a1 n c xs w H1.out (by omega)).mono ?_
        rintro e w' ⟨rfl, rfl⟩
        rw [HX.out]
        go_wp2_with fail
        refine (validNumeral_any a2 m d ys w' H2.out (by omega)).mono ?_
        rintro e w'' ⟨rfl, rfl⟩
        rw [HY.out]
        go_wp2_with fail
        refine (concat_two w''.heap.size a1 a2 n m c d xs ys _ (H1.out.below ((Below.refl _ _).alloc (Nat.le_refl _) _)) (H2.out.below ((Below.refl _ _).alloc (Nat.le_refl _) _)) hn hm (by simp) (by simp) (by simp)).mono ?_
        rintro e w1 ⟨v, rfl, hr, hb⟩
        obtain ⟨a3, c3, rfl, hi3, -, -⟩ := hr.form
        have HB := Lib.hid (((Below.refl w''.heap.size w'').alloc (Nat.le_refl _) _).trans (hb.mono (by simp)))
        have HI := Lib.hid hi3
        obtain ⟨N3, hN3⟩ : ∃ N3, (xs ++ ys).length = N3 := ⟨_, rfl⟩
        rw [hN3] at HI ⊢
        have hN3l : N3 ≤ 2000 := by rw [← hN3, List.length_append, H1.out.1, H2.out.1]; omega
        clear hr hb hi3 hN3
        go_wp2_with fail
        refine (total_any a3 N3 c3 (xs ++ ys) w1 HI.out (by omega) H12.out).mono ?_
        rintro e w2 ⟨rfl, hb2⟩
        rw [HT.out.1, HT.out.2]
        have HB2 := Lib.hid (HB.out.trans (hb2.mono HB.out.size))
        clear hb2 HB HI
        go_wp2_with fail
        refine (HEn.out w2).mono ?_
        rintro e w3 ⟨a4, c4, rfl, hr4, hb4⟩
        obtain ⟨a5, c5, hv5, hi5, h51, h52⟩ := hr4.form
        cases hv5
        have HB3 := Lib.hid (HB2.out.trans (hb4.mono HB2.out.size))
        have HI4 := Lib.hid (And.intro hi5 (And.intro h51 h52))
        obtain ⟨N, hN⟩ : ∃ N, (enc S).length = N := ⟨_, rfl⟩
        rw [hN] at HI4 HLEN ⊢
        clear hr4 hb4 hi5 h51 h52 hN
        go_wp2
        go_ret2
        exact ⟨a4, N, c4, rfl, HI4.out.1, HLEN.out, HI4.out.2.1, HI4.out.2.2, HB3.out⟩
      · have hE : addE xs ys = 6 := by unfold addE; rw [if_pos ⟨hx, hy⟩, if_neg hs]
        have hL : addL xs ys = [] := by unfold addL; rw [if_neg (fun h => hs h.2.2)]
        have ht : totV (xs ++ ys) = 0 ∧ totE (xs ++ ys) = 6 := by
          unfold totV totE
          rw [if_pos (by omega), if_pos (by omega)]
          exact ⟨rfl, rfl⟩
        rw [hE, hL]
        have HT := Lib.hid ht
        clear h1 h2 hx hy hv v1 v2 hs hE hL ht E1
        go_enter Try.func28, Try.ntmps28
        go_wp2_with fail
        refine (validNumeral_any a1 n c xs w H1.out (by omega)).mono ?_
        rintro e w' ⟨rfl, rfl⟩
        rw [HX.out]
        go_wp2_with fail
        refine (validNumeral_any a2 m d ys w' H2.out (by omega)).mono ?_
        rintro e w'' ⟨rfl, rfl⟩
        rw [HY.out]
        go_wp2_with fail
        refine (concat_two w''.heap.size a1 a2 n m c d xs ys _ (H1.out.below ((Below.refl _ _).alloc (Nat.le_refl _) _)) (H2.out.below ((Below.refl _ _).alloc (Nat.le_refl _) _)) hn hm (by simp) (by simp) (by simp)).mono ?_
        rintro e w1 ⟨v, rfl, hr, hb⟩
        obtain ⟨a3, c3, rfl, hi3, -, -⟩ := hr.form
        have HB := Lib.hid (((Below.refl w''.heap.size w'').alloc (Nat.le_refl _) _).trans (hb.mono (by simp)))
        have HI := Lib.hid hi3
        obtain ⟨N3, hN3⟩ : ∃ N3, (xs ++ ys).length = N3 := ⟨_, rfl⟩
        rw [hN3] at HI ⊢
        have hN3l : N3 ≤ 2000 := by rw [← hN3, List.length_append, H1.out.1, H2.out.1]; omega
        clear hr hb hi3 hN3
        go_wp2_with fail
        refine (total_any a3 N3 c3 (xs ++ ys) w1 HI.out (by omega) H12.out).mono ?_
        rintro e w2 ⟨rfl, hb2⟩
        rw [HT.out.1, HT.out.2]
        have HB2 := Lib.hid (HB.out.trans (hb2.mono HB.out.size))
        clear hb2 HB HI
        go_wp2
        go_ret2
        exact ⟨none, 0, 0, rfl, Ints.nil _ _, by omega, Nat.le_refl _, by unfold maxLen; omega, HB2.out⟩
    · have hE : addE xs ys = 2 := by unfold addE; rw [if_neg (fun h => hy h.2)]
      have hL : addL xs ys = [] := by unfold addL; rw [if_neg (fun h => hy h.2.1)]
      have hy' : isN ys = false := by simpa using hy
      rw [hE, hL]
      have HX := Lib.hid hx
      have HY := Lib.hid hy'
      clear h1 h2 hx hy hy' hE hL E1
      go_enter Try.func28, Try.ntmps28
      go_wp2_with fail
      refine (validNumeral_any a1 n c xs w H1.out (by omega)).mono ?_
      rintro e w' ⟨rfl, rfl⟩
      rw [HX.out]
      go_wp2_with fail
      refine (validNumeral_any a2 m d ys w' H2.out (by omega)).mono ?_
      rintro e w'' ⟨rfl, rfl⟩
      rw [HY.out]
      go_wp2
      go_ret2
      exact ⟨none, 0, 0, rfl, Ints.nil _ _, by omega, Nat.le_refl _, by unfold maxLen; omega, Below.refl _ _⟩
  · have hE : addE xs ys = 2 := by unfold addE; rw [if_neg (fun h => hx h.1)]
    have hL : addL xs ys = [] := by unfold addL; rw [if_neg (fun h => hx h.1)]
    have hx' : isN xs = false := by simpa using hx
    rw [hE, hL]
    have HX := Lib.hid hx'
    clear h1 h2 hx hx' hE hL E1
    go_enter Try.func28, Try.ntmps28
    go_wp2_with fail
    refine (validNumeral_any a1 n c xs w H1.out (by omega)).mono ?_
    rintro e w' ⟨rfl, rfl⟩
    rw [HX.out]
    go_wp2
    go_ret2
    exact ⟨none, 0, 0, rfl, Ints.nil _ _, by omega, Nat.le_refl _, by unfold maxLen; omega, Below.refl _ _⟩

set_option maxHeartbeats 2000000 in
theorem Less_any (a1 a2 : Option Addr) (n m c d : Nat) (xs ys : List Int) (w : World) (h1 : Ints w a1 n xs) (h2 : Ints w a2 m ys) (hn : n ≤ 1000) (hm : m ≤ 1000) :
    Calls Try.prog 29 #[.slice a1 n c, .slice a2 m d] w fun e w' => e = .returned (.tuple #[.bool (lessB xs ys), .int .i64 (lessE xs ys)]) ∧ w' = w := by
  have H1 := Lib.hid h1
  have H2 := Lib.hid h2
  by_cases hx : isN xs = true
  · by_cases hy : isN ys = true
    · have HX := Lib.hid hx
      have HY := Lib.hid hy
      have hE : lessE xs ys = 0 := by unfold lessE; rw [if_pos ⟨hx, hy⟩]
      have hlt := cmpL_lt xs ys 60 (by omega) hx hy
      have hB : lessB xs ys = decide (cmpL xs ys < 0) := by
        unfold lessB
        rw [hx, hy, Bool.true_and, Bool.true_and]
        exact decide_eq_decide.2 hlt.symm
      rw [hE, hB]
      obtain ⟨C, hC⟩ : ∃ C, cmpL xs ys = C := ⟨_, rfl⟩
      rw [hC]
      have HC := Lib.hid hC
      clear h1 h2 hx hy hE hB hlt hC
      go_enter Try.func29, Try.ntmps29
      go_wp2_with fail
      refine (validNumeral_any a1 n c xs w H1.out (by omega)).mono ?_
      rintro e w' ⟨rfl, rfl⟩
      rw [HX.out]
      go_wp2_with fail
      refine (validNumeral_any a2 m d ys w' H2.out (by omega)).mono ?_
      rintro e w'' ⟨rfl, rfl⟩
      rw [HY.out]
      go_wp2_with fail
      refine (compare_any a1 a2 n m c d xs ys w'' H1.out H2.out (by omega) (by omega)).mono ?_
      rintro e w3 ⟨rfl, rfl⟩
      rw [HC.out]
      go_wp2
      go_ret2
      exact ⟨rfl, rfl⟩
    · have hE : lessE xs ys = 2 := by unfold lessE; rw [if_neg (fun h => hy h.2)]
      have hy' : isN ys = false := by simpa using hy
      have hB : lessB xs ys = false := by unfold lessB; rw [hy', Bool.and_false, Bool.false_and]
      rw [hE, hB]
      have HX := Lib.hid hx
      have HY := Lib.hid hy'
      clear h1 h2 hx hy hy' hE hB
      go_enter Try.func29, Try.ntmps29
      go_wp2_with fail
      refine (validNumeral_any a1 n c xs w H1.out (by omega)).mono ?_
      rintro e w' ⟨rfl, rfl⟩
      rw [HX.out]
      go_wp2_with fail
      refine (validNumeral_any a2 m d ys w' H2.out (by omega)).mono ?_
      rintro e w'' ⟨rfl, rfl⟩
      rw [HY.out]
      go_wp2
      go_ret2
      exact ⟨rfl, rfl⟩
  · have hE : lessE xs ys = 2 := by unfold lessE; rw [if_neg (fun h => hx h.1)]
    have hx' : isN xs = false := by simpa using hx
    have hB : lessB xs ys = false := by unfold lessB; rw [hx', Bool.false_and, Bool.false_and]
    rw [hE, hB]
    have HX := Lib.hid hx'
    clear h1 h2 hx hx' hE hB
    go_enter Try.func29, Try.ntmps29
    go_wp2_with fail
    refine (validNumeral_any a1 n c xs w H1.out (by omega)).mono ?_
    rintro e w' ⟨rfl, rfl⟩
    rw [HX.out]
    go_wp2
    go_ret2
    exact ⟨rfl, rfl⟩

set_option maxHeartbeats 2000000 in
theorem refAdd_any (a1 a2 : Option Addr) (n m c d : Nat) (xs ys : List Int) (w : World) (h1 : Ints w a1 n xs) (h2 : Ints w a2 m ys) (hx : isN xs = true) (hy : isN ys = true) :
    Calls Try.prog 30 #[.slice a1 n c, .slice a2 m d] w fun e w' => ∃ a N cc, e = .returned (.tuple #[.slice a N cc, .int .i64 (addE xs ys)]) ∧ Ints w' a N (addL xs ys) ∧ N ≤ 30 ∧ Below w.heap.size w w' := by
  have HV1 := Lib.hid (refValue_any a1 n c xs w h1 hx)
  have HV2 := Lib.hid (refValue_any a2 m d ys w h2 hy)
  have v1 := isN_val hx
  have v2 := isN_val hy
  by_cases hs : valL xs + valL ys ≤ 1000000000000
  · have hE : addE xs ys = 0 := by unfold addE; rw [if_pos ⟨hx, hy⟩, if_pos hs]
    have hL : addL xs ys = enc (valL xs + valL ys) := by unfold addL; rw [if_pos ⟨hx, hy, hs⟩]
    rw [hE, hL]
    obtain ⟨A, hA⟩ : ∃ A, valL xs = A := ⟨_, rfl⟩
    obtain ⟨B, hB⟩ : ∃ B, valL ys = B := ⟨_, rfl⟩
    rw [hA] at HV1 v1 hs ⊢
    rw [hB] at HV2 v2 hs ⊢
    have hz1 : szV (A + B) = A + B := by unfold szV; rw [if_neg (by omega)]
    have hz2 : szE (A + B) = 0 := by unfold szE; rw [if_neg (by omega)]
    have HZ := Lib.hid (And.intro hz1 hz2)
    have HEn := Lib.hid (refEncodeI (A + B) (isNum_mk (by omega) hs))
    clear h1 h2 hx hy hE hL hA hB hz1 hz2
    go_enter Try.func30, Try.ntmps30
    go_wp2_with fail
    refine HV1.out.mono ?_
    rintro e w' ⟨rfl, rfl⟩
    go_wp2_with fail
    refine HV2.out.mono ?_
    rintro e w'' ⟨rfl, rfl⟩
    go_wp2_with fail
    refine (sized_any _ _).mono ?_
    rintro e w3 ⟨rfl, rfl⟩
    rw [HZ.out.1, HZ.out.2]
    go_wp2_with fail
    refine (HEn.out _).mono ?_
    rintro e w4 ⟨a4, N4, c4, rfl, hi4, hN4, -, -, hb4⟩
    have HI := Lib.hid (And.intro hi4 hb4)
    clear hi4 hb4
    go_wp2
    go_ret2
    exact ⟨a4, N4, c4, rfl, HI.out.1, hN4, HI.out.2⟩
  · have hE : addE xs ys = 6 := by unfold addE; rw [if_pos ⟨hx, hy⟩, if_neg hs]
    have hL : addL xs ys = [] := by unfold addL; rw [if_neg (fun h => hs h.2.2)]
    rw [hE, hL]
    obtain ⟨A, hA⟩ : ∃ A, valL xs = A := ⟨_, rfl⟩
    obtain ⟨B, hB⟩ : ∃ B, valL ys = B := ⟨_, rfl⟩
    rw [hA] at HV1 v1 hs
    rw [hB] at HV2 v2 hs
    have hz1 : szV (A + B) = 0 := by unfold szV; rw [if_pos (by omega)]
    have hz2 : szE (A + B) = 6 := by unfold szE; rw [if_pos (by omega)]
    have HZ := Lib.hid (And.intro hz1 hz2)
    clear h1 h2 hx hy hE hL hA hB hz1 hz2
    go_enter Try.func30, Try.ntmps30
    go_wp2_with fail
    refine HV1.out.mono ?_
    rintro e w' ⟨rfl, rfl⟩
    go_wp2_with fail
    refine HV2.out.mono ?_
    rintro e w'' ⟨rfl, rfl⟩
    go_wp2_with fail
    refine (sized_any _ _).mono ?_
    rintro e w3 ⟨rfl, rfl⟩
    rw [HZ.out.1, HZ.out.2]
    go_wp2
    go_ret2
    exact ⟨none, 0, 0, rfl, Ints.nil _ _, by omega, Below.refl _ _⟩
end Go.Proofs.Ytbdabpmpfciibaa
