/- The law NumeralCodes: its walk in every case. Condition: the slice lies in memory. -/
import Derived.Test.YtbdabpmpfciibaaVals
namespace Go.Proofs.Ytbdabpmpfciibaa
open Go.RowKit

/-- The argument lies as it lay, in a world that is w's or later. -/
structure At (w W : World) (a : Option Addr) (n : Nat) (xs : List Int) : Prop where
  b : Below w.heap.size w W
  i : Ints W a n xs
theorem At.start {w : World} {a : Option Addr} {n : Nat} {xs : List Int} (h : Ints w a n xs) : At w w a n xs := ⟨Below.refl _ _, h⟩
theorem At.later {w W W' : World} {a : Option Addr} {n : Nat} {xs : List Int} (h : At w W a n xs) (hb : Below W.heap.size W W') : At w W' a n xs := ⟨h.b.trans (hb.mono h.b.size), h.i.below hb⟩

/-- What Value tells of any slice. -/
def vV (xs : List Int) : Int := if isN xs = true then totV xs else 0
def vE (xs : List Int) : Int := if isN xs = true then totE xs else 2
theorem Value_any (a : Option Addr) (n c : Nat) (xs : List Int) (w : World) (h : Ints w a n xs) (hn : n ≤ 4611686018427387904) :
    Calls Try.prog 20 #[.slice a n c] w fun e w' => e = .returned (.tuple #[.int .i64 (vV xs), .int .i64 (vE xs)]) ∧ Below w.heap.size w w' := by
  by_cases hP : isN xs = true
  · refine (Value_yes a n c xs w h hn hP).mono ?_
    rintro e w' ⟨rfl, hb⟩
    exact ⟨ret_two (by unfold vV; rw [if_pos hP]) (by unfold vE; rw [if_pos hP]), hb⟩
  · refine (Value_no a n c xs w h hn (by simpa using hP)).mono ?_
    rintro e w' ⟨rfl, rfl⟩
    exact ⟨ret_two (by unfold vV; rw [if_neg hP]) (by unfold vE; rw [if_neg hP]), Below.refl _ _⟩
theorem vV_take (xs : List Int) : vV (xs.take 40) = vV xs := by
  unfold vV
  rw [isN_take]
  by_cases h : isN xs = true
  · rw [isN_take_yes h]
  · rw [if_neg h, if_neg h]
theorem vE_take (xs : List Int) : vE (xs.take 40) = vE xs := by
  unfold vE
  rw [isN_take]
  by_cases h : isN xs = true
  · rw [isN_take_yes h]
  · rw [if_neg h, if_neg h]
/-- Value of a copy. -/
theorem list_row (a : Option Addr) (n c : Nat) (xs : List Int) (w : World) (h : Ints w a n xs) (hc : n ≤ c) (hn : n ≤ 4611686018427387904) (hcm : c ≤ maxLen) :
    Calls Try.prog 21 #[.slice a n c] w fun e w' => ∃ ao m co, e = .returned (.slice ao m co) ∧ m ≤ 40 ∧ Ints w' ao m (xs.take 40) ∧ m ≤ co ∧ co ≤ maxLen ∧ Below w.heap.size w w' := by
  refine (list_any a n c xs w h hc hn hcm).mono ?_
  rintro e w' ⟨ao, co, m, rfl, hm, ho, h1, h2, hb⟩
  obtain ⟨hi, -⟩ := Ints.own ho
  exact ⟨ao, m, co, rfl, hm, hi, h1, h2, hb⟩

theorem enc_len {x : Int} (h : isNum x = true) : (enc x).length ≤ 30 := by
  have := isNum_yes h
  exact isN_len (enc_isN this.1 (by omega))
theorem EncodeI (n : Int) (h : isNum n = true) (w : World) :
    Calls Try.prog 19 #[.int .i64 n] w fun e w' => ∃ a N c, e = .returned (.tuple #[.slice a N c, .int .i64 0]) ∧ Ints w' a N (enc n) ∧ N ≤ 30 ∧ N ≤ c ∧ c ≤ maxLen ∧ Below w.heap.size w w' := by
  refine (Encode_yes n h w).mono ?_
  rintro e w' ⟨a, c, rfl, hr, hb⟩
  obtain ⟨a2, c2, hv, hi, h1, h2⟩ := hr.form
  cases hv
  exact ⟨a, _, c, rfl, hi, enc_len h, h1, h2, hb⟩
theorem refEncodeI (n : Int) (h : isNum n = true) (w : World) :
    Calls Try.prog 24 #[.int .i64 n] w fun e w' => ∃ a N c, e = .returned (.slice a N c) ∧ Ints w' a N (enc n) ∧ N ≤ 30 ∧ N ≤ c ∧ c ≤ maxLen ∧ Below w.heap.size w w' := by
  have hb := isNum_yes h
  refine (refEncode_any n hb.1 (by omega) w).mono ?_
  rintro e w' ⟨a, c, rfl, hr, hb⟩
  obtain ⟨a2, c2, hv, hi, h1, h2⟩ := hr.form
  cases hv
  exact ⟨a, _, c, rfl, hi, enc_len h, h1, h2, hb⟩

set_option maxHeartbeats 4000000 in
set_option maxRecDepth 100000 in
theorem lawCodes_any (x : Int) (a : Option Addr) (n c : Nat) (xs : List Int) (w : World) (h : Ints w a n xs) (hc : n ≤ c) (hn : n ≤ 4611686018427387904) (hcm : c ≤ maxLen) :
    Calls Try.prog 3 #[.int .i64 x, .slice a n c] w fun e w' => e = .returned (.bool true) ∧ Below w.heap.size w w' := by
  have HT := Lib.hid (At.start h)
  have HC := Lib.hid (And.intro hc hcm)
  clear h hc hcm
  have HV1 := Lib.hid (vV_take xs)
  have HV2 := Lib.hid (vE_take xs)
  have yes : isNum x = true → Calls Try.prog 3 #[.int .i64 x, .slice a n c] w fun e w' => e = .returned (.bool true) ∧ Below w.heap.size w w' := by
    intro hx
    have HX := Lib.hid hx
    clear hx
    go_enter Try.func3, Try.ntmps3
    go_wp2_with fail
    refine (EncodeI x HX.out _).mono ?_
    rintro e w1 ⟨a1, N1, c1, rfl, hi1, hN1, -, -, hb1⟩
    have T1 := Lib.hid (HT.out.later hb1)
    have R1 := Lib.hid hi1
    clear hi1 hb1 HT
    go_wp2_with fail
    refine (list_row a n c xs _ T1.out.i HC.out.1 hn HC.out.2).mono ?_
    rintro e w2 ⟨a2, m2, c2, rfl, hm2, hi2, -, -, hb2⟩
    have T2 := Lib.hid (T1.out.later hb2)
    have R2 := Lib.hid (R1.out.below hb2)
    have I2 := Lib.hid hi2
    clear hi2 hb2 T1 R1
    go_wp2_with fail
    refine (Value_any a2 m2 c2 _ _ I2.out (by omega)).mono ?_
    rintro e w3 ⟨rfl, hb3⟩
    rw [HV1.out, HV2.out]
    have T3 := Lib.hid (T2.out.later hb3)
    have R3 := Lib.hid (R2.out.below hb3)
    obtain ⟨V, hV⟩ : ∃ V, vV xs = V := ⟨_, rfl⟩
    obtain ⟨E, hE⟩ : ∃ E, vE xs = E := ⟨_, rfl⟩
    rw [hV, hE]
    have HVV := Lib.hid (And.intro hV hE)
    clear hb3 T2 R2 I2 hV hE
    go_wp2_with fail
    refine (refNumber_any x _).mono ?_
    rintro e w' ⟨rfl, rfl⟩
    rw [HX.out]
    go_wp2_with fail
    refine (refEncodeI x HX.out _).mono ?_
    rintro e w4 ⟨a4, N4, c4, rfl, hi4, hN4, -, -, hb4⟩
    have T4 := Lib.hid (T3.out.later hb4)
    have R4 := Lib.hid (R3.out.below hb4)
    have Q4 := Lib.hid hi4
    clear hi4 hb4 T3 R3
    go_wp2_with fail
    refine (equal_any _ _ _ _ _ _ _ _ _ R4.out Q4.out (by omega) (by omega)).mono ?_
    rintro e w5 ⟨rfl, q, rfl⟩
    rw [beq_self_eq_true]
    have T5 := Lib.hid (T4.out.later (below_drewN (Below.refl _ _) q))
    clear T4 R4 Q4
    go_wp2_with fail
    refine (refNumber_any x _).mono ?_
    rintro e w' ⟨rfl, rfl⟩
    rw [HX.out]
    go_wp2_with fail
    refine (awake_any _).mono ?_
    rintro e w6 ⟨rfl, hb6⟩
    have T6 := Lib.hid (T5.out.later hb6)
    clear hb6 T5
    go_wp2_with fail
    refine (refValid_any a n c xs _ T6.out.i hn).mono ?_
    rintro e w' ⟨rfl, rfl⟩
    by_cases hP : isN xs = true
    · rw [hP]
      have hvv := HVV.out
      unfold vV vE at hvv
      rw [if_pos hP, if_pos hP] at hvv
      have HQ := Lib.hid hvv
      have HP := Lib.hid hP
      clear hvv hP HVV
      go_wp2_with fail
      refine (refTold_any a n c xs _ T6.out.i HP.out).mono ?_
      rintro e w' ⟨rfl, rfl⟩
      rw [HQ.out.1, HQ.out.2]
      go_wp2
      go_ret
      exact ⟨rfl, T6.out.b⟩
    · have hP' : isN xs = false := by simpa using hP
      rw [hP']
      have hvv := HVV.out
      unfold vV vE at hvv
      rw [if_neg hP, if_neg hP] at hvv
      obtain ⟨rfl, rfl⟩ := hvv
      clear hP hP' HVV
      go_wp2
      go_ret
      exact ⟨rfl, T6.out.b⟩
  have no : isNum x = false → Calls Try.prog 3 #[.int .i64 x, .slice a n c] w fun e w' => e = .returned (.bool true) ∧ Below w.heap.size w w' := by
    intro hx
    have HX := Lib.hid hx
    clear hx yes
    go_enter Try.func3, Try.ntmps3
    go_wp2_with fail
    refine (Encode_no x HX.out _).mono ?_
    rintro e w' ⟨rfl, rfl⟩
    go_wp2_with fail
    refine (list_row a n c xs _ HT.out.i HC.out.1 hn HC.out.2).mono ?_
    rintro e w2 ⟨a2, m2, c2, rfl, hm2, hi2, -, -, hb2⟩
    have T2 := Lib.hid (HT.out.later hb2)
    have I2 := Lib.hid hi2
    clear hi2 hb2 HT
    go_wp2_with fail
    refine (Value_any a2 m2 c2 _ _ I2.out (by omega)).mono ?_
    rintro e w3 ⟨rfl, hb3⟩
    rw [HV1.out, HV2.out]
    have T3 := Lib.hid (T2.out.later hb3)
    obtain ⟨V, hV⟩ : ∃ V, vV xs = V := ⟨_, rfl⟩
    obtain ⟨E, hE⟩ : ∃ E, vE xs = E := ⟨_, rfl⟩
    rw [hV, hE]
    have HVV := Lib.hid (And.intro hV hE)
    clear hb3 T2 I2 hV hE
    go_wp2_with fail
    refine (refNumber_any x _).mono ?_
    rintro e w' ⟨rfl, rfl⟩
    rw [HX.out]
    go_wp2_with fail
    refine (refNumber_any x _).mono ?_
    rintro e w' ⟨rfl, rfl⟩
    rw [HX.out]
    go_wp2_with fail
    refine (awake_any _).mono ?_
    rintro e w6 ⟨rfl, hb6⟩
    have T6 := Lib.hid (T3.out.later hb6)
    clear hb6 T3
    go_wp2_with fail
    refine (refValid_any a n c xs _ T6.out.i hn).mono ?_
    rintro e w' ⟨rfl, rfl⟩
    by_cases hP : isN xs = true
    · rw [hP]
      have hvv := HVV.out
      unfold vV vE at hvv
      rw [if_pos hP, if_pos hP] at hvv
      have HQ := Lib.hid hvv
      have HP := Lib.hid hP
      clear hvv hP HVV
      go_wp2_with fail
      refine (refTold_any a n c xs _ T6.out.i HP.out).mono ?_
      rintro e w' ⟨rfl, rfl⟩
      rw [HQ.out.1, HQ.out.2]
      go_wp2
      go_ret
      exact ⟨rfl, T6.out.b⟩
    · have hP' : isN xs = false := by simpa using hP
      rw [hP']
      have hvv := HVV.out
      unfold vV vE at hvv
      rw [if_neg hP, if_neg hP] at hvv
      obtain ⟨rfl, rfl⟩ := hvv
      clear hP hP' HVV
      go_wp2
      go_ret
      exact ⟨rfl, T6.out.b⟩
  by_cases hx : isNum x = true
  · exact yes hx
  · exact no (by simpa using hx)
end Go.Proofs.Ytbdabpmpfciibaa
