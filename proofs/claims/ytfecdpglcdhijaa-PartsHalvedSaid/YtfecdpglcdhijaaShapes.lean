/- The walks of gherkinlaw02.list and of parts.Conjugate, Square, Rank and Crank: the documented results, or the documented error. Condition: the slice lies in memory. -/
import Derived.Test.YtfecdpglcdhijaaConj
import Derived.Test.YtfecdpglcdhijaaShelf
namespace Go.Proofs.Ytfecdpglcdhijaa
open Go.RowKit

/-- A copy of the beginning, in memory of the call's own. -/
theorem clone_any (a : Option Addr) (n c : Nat) (xs : List Int) (w : World) (h : Ints w a n xs) (hbig : n ≤ 1000000) :
    Calls Try.prog 55 #[.slice a n c] w fun e w' => ∃ ao co, e = .returned (.slice ao n co) ∧ w'.ownsRow w.heap.size 3 1 (.slice ao n co) n (xs.map (Value.int .i64)) ∧ n ≤ co ∧ co ≤ maxLen ∧ Below w.heap.size w w' := by
  have fin : ∀ (w' : World) v', w'.ownsRow w.heap.size 3 1 v' n (xs.map (Value.int .i64)) → ∃ ao co, v' = .slice ao n co ∧ w'.ownsRow w.heap.size 3 1 (.slice ao n co) n (xs.map (Value.int .i64)) ∧ n ≤ co ∧ co ≤ maxLen := by
    intro w' v' ho
    rcases ho.2 with ⟨h1, h2⟩ | ⟨g, cap, cur, h1, h2, h3, h4, h5, h6, h7⟩
    · subst h1 h2
      exact ⟨none, 0, rfl, ho, Nat.le_refl _, by unfold maxLen; omega⟩
    · subst h1
      exact ⟨_, cap, rfl, ho, h4, h5⟩
  match a, h with
  | none, h =>
    have hn : n = 0 := by
      rcases h.2 with h | ⟨b, off, h, _⟩
      · exact h
      · cases h
    subst hn
    have hx : xs = [] := List.length_eq_zero_iff.1 h.1
    subst hx
    refine (Try.slices_Clone_int_nil 0 c w).mono ?_
    rintro e w' ⟨rfl, rfl⟩
    exact ⟨none, 0, rfl, World.ownsRow_nil _ _ _ _, Nat.le_refl _, by unfold maxLen; omega, Below.refl _ _⟩
  | some ad, h =>
    by_cases hn : n = 0
    · subst hn
      have hx : xs = [] := List.length_eq_zero_iff.1 h.1
      subst hx
      refine (Try.slices_Clone_int_zero ad c w).mono ?_
      rintro e w' ⟨v', rfl, ho, -, hb⟩
      obtain ⟨ao, co, rfl, h1, h2, h3⟩ := fin w' v' ho
      exact ⟨ao, co, rfl, h1, h2, h3, hb⟩
    · obtain ⟨b, off, had, hb, hc⟩ := h.at (by omega)
      cases had
      refine (Try.slices_Clone_int b off n c xs w (by rw [h.1]; exact Nat.le_refl _) (by omega) (fun j hj => hc j (by rw [← h.1]; exact hj))).mono ?_
      rintro e w' ⟨v', rfl, ho, -, hb⟩
      rw [List.take_of_length_le (by rw [h.1]; exact Nat.le_refl _)] at ho
      obtain ⟨ao, co, rfl, h1, h2, h3⟩ := fin w' v' ho
      exact ⟨ao, co, rfl, h1, h2, h3, hb⟩

theorem Ints.front {w : World} {a : Option Addr} {n : Nat} {xs : List Int} (h : Ints w a n xs) (k : Nat) (hk : k ≤ n) : Ints w a k (xs.take k) := by
  refine ⟨by rw [List.length_take, h.1]; omega, ?_⟩
  by_cases h0 : k = 0
  · exact .inl h0
  · obtain ⟨b, off, h1, h2, h3⟩ := h.at (by omega)
    refine .inr ⟨b, off, h1, h2, fun j hj => ?_⟩
    rw [h3 j (by omega)]
    simp [List.getD, hj]

set_option maxHeartbeats 1000000 in
theorem list_any (a : Option Addr) (n c : Nat) (xs : List Int) (w : World) (h : Ints w a n xs) (hc : n ≤ c) (hn : n ≤ 4611686018427387904) (hcm : c ≤ maxLen) :
    Calls Try.prog 24 #[.slice a n c] w fun e w' => ∃ ao co m, e = .returned (.slice ao m co) ∧ m ≤ 34 ∧ w'.ownsRow w.heap.size 3 1 (.slice ao m co) m ((xs.take 34).map (Value.int .i64)) ∧ m ≤ co ∧ co ≤ maxLen ∧ Below w.heap.size w w' := by
  have H := Lib.hid h
  clear h
  have e : (min (n : Int) 34).toNat = min n 34 := by omega
  have hf := H.out.front (min n 34) (by omega)
  have e2 : xs.take (min n 34) = xs.take 34 := by
    rw [List.take_eq_take_iff, H.out.1]; omega
  rw [e2] at hf
  have HF := Lib.hid hf
  have HE := Lib.hid e
  clear e e2 hf
  go_enter Try.func24, Try.ntmps24
  go_wp2_with fail
  rw [HE.out]
  refine (clone_any a (min n 34) c (xs.take 34) w HF.out (by omega)).mono ?_
  rintro e w1 ⟨ao, co, rfl, ho, h1, h2, hb⟩
  have HO := Lib.hid (And.intro ho (And.intro h1 (And.intro h2 hb)))
  clear ho h1 h2 hb
  go_wp2
  go_ret
  exact ⟨ao, co, min n 34, rfl, by omega, HO.out.1, HO.out.2.1, HO.out.2.2.1, HO.out.2.2.2⟩

set_option maxHeartbeats 1000000 in
theorem Conjugate_yes (a : Option Addr) (n c : Nat) (xs : List Int) (w : World) (h : Ints w a n xs) (hP : isP xs = true) (hc : n ≤ c) (hcm : c ≤ maxLen) :
    Calls Try.prog 23 #[.slice a n c] w fun e w' => ∃ ao co, e = .returned (.tuple #[.slice ao (conjL xs).length co, .int .i64 0]) ∧ w'.ownsRow w.heap.size 3 1 (.slice ao (conjL xs).length co) (conjL xs).length ((conjL xs).map (Value.int .i64)) ∧ Below w.heap.size w w' := by
  have hn := isP_len hP
  rw [h.1] at hn
  have H := Lib.hid h
  have HP := Lib.hid hP
  obtain ⟨L, hL⟩ : ∃ L, conjL xs = L := ⟨_, rfl⟩
  have HL := Lib.hid hL
  rw [hL]
  clear h hP hL
  go_enter Try.func23, Try.ntmps23
  go_wp2_with (first | (go_at_call 62; refine (valid_any a n c xs _ H.out (by omega)).mono ?_; rintro e w' ⟨rfl, rfl⟩; rw [HP.out]) | (go_at_call 63; refine (conj_any a n c xs _ H.out HP.out hc hcm).mono ?_; rintro e w' ⟨ao, co, rfl, ho, hb⟩; rw [HL.out] at ho ⊢; have HO := Lib.hid (And.intro ho hb); clear ho hb) | go_in)
  go_ret2
  exact ⟨ao, co, rfl, HO.out.1, HO.out.2⟩

set_option maxHeartbeats 1000000 in
theorem Conjugate_no (a : Option Addr) (n c : Nat) (xs : List Int) (w : World) (h : Ints w a n xs) (hP : isP xs = false) (hn : n ≤ 4611686018427387904) :
    Calls Try.prog 23 #[.slice a n c] w fun e w' => e = .returned (.tuple #[.slice none 0 0, .int .i64 2]) ∧ w' = w := by
  have H := Lib.hid h
  have HP := Lib.hid hP
  clear h hP
  go_enter Try.func23, Try.ntmps23
  go_wp2_with (first | (go_at_call 62; refine (valid_any a n c xs _ H.out (by omega)).mono ?_; rintro e w' ⟨rfl, rfl⟩; rw [HP.out]) | go_in)
  go_ret2
  exact ⟨rfl, rfl⟩

set_option maxHeartbeats 1000000 in
theorem Square_any (a : Option Addr) (n c : Nat) (xs : List Int) (w : World) (h : Ints w a n xs) (hn : n ≤ 4611686018427387904) :
    Calls Try.prog 25 #[.slice a n c] w fun e w' => e = .returned (.tuple #[.int .i64 (if isP xs then sqL xs else 0), .int .i64 (if isP xs then 0 else 2)]) ∧ w' = w := by
  have H := Lib.hid h
  clear h
  by_cases hP : isP xs = true
  · have HP := Lib.hid hP
    rw [if_pos hP, if_pos hP]
    clear hP
    go_enter Try.func25, Try.ntmps25
    go_wp2_with (first | (go_at_call 62; refine (valid_any a n c xs _ H.out (by omega)).mono ?_; rintro e w' ⟨rfl, rfl⟩; rw [HP.out]) | (go_at_call 65; refine (square_any a n c xs _ H.out hn).mono ?_; rintro e w' ⟨rfl, rfl⟩) | go_in)
    go_ret2
    exact ⟨rfl, rfl⟩
  · have hP' : isP xs = false := by simpa using hP
    have HP := Lib.hid hP'
    rw [if_neg hP, if_neg hP]
    clear hP hP'
    go_enter Try.func25, Try.ntmps25
    go_wp2_with (first | (go_at_call 62; refine (valid_any a n c xs _ H.out (by omega)).mono ?_; rintro e w' ⟨rfl, rfl⟩; rw [HP.out]) | go_in)
    go_ret2
    exact ⟨rfl, rfl⟩

set_option maxHeartbeats 1000000 in
theorem Rank_any (a : Option Addr) (n c : Nat) (xs : List Int) (w : World) (h : Ints w a n xs) (hn : n ≤ 4611686018427387904) :
    Calls Try.prog 26 #[.slice a n c] w fun e w' => e = .returned (.tuple #[.int .i64 (if isP xs then rankL xs else 0), .int .i64 (if isP xs then 0 else 2)]) ∧ w' = w := by
  have H := Lib.hid h
  clear h
  by_cases hP : isP xs = true
  · have HP := Lib.hid hP
    rw [if_pos hP, if_pos hP]
    clear hP
    go_enter Try.func26, Try.ntmps26
    go_wp2_with (first | (go_at_call 62; refine (valid_any a n c xs _ H.out (by omega)).mono ?_; rintro e w' ⟨rfl, rfl⟩; rw [HP.out]) | (go_at_call 66; refine (rank_any a n c xs _ H.out HP.out).mono ?_; rintro e w' ⟨rfl, rfl⟩) | go_in)
    go_ret2
    exact ⟨rfl, rfl⟩
  · have hP' : isP xs = false := by simpa using hP
    have HP := Lib.hid hP'
    rw [if_neg hP, if_neg hP]
    clear hP hP'
    go_enter Try.func26, Try.ntmps26
    go_wp2_with (first | (go_at_call 62; refine (valid_any a n c xs _ H.out (by omega)).mono ?_; rintro e w' ⟨rfl, rfl⟩; rw [HP.out]) | go_in)
    go_ret2
    exact ⟨rfl, rfl⟩

set_option maxHeartbeats 1000000 in
theorem Crank_any (a : Option Addr) (n c : Nat) (xs : List Int) (w : World) (h : Ints w a n xs) (hn : n ≤ 4611686018427387904) :
    Calls Try.prog 27 #[.slice a n c] w fun e w' => e = .returned (.tuple #[.int .i64 (if isP xs then crankL xs else 0), .int .i64 (if isP xs then 0 else 2)]) ∧ w' = w := by
  have H := Lib.hid h
  clear h
  by_cases hP : isP xs = true
  · have HP := Lib.hid hP
    rw [if_pos hP, if_pos hP]
    clear hP
    go_enter Try.func27, Try.ntmps27
    go_wp2_with (first | (go_at_call 62; refine (valid_any a n c xs _ H.out (by omega)).mono ?_; rintro e w' ⟨rfl, rfl⟩; rw [HP.out]) | (go_at_call 67; refine (crank_any a n c xs _ H.out HP.out).mono ?_; rintro e w' ⟨rfl, rfl⟩) | go_in)
    go_ret2
    exact ⟨rfl, rfl⟩
  · have hP' : isP xs = false := by simpa using hP
    have HP := Lib.hid hP'
    rw [if_neg hP, if_neg hP]
    clear hP hP'
    go_enter Try.func27, Try.ntmps27
    go_wp2_with (first | (go_at_call 62; refine (valid_any a n c xs _ H.out (by omega)).mono ?_; rintro e w' ⟨rfl, rfl⟩; rw [HP.out]) | go_in)
    go_ret2
    exact ⟨rfl, rfl⟩
end Go.Proofs.Ytfecdpglcdhijaa
