/- The walks of slices.Clone, slices.Equal and gherkinlaw07.list. Condition: the slices lie in memory. -/
import Derived.Test.YtgfenponlkmfmaaVec
import Derived.Test.YtgfenponlkmfmaaShelf
namespace Go.Proofs.Ytgfenponlkmfmaa
open Go.RowKit
attribute [local go_sem] Oper.semAt_some

/-- A copy of the beginning, in memory of the call's own. -/
theorem clone_any (a : Option Addr) (n c : Nat) (xs : List Int) (w : World) (h : Ints w a n xs) (hbig : n ≤ 1000000) :
    Calls Try.prog 55 #[.slice a n c] w fun e w' => ∃ ao co, e = .returned (.slice ao n co) ∧ w'.ownsRow w.heap.size 3 1 (.slice ao n co) n (xs.map (Value.int .i64)) ∧ n ≤ co ∧ co ≤ maxLen ∧ Below w.heap.size w w' := by
  have fin : ∀ (w' : World) v', w'.ownsRow w.heap.size 3 1 v' n (xs.map (Value.int .i64)) → ∃ ao co, v' = .slice ao n co ∧ w'.ownsRow w.heap.size 3 1 (.slice ao n co) n (xs.map (Value.int .i64)) ∧ n ≤ co ∧ co ≤ maxLen := by
    intro w' v' ho
    rcases ho.2 with ⟨h1, h2⟩ | ⟨g, cap, cur, h1, h2, h3, h4, h5, h6, h7⟩
    · subst h1 h2
      exact ⟨none, 0, rfl, ho, Nat.le_refl _, by unfold maxLen; omega⟩
    · subst h1
      exact ⟨_, cap, rfl, ho, h4, h5⟩
  match a, h with
  | none, h =>
    have hn : n = 0 := by
      rcases h.2 with h | ⟨b, off, h, _⟩
      · exact h
      · cases h
    subst hn
    have hx : xs = [] := List.length_eq_zero_iff.1 h.1
    subst hx
    refine (Try.slices_Clone_int_nil 0 c w).mono ?_
    rintro e w' ⟨rfl, rfl⟩
    exact ⟨none, 0, rfl, World.ownsRow_nil _ _ _ _, Nat.le_refl _, by unfold maxLen; omega, Below.refl _ _⟩
  | some ad, h =>
    by_cases hn : n = 0
    · subst hn
      have hx : xs = [] := List.length_eq_zero_iff.1 h.1
      subst hx
      refine (Try.slices_Clone_int_zero ad c w).mono ?_
      rintro e w' ⟨v', rfl, ho, -, hb⟩
      obtain ⟨ao, co, rfl, h1, h2, h3⟩ := fin w' v' ho
      exact ⟨ao, co, rfl, h1, h2, h3, hb⟩
    · obtain ⟨b, off, had, hb, hc⟩ := h.at (by omega)
      cases had
      refine (Try.slices_Clone_int b off n c xs w (by rw [h.1]; exact Nat.le_refl _) (by omega) (fun j hj => hc j (by rw [← h.1]; exact hj))).mono ?_
      rintro e w' ⟨v', rfl, ho, -, hb⟩
      rw [List.take_of_length_le (by rw [h.1]; exact Nat.le_refl _)] at ho
      obtain ⟨ao, co, rfl, h1, h2, h3⟩ := fin w' v' ho
      exact ⟨ao, co, rfl, h1, h2, h3, hb⟩

set_option maxHeartbeats 1000000 in
theorem list_any (a : Option Addr) (n c : Nat) (xs : List Int) (w : World) (h : Ints w a n xs) (hc : n ≤ c) (hn : n ≤ 4611686018427387904) (hcm : c ≤ maxLen) :
    Calls Try.prog 29 #[.slice a n c] w fun e w' => ∃ ao co m, e = .returned (.slice ao m co) ∧ m ≤ 6 ∧ w'.ownsRow w.heap.size 3 1 (.slice ao m co) m ((xs.take 6).map (Value.int .i64)) ∧ m ≤ co ∧ co ≤ maxLen ∧ Below w.heap.size w w' := by
  have H := Lib.hid h
  clear h
  have e : (min (n : Int) 6).toNat = min n 6 := by omega
  have hf := H.out.front (min n 6) (by omega)
  have e2 : xs.take (min n 6) = xs.take 6 := by
    rw [List.take_eq_take_iff, H.out.1]; omega
  rw [e2] at hf
  have HF := Lib.hid hf
  have HE := Lib.hid e
  clear e e2 hf
  go_enter Try.func29, Try.ntmps29
  go_wp2_with fail
  rw [HE.out]
  refine (clone_any a (min n 6) c (xs.take 6) w HF.out (by omega)).mono ?_
  rintro e w1 ⟨ao, co, rfl, ho, h1, h2, hb⟩
  have HO := Lib.hid (And.intro ho (And.intro h1 (And.intro h2 hb)))
  clear ho h1 h2 hb
  go_wp2
  go_ret
  exact ⟨ao, co, min n 6, rfl, by omega, HO.out.1, HO.out.2.1, HO.out.2.2.1, HO.out.2.2.2⟩

theorem equal_any (a1 a2 : Option Addr) (n m c d : Nat) (xs ys : List Int) (w : World) (h1 : Ints w a1 n xs) (h2 : Ints w a2 m ys) (hn : n ≤ 4611686018427387904) (hm : m ≤ 4611686018427387904) :
    Calls Try.prog 32 #[.slice a1 n c, .slice a2 m d] w fun e w' => e = .returned (.bool (xs == ys)) ∧ ∃ q, w' = w.drewN q := by
  by_cases hn0 : n = 0
  · subst hn0
    have hx : xs = [] := List.length_eq_zero_iff.1 h1.1
    subst hx
    refine (Try.slices_Equal_int_empty a1 a2 c m d w (by omega)).mono ?_
    rintro e w' ⟨rfl, rfl⟩
    refine ⟨ret_bool ?_, 0, rfl⟩
    have := h2.1
    cases ys with
    | nil => have : m = 0 := by simpa using this.symm
             simp [this]
    | cons y r => have : m ≠ 0 := by rw [← this]; simp
                  simp [this]
  · obtain ⟨b1, o1, rfl, hb1, hc1⟩ := h1.at (by omega)
    by_cases hm0 : m = 0
    · subst hm0
      have hy : ys = [] := List.length_eq_zero_iff.1 h2.1
      subst hy
      refine (Try.slices_Equal_int_lens (some ⟨b1, o1, none⟩) a2 n c 0 d w (by omega)).mono ?_
      rintro e w' ⟨rfl, rfl⟩
      refine ⟨ret_bool ?_, 0, rfl⟩
      cases xs with
      | nil => exact absurd h1.1.symm hn0
      | cons y r => rfl
    · obtain ⟨b2, o2, rfl, hb2, hc2⟩ := h2.at (by omega)
      refine (Try.slices_Equal_int b1 o1 n c b2 o2 m d xs ys w (by rw [h1.1]; exact Nat.le_refl _) (by rw [h2.1]; exact Nat.le_refl _) (by omega) (by omega) (fun j hj => hc1 j (by rw [← h1.1]; exact hj)) (fun j hj => hc2 j (by rw [← h2.1]; exact hj))).mono ?_
      rintro e w' ⟨rfl, q, rfl⟩
      refine ⟨ret_bool ?_, q, rfl⟩
      rw [List.take_of_length_le (by rw [h1.1]; exact Nat.le_refl _), List.take_of_length_le (by rw [h2.1]; exact Nat.le_refl _)]

end Go.Proofs.Ytgfenponlkmfmaa
