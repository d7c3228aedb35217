/- The law NumeralBack: its walk in every case. Condition: the slice lies in memory. -/
import Derived.Test.YtbdabpmpfciibaaLawAdds
namespace Go.Proofs.Ytbdabpmpfciibaa
open Go.RowKit

theorem vV_enc {x : Int} (h : isNum x = true) : vV (enc x) = x ∧ vE (enc x) = 0 := by
  have hb := isNum_yes h
  have h1 := enc_isN hb.1 (show x < 1548008755920 by omega)
  have h2 := (enc_ok hb.1 (show x < 1548008755920 by omega)).2
  unfold vV vE totV totE
  rw [if_pos h1, if_pos h1, h2, if_neg (by omega), if_neg (by omega)]
  exact ⟨rfl, rfl⟩
theorem vE_zero {xs : List Int} (h : vE xs = 0) : isN xs = true ∧ isNum (vV xs) = true ∧ enc (vV xs) = xs := by
  unfold vE at h
  by_cases hN : isN xs = true
  · rw [if_pos hN] at h
    unfold totE at h
    have hb : ¬ 1000000000000 < valL xs := by
      intro hb
      rw [if_pos hb] at h
      omega
    have hv := isN_val hN
    have e : vV xs = valL xs := by unfold vV totV; rw [if_pos hN, if_neg hb]
    rw [e]
    exact ⟨hN, isNum_mk hv.1 (by omega), enc_val hN⟩
  · rw [if_neg hN] at h
    omega
theorem vE_vals (xs : List Int) : vE xs = 0 ∨ vE xs = 6 ∨ vE xs = 2 := by
  unfold vE totE
  split
  · split
    · exact .inr (.inl rfl)
    · exact .inl rfl
  · exact .inr (.inr rfl)
/-- Encode at any number. -/
def enN (x : Int) : List Int := if isNum x = true then enc x else []
def enE (x : Int) : Int := if isNum x = true then 0 else 2
theorem EncodeA (n : Int) (w : World) :
    Calls Try.prog 19 #[.int .i64 n] w fun e w' => ∃ a N c, e = .returned (.tuple #[.slice a N c, .int .i64 (enE n)]) ∧ Ints w' a N (enN n) ∧ N ≤ 30 ∧ N ≤ c ∧ c ≤ maxLen ∧ Below w.heap.size w w' := by
  by_cases h : isNum n = true
  · refine (EncodeI n h w).mono ?_
    rintro e w' ⟨a, N, c, rfl, h1, h2⟩
    exact ⟨a, N, c, ret_one_two (by unfold enE; rw [if_pos h]), by unfold enN; rw [if_pos h]; exact h1, h2⟩
  · refine (Encode_no n (by simpa using h) w).mono ?_
    rintro e w' ⟨rfl, rfl⟩
    exact ⟨none, 0, 0, ret_one_two (by unfold enE; rw [if_neg h]), by unfold enN; rw [if_neg h]; exact Ints.nil _ _, by omega, by omega, by unfold maxLen; omega, Below.refl _ _⟩
/-- A copy. -/
theorem cloneI (a : Option Addr) (n c : Nat) (xs : List Int) (w : World) (h : Ints w a n xs) (hn : n ≤ 30) :
    Calls Try.prog 56 #[.slice a n c] w fun e w' => ∃ ao co, e = .returned (.slice ao n co) ∧ Ints w' ao n xs ∧ Below w.heap.size w w' := by
  refine (clone_any a n c xs w h (by omega)).mono ?_
  rintro e w' ⟨ao, co, rfl, ho, -, -, hb⟩
  exact ⟨ao, co, rfl, (Ints.own ho).1, hb⟩

/-- What lies: the argument, and two numerals. -/
structure B3 (w W : World) (a0 : Option Addr) (n0 : Nat) (xs : List Int) (a1 : Option Addr) (n1 : Nat) (A : List Int) (a2 : Option Addr) (n2 : Nat) (B : List Int) : Prop where
  b : Below w.heap.size w W
  x : Ints W a0 n0 xs
  i : Ints W a1 n1 A
  j : Ints W a2 n2 B
theorem B3.later {w W W' : World} {a0 a1 a2 : Option Addr} {n0 n1 n2 : Nat} {xs A B : List Int} (h : B3 w W a0 n0 xs a1 n1 A a2 n2 B) (hb : Below W.heap.size W W') : B3 w W' a0 n0 xs a1 n1 A a2 n2 B :=
  ⟨h.b.trans (hb.mono h.b.size), h.x.below hb, h.i.below hb, h.j.below hb⟩

/-- The law behind its first part. -/
theorem tail_facts {m n : Int} (hm : isNum m = true) (hn : isNum n = true) : lessB (enc m) (enc n) = decide (m < n) ∧ lessE (enc m) (enc n) = 0 ∧ (cmpL (enc m) (enc n) < 0 ↔ m < n) ∧ addE (enc m) (enc n) = szE (m + n) ∧ (m + n ≤ 1000000000000 → addL (enc m) (enc n) = enc (m + n)) := by
  have b1 := isNum_yes hm
  have b2 := isNum_yes hn
  have i1 := enc_isN b1.1 (show m < 1548008755920 by omega)
  have i2 := enc_isN b2.1 (show n < 1548008755920 by omega)
  have v1 := (enc_ok b1.1 (show m < 1548008755920 by omega)).2
  have v2 := (enc_ok b2.1 (show n < 1548008755920 by omega)).2
  refine ⟨?_, ?_, ?_, ?_, ?_⟩
  · unfold lessB; rw [i1, i2, v1, v2, Bool.true_and, Bool.true_and]
  · unfold lessE; rw [if_pos ⟨i1, i2⟩]
  · rw [cmpL_lt _ _ 60 (by omega) i1 i2, v1, v2]
  · unfold addE szE; rw [if_pos ⟨i1, i2⟩, v1, v2]
    by_cases h : m + n ≤ 1000000000000
    · rw [if_pos h, if_neg (by omega)]
    · rw [if_neg h, if_pos (by omega)]
  · intro h
    unfold addL; rw [if_pos ⟨i1, i2, by rw [v1, v2]; exact h⟩, v1, v2]
end Go.Proofs.Ytbdabpmpfciibaa
