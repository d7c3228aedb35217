/- The solutions for 5 and 4, or -4, and the numerals with one index, up to 5000: one computation. No condition. -/
import Derived.Test.YtbdabpmpfciibaaPlSolve
import Derived.Test.YtbdabpmpfciibaaBools
namespace Go.Proofs.Ytbdabpmpfciibaa

def hitG (y : Nat) : Bool := pl.isHit 5 4 y || pl.isHit 5 (-4) y
def chkG (y : Nat) : Bool := hitG y == decide ((encL 18 (y : Int)).length < 2)
def allG : Nat → Bool
  | 0 => true
  | n + 1 => chkG n && allG n
set_option maxRecDepth 1000000 in
theorem allG_ok : allG 5001 = true := by decide +kernel
theorem allG_all : ∀ n y, allG n = true → y < n → chkG y = true
  | 0, y, _, h => absurd h (by omega)
  | n + 1, y, h, hy => by
    unfold allG at h
    rw [Bool.and_eq_true] at h
    by_cases e : y = n
    · subst e; exact h.1
    · exact allG_all n y h.2 (by omega)
theorem fibN_20 : fibN 20 = 6765 := by decide +kernel
theorem hitG_eq {y : Nat} (h : y ≤ 5000) : hitG y = decide ((enc (y : Int)).length < 2) := by
  have h1 := allG_all 5001 y allG_ok (by omega)
  unfold chkG at h1
  rw [beq_iff_eq] at h1
  rw [h1]
  have e : enc (y : Int) = encL 18 (y : Int) := encL_more 41 18 (y : Int) (by rw [fibN_20]; omega)
  rw [e]

theorem solL_any (d n : Int) (y : Nat) : ∀ z, ((pl.solL d n z).any fun p => p.2 == (y : Int)) = (decide (y < z) && pl.isHit d n y)
  | 0 => by simp [pl.solL]
  | z + 1 => by
    have ih := solL_any d n y z
    by_cases e : y = z
    · subst e
      by_cases hh : pl.isHit d n y = true
      · rw [pl.solL_hit hh, List.any_append, ih]
        simp [hh]
      · have hh' : pl.isHit d n y = false := by simpa using hh
        rw [pl.solL_miss hh', ih]
        simp [hh']
    · have e2 : decide (y < z + 1) = decide (y < z) := by
        by_cases h : y < z
        · rw [decide_eq_true h, decide_eq_true (by omega)]
        · rw [decide_eq_false h, decide_eq_false (by omega)]
      have e3 : ((z : Int) == (y : Int)) = false := by
        rw [beq_eq_false_iff_ne]; omega
      by_cases hh : pl.isHit d n z = true
      · rw [pl.solL_hit hh, List.any_append, ih, e2]
        simp [e3]
      · rw [pl.solL_miss (by simpa using hh), ih, e2]
theorem solL_mem (d n : Int) : ∀ z, ∀ p ∈ pl.solL d n z, 0 ≤ p.2 ∧ p.2 < (z : Int)
  | 0, p, hp => by simp [pl.solL] at hp
  | z + 1, p, hp => by
    have ih := solL_mem d n z p
    by_cases hh : pl.isHit d n z = true
    · rw [pl.solL_hit hh, List.mem_append] at hp
      rcases hp with hp | hp
      · have := ih hp; omega
      · rw [List.mem_singleton] at hp
        subst hp
        show (0 : Int) ≤ (z : Int) ∧ (z : Int) < ((z + 1 : Nat) : Int)
        omega
    · rw [pl.solL_miss (by simpa using hh)] at hp
      have := ih hp; omega

def goldL (M : Nat) : List (Int × Int) := pl.solL 5 4 (M + 1) ++ pl.solL 5 (-4) (M + 1)
theorem goldL_any {M y : Nat} (h : y ≤ M) : ((goldL M).any fun p => p.2 == (y : Int)) = hitG y := by
  unfold goldL hitG
  rw [List.any_append, solL_any, solL_any, decide_eq_true (show y < M + 1 by omega), Bool.true_and, Bool.true_and]
theorem goldL_mem {M k : Nat} (h : k < (goldL M).length) : 0 ≤ (nth2 (goldL M) k).2 ∧ (nth2 (goldL M) k).2 ≤ (M : Int) := by
  have hm := nth2_mem h
  unfold goldL at hm
  rw [List.mem_append] at hm
  rcases hm with hm | hm
  · have := solL_mem _ _ _ _ hm
    unfold goldL; omega
  · have := solL_mem _ _ _ _ hm
    unfold goldL; omega
/-- The numbers met among the first k pairs. -/
def metF (L : List (Int × Int)) (k i : Nat) : Bool := (L.take k).any fun p => p.2 == (i : Int)
theorem metF_zero (L : List (Int × Int)) (i : Nat) : metF L 0 i = false := by simp [metF]
theorem metF_succ {L : List (Int × Int)} {k y : Nat} (h : k < L.length) (hy : (nth2 L k).2 = (y : Int)) (i : Nat) : (if i = y then true else metF L k i) = metF L (k + 1) i := by
  unfold metF
  rw [take_succ2 h, List.any_append]
  by_cases e : i = y
  · subst e
    simp [hy]
  · have e3 : ((y : Int) == (i : Int)) = false := by
      rw [beq_eq_false_iff_ne]; omega
    simp [hy, e3, e]
theorem metF_all (L : List (Int × Int)) (i : Nat) : metF L L.length i = L.any fun p => p.2 == (i : Int) := by
  unfold metF
  rw [List.take_length]
end Go.Proofs.Ytbdabpmpfciibaa
