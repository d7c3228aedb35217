/- The numbers of fillings: all that the law PartsFilled asks, out of the parts that the kernel has checked. Condition: a partition of at most 20; a number of at most 14. -/
import Derived.Test.YtfecdpglcdhijaaFillA
import Derived.Test.YtfecdpglcdhijaaFillB
import Derived.Test.YtfecdpglcdhijaaFillC
import Derived.Test.YtfecdpglcdhijaaFillD
import Derived.Test.YtfecdpglcdhijaaFillE
import Derived.Test.YtfecdpglcdhijaaFillF
import Derived.Test.YtfecdpglcdhijaaFrank3
namespace Go.Proofs.Ytfecdpglcdhijaa
open Go.RowKit

theorem part_at {s len : Nat} (h : chkPart filledOK s len = true) {i : Nat} (h1 : s ≤ i) (h2 : i < s + len) : chkW filledOK 19 (i + 1) (20 - (i + 1)) [((i + 1 : Nat) : Int)] = true := by
  have := List.all_eq_true.1 h (i - s) (List.mem_range.2 (by omega))
  rw [show s + (i - s) + 1 = i + 1 by omega] at this
  exact this
theorem filledCheck : chkW filledOK 20 20 20 [] = true := by
  rw [chkW, Bool.and_eq_true, List.all_eq_true]
  refine ⟨by decide +kernel, fun i hi => ?_⟩
  have hi := List.mem_range.1 hi
  by_cases h1 : i < 4
  · exact part_at filledA (by omega) (by omega)
  by_cases h2 : i < 5
  · exact part_at filledB (by omega) (by omega)
  by_cases h3 : i < 6
  · exact part_at filledC (by omega) (by omega)
  by_cases h4 : i < 8
  · exact part_at filledD (by omega) (by omega)
  · exact part_at filledE (by omega) (by omega)
theorem filled_all {xs : List Int} (hP : isP xs = true) (hs : sumL xs ≤ 20) :
    (∀ i, i < xs.length → ∀ j, j < (nthL (hooksL xs) i).length → 1 ≤ (nthL (hooksL xs) i).getD j 0 ∧ mulF (prodTo (hooksL xs) i) ((nthL (hooksL xs) i).take j) ≤ Int.tdiv 4611686018427387904 ((nthL (hooksL xs) i).getD j 0))
    ∧ Int.tmod (factF (sumL xs).toNat) (prodF xs) = 0 ∧ (xs.length ≠ 0 → fillF xs = sumTo xs xs.length)
    ∧ ∀ i, i < xs.length → corner xs i = true → isP (lessL xs i) = true ∧ sumL (lessL xs i) ≤ 20 := by
  have hm : ∀ y ∈ xs, y ≤ (20 : Int) := fun y hy => by
    have := mem_le_sum (fun y hy => (isP_mem hP hy).1) y hy
    omega
  have h := chkW_spec filledOK 20 20 20 [] xs (by omega) filledCheck (okFrom_less xs 30 30 20 20 hP hm hs)
  rw [List.reverse_nil, List.nil_append] at h
  simp only [filledOK, Bool.and_eq_true, Bool.or_eq_true, beq_iff_eq] at h
  obtain ⟨h1, h2, h3, h4⟩ := h
  refine ⟨fun i hi j hj => chainRow_at _ _ (chainAll_at _ _ h1 i (by rw [hooksL_len]; exact hi)) j hj, h2, fun hn => ?_, fun i hi hc => ?_⟩
  · rcases h3 with h3 | h3
    · exact absurd (by rw [List.isEmpty_iff.1 h3]; rfl) hn
    · exact h3
  · have := List.all_eq_true.1 h4 i (List.mem_range.2 hi)
    rw [hc] at this
    simpa using this
theorem sqTo_fold (L : List (List Int)) : ∀ k, k ≤ L.length → sqTo L k = (L.take k).foldl (fun s x => wrap64 (s + wrap64 (fillF x * fillF x))) 0
  | 0, _ => rfl
  | k + 1, hk => by
    have e : L.take (k + 1) = L.take k ++ [nthL L k] := by
      rw [List.take_add_one]
      simp [nthL, List.getD, show k < L.length by omega]
    rw [e, List.foldl_append, ← sqTo_fold L k (by omega)]
    rfl
theorem squares_all {q : Nat} (hq : q ≤ 14) : sqTo (pF 20 q q) (pF 20 q q).length = factF q ∧ ∀ x ∈ pF 20 q q, isP x = true ∧ sumL x ≤ 20 := by
  have h := List.all_eq_true.1 squaresF q (List.mem_range.2 (by omega))
  unfold squaresOK at h
  obtain ⟨T, hT⟩ : ∃ T, pF 20 q q = T := ⟨_, rfl⟩
  rw [hT] at h ⊢
  simp only [Bool.and_eq_true, beq_iff_eq] at h
  refine ⟨?_, fun x hx => ?_⟩
  · rw [sqTo_fold T T.length (Nat.le_refl _), List.take_length]
    exact h.1
  · have := List.all_eq_true.1 h.2 x hx
    simpa using this
theorem RS.ints {g m c : Nat} {f : Nat → Int} {w W : World} (h : RS g m c f w W) {xs : List Int} (hl : xs.length = m) (e : ∀ j, j < m → f j = xs.getD j 0) : Ints W (some ⟨g, 0, none⟩) m xs := by
  refine ⟨hl, ?_⟩
  by_cases h0 : m = 0
  · exact .inl h0
  · refine .inr ⟨g, 0, rfl, (h.own.lt g rfl).2, fun j hj => ?_⟩
    rw [Nat.zero_add, h.cell hj, e j hj]
end Go.Proofs.Ytfecdpglcdhijaa
