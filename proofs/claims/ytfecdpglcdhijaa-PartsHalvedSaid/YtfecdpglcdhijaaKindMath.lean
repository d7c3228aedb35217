/- As many partitions have different parts as odd ones, and the two identities of Rogers and Ramanujan, for numbers up to 100: rows of numbers, checked by the kernel. Condition: a number of at most 100. -/
import Derived.Test.YtfecdpglcdhijaaKinds
namespace Go.Proofs.Ytfecdpglcdhijaa
open Go.RowKit

def wadd (a b : Int) : Int := wrap64 (a + b)
def chunkW : Nat → Nat → List Int → List Int → List Int
  | 0, _, _, _ => []
  | f + 1, p, prev, old =>
    match old with
    | [] => []
    | x :: r => List.zipWith wadd ((x :: r).take p) prev ++ chunkW f p (List.zipWith wadd ((x :: r).take p) prev) ((x :: r).drop p)
def stepW (p : Nat) (old : List Int) : List Int := old.take p ++ chunkW old.length p (old.take p) (old.drop p)
theorem zw_at {α : Type} {z : α} (f : α → α → α) (a b : List α) {i : Nat} (h1 : i < a.length) (h2 : i < b.length) : (List.zipWith f a b).getD i z = f (a.getD i z) (b.getD i z) := by
  simp [List.getD, List.getElem?_zipWith, h1, h2]
theorem app_l {α : Type} {z : α} {a b : List α} {i : Nat} (h : i < a.length) : (a ++ b).getD i z = a.getD i z := by
  simp [List.getD, List.getElem?_append_left h]
theorem app_r {α : Type} {z : α} {a b : List α} {i : Nat} (h : a.length ≤ i) : (a ++ b).getD i z = b.getD (i - a.length) z := by
  simp [List.getD, List.getElem?_append_right h]
theorem take_at {α : Type} {z : α} {l : List α} {p i : Nat} (h : i < p) : (l.take p).getD i z = l.getD i z := by
  simp [List.getD, h]
theorem drop_at {α : Type} {z : α} {l : List α} {p i : Nat} : (l.drop p).getD i z = l.getD (p + i) z := by
  simp [List.getD]
theorem chunkW_spec (p : Nat) (hp : 1 ≤ p) : ∀ (f : Nat) (prev old : List Int), old.length ≤ f → (prev.length = p ∨ old = []) →
    (chunkW f p prev old).length = old.length ∧ ∀ i, i < old.length → (chunkW f p prev old).getD i 0 = wadd (old.getD i 0) (if i < p then prev.getD i 0 else (chunkW f p prev old).getD (i - p) 0)
  | 0, prev, old, h, _ => by
    have : old = [] := List.length_eq_zero_iff.1 (by omega)
    subst this
    exact ⟨rfl, fun i hi => by simp at hi⟩
  | f + 1, prev, [], h, _ => ⟨rfl, fun i hi => by simp at hi⟩
  | f + 1, prev, x :: r, h, hpr => by
    have hpl : prev.length = p := by
      rcases hpr with h | h
      · exact h
      · cases h
    generalize hold : x :: r = old at *
    obtain ⟨c, hc⟩ : ∃ c, List.zipWith wadd (old.take p) prev = c := ⟨_, rfl⟩
    have hcl : c.length = min p old.length := by rw [← hc, List.length_zipWith, List.length_take, hpl]; omega
    have e : chunkW (f + 1) p prev old = c ++ chunkW f p c (old.drop p) := by
      rw [← hc, ← hold]
      rfl
    have hol : 1 ≤ old.length := by rw [← hold]; simp
    obtain ⟨i1, i2⟩ := chunkW_spec p hp f c (old.drop p) (by rw [List.length_drop]; omega) (by
      by_cases hlt : p < old.length
      · left; omega
      · right; exact List.drop_of_length_le (by omega))
    rw [e]
    rw [List.length_drop] at i1 i2
    refine ⟨by rw [List.length_append, hcl, i1]; omega, fun i hi => ?_⟩
    by_cases hip : i < p
    · rw [if_pos hip, app_l (by omega), ← hc, zw_at _ _ _ (by rw [List.length_take]; omega) (by omega), take_at hip]
    · rw [if_neg hip, app_r (by omega), show i - c.length = i - p by omega, i2 (i - p) (by omega), drop_at, show p + (i - p) = i by omega]
      by_cases hip2 : i - p < p
      · rw [if_pos hip2, app_l (by omega)]
      · rw [if_neg hip2, app_r (by omega), show i - p - c.length = i - p - p by omega]
theorem stepW_spec (p : Nat) (hp : 1 ≤ p) (old : List Int) : (stepW p old).length = old.length ∧ ∀ s, s < old.length → (stepW p old).getD s 0 = if s < p then old.getD s 0 else wadd (old.getD s 0) ((stepW p old).getD (s - p) 0) := by
  obtain ⟨h1, h2⟩ := chunkW_spec p hp old.length (old.take p) (old.drop p) (by rw [List.length_drop]; omega) (by
    by_cases hlt : p < old.length
    · left; rw [List.length_take]; omega
    · right; exact List.drop_of_length_le (by omega))
  rw [List.length_drop] at h1 h2
  unfold stepW
  have htl : (old.take p).length = min p old.length := List.length_take
  refine ⟨by rw [List.length_append, htl, h1]; omega, fun s hs => ?_⟩
  by_cases hsp : s < p
  · rw [if_pos hsp, app_l (by omega), take_at hsp]
  · rw [if_neg hsp, app_r (by omega), htl, show s - min p old.length = s - p by omega, h2 (s - p) (by omega), drop_at, show p + (s - p) = s by omega]
    by_cases hs2 : s - p < p
    · rw [if_pos hs2, app_l (by omega)]
    · rw [if_neg hs2, app_r (by omega), htl, show s - p - min p old.length = s - p - p by omega]

def rowZ : List Int := 1 :: List.replicate 100 0
theorem rowZ_len : rowZ.length = 101 := by rw [rowZ, List.length_cons, List.length_replicate]
theorem rowZ_at (s : Nat) (h : s ≤ 100) : rowZ.getD s 0 = if s = 0 then 1 else 0 := by
  rw [rowZ]
  cases s with
  | zero => rfl
  | succ s =>
    rw [List.getD_cons_succ, if_neg (by omega), List.getD_eq_getElem?_getD, List.getElem?_replicate]
    split <;> rfl
def row0 (al : Nat → Bool) : Nat → List Int
  | 0 => rowZ
  | p + 1 => bif al (p + 1) then stepW (p + 1) (row0 al p) else row0 al p
def stepQ (p : Nat) (r q : List Int) : List Int := r.take p ++ List.zipWith wadd (r.drop p) q
def row1 (al : Nat → Bool) : Nat → List Int
  | 0 => rowZ
  | p + 1 => bif al (p + 1) then stepQ (p + 1) (row1 al p) (row1 al p) else row1 al p
def row2 (al : Nat → Bool) : Nat → List Int × List Int
  | 0 => (rowZ, rowZ)
  | p + 1 => (bif al (p + 1) then stepQ (p + 1) (row2 al p).1 (row2 al p).2 else (row2 al p).1, (row2 al p).1)
theorem row0_spec (al : Nat → Bool) : ∀ p, (row0 al p).length = 101 ∧ ∀ s, s ≤ 100 → (row0 al p).getD s 0 = k0F al p s
  | 0 => ⟨rowZ_len, fun s h => by rw [k0F_zero]; exact rowZ_at s h⟩
  | p + 1 => by
    obtain ⟨h1, h2⟩ := row0_spec al p
    rw [row0]
    cases ha : al (p + 1)
    · exact ⟨h1, fun s h => by rw [cond_false, k0F_no ha]; exact h2 s h⟩
    · obtain ⟨g1, g2⟩ := stepW_spec (p + 1) (by omega) (row0 al p)
      refine ⟨by rw [cond_true, g1, h1], fun s h => ?_⟩
      rw [cond_true]
      have key : ∀ (N s : Nat), s ≤ N → s ≤ 100 → (stepW (p + 1) (row0 al p)).getD s 0 = k0F al (p + 1) s := by
        intro N
        induction N with
        | zero =>
          intro s hs h
          rw [g2 s (by omega), if_pos (by omega), k0F_less (by omega)]
          exact h2 s h
        | succ N ih =>
          intro s hs h
          rw [g2 s (by omega)]
          by_cases hsp : s < p + 1
          · rw [if_pos hsp, k0F_less hsp]
            exact h2 s h
          · rw [if_neg hsp, k0F_more ha (by omega), h2 s h, ih (s - (p + 1)) (by omega) (by omega)]
            rfl
      exact key s s (Nat.le_refl _) h
theorem stepQ_spec {p : Nat} {r q : List Int} (h1 : r.length = 101) (h2 : q.length = 101) : (stepQ p r q).length = 101 ∧ ∀ s, s ≤ 100 → (stepQ p r q).getD s 0 = if s < p then r.getD s 0 else wadd (r.getD s 0) (q.getD (s - p) 0) := by
  have htl : (r.take p).length = min p 101 := by rw [List.length_take, h1]
  unfold stepQ
  refine ⟨by rw [List.length_append, htl, List.length_zipWith, List.length_drop]; omega, fun s hs => ?_⟩
  by_cases hsp : s < p
  · rw [if_pos hsp, app_l (by omega), take_at hsp]
  · rw [if_neg hsp, app_r (by omega), htl, show s - min p 101 = s - p by omega, zw_at _ _ _ (by rw [List.length_drop]; omega) (by omega), drop_at, show p + (s - p) = s by omega]
theorem row1_spec (al : Nat → Bool) : ∀ p, (row1 al p).length = 101 ∧ ∀ s, s ≤ 100 → (row1 al p).getD s 0 = k1F al p s
  | 0 => ⟨rowZ_len, fun s h => by rw [k1F_zero]; exact rowZ_at s h⟩
  | p + 1 => by
    obtain ⟨h1, h2⟩ := row1_spec al p
    rw [row1]
    cases ha : al (p + 1)
    · exact ⟨h1, fun s h => by rw [cond_false, k1F_no ha]; exact h2 s h⟩
    · obtain ⟨g1, g2⟩ := stepQ_spec (p := p + 1) h1 h1
      refine ⟨g1, fun s h => ?_⟩
      rw [cond_true, g2 s h]
      by_cases hsp : s < p + 1
      · rw [if_pos hsp, k1F_less hsp]
        exact h2 s h
      · rw [if_neg hsp, k1F_more ha (by omega), h2 s h, h2 (s - (p + 1)) (by omega)]
        rfl
theorem row2_spec (al : Nat → Bool) : ∀ p, ((row2 al p).1.length = 101 ∧ ∀ s, s ≤ 100 → (row2 al p).1.getD s 0 = k2F al p s) ∧ ((row2 al p).2.length = 101 ∧ ∀ s, s ≤ 100 → (row2 al p).2.getD s 0 = k2F al (p - 1) s)
  | 0 => ⟨⟨rowZ_len, fun s h => by rw [k2F_zero]; exact rowZ_at s h⟩, ⟨rowZ_len, fun s h => by rw [k2F_zero]; exact rowZ_at s h⟩⟩
  | p + 1 => by
    obtain ⟨⟨h1, h2⟩, h3, h4⟩ := row2_spec al p
    rw [row2]
    refine ⟨?_, h1, h2⟩
    cases ha : al (p + 1)
    · exact ⟨h1, fun s h => by rw [cond_false, k2F_no ha]; exact h2 s h⟩
    · obtain ⟨g1, g2⟩ := stepQ_spec (p := p + 1) h1 h3
      refine ⟨g1, fun s h => ?_⟩
      rw [cond_true]
      show (stepQ (p + 1) (row2 al p).1 (row2 al p).2).getD s 0 = _
      rw [g2 s h]
      by_cases hsp : s < p + 1
      · rw [if_pos hsp, k2F_less hsp]
        exact h2 s h
      · rw [if_neg hsp, k2F_more ha (by omega), h2 s h, h4 (s - (p + 1)) (by omega)]
        rfl
theorem k0F_stay (al : Nat → Bool) (n : Nat) : ∀ d, k0F al (n + d) n = k0F al n n
  | 0 => rfl
  | d + 1 => by rw [← Nat.add_assoc, k0F_less (by omega), k0F_stay al n d]
theorem k1F_stay (al : Nat → Bool) (n : Nat) : ∀ d, k1F al (n + d) n = k1F al n n
  | 0 => rfl
  | d + 1 => by rw [← Nat.add_assoc, k1F_less (by omega), k1F_stay al n d]
set_option maxRecDepth 100000 in
theorem euler_check : (row1 (alF 0) 100 == row0 (alF 1) 100) = true := by decide +kernel
set_option maxRecDepth 100000 in
theorem rogers_check : ((row2 (alF 2) 100).1 == row0 (alF 3) 100) = true := by decide +kernel
set_option maxRecDepth 100000 in
theorem raman_check : ((row2 (alF 4) 100).1 == row0 (alF 5) 100) = true := by decide +kernel
theorem euler_all {n : Nat} (h : n ≤ 100) : k1F (alF 0) n n = k0F (alF 1) n n := by
  have e : row1 (alF 0) 100 = row0 (alF 1) 100 := by simpa using euler_check
  rw [← k1F_stay (alF 0) n (100 - n), ← k0F_stay (alF 1) n (100 - n), show n + (100 - n) = 100 by omega, ← (row1_spec (alF 0) 100).2 n h, ← (row0_spec (alF 1) 100).2 n h, e]
theorem rogers_all {n : Nat} (h : n ≤ 100) : k2F (alF 2) n n = k0F (alF 3) n n := by
  have e : (row2 (alF 2) 100).1 = row0 (alF 3) 100 := by simpa using rogers_check
  rw [← k2F_stay (alF 2) n (100 - n), ← k0F_stay (alF 3) n (100 - n), show n + (100 - n) = 100 by omega, ← (row2_spec (alF 2) 100).1.2 n h, ← (row0_spec (alF 3) 100).2 n h, e]
theorem raman_all {n : Nat} (h : n ≤ 100) : k2F (alF 4) n n = k0F (alF 5) n n := by
  have e : (row2 (alF 4) 100).1 = row0 (alF 5) 100 := by simpa using raman_check
  rw [← k2F_stay (alF 4) n (100 - n), ← k0F_stay (alF 5) n (100 - n), show n + (100 - n) = 100 by omega, ← (row2_spec (alF 4) 100).1.2 n h, ← (row0_spec (alF 5) 100).2 n h, e]
end Go.Proofs.Ytfecdpglcdhijaa
