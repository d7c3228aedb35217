/- Rows of the reference's sides; how far the reference's Polygon has come. No condition beyond those stated. -/
import Derived.Test.YtjlaclbgfidiiaaWholeMath
namespace Go.Proofs.Ytjlaclbgfidiiaa
open Go.RowKit
attribute [local go_sem] Oper.semAt_some

/-- A row of the reference's sides of the call's own. -/
def Row5 (B : Nat) (v : Value) (S : List Sd) (W : World) : Prop := W.ownsRow B 50 4 v S.length (fl4 S)
theorem Row5.nil (B : Nat) (W : World) : Row5 B (.slice none 0 0) [] W := World.ownsRow_nil _ _ _ _
theorem Row5.later {B : Nat} {v : Value} {S : List Sd} {W W' : World} (h : Row5 B v S W) (hb : Below W.heap.size W W') : Row5 B v S W' := own_later h hb
theorem Row5.alloc {B : Nat} {v : Value} {S : List Sd} {W : World} (h : Row5 B v S W) (o : Obj) : Row5 B v S (W.alloc o) := World.ownsRow.alloc (h := h) o
theorem Row5.mono {B B' : Nat} {v : Value} {S : List Sd} {W : World} (h : Row5 B v S W) (hb : B' ≤ B) : Row5 B' v S W := Joins.ownsRow_le h hb
theorem Row5.cell {B g n c : Nat} {S : List Sd} {W : World} (h : Row5 B (.slice (some ⟨g, 0, none⟩) n c) S W) {j : Nat} (hj : j < S.length) :
    W.cell? ⟨g, j * 4, none⟩ = some (.int .i64 (nth4 S j).1) ∧ W.cell? ⟨g, j * 4 + 1, none⟩ = some (.int .i64 (nth4 S j).2.1) ∧ W.cell? ⟨g, j * 4 + 2, none⟩ = some (.int .i64 (nth4 S j).2.2.1) ∧ W.cell? ⟨g, j * 4 + 3, none⟩ = some (.int .i64 (nth4 S j).2.2.2) := by
  have hl : n = S.length := by
    rcases h.2 with ⟨h1, -⟩ | ⟨g', cap, cur, h1, -⟩
    · cases h1
    · cases h1; rfl
  subst hl
  obtain ⟨a, b, c, d⟩ := fl4_at S j hj
  refine ⟨?_, ?_, ?_, ?_⟩
  · rw [h.cellAt (j * 4) (by omega)]; exact a
  · rw [h.cellAt (j * 4 + 1) (by omega)]; exact b
  · rw [h.cellAt (j * 4 + 2) (by omega)]; exact c
  · rw [h.cellAt (j * 4 + 3) (by omega)]; exact d
theorem Row5.form {B : Nat} {v : Value} {S : List Sd} {W : World} (h : Row5 B v S W) : ∃ a c, v = .slice a S.length c ∧ S.length ≤ c ∧ c ≤ maxLen ∧ ((a = none ∧ S = [] ∧ c = 0) ∨ ∃ g, a = some ⟨g, 0, none⟩ ∧ B ≤ g ∧ g < W.heap.size) := by
  rcases h.2 with ⟨h1, h2⟩ | ⟨g, cap, cur, h1, h2, h3, h4, h5, h6, h7⟩
  · have : S = [] := List.length_eq_zero_iff.1 h2
    subst this
    exact ⟨none, 0, h1, Nat.le_refl _, by unfold maxLen; omega, .inl ⟨rfl, rfl, rfl⟩⟩
  · exact ⟨_, cap, h1, h4, h5, .inr ⟨g, rfl, h2, (Array.getElem?_eq_some_iff.1 h3).1⟩⟩
theorem info50 : (Try.prog.info? 50).map (fun i => (i.zero, i.size, i.bytes)) = some (some (.agg #[.int .i64 0, .int .i64 0, .int .i64 0, .int .i64 0]), 4, 32) := by kernel_rfl

/-- How many points lie left of i. -/
def cn (f : List Int) (q i : Nat) : Nat := (ptsP f q i).length
theorem pts_pre {f : List Int} {q : Nat} : ∀ (d i j : Nat), j < cn f q i → nth (ptsP f q (i + d)) j = nth (ptsP f q i) j ∧ cn f q i ≤ cn f q (i + d)
  | 0, i, j, _ => ⟨rfl, Nat.le_refl _⟩
  | d + 1, i, j, h => by
    obtain ⟨ih, il⟩ := pts_pre d i j h
    rw [← Nat.add_assoc]
    unfold cn at *
    by_cases hz : f.getD (i + d) 0 = 0
    · rw [ptsP_no hz]; exact ⟨ih, il⟩
    · rw [ptsP_yes hz, nth_snoc, if_pos (by omega)]
      exact ⟨ih, by rw [List.length_append]; omega⟩
theorem cn_no {f : List Int} {q i : Nat} (h : f.getD i 0 = 0) : cn f q (i + 1) = cn f q i := by unfold cn; rw [ptsP_no h]
theorem cn_yes {f : List Int} {q i : Nat} (h : f.getD i 0 ≠ 0) : cn f q (i + 1) = cn f q i + 1 := by unfold cn; rw [ptsP_yes h, List.length_append]; rfl
theorem pts_here {f : List Int} {q i n : Nat} (h : f.getD i 0 ≠ 0) (hi : i < n) : cn f q i < (ptsP f q n).length ∧ nth (ptsP f q n) (cn f q i) = ((i : Int), (oF q f i : Int)) := by
  have h1 : cn f q i < cn f q (i + 1) := by rw [cn_yes h]; omega
  obtain ⟨d, hd⟩ : ∃ d, n = i + 1 + d := ⟨n - (i + 1), by omega⟩
  subst hd
  obtain ⟨h2, h3⟩ := pts_pre d (i + 1) (cn f q i) h1
  refine ⟨by unfold cn at *; omega, ?_⟩
  rw [h2, ptsP_yes h, nth_snoc]
  unfold cn
  rw [if_neg (by omega), if_pos rfl]
  rfl
theorem cn_at {f : List Int} {q i n j : Nat} (h : f.getD i 0 ≠ 0) (hi : i < n) (hj : j < (ptsP f q n).length) (he : nth (ptsP f q n) j = ((i : Int), (oF q f i : Int))) : cn f q i = j := by
  obtain ⟨h1, h2⟩ := pts_here (q := q) h hi
  apply Decidable.byContradiction
  intro hc
  rcases Nat.lt_or_gt_of_ne hc with hl | hl
  · have := pts_sorted f q n _ _ hl hj
    rw [h2, he] at this
    exact absurd this (by simp only; omega)
  · have := pts_sorted f q n _ _ hl h1
    rw [h2, he] at this
    exact absurd this (by simp only; omega)
/-- What the reference holds when it has looked at the numbers before i: from the point s on. -/
def RSt (L : List (Int × Int)) (s c : Nat) (e y x : Int) : Prop :=
  (c = s + 1 ∧ x = 0) ∨ (s + 2 ≤ c ∧ e = (nth L (s + endE (L.drop s) (c - s))).1 ∧ y = dyF (L.drop s) (endE (L.drop s) (c - s)) ∧ x = dxF (L.drop s) (endE (L.drop s) (c - s)))
theorem RSt.small {L : List (Int × Int)} {s c : Nat} {e y x : Int} (hok : okL L) (hc : c ≤ L.length) (h : RSt L s c e y x) : (c = s + 1 ∧ x = 0) ∨ (s + 2 ≤ c ∧ 1 ≤ x ∧ x ≤ 100 ∧ -100 ≤ y ∧ y ≤ 100) := by
  rcases h with h | ⟨h1, h2, h3, h4⟩
  · exact .inl h
  · obtain ⟨e1, e2⟩ := endE_le (L.drop s) (c - s)
    have hl : endE (L.drop s) (c - s) < (L.drop s).length := by rw [List.length_drop]; omega
    have hx := dx_pos (hok.drop s) e1 hl
    have b0 := (hok.drop s).1 0 (by omega)
    have b1 := (hok.drop s).1 _ hl
    unfold okP at b0 b1
    unfold dxF at h4 hx
    unfold dyF at h3
    exact .inr ⟨h1, by omega, by omega, by omega, by omega⟩
/-- One more number that is not 0. -/
theorem RSt.next {L : List (Int × Int)} {s c : Nat} {e y x i o a b : Int} (hc : c < L.length) (hs : nth L s = (a, b)) (hn : nth L c = (i, o)) (hsc : s < c) (hx1 : s + 2 ≤ c → x ≠ 0) (h : RSt L s c e y x) :
    (x = 0 ∨ (o - b) * x ≤ y * (i - a) → RSt L s (c + 1) i (o - b) (i - a)) ∧ (¬ (x = 0) → ¬ (o - b) * x ≤ y * (i - a) → RSt L s (c + 1) e y x) := by
  have n0 : nth (L.drop s) 0 = (a, b) := by rw [nth_drop, Nat.add_zero, hs]
  have nr : nth (L.drop s) (c - s) = (i, o) := by rw [nth_drop, show s + (c - s) = c by omega, hn]
  have d1 : dyF (L.drop s) (c - s) = o - b := by unfold dyF; rw [n0, nr]
  have d2 : dxF (L.drop s) (c - s) = i - a := by unfold dxF; rw [n0, nr]
  have e1 : c + 1 - s = (c - s) + 1 := by omega
  have e2 : s + (c - s) = c := by omega
  rcases h with ⟨h1, h2⟩ | ⟨h1, h2, h3, h4⟩
  · have hE : endE (L.drop s) (c + 1 - s) = c - s := by rw [show c + 1 - s = 2 by omega, show c - s = 1 by omega]; rfl
    refine ⟨fun _ => .inr ⟨by omega, ?_, ?_, ?_⟩, fun hx => absurd h2 hx⟩
    · rw [hE, e2, hn]
    · rw [hE, d1]
    · rw [hE, d2]
  · obtain ⟨l1, l2⟩ := endE_le (L.drop s) (c - s)
    obtain ⟨E, hE⟩ : ∃ E, endE (L.drop s) (c - s) = E := ⟨_, rfl⟩
    rw [hE] at h2 h3 h4 l1 l2
    have hlt : E < c - s := by omega
    have hs2 : seesF (nth (L.drop s) 0) (nth (L.drop s) E) (nth (L.drop s) (c - s)) = decide ((o - b) * x ≤ y * (i - a)) := by
      unfold seesF
      have a1 : (nth (L.drop s) (c - s)).2 - (nth (L.drop s) 0).2 = o - b := d1
      have a2 : (nth (L.drop s) (c - s)).1 - (nth (L.drop s) 0).1 = i - a := d2
      have a3 : (nth (L.drop s) E).2 - (nth (L.drop s) 0).2 = y := h3.symm
      have a4 : (nth (L.drop s) E).1 - (nth (L.drop s) 0).1 = x := h4.symm
      rw [a1, a2, a3, a4]
    constructor
    · intro hx
      by_cases hx0 : (o - b) * x ≤ y * (i - a)
      · have hE2 : endE (L.drop s) (c + 1 - s) = c - s := by rw [e1]; exact endE_yes hE hlt (by rw [hs2]; exact decide_eq_true hx0)
        refine .inr ⟨by omega, ?_, ?_, ?_⟩
        · rw [hE2, e2, hn]
        · rw [hE2, d1]
        · rw [hE2, d2]
      · rcases hx with hx | hx
        · exact absurd hx (hx1 h1)
        · exact absurd hx hx0
    · intro hx0 hn0
      have hE2 : endE (L.drop s) (c + 1 - s) = E := by rw [e1]; exact endE_no hE (fun h => by rw [hs2] at h; exact hn0 (of_decide_eq_true h.2))
      refine .inr ⟨by omega, ?_, ?_, ?_⟩
      · rw [hE2]; exact h2
      · rw [hE2]; exact h3
      · rw [hE2]; exact h4
end Go.Proofs.Ytjlaclbgfidiiaa
