/- Multiples of a point, its order; the walk of multiples. Conditions as stated in each theorem. -/
import Derived.Test.YtoepghlkjbpkfaaDoorRAdd
import Derived.Maps.OwnIn
namespace Go.Proofs.YtoepghlkjbpkfaaDoor
open Go.RowKit
attribute [local go_sem] Oper.semAt_some

def mulP (P A : Int) (q : Pt) : Nat → Pt
  | 0 => farP
  | k + 1 => sumP P A (mulP P A q k) q
theorem mul_on {P A B : Int} {q : Pt} (h : isM P = true) (hq : onB P A B q = true) : ∀ k, onB P A B (mulP P A q k) = true
  | 0 => on_far P A B
  | k + 1 => closed h (mul_on h hq k) hq
theorem mul_one (P A : Int) (q : Pt) : mulP P A q 1 = q := by
  show sumP P A farP q = q
  unfold sumP
  rw [if_pos rfl]
theorem mul_back {P A B : Int} {q : Pt} (h : isM P = true) (hd : disc P A B = false) (hq : onB P A B q = true) {i j : Nat} (e : mulP P A q (i + 1) = mulP P A q (j + 1)) : mulP P A q i = mulP P A q j := by
  have h1 := cancel h hd (mul_on h hq i) hq
  have h2 := cancel h hd (mul_on h hq j) hq
  rw [← h1, ← h2]
  exact congrArg (fun x => sumP P A x (negP P q)) e
theorem mul_diff {P A B : Int} {q : Pt} (h : isM P = true) (hd : disc P A B = false) (hq : onB P A B q = true) : ∀ i k, mulP P A q i = mulP P A q (i + k) → mulP P A q k = farP
  | 0, k, e => by rw [Nat.zero_add] at e; exact e.symm
  | i + 1, k, e => by
    refine mul_diff h hd hq i k ?_
    rw [show i + 1 + k = (i + k) + 1 by omega] at e
    exact mul_back h hd hq e
theorem pigeonN : ∀ (N : Nat) (l : List Nat), l.Nodup → (∀ x ∈ l, x < N) → l.length ≤ N
  | 0, l, _, h => by
    cases l with
    | nil => exact Nat.le_refl _
    | cons x t => exact absurd (h x (by simp)) (by omega)
  | N + 1, l, hn, h => by
    have h1 := pigeonN N (l.erase N) (hn.erase N) (fun x hx => by
      have h2 := hn.mem_erase_iff.1 hx
      have := h x h2.2
      have := h2.1
      omega)
    have h3 : l.length ≤ (l.erase N).length + 1 := by
      rw [List.length_erase]
      split <;> omega
    omega
def encP (q : Pt) : Nat := if q.f then 961 else q.x.toNat * 31 + q.y.toNat
theorem enc_in {P A B : Int} {q : Pt} (h : isM P = true) (hq : onB P A B q = true) : encP q < 962 := by
  have := isM_le h
  rcases on_cases hq with rfl | ⟨f, c⟩
  · decide
  · unfold encP
    rw [f]
    have := c.1
    have := c.2.1
    simp
    omega
theorem enc_inj {P A B : Int} {q r : Pt} (h : isM P = true) (hq : onB P A B q = true) (hr : onB P A B r = true) (e : encP q = encP r) : q = r := by
  have := isM_le h
  rcases on_cases hq with rfl | ⟨f, c⟩ <;> rcases on_cases hr with rfl | ⟨f', c'⟩
  · rfl
  · have k := c'.1
    have k2 := c'.2.1
    unfold encP at e
    rw [f'] at e
    simp at e
    omega
  · have k := c.1
    have k2 := c.2.1
    unfold encP at e
    rw [f] at e
    simp at e
    omega
  · obtain ⟨x, y, g⟩ := q
    obtain ⟨x', y', g'⟩ := r
    simp only at f f' c c'
    subst f f'
    unfold encP at e
    simp at e
    have k := c.1
    have k2 := c.2.1
    have k' := c'.1
    have k2' := c'.2.1
    have : x = x' ∧ y = y' := by omega
    rw [this.1, this.2]
/-- the order of a point -/
def IsOrd (P A : Int) (q : Pt) (n : Nat) : Prop := 1 ≤ n ∧ mulP P A q n = farP ∧ ∀ k, 1 ≤ k → k < n → mulP P A q k ≠ farP
theorem least_from {R : Nat → Prop} : ∀ n, R n → ∃ m, m ≤ n ∧ R m ∧ ∀ k, k < m → ¬ R k := fun n => by
  induction n using Nat.strongRecOn with
  | ind n ih =>
    intro h
    by_cases hh : ∃ j, j < n ∧ R j
    · obtain ⟨j, h1, h2⟩ := hh
      obtain ⟨m, m1, m2, m3⟩ := ih j h1 h2
      exact ⟨m, by omega, m2, m3⟩
    · exact ⟨n, Nat.le_refl _, h, fun j hj hp => hh ⟨j, hj, hp⟩⟩
theorem ord_ex {P A B : Int} {q : Pt} (h : isM P = true) (hd : disc P A B = false) (hq : onB P A B q = true) : ∃ n, IsOrd P A q n ∧ n ≤ 962 := by
  have hc : ∃ k, 1 ≤ k ∧ k ≤ 962 ∧ mulP P A q k = farP := by
    refine Classical.byContradiction fun hn => ?_
    have hp := pigeonN 962 ((List.range 963).map fun i => encP (mulP P A q i)) ?_ ?_
    · simp at hp
    · rw [List.nodup_iff_pairwise_ne, List.pairwise_map]
      refine List.Pairwise.imp_of_mem ?_ List.pairwise_lt_range
      intro i j hi' hj' hij he
      have hj1 := List.mem_range.1 hj'
      have e := enc_inj h (mul_on h hq i) (mul_on h hq j) he
      rw [show j = i + (j - i) by omega] at e
      exact hn ⟨j - i, by omega, by omega, mul_diff h hd hq i (j - i) e⟩
    · intro x hx
      obtain ⟨i, hi', rfl⟩ := List.mem_map.1 hx
      exact enc_in h (mul_on h hq i)
  obtain ⟨k, k1, k2, k3⟩ := hc
  obtain ⟨m, m1, m2, m3⟩ := least_from (R := fun k => 1 ≤ k ∧ mulP P A q k = farP) k ⟨k1, k3⟩
  exact ⟨m, ⟨m2.1, m2.2, fun j j1 j2 e => m3 j j2 ⟨j1, e⟩⟩, by omega⟩
theorem IsOrd.uniq {P A : Int} {q : Pt} {n m : Nat} (h : IsOrd P A q n) (h' : IsOrd P A q m) : n = m := by
  rcases Nat.lt_trichotomy n m with k | k | k
  · exact absurd h.2.1 (h'.2.2 n h.1 k)
  · exact k
  · exact absurd h'.2.1 (h.2.2 m h'.1 k)
theorem mul_add_ord {P A : Int} {q : Pt} {n : Nat} (h : IsOrd P A q n) : ∀ k, mulP P A q (k + n) = mulP P A q k
  | 0 => by rw [Nat.zero_add]; exact h.2.1
  | k + 1 => by
    rw [show k + 1 + n = (k + n) + 1 by omega]
    show sumP P A (mulP P A q (k + n)) q = sumP P A (mulP P A q k) q
    rw [mul_add_ord h k]
theorem mul_mod {P A : Int} {q : Pt} {n : Nat} (h : IsOrd P A q n) (k : Nat) : mulP P A q (k % n) = mulP P A q k := by
  have : ∀ c r, mulP P A q (r + n * c) = mulP P A q r := fun c => by
    induction c with
    | zero => intro r; rfl
    | succ c ih => intro r; rw [Nat.mul_succ, ← Nat.add_assoc, mul_add_ord h, ih]
  have h2 := this (k / n) (k % n)
  rw [Nat.mod_add_div] at h2
  exact h2.symm
theorem mul_ne {P A B : Int} {q : Pt} {n : Nat} (h : isM P = true) (hd : disc P A B = false) (hq : onB P A B q = true) (ho : IsOrd P A q n) {i j : Nat} (hij : i < j) (hj : j < n) : mulP P A q i ≠ mulP P A q j := by
  intro e
  rw [show j = i + (j - i) by omega] at e
  exact ho.2.2 (j - i) (by omega) (by omega) (mul_diff h hd hq i _ e)

/-- the multiples of a point -/
def mulL (P A : Int) (q : Pt) (n : Nat) : List Pt := (List.range n).map (mulP P A q)
theorem mulL_len (P A : Int) (q : Pt) (n : Nat) : (mulL P A q n).length = n := by simp [mulL]
theorem mulL_succ (P A : Int) (q : Pt) (n : Nat) : mulL P A q (n + 1) = mulL P A q n ++ [mulP P A q n] := by simp [mulL, List.range_succ]
theorem row_kept {base : Nat} {e : TypeId} {s : Nat} {v : Value} {k : Nat} {xs : List Value} {W W' : World} (h : W.ownsRow base e s v k xs) (hk : ∀ g, v.ownBlock = some g → W'.heap[g]? = W.heap[g]?) : W'.ownsRow base e s v k xs := by
  refine ⟨h.1, h.2.imp id ?_⟩
  rintro ⟨g, cap, cur, h1, h2, h3, h4⟩
  exact ⟨g, cap, cur, h1, h2, (hk g (by rw [h1]; rfl)).trans h3, h4⟩
theorem C3.heap {g : Nat} {x y z : Value} {w w' : World} (h : C3 g x y z w) (e : w'.heap[g]? = w.heap[g]?) : C3 g x y z w' := by
  unfold C3 World.cell? at *
  simp only [e]
  exact h
theorem heap_set3 (W : World) (g : Nat) (x y z : Value) (j : Nat) (hj : j ≠ g) : (((W.setCell ⟨g, 0, none⟩ x).setCell ⟨g, 1, none⟩ y).setCell ⟨g, 2, none⟩ z).heap[j]? = W.heap[j]? := by
  rw [Below.heap_setCell _ _ _ j hj, Below.heap_setCell _ _ _ j hj, Below.heap_setCell _ _ _ j hj]
theorem C3.set {g : Nat} {a b c x y z : Value} {W : World} (h : C3 g a b c W) : C3 g x y z (((W.setCell ⟨g, 0, none⟩ x).setCell ⟨g, 1, none⟩ y).setCell ⟨g, 2, none⟩ z) := by
  obtain ⟨h0, h1, h2⟩ := h
  refine ⟨?_, ?_, ?_⟩
  · rw [World.cell?_setCell_other _ _ _ _ (by simp), World.cell?_setCell_other _ _ _ _ (by simp)]
    exact World.cell?_setCell_same' _ _ _ (by rw [h0]; rfl)
  · rw [World.cell?_setCell_other _ _ _ _ (by simp)]
    refine World.cell?_setCell_same' _ _ _ ?_
    rw [World.cell?_setCell_other _ _ _ _ (by simp), h1]; rfl
  · refine World.cell?_setCell_same' _ _ _ ?_
    rw [World.cell?_setCell_other _ _ _ _ (by simp), World.cell?_setCell_other _ _ _ _ (by simp), h2]; rfl
end Go.Proofs.YtoepghlkjbpkfaaDoor
