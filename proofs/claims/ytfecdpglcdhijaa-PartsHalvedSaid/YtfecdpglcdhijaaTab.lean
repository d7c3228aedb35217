/- Tables of whole numbers as they lie in memory, and all partitions of a number, plainly. No condition beyond those that each theorem names. -/
import Derived.Test.YtfecdpglcdhijaaShapes
import Derived.Lib.OwnKind
namespace Go.Proofs.Ytfecdpglcdhijaa
open Go.RowKit

def nthL (L : List (List Int)) (i : Nat) : List Int := L.getD i []
theorem nthL_append_left {L M : List (List Int)} {i : Nat} (h : i < L.length) : nthL (L ++ M) i = nthL L i := by
  simp [nthL, List.getD, List.getElem?_append_left h]
theorem nthL_append_right (L : List (List Int)) (l : List Int) : nthL (L ++ [l]) L.length = l := by
  simp [nthL, List.getD]

/-- All partitions of n into parts of at most m, rising; f: how deep. -/
def pF : Nat → Nat → Nat → List (List Int)
  | 0, _, _ => [[]]
  | f + 1, n, m => if n = 0 then [[]] else (List.range (min n m)).flatMap fun i => (pF f (n - (i + 1)) (i + 1)).map fun l => ((i + 1 : Nat) : Int) :: l
theorem pF_zero (f m : Nat) : pF f 0 m = [[]] := by cases f <;> simp [pF]
/-- Those whose first part is at most k. -/
def pPre (f n k : Nat) : List (List Int) := (List.range k).flatMap fun i => (pF f (n - (i + 1)) (i + 1)).map fun l => ((i + 1 : Nat) : Int) :: l
theorem pF_succ {f n : Nat} (m : Nat) (h : n ≠ 0) : pF (f + 1) n m = pPre f n (min n m) := by simp [pF, pPre, h]
theorem pPre_succ (f n k : Nat) : pPre f n (k + 1) = pPre f n k ++ (pF f (n - (k + 1)) (k + 1)).map fun l => ((k + 1 : Nat) : Int) :: l := by
  simp [pPre, List.range_succ]
theorem pPre_len (f n : Nat) (hf : ∀ a b, a < n → (pF f a b).length ≤ 2 ^ a) : ∀ k, k ≤ n → (pPre f n k).length + 2 ^ (n - k) ≤ 2 ^ n
  | 0, _ => by simp [pPre]
  | k + 1, h => by
    have h1 := pPre_len f n hf k (by omega)
    have h2 := hf (n - (k + 1)) (k + 1) (by omega)
    have h3 : 2 ^ (n - k) = 2 * 2 ^ (n - (k + 1)) := by
      rw [show n - k = (n - (k + 1)) + 1 by omega, Nat.pow_succ, Nat.mul_comm]
    rw [pPre_succ, List.length_append, List.length_map]
    omega
theorem pF_len : ∀ (f n m : Nat), n ≤ f → (pF f n m).length ≤ 2 ^ n
  | f, 0, m, _ => by rw [pF_zero]; simp
  | 0, n + 1, m, h => by omega
  | f + 1, n + 1, m, h => by
    rw [pF_succ m (by omega)]
    have := pPre_len f (n + 1) (fun a b hab => pF_len f a b (by omega)) (min (n + 1) m) (by omega)
    exact Nat.le_trans (Nat.le_add_right _ _) this
theorem pPre_len2 (f n k : Nat) (hf : n ≤ f + 1) (hk : k ≤ n) : (pPre f n k).length ≤ 2 ^ n := by
  have := pPre_len f n (fun a b hab => pF_len f a b (by omega)) k hk
  exact Nat.le_trans (Nat.le_add_right _ _) this
/-- The parts of each partition sum to n; there are at most n of them. -/
theorem pF_mem : ∀ (f n m : Nat), n ≤ f → ∀ l ∈ pF f n m, l.length ≤ n
  | f, 0, m, _, l, hl => by rw [pF_zero] at hl; simp at hl; simp [hl]
  | 0, n + 1, m, h, l, hl => by omega
  | f + 1, n + 1, m, h, l, hl => by
    rw [pF_succ m (by omega)] at hl
    simp only [pPre, List.mem_flatMap, List.mem_range, List.mem_map] at hl
    obtain ⟨i, hi, l', hl', rfl⟩ := hl
    have := pF_mem f (n + 1 - (i + 1)) (i + 1) (by omega) l' hl'
    simp only [List.length_cons]
    omega
theorem nthL_mem {L : List (List Int)} {i : Nat} (h : i < L.length) : nthL L i ∈ L := by
  simp [nthL, List.getD, h]

theorem own_same {B n : Nat} {e : TypeId} {s : Nat} {v : Value} {xs : List Value} {W W' : World} (h : W.ownsRow B e s v n xs) (hk : ∀ k, B ≤ k → k < W.heap.size → W'.heap[k]? = W.heap[k]?) : W'.ownsRow B e s v n xs := by
  refine ⟨h.1, h.2.imp id ?_⟩
  rintro ⟨g, cap, cur, h1, h2, h3, h4⟩
  exact ⟨g, cap, cur, h1, h2, (hk g h2 (Array.getElem?_eq_some_iff.1 h3).1).trans h3, h4⟩
theorem own_later {B : Nat} {e : TypeId} {k : Nat} {v : Value} {n : Nat} {xs : List Value} {w w' : World} (h : w.ownsRow B e k v n xs) (hb : Below w.heap.size w w') : w'.ownsRow B e k v n xs :=
  own_same h fun k _ hk => hb.block k hk
theorem own_form {base size n : Nat} {e : TypeId} {v : Value} {xs : List Value} {w : World} (h : w.ownsRow base e size v n xs) (hn : 0 < n) : ∃ g cap, v = .slice (some ⟨g, 0, none⟩) n cap := by
  rcases h.2 with ⟨_, h⟩ | ⟨g, cap, _, h, _⟩
  · omega
  · exact ⟨g, cap, h⟩

/-- A table in memory from B on: a row of slices, none nil, each with a row of its own. -/
def TabO (W : World) (B : Nat) (v : Value) (L : List (List Int)) : Prop :=
  ∃ vs, W.ownsRow B 33 1 v L.length vs ∧ ∀ i, i < L.length → ∃ g c, vs[i]? = some (.slice (some ⟨g, 0, none⟩) (nthL L i).length c) ∧ W.ownsRow B 3 1 (.slice (some ⟨g, 0, none⟩) (nthL L i).length c) (nthL L i).length ((nthL L i).map (Value.int .i64))

theorem TabO.nil (W : World) (B : Nat) : TabO W B (.slice none 0 0) [] := ⟨[], World.ownsRow_nil _ _ _ _, fun i hi => by simp at hi⟩
theorem TabO.same {W W' : World} {B : Nat} {v : Value} {L : List (List Int)} (h : TabO W B v L) (hk : ∀ k, B ≤ k → k < W.heap.size → W'.heap[k]? = W.heap[k]?) : TabO W' B v L := by
  obtain ⟨vs, h1, h2⟩ := h
  refine ⟨vs, own_same h1 hk, fun i hi => ?_⟩
  obtain ⟨g, c, h3, h4⟩ := h2 i hi
  exact ⟨g, c, h3, own_same h4 hk⟩
theorem TabO.below {W W' : World} {B : Nat} {v : Value} {L : List (List Int)} (h : TabO W B v L) (hb : Below W.heap.size W W') : TabO W' B v L :=
  h.same fun k _ hk => hb.block k hk
theorem TabO.le {W : World} {B B' : Nat} {v : Value} {L : List (List Int)} (h : TabO W B v L) (hb : B' ≤ B) : TabO W B' v L := by
  obtain ⟨vs, h1, h2⟩ := h
  refine ⟨vs, Joins.ownsRow_le h1 hb, fun i hi => ?_⟩
  obtain ⟨g, c, h3, h4⟩ := h2 i hi
  exact ⟨g, c, h3, Joins.ownsRow_le h4 hb⟩
theorem own_kinds {W : World} {B B' n m : Nat} {s s' : Nat} {v v' : Value} {xs ys : List Value} {e e' : TypeId} (h : W.ownsRow B e s v n xs) (h' : W.ownsRow B' e' s' v' m ys) (hne : e ≠ e') : v.ownBlock = none ∨ v.ownBlock ≠ v'.ownBlock := by
  cases hv : v.ownBlock with
  | none => exact .inl rfl
  | some g =>
    refine .inr fun he => ?_
    obtain ⟨c1, f1, h1⟩ := Go.Lib.ownsRow_kind h g hv
    obtain ⟨c2, f2, h2⟩ := Go.Lib.ownsRow_kind h' g he.symm
    rw [h1] at h2
    simp at h2
    exact hne h2.2.1
theorem TabO.push {W W' : World} {B : Nat} {v v' : Value} {vs : List Value} {L : List (List Int)} {l : List Int} {g c : Nat}
    (ho : W.ownsRow B 33 1 v L.length vs) (hin : ∀ i, i < L.length → ∃ g c, vs[i]? = some (.slice (some ⟨g, 0, none⟩) (nthL L i).length c) ∧ W.ownsRow B 3 1 (.slice (some ⟨g, 0, none⟩) (nthL L i).length c) (nthL L i).length ((nthL L i).map (Value.int .i64)))
    (hx : W.ownsRow B 3 1 (.slice (some ⟨g, 0, none⟩) l.length c) l.length (l.map (Value.int .i64)))
    (hown : W'.ownsRow B 33 1 v' (L.length + 1) (vs ++ [.slice (some ⟨g, 0, none⟩) l.length c])) (hgrow : W.grownBy W' v.ownBlock) : TabO W' B v' (L ++ [l]) := by
  have hvl : vs.length = L.length := by simpa using ho.1
  refine ⟨vs ++ [.slice (some ⟨g, 0, none⟩) l.length c], by simpa using hown, fun i hi => ?_⟩
  by_cases hiL : i < L.length
  · obtain ⟨g1, c1, h1, h2⟩ := hin i hiL
    refine ⟨g1, c1, ?_, ?_⟩
    · rw [nthL_append_left hiL, List.getElem?_append_left (by omega), h1]
    · rw [nthL_append_left hiL]
      exact h2.kept hgrow (own_kinds h2 ho (by decide))
  · have hie : i = L.length := by simp at hi; omega
    subst hie
    refine ⟨g, c, ?_, ?_⟩
    · rw [nthL_append_right, ← hvl]; simp
    · rw [nthL_append_right]
      exact hx.kept hgrow (own_kinds hx ho (by decide))

/-- A table that can be read. -/
def TabR (W : World) (a : Option Addr) (L : List (List Int)) : Prop :=
  L.length = 0 ∨ ∃ b off, a = some ⟨b, off, none⟩ ∧ b < W.heap.size ∧ ∀ i, i < L.length → ∃ ai ci, W.cell? ⟨b, off + i, none⟩ = some (.slice ai (nthL L i).length ci) ∧ Ints W ai (nthL L i).length (nthL L i)
theorem TabR.below {W W' : World} {a : Option Addr} {L : List (List Int)} (h : TabR W a L) (hb : Below W.heap.size W W') : TabR W' a L := by
  refine h.imp id ?_
  rintro ⟨b, off, h1, h2, h3⟩
  refine ⟨b, off, h1, Nat.lt_of_lt_of_le h2 hb.size, fun i hi => ?_⟩
  obtain ⟨ai, ci, h4, h5⟩ := h3 i hi
  exact ⟨ai, ci, (hb.cell (p := ⟨b, off + i, none⟩) h2).trans h4, h5.below hb⟩
theorem TabO.read {W : World} {B n c : Nat} {a : Option Addr} {L : List (List Int)} (h : TabO W B (.slice a n c) L) : TabR W a L ∧ n = L.length := by
  obtain ⟨vs, h1, h2⟩ := h
  rcases h1.2 with ⟨h3, h4⟩ | ⟨g, cap, cur, h3, h4, h5, h6⟩
  · cases h3
    exact ⟨.inl h4, h4.symm⟩
  · cases h3
    refine ⟨.inr ⟨g, 0, rfl, (Array.getElem?_eq_some_iff.1 h5).1, fun i hi => ?_⟩, rfl⟩
    obtain ⟨gi, ci, h7, h8⟩ := h2 i hi
    exact ⟨_, ci, by rw [Nat.zero_add, h1.cellAt i (by omega), h7], (Ints.own h8).1⟩
end Go.Proofs.Ytfecdpglcdhijaa
