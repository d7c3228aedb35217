/- Tables of whole numbers as they lie in memory: to be read; in a row of the call's own. No condition. -/
import Derived.Test.YtgfenponlkmfmaaBase
namespace Go.Proofs.Ytgfenponlkmfmaa
open Go.RowKit

def row (L : List (List Int)) (i : Nat) : List Int := L.getD i []
def ent (L : List (List Int)) (i j : Nat) : Int := (row L i).getD j 0
theorem row_left {L M : List (List Int)} {i : Nat} (h : i < L.length) : row (L ++ M) i = row L i := by
  simp [row, List.getD, List.getElem?_append_left h]
theorem row_last (L : List (List Int)) (l : List Int) : row (L ++ [l]) L.length = l := by
  simp [row, List.getD]
theorem row_map {α : Type} {f : α → List Int} {l : List α} {i : Nat} {x : α} (h : l[i]? = some x) : row (l.map f) i = f x := by
  simp [row, List.getD, h]
theorem row_mem {L : List (List Int)} {i : Nat} (h : i < L.length) : row L i ∈ L := by
  simp [row, List.getD, h]

/-- A slice of whole numbers, with what Go's slicing asks. -/
structure Lies (w : World) (a : Option Addr) (c : Nat) (xs : List Int) : Prop where
  ints : Ints w a xs.length xs
  le : xs.length ≤ c
  max : c ≤ maxLen
theorem Lies.below {w w' : World} {a : Option Addr} {c : Nat} {xs : List Int} (h : Lies w a c xs) (hb : Below w.heap.size w w') : Lies w' a c xs := ⟨h.ints.below hb, h.le, h.max⟩
theorem Lies.keep {w w' : World} {a : Option Addr} {c : Nat} {xs : List Int} (h : Lies w a c xs) {g : Option Nat} (hne : ∀ ad, a = some ad → g ≠ some ad.block) (hs : w.heap.size ≤ w'.heap.size)
    (hk : ∀ k, k < w.heap.size → some k ≠ g → w'.heap[k]? = w.heap[k]?) : Lies w' a c xs := by
  refine ⟨⟨h.ints.1, h.ints.2.imp id ?_⟩, h.le, h.max⟩
  rintro ⟨b, off, rfl, h2, h3⟩
  refine ⟨b, off, rfl, Nat.lt_of_lt_of_le h2 hs, fun j hj => ?_⟩
  rw [← h3 j hj]
  exact World.cell?_of_block (hk b h2 fun e => hne _ rfl e.symm)
theorem Row.lies {B : Nat} {v : Value} {xs : List Int} {W : World} (h : Row B v xs W) : ∃ a c, v = .slice a xs.length c ∧ Lies W a c xs ∧ (∀ ad, a = some ad → B ≤ ad.block ∧ ad.block < W.heap.size) := by
  obtain ⟨a, c, rfl, h1, h2, h3⟩ := h.form
  refine ⟨a, c, rfl, ⟨h1, h2, h3⟩, fun ad e => ?_⟩
  subst e
  exact World.ownsRow.lt (h := h) ad.block rfl

/-- A table that can be read. -/
def Tab (w : World) (a : Option Addr) (n : Nat) (L : List (List Int)) : Prop :=
  L.length = n ∧ (n = 0 ∨ ∃ b off, a = some ⟨b, off, none⟩ ∧ b < w.heap.size ∧ ∀ i, i < n → ∃ ai ci, w.cell? ⟨b, off + i, none⟩ = some (.slice ai (row L i).length ci) ∧ Lies w ai ci (row L i))
theorem Tab.below {w w' : World} {a : Option Addr} {n : Nat} {L : List (List Int)} (h : Tab w a n L) (hb : Below w.heap.size w w') : Tab w' a n L := by
  refine ⟨h.1, h.2.imp id ?_⟩
  rintro ⟨b, off, h1, h2, h3⟩
  refine ⟨b, off, h1, Nat.lt_of_lt_of_le h2 hb.size, fun i hi => ?_⟩
  obtain ⟨ai, ci, h4, h5⟩ := h3 i hi
  exact ⟨ai, ci, (hb.cell (p := ⟨b, off + i, none⟩) h2).trans h4, h5.below hb⟩
theorem Tab.drew {w : World} {a : Option Addr} {n : Nat} {L : List (List Int)} (h : Tab w a n L) (q : Nat) : Tab (w.drewN q) a n L :=
  h.below (below_drewN (Below.refl _ _) q)
/-- Row i of a table. -/
theorem Tab.at {w : World} {a : Option Addr} {n : Nat} {L : List (List Int)} (h : Tab w a n L) {i : Nat} (hi : i < n) : ∃ b off ai ci, a = some ⟨b, off, none⟩ ∧ b < w.heap.size ∧ w.cell? ⟨b, off + i, none⟩ = some (.slice ai (row L i).length ci) ∧ Lies w ai ci (row L i) := by
  obtain ⟨b, off, h1, h2, h3⟩ := h.2.resolve_left (by omega)
  obtain ⟨ai, ci, h4, h5⟩ := h3 i hi
  exact ⟨b, off, ai, ci, h1, h2, h4, h5⟩
theorem Tab.nil (w : World) (a : Option Addr) : Tab w a 0 [] := ⟨rfl, .inl rfl⟩
/-- The beginning of a table. -/
theorem Tab.front {w : World} {a : Option Addr} {n : Nat} {L : List (List Int)} (h : Tab w a n L) (k : Nat) (hk : k ≤ n) : Tab w a k (L.take k) := by
  refine ⟨by rw [List.length_take, h.1]; omega, ?_⟩
  by_cases h0 : k = 0
  · exact .inl h0
  · obtain ⟨b, off, h1, h2, h3⟩ := h.2.resolve_left (by omega)
    refine .inr ⟨b, off, h1, h2, fun i hi => ?_⟩
    have e : row (L.take k) i = row L i := by simp [row, List.getD, hi]
    rw [e]
    exact h3 i (by omega)

/-- A table in a row of the call's own, from block B on; its rows may lie wherever. -/
def TabO (W : World) (B : Nat) (v : Value) (L : List (List Int)) : Prop :=
  ∃ vs, W.ownsRow B 35 1 v L.length vs ∧ ∀ i, i < L.length → ∃ ai ci, vs[i]? = some (.slice ai (row L i).length ci) ∧ Lies W ai ci (row L i) ∧ (∀ ad, ai = some ad → ad.block < W.heap.size ∧ v.ownBlock ≠ some ad.block)
theorem TabO.nil (W : World) (B : Nat) : TabO W B (.slice none 0 0) [] := ⟨[], World.ownsRow_nil _ _ _ _, fun i hi => by simp at hi⟩
theorem TabO.below {W W' : World} {B : Nat} {v : Value} {L : List (List Int)} (h : TabO W B v L) (hb : Below W.heap.size W W') : TabO W' B v L := by
  obtain ⟨vs, h1, h2⟩ := h
  refine ⟨vs, own_later h1 hb, fun i hi => ?_⟩
  obtain ⟨ai, ci, h3, h4, h5⟩ := h2 i hi
  exact ⟨ai, ci, h3, h4.below hb, fun ad e => ⟨Nat.lt_of_lt_of_le (h5 ad e).1 hb.size, (h5 ad e).2⟩⟩
theorem TabO.le {W : World} {B B' : Nat} {v : Value} {L : List (List Int)} (h : TabO W B v L) (hb : B' ≤ B) : TabO W B' v L := by
  obtain ⟨vs, h1, h2⟩ := h
  exact ⟨vs, own_mono h1 hb, h2⟩
theorem TabO.form {W : World} {B : Nat} {v : Value} {L : List (List Int)} (h : TabO W B v L) : ∃ a c, v = .slice a L.length c ∧ Tab W a L.length L ∧ L.length ≤ c ∧ c ≤ maxLen ∧ (∀ ad, a = some ad → B ≤ ad.block) := by
  obtain ⟨vs, h1, h2⟩ := h
  rcases h1.2 with ⟨h3, h4⟩ | ⟨g, cap, cur, h3, h4, h5, h6, h7, h8⟩
  · subst h3
    have : L = [] := List.length_eq_zero_iff.1 h4
    subst this
    exact ⟨none, 0, rfl, Tab.nil _ _, Nat.le_refl _, by unfold maxLen; omega, fun ad e => by cases e⟩
  · subst h3
    refine ⟨_, cap, rfl, ⟨rfl, .inr ⟨g, 0, rfl, (Array.getElem?_eq_some_iff.1 h5).1, fun i hi => ?_⟩⟩, h6, h7, fun ad e => by cases e; exact h4⟩
    obtain ⟨ai, ci, h9, h10, -⟩ := h2 i hi
    exact ⟨ai, ci, by rw [Nat.zero_add, h1.cellAt i (by omega), h9], h10⟩
/-- A row appended. -/
theorem TabO.push {W W' : World} {B : Nat} {v v' : Value} {vs : List Value} {L : List (List Int)} {l : List Int} {a : Option Addr} {c : Nat}
    (h2 : ∀ i, i < L.length → ∃ ai ci, vs[i]? = some (.slice ai (row L i).length ci) ∧ Lies W ai ci (row L i) ∧ (∀ ad, ai = some ad → ad.block < W.heap.size ∧ v.ownBlock ≠ some ad.block))
    (hl : vs.length = L.length) (hx : Lies W a c l) (hxb : ∀ ad, a = some ad → ad.block < W.heap.size ∧ v.ownBlock ≠ some ad.block)
    (hown : W'.ownsRow B 35 1 v' (L.length + 1) (vs ++ [.slice a l.length c])) (hgrow : W.grownBy W' v.ownBlock) (hob : v'.ownBlock = v.ownBlock ∨ v'.ownBlock = some W.heap.size ∨ v'.ownBlock = some (W.heap.size + 1)) : TabO W' B v' (L ++ [l]) := by
  have keep : ∀ (ai : Option Addr) ci xs, Lies W ai ci xs → (∀ ad, ai = some ad → ad.block < W.heap.size ∧ v.ownBlock ≠ some ad.block) → Lies W' ai ci xs ∧ (∀ ad, ai = some ad → ad.block < W'.heap.size ∧ v'.ownBlock ≠ some ad.block) := by
    intro ai ci xs h hh
    refine ⟨h.keep (g := v.ownBlock) (fun ad e => (hh ad e).2) hgrow.size hgrow.block, fun ad e => ⟨Nat.lt_of_lt_of_le (hh ad e).1 hgrow.size, ?_⟩⟩
    have := hh ad e
    rcases hob with h | h | h
    · rw [h]; exact this.2
    · rw [h]; intro e; have := Option.some.inj e; omega
    · rw [h]; intro e; have := Option.some.inj e; omega
  refine ⟨vs ++ [.slice a l.length c], by simpa using hown, fun i hi => ?_⟩
  by_cases hiL : i < L.length
  · obtain ⟨ai, ci, h3, h4, h5⟩ := h2 i hiL
    obtain ⟨k1, k2⟩ := keep ai ci _ h4 h5
    exact ⟨ai, ci, by rw [row_left hiL, List.getElem?_append_left (by omega), h3], by rw [row_left hiL]; exact k1, k2⟩
  · have hie : i = L.length := by simp at hi; omega
    subst hie
    obtain ⟨k1, k2⟩ := keep a c l hx hxb
    exact ⟨a, c, by rw [row_last, ← hl]; simp, by rw [row_last]; exact k1, k2⟩
/-- Row i replaced by another slice: a store in the table's own row. -/
theorem TabO.put {W : World} {B : Nat} {g c : Nat} {L : List (List Int)} (h : TabO W B (.slice (some ⟨g, 0, none⟩) L.length c) L) {i : Nat} (hi : i < L.length) {a : Option Addr} {ci : Nat} {l : List Int}
    (hx : Lies W a ci l) (hxb : ∀ ad, a = some ad → ad.block < W.heap.size ∧ g ≠ ad.block) :
    TabO (W.setCell ⟨g, i, none⟩ (.slice a l.length ci)) B (.slice (some ⟨g, 0, none⟩) L.length c) (L.set i l) := by
  obtain ⟨vs, h1, h2⟩ := h
  have hl : vs.length = L.length := by simpa using h1.1
  have hk : ∀ k, k < W.heap.size → some k ≠ some g → (W.setCell ⟨g, i, none⟩ (.slice a l.length ci)).heap[k]? = W.heap[k]? := fun k _ hk => Below.heap_setCell W ⟨g, i, none⟩ _ k (fun e => hk (by rw [e]))
  refine ⟨vs.set i (.slice a l.length ci), by rw [List.length_set]; exact (h1.stored i _).1, fun j hj => ?_⟩
  rw [List.length_set] at hj
  by_cases hij : i = j
  · subst hij
    have e : row (L.set i l) i = l := by simp [row, List.getD, hi]
    rw [e]
    refine ⟨a, ci, by rw [List.getElem?_set_self (by omega)], hx.keep (g := some g) (fun ad e e2 => (hxb ad e).2 (Option.some.inj e2)) (by simp) hk, fun ad e => ⟨by simpa using (hxb ad e).1, fun e2 => (hxb ad e).2 (Option.some.inj e2)⟩⟩
  · have e : row (L.set i l) j = row L j := by simp [row, List.getD, hij]
    rw [e]
    obtain ⟨aj, cj, h3, h4, h5⟩ := h2 j hj
    exact ⟨aj, cj, by rw [List.getElem?_set_ne hij]; exact h3, h4.keep (g := some g) (fun ad e => (h5 ad e).2) (by simp) hk, fun ad e => ⟨by simpa using (h5 ad e).1, (h5 ad e).2⟩⟩
end Go.Proofs.Ytgfenponlkmfmaa
