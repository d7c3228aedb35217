/- Slices of whole numbers as they lie in memory; rows of the call's own. No condition. -/
import Derived.Test.YtoepghlkjbpkfaaDoorProg
import Derived.BigQuiet
import Derived.Deep.MidRow
import Derived.Deep.QuietTactic
import Derived.IntWalk
import Derived.Laws.OwnMore
import Derived.OwnWalk
import Derived.Deep.LoopGhost
import Derived.Deep.WholeRow
import Derived.WalkKit
import Derived.WalkSpells
import Derived.WalkLawsBesides
import Derived.Lib.Hide
import Derived.Lib.SmallJoins
import Derived.Maps.AppendAt
import Derived.Lib.OwnKind
namespace Go.Proofs.YtoepghlkjbpkfaaDoor
open Go.RowKit
attribute [local go_sem] Oper.semAt_some

theorem ret_int {k : IntKind} {a b : Int} (h : a = b) : Ending.returned (.int k a) = .returned (.int k b) := by rw [h]
theorem ret_bool {a b : Bool} (h : a = b) : Ending.returned (.bool a) = .returned (.bool b) := by rw [h]

theorem below_drewN {B : Nat} {a w : World} (h : Below B a w) (n : Nat) : Below B a (w.drewN n) := ⟨h.os, h.tape, h.output, h.size, h.block⟩

/-- A slice of whole numbers as it lies. -/
def Ints (w : World) (a : Option Addr) (n : Nat) (xs : List Int) : Prop :=
  xs.length = n ∧ (n = 0 ∨ ∃ b off, a = some ⟨b, off, none⟩ ∧ b < w.heap.size ∧ ∀ j, j < n → w.cell? ⟨b, off + j, none⟩ = some (.int .i64 (xs.getD j 0)))

theorem Ints.below {w w' : World} {a : Option Addr} {n : Nat} {xs : List Int} (h : Ints w a n xs) (hb : Below w.heap.size w w') : Ints w' a n xs := by
  refine ⟨h.1, h.2.imp id ?_⟩
  rintro ⟨b, off, h1, h2, h3⟩
  exact ⟨b, off, h1, Nat.lt_of_lt_of_le h2 hb.size, fun j hj => (hb.cell (p := ⟨b, off + j, none⟩) h2).trans (h3 j hj)⟩
theorem Ints.at {w : World} {a : Option Addr} {n : Nat} {xs : List Int} (h : Ints w a n xs) (hn : 0 < n) : ∃ b off, a = some ⟨b, off, none⟩ ∧ b < w.heap.size ∧ ∀ j, j < n → w.cell? ⟨b, off + j, none⟩ = some (.int .i64 (xs.getD j 0)) :=
  h.2.resolve_left (by omega)
theorem Ints.nil (w : World) (a : Option Addr) : Ints w a 0 [] := ⟨rfl, .inl rfl⟩
theorem Ints.own {w : World} {B n m : Nat} {a : Option Addr} {c : Nat} {xs : List Int} (h : w.ownsRow B 3 1 (.slice a m c) n (xs.map (Value.int .i64))) : Ints w a n xs ∧ m = n := by
  have hl : xs.length = n := by simpa using h.1
  rcases h.2 with ⟨h1, h2⟩ | ⟨g, cap, cur, h1, h2, h3, h4, h5, h6, h7⟩
  · cases h1
    exact ⟨⟨hl, .inl h2⟩, h2.symm⟩
  · cases h1
    refine ⟨⟨hl, .inr ⟨g, 0, rfl, (Array.getElem?_eq_some_iff.1 h3).1, fun j hj => ?_⟩⟩, rfl⟩
    rw [Nat.zero_add, h.cellAt j (by omega)]
    simp [List.getD, hj, hl]

theorem info3 : (Tryd.prog.info? 3).map (fun i => (i.zero, i.size, i.bytes)) = some (some (.int .i64 0), 1, 8) := by kernel_rfl

/-- A row of the call's own whose cell j holds f j. -/
structure CoState (g m : Nat) (f : Nat → Int) (w W : World) : Prop where
  b : Below w.heap.size w W
  own : W.ownsRow w.heap.size 3 1 (.slice (some ⟨g, 0, none⟩) m m) m ((List.range m).map fun j => Value.int .i64 (f j))

theorem CoState.cell {g m : Nat} {f : Nat → Int} {w W : World} (h : CoState g m f w W) {j : Nat} (hj : j < m) : W.cell? ⟨g, j, none⟩ = some (.int .i64 (f j)) := by
  rw [h.own.cellAt j (by omega)]
  rw [List.getElem?_map, List.getElem?_range hj]
  rfl
theorem CoState.frozen {g m : Nat} {f : Nat → Int} {w W : World} (h : CoState g m f w W) (j : Nat) : W.frozen? ⟨g, j, none⟩ = false := h.own.frozenAt j
theorem CoState.le {g m : Nat} {f : Nat → Int} {w W : World} (h : CoState g m f w W) : w.heap.size ≤ g := (h.own.lt g rfl).1
theorem map_range_set {α : Type} (m j : Nat) (f : Nat → α) (v : α) : ((List.range m).map f).set j v = (List.range m).map fun i => if i = j then v else f i := by
  apply List.ext_getElem?
  intro i
  rw [List.getElem?_set]
  by_cases hi : i < m
  · rw [List.getElem?_map, List.getElem?_map, List.getElem?_range hi]
    by_cases hij : j = i
    · subst hij
      simp [hi]
    · have : ¬ i = j := fun e => hij e.symm
      simp [hij, this]
  · by_cases hij : j = i
    · subst hij
      simp [hi]
    · simp [hij, hi]
theorem CoState.put {g m : Nat} {f : Nat → Int} {w W : World} (h : CoState g m f w W) (j : Nat) (v : Int) : CoState g m (fun i => if i = j then v else f i) w (W.setCell ⟨g, j, none⟩ (.int .i64 v)) := by
  refine ⟨h.b.setCell (p := ⟨g, j, none⟩) h.le _, ?_⟩
  have := (h.own.stored j (.int .i64 v)).1
  rw [map_range_set] at this
  have e : (fun i => if i = j then Value.int IntKind.i64 v else Value.int IntKind.i64 (f i)) = fun i => Value.int IntKind.i64 (if i = j then v else f i) := by
    funext i
    split <;> rfl
  rw [e] at this
  exact this
theorem CoState.congr {g m : Nat} {f f' : Nat → Int} {w W : World} (h : CoState g m f w W) (e : ∀ j, j < m → f j = f' j) : CoState g m f' w W := by
  refine ⟨h.b, ?_⟩
  have e2 : ((List.range m).map fun j => Value.int .i64 (f j)) = (List.range m).map fun j => Value.int .i64 (f' j) := by
    apply List.map_congr_left
    intro j hj
    rw [e j (List.mem_range.1 hj)]
  rw [← e2]
  exact h.own
theorem CoState.made {g m : Nat} {w W : World} (h : W.ownsRow w.heap.size 3 1 (.slice (some ⟨g, 0, none⟩) m m) m (madeCells (Value.int .i64 0).cells (m * 1)).toList) (hb : Below w.heap.size w W) : CoState g m (fun _ => 0) w W := by
  refine ⟨hb, ?_⟩
  have e : (madeCells (Value.int .i64 0).cells (m * 1)).toList = (List.range m).map fun _ => Value.int .i64 0 := by
    rw [Nat.mul_one, show (Value.int .i64 0).cells = #[Value.int .i64 0] from rfl, toList_madeCells_one]
    apply List.ext_getElem?
    intro i
    by_cases hi : i < m
    · simp [hi]
    · simp [hi]
  rw [e] at h
  exact h
theorem Ints.front {w : World} {a : Option Addr} {n : Nat} {xs : List Int} (h : Ints w a n xs) (k : Nat) (hk : k ≤ n) : Ints w a k (xs.take k) := by
  refine ⟨by rw [List.length_take, h.1]; omega, ?_⟩
  by_cases h0 : k = 0
  · exact .inl h0
  · obtain ⟨b, off, h1, h2, h3⟩ := h.at (by omega)
    refine .inr ⟨b, off, h1, h2, fun j hj => ?_⟩
    rw [h3 j (by omega)]
    simp [List.getD, hj]

theorem own_same {B n : Nat} {e : TypeId} {s : Nat} {v : Value} {xs : List Value} {W W' : World} (h : W.ownsRow B e s v n xs) (hk : ∀ k, B ≤ k → k < W.heap.size → W'.heap[k]? = W.heap[k]?) : W'.ownsRow B e s v n xs := by
  refine ⟨h.1, h.2.imp id ?_⟩
  rintro ⟨g, cap, cur, h1, h2, h3, h4⟩
  exact ⟨g, cap, cur, h1, h2, (hk g h2 (Array.getElem?_eq_some_iff.1 h3).1).trans h3, h4⟩
theorem own_later {B : Nat} {e : TypeId} {k : Nat} {v : Value} {n : Nat} {xs : List Value} {w w' : World} (h : w.ownsRow B e k v n xs) (hb : Below w.heap.size w w') : w'.ownsRow B e k v n xs :=
  own_same h fun k _ hk => hb.block k hk
theorem own_form {base size n : Nat} {e : TypeId} {v : Value} {xs : List Value} {w : World} (h : w.ownsRow base e size v n xs) (hn : 0 < n) : ∃ g cap, v = .slice (some ⟨g, 0, none⟩) n cap := by
  rcases h.2 with ⟨_, h⟩ | ⟨g, cap, _, h, _⟩
  · omega
  · exact ⟨g, cap, h⟩

theorem own_kinds {W : World} {B B' n m : Nat} {s s' : Nat} {v v' : Value} {xs ys : List Value} {e e' : TypeId} (h : W.ownsRow B e s v n xs) (h' : W.ownsRow B' e' s' v' m ys) (hne : e ≠ e') : v.ownBlock = none ∨ v.ownBlock ≠ v'.ownBlock := by
  cases hv : v.ownBlock with
  | none => exact .inl rfl
  | some g =>
    refine .inr fun he => ?_
    obtain ⟨c1, f1, h1⟩ := Go.Lib.ownsRow_kind h g hv
    obtain ⟨c2, f2, h2⟩ := Go.Lib.ownsRow_kind h' g he.symm
    rw [h1] at h2
    simp at h2
    exact hne h2.2.1
theorem own_room {W : World} {B g n c : Nat} {vs : List Value} (h : W.ownsRow B 3 1 (.slice (some ⟨g, 0, none⟩) n c) n vs) : n ≤ c ∧ c ≤ maxLen := by
  rcases h.2 with ⟨h1, -⟩ | ⟨g', cap, cur, h1, h2, h3, h4, h5, h6, h7⟩
  · cases h1
  · cases h1
    exact ⟨h4, h5⟩
theorem own_mono {W : World} {B B' n : Nat} {e : TypeId} {s : Nat} {v : Value} {xs : List Value} (h : W.ownsRow B e s v n xs) (hB : B' ≤ B) : W.ownsRow B' e s v n xs := by
  refine ⟨h.1, h.2.imp id ?_⟩
  rintro ⟨g, cap, cur, h1, h2, h3⟩
  exact ⟨g, cap, cur, h1, by omega, h3⟩
/-- A row of whole numbers of the call's own, from block B on. -/
def Row (B : Nat) (v : Value) (xs : List Int) (W : World) : Prop := W.ownsRow B 3 1 v xs.length (xs.map (Value.int .i64))
theorem Row.nil (B : Nat) (W : World) : Row B (.slice none 0 0) [] W := ⟨rfl, .inl ⟨rfl, rfl⟩⟩
theorem Row.form {B : Nat} {v : Value} {xs : List Int} {W : World} (h : Row B v xs W) : ∃ a c, v = .slice a xs.length c ∧ Ints W a xs.length xs ∧ xs.length ≤ c ∧ c ≤ maxLen := by
  rcases h.2 with ⟨h1, h2⟩ | ⟨g, cap, cur, h1, h2, h3, h4, h5, h6, h7⟩
  · subst h1
    have hx : xs = [] := List.length_eq_zero_iff.1 h2
    subst hx
    exact ⟨none, 0, rfl, Ints.nil _ _, Nat.le_refl _, by unfold maxLen; omega⟩
  · subst h1
    have h' : W.ownsRow B 3 1 (.slice (some ⟨g, 0, none⟩) xs.length cap) xs.length (xs.map (Value.int .i64)) := h
    exact ⟨_, cap, rfl, (Ints.own h').1, h4, h5⟩
theorem Row.later {B : Nat} {v : Value} {xs : List Int} {W W' : World} (h : Row B v xs W) (hb : Below W.heap.size W W') : Row B v xs W' := own_later h hb
theorem Row.mono {B B' : Nat} {v : Value} {xs : List Int} {W : World} (h : Row B v xs W) (hB : B' ≤ B) : Row B' v xs W := own_mono h hB
theorem Row.of {B n c : Nat} {a : Option Addr} {xs : List Int} {W : World} (h : W.ownsRow B 3 1 (.slice a n c) n (xs.map (Value.int .i64))) : Row B (.slice a n c) xs W ∧ xs.length = n := by
  have hl : xs.length = n := by simpa using h.1
  subst hl
  exact ⟨h, rfl⟩

theorem cell_box (w : World) (v : Value) (t : TypeId) : (w.alloc (.cells #[v] t)).cell? ⟨w.heap.size, 0, none⟩ = some v := by
  unfold World.cell?
  rw [heap_alloc_last]
  rfl
theorem cell_later {w w' : World} {b o : Nat} {v : Value} (h : w.cell? ⟨b, o, none⟩ = some v) (hb : Below w.heap.size w w') : w'.cell? ⟨b, o, none⟩ = some v :=
  (hb.cell (p := ⟨b, o, none⟩) (World.block_lt_of_cell? _ _ h)).trans h
theorem cell_pair (W : World) (x y : Value) (t : TypeId) : (W.alloc (.cells #[x, y] t)).cell? ⟨W.heap.size, 0, none⟩ = some x ∧ (W.alloc (.cells #[x, y] t)).cell? ⟨W.heap.size, 1, none⟩ = some y := by
  constructor <;> (unfold World.cell?; rw [heap_alloc_last]; rfl)
end Go.Proofs.YtoepghlkjbpkfaaDoor
