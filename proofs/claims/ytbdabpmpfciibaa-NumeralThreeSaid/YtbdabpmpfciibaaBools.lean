/- Rows of truth values, and rows of pairs of whole numbers, of the call's own; the walks of slices.Clone and of an append at pairs. No condition beyond those stated. -/
import Derived.Test.YtbdabpmpfciibaaConcat
namespace Go.Proofs.Ytbdabpmpfciibaa
open Go.RowKit
attribute [local go_sem] Oper.semAt_some

/-- A row of m truth values of the call's own whose cell j holds f j. -/
structure BS (g m B : Nat) (f : Nat → Bool) (W : World) : Prop where
  own : W.ownsRow B 4 1 (.slice (some ⟨g, 0, none⟩) m m) m ((List.range m).map fun j => Value.bool (f j))
theorem BS.cell {g m B : Nat} {f : Nat → Bool} {W : World} (h : BS g m B f W) {j : Nat} (hj : j < m) : W.cell? ⟨g, j, none⟩ = some (.bool (f j)) := by
  rw [h.own.cellAt j (by omega), List.getElem?_map, List.getElem?_range hj]
  rfl
theorem BS.frozen {g m B : Nat} {f : Nat → Bool} {W : World} (h : BS g m B f W) (j : Nat) : W.frozen? ⟨g, j, none⟩ = false := h.own.frozenAt j
theorem BS.le {g m B : Nat} {f : Nat → Bool} {W : World} (h : BS g m B f W) : B ≤ g := (h.own.lt g rfl).1
theorem BS.put {g m B : Nat} {f : Nat → Bool} {W : World} (h : BS g m B f W) (j : Nat) (v : Bool) : BS g m B (fun i => if i = j then v else f i) (W.setCell ⟨g, j, none⟩ (.bool v)) := by
  refine ⟨?_⟩
  have := (h.own.stored j (.bool v)).1
  rw [map_range_set] at this
  have e : (fun i => if i = j then Value.bool v else Value.bool (f i)) = fun i => Value.bool (if i = j then v else f i) := by
    funext i
    split <;> rfl
  rw [e] at this
  exact this
theorem BS.congr {g m B : Nat} {f f' : Nat → Bool} {W : World} (h : BS g m B f W) (e : ∀ j, j < m → f j = f' j) : BS g m B f' W := by
  refine ⟨?_⟩
  have e2 : ((List.range m).map fun j => Value.bool (f j)) = (List.range m).map fun j => Value.bool (f' j) := by
    apply List.map_congr_left
    intro j hj
    rw [e j (List.mem_range.1 hj)]
  rw [← e2]
  exact h.own
theorem BS.made {g m B : Nat} {W : World} (h : W.ownsRow B 4 1 (.slice (some ⟨g, 0, none⟩) m m) m (madeCells (Value.bool false).cells (m * 1)).toList) : BS g m B (fun _ => false) W := by
  refine ⟨?_⟩
  have e : (madeCells (Value.bool false).cells (m * 1)).toList = (List.range m).map fun _ => Value.bool false := by
    rw [Nat.mul_one, show (Value.bool false).cells = #[Value.bool false] from rfl, toList_madeCells_one]
    apply List.ext_getElem?
    intro i
    by_cases hi : i < m
    · simp [hi]
    · simp [hi]
  rw [e] at h
  exact h
theorem BS.later {g m B : Nat} {f : Nat → Bool} {W W' : World} (h : BS g m B f W) (hb : Below W.heap.size W W') : BS g m B f W' := ⟨own_later h.own hb⟩

/-- Pairs, as the cells of a slice. -/
def fl2 (S : List (Int × Int)) : List Value := S.flatMap fun p => [.int .i64 p.1, .int .i64 p.2]
theorem fl2_len (S : List (Int × Int)) : (fl2 S).length = S.length * 2 := by
  unfold fl2
  induction S with
  | nil => rfl
  | cons p t ih => rw [List.flatMap_cons, List.length_append, ih, List.length_cons]; simp; omega
theorem fl2_app (S T : List (Int × Int)) : fl2 (S ++ T) = fl2 S ++ fl2 T := by simp [fl2]
theorem fl2_one (S : List (Int × Int)) : ∀ v ∈ fl2 S, v.oneCell' = true := by
  intro v hv
  unfold fl2 at hv
  rw [List.mem_flatMap] at hv
  obtain ⟨p, -, hp⟩ := hv
  simp at hp
  rcases hp with rfl | rfl <;> rfl
def nth2 (S : List (Int × Int)) (k : Nat) : Int × Int := S.getD k (0, 0)
theorem fl2_at : ∀ (S : List (Int × Int)) (j : Nat), j < S.length → (fl2 S)[j * 2]? = some (.int .i64 (nth2 S j).1) ∧ (fl2 S)[j * 2 + 1]? = some (.int .i64 (nth2 S j).2)
  | [], j, h => absurd h (by simp)
  | p :: t, 0, _ => by simp [fl2, nth2]
  | p :: t, j + 1, h => by
    have ih := fl2_at t j (by simpa using h)
    have e : fl2 (p :: t) = .int .i64 p.1 :: .int .i64 p.2 :: fl2 t := by simp [fl2]
    rw [e, show (j + 1) * 2 = j * 2 + 1 + 1 by omega]
    simpa [nth2, List.getD] using ih
theorem nth2_mem {S : List (Int × Int)} {k : Nat} (h : k < S.length) : nth2 S k ∈ S := by
  unfold nth2
  rw [List.getD_eq_getElem?_getD, List.getElem?_eq_getElem h]
  exact List.getElem_mem h
theorem take_succ2 {S : List (Int × Int)} {k : Nat} (h : k < S.length) : S.take (k + 1) = S.take k ++ [nth2 S k] := by
  rw [List.take_succ_eq_append_getElem h]
  congr 1
  simp [nth2, List.getD, h]
/-- A row of pairs of the call's own. -/
def Row2 (B : Nat) (v : Value) (S : List (Int × Int)) (W : World) : Prop := W.ownsRow B 46 2 v S.length (fl2 S)
theorem Row2.cell {B g n c : Nat} {S : List (Int × Int)} {W : World} (h : Row2 B (.slice (some ⟨g, 0, none⟩) n c) S W) {j : Nat} (hj : j < S.length) :
    W.cell? ⟨g, j * 2, none⟩ = some (.int .i64 (nth2 S j).1) ∧ W.cell? ⟨g, j * 2 + 1, none⟩ = some (.int .i64 (nth2 S j).2) := by
  have hl : n = S.length := by
    rcases h.2 with ⟨h1, -⟩ | ⟨g', cap, cur, h1, -⟩
    · cases h1
    · cases h1; rfl
  subst hl
  obtain ⟨a, b⟩ := fl2_at S j hj
  constructor
  · rw [h.cellAt (j * 2) (by omega)]; exact a
  · rw [h.cellAt (j * 2 + 1) (by omega)]; exact b
theorem Row2.form {B : Nat} {v : Value} {S : List (Int × Int)} {W : World} (h : Row2 B v S W) : ∃ a c, v = .slice a S.length c ∧ S.length ≤ c ∧ c ≤ maxLen ∧ ((a = none ∧ S = []) ∨ ∃ g, a = some ⟨g, 0, none⟩ ∧ B ≤ g ∧ g < W.heap.size) := by
  rcases h.2 with ⟨h1, h2⟩ | ⟨g, cap, cur, h1, h2, h3, h4, h5, h6, h7⟩
  · have : S = [] := List.length_eq_zero_iff.1 h2
    subst this
    exact ⟨none, 0, h1, Nat.le_refl _, by unfold maxLen; omega, .inl ⟨rfl, rfl⟩⟩
  · exact ⟨_, cap, h1, h4, h5, .inr ⟨g, rfl, h2, (Array.getElem?_eq_some_iff.1 h3).1⟩⟩
theorem info46c : (Try.prog.info? 46).map (fun i => (i.zero, i.size, i.bytes)) = some (some (.agg #[.int .i64 0, .int .i64 0]), 2, 16) := by kernel_rfl
theorem size46 (w : World) : (Go.sizeOf 46).run Try.prog w = .ok 2 w := by kernel_rfl

theorem clone2_any {B : Nat} (v : Value) (S : List (Int × Int)) (w : World) (h : Row2 B v S w) (hbig : S.length ≤ 1000000) :
    Calls Try.prog 60 #[v] w fun e w' => ∃ v', e = .returned v' ∧ Row2 w.heap.size v' S w' ∧ Below w.heap.size w w' := by
  obtain ⟨i0, j1, j2, j3, j4⟩ := info_parts info46c
  obtain ⟨a, c, rfl, hc, hm, ⟨rfl, rfl⟩ | ⟨g, rfl, hB, hg⟩⟩ := h.form
  · refine (Try.slices_Clone_nil_f60 _ c w).mono ?_
    rintro e w' ⟨rfl, rfl⟩
    exact ⟨_, rfl, World.ownsRow_nil _ _ _ _, Below.refl _ _⟩
  · refine (Try.slices_Clone_f60 i0 (.agg #[.int .i64 0, .int .i64 0]) 2 16 j1 j2 j3 j4 rfl (by decide) size46 g 0 S.length c (fl2 S) w (fl2_len S) (by omega) (by omega) ?_ (fl2_one S)).mono ?_
    · intro j u hj
      have hlt := (List.getElem?_eq_some_iff.1 hj).1
      rw [fl2_len] at hlt
      rw [Nat.zero_add, h.cellAt j (by omega)]
      exact hj
    · rintro e w' ⟨v', rfl, ho, -, hb⟩
      exact ⟨v', rfl, ho, hb⟩

/-- An append of a whole slice of pairs onto a row of the call's own. -/
theorem wpList_app2 {ops : Array Oper} {rest : List Oper} {o : Oper} {a : Act} {w : World} {Q : Exit → Act → World → Prop} (hgd : o.guard = none) (s x : Operand)
    (ho : o.op = .call { callee := .builtin .append, args := #[s, x], argTypes := #[57, 57] })
    (B B' : Nat) (v v2 : Value) (xs ys : List (Int × Int)) (hs : a.eval s = v) (hown : Row2 B v xs w) (hx : a.eval x = v2) (hy : Row2 B' v2 ys w)
    (hlen : xs.length + ys.length ≤ 10000000) (hB : B ≤ w.heap.size)
    (h : ∀ v' w', Row2 B v' (xs ++ ys) w' → w.grownBy w' v.ownBlock → wpList Try.prog ops Q rest (a.put o.dst v') w') : wpList Try.prog ops Q (o :: rest) a w := by
  obtain ⟨i3, j1, j2, j3, j4⟩ := info_parts info46c
  obtain ⟨a2, c2, rfl, hc, hm, ⟨rfl, rfl⟩ | ⟨g, rfl, hB2, hg⟩⟩ := hy.form
  · have hr := run_app_none (P := Try.prog) (w := w) B 57 o.type 46 i3 2 c2 Try.underlying57 j1 v _ _ hown
    refine wpList_plain hgd fun K hK => ?_
    unfold Oper.wp execOp
    simp only [ho, resolve, invoke, builtin, Sem.run_bind, Sem.run_pure, Result.andThen_ok, List.map_toArray, List.map_cons, List.map_nil, hs, hx, List.length_nil, hr]
    exact hK _ _ (h v w (by rw [List.append_nil]; exact hown) ⟨rfl, rfl, rfl, Nat.le_refl _, fun _ _ _ => rfl⟩)
  · refine wpList_append_own w hgd s x 57 ho B 46 i3 (.agg #[.int .i64 0, .int .i64 0]) 2 16 Try.underlying57 j1 j2 j3 j4 rfl (by decide) v _ _ hs hown ⟨g, 0, none⟩ ys.length c2 (fl2 ys) hx (fl2_len ys) ?_ (fl2_one ys) (by unfold maxLen; omega) (by omega) hB fun v' w' h1 h2 _ => h v' w' ?_ h2
    · intro j u hj
      have hlt := (List.getElem?_eq_some_iff.1 hj).1
      rw [fl2_len] at hlt
      rw [add_here, Nat.zero_add, hy.cellAt j (by omega)]
      exact hj
    · unfold Row2
      rw [List.length_append, fl2_app]
      exact h1
end Go.Proofs.Ytbdabpmpfciibaa
