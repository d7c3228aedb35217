/- The counts behind parts.Kinds, as the machine counts, and the rows in which parts.ways keeps them. Condition: none. -/
import Derived.Test.YtfecdpglcdhijaaWays
namespace Go.Proofs.Ytfecdpglcdhijaa
open Go.RowKit
attribute [local go_sem] Oper.semAt_some


/-- Any number of each allowed part. -/
def k0F (al : Nat → Bool) (p s : Nat) : Int :=
  match p with
  | 0 => if s = 0 then 1 else 0
  | p + 1 => if h : al (p + 1) = true ∧ p + 1 ≤ s then wrap64 (k0F al p s + k0F al (p + 1) (s - (p + 1))) else k0F al p s
termination_by (p, s)
decreasing_by
  · exact Prod.Lex.left _ _ (by omega)
  · exact Prod.Lex.right _ (by omega)
  · exact Prod.Lex.left _ _ (by omega)
theorem k0F_zero (al : Nat → Bool) (s : Nat) : k0F al 0 s = if s = 0 then 1 else 0 := by rw [k0F]
theorem k0F_less {al : Nat → Bool} {p s : Nat} (h : s < p + 1) : k0F al (p + 1) s = k0F al p s := by
  rw [k0F, dif_neg (by omega)]
theorem k0F_no {al : Nat → Bool} {p s : Nat} (h : al (p + 1) = false) : k0F al (p + 1) s = k0F al p s := by
  rw [k0F, dif_neg (by rw [h]; simp)]
theorem k0F_more {al : Nat → Bool} {p s : Nat} (h : al (p + 1) = true) (h2 : p + 1 ≤ s) : k0F al (p + 1) s = wrap64 (k0F al p s + k0F al (p + 1) (s - (p + 1))) := by
  rw [k0F, dif_pos ⟨h, h2⟩]

/-- Each allowed part once at most. -/
def k1F (al : Nat → Bool) (p s : Nat) : Int :=
  match p with
  | 0 => if s = 0 then 1 else 0
  | p + 1 => if al (p + 1) = true ∧ p + 1 ≤ s then wrap64 (k1F al p s + k1F al p (s - (p + 1))) else k1F al p s
theorem k1F_zero (al : Nat → Bool) (s : Nat) : k1F al 0 s = if s = 0 then 1 else 0 := by rw [k1F]
theorem k1F_less {al : Nat → Bool} {p s : Nat} (h : s < p + 1) : k1F al (p + 1) s = k1F al p s := by
  rw [k1F, if_neg (by omega)]
theorem k1F_no {al : Nat → Bool} {p s : Nat} (h : al (p + 1) = false) : k1F al (p + 1) s = k1F al p s := by
  rw [k1F, if_neg (by rw [h]; simp)]
theorem k1F_more {al : Nat → Bool} {p s : Nat} (h : al (p + 1) = true) (h2 : p + 1 ≤ s) : k1F al (p + 1) s = wrap64 (k1F al p s + k1F al p (s - (p + 1))) := by
  rw [k1F, if_pos ⟨h, h2⟩]

/-- Allowed parts that differ by two. -/
def k2F (al : Nat → Bool) (p s : Nat) : Int :=
  match p with
  | 0 => if s = 0 then 1 else 0
  | p + 1 => if al (p + 1) = true ∧ p + 1 ≤ s then wrap64 (k2F al p s + k2F al (p - 1) (s - (p + 1))) else k2F al p s
termination_by p
decreasing_by all_goals omega
theorem k2F_zero (al : Nat → Bool) (s : Nat) : k2F al 0 s = if s = 0 then 1 else 0 := by rw [k2F]
theorem k2F_less {al : Nat → Bool} {p s : Nat} (h : s < p + 1) : k2F al (p + 1) s = k2F al p s := by
  rw [k2F, if_neg (by omega)]
theorem k2F_no {al : Nat → Bool} {p s : Nat} (h : al (p + 1) = false) : k2F al (p + 1) s = k2F al p s := by
  rw [k2F, if_neg (by rw [h]; simp)]
theorem k2F_more {al : Nat → Bool} {p s : Nat} (h : al (p + 1) = true) (h2 : p + 1 ≤ s) : k2F al (p + 1) s = wrap64 (k2F al p s + k2F al (p - 1) (s - (p + 1))) := by
  rw [k2F, if_pos ⟨h, h2⟩]
theorem k2F_stay (al : Nat → Bool) (n : Nat) : ∀ d, k2F al (n + d) n = k2F al n n := by
  intro d
  induction d with
  | zero => rfl
  | succ d ih => rw [show n + (d + 1) = (n + d) + 1 by omega, k2F_less (by omega), ih]

/-- Which parts each kind allows. -/
def alF : Nat → Nat → Bool
  | 1, p => p % 2 == 1
  | 3, p => p % 5 == 1 || p % 5 == 4
  | 4, p => p != 1
  | 5, p => p % 5 == 2 || p % 5 == 3
  | _, _ => true

theorem RS.other {g m c g3 m3 c3 : Nat} {f f3 : Nat → Int} {w W : World} (h : RS g m c f w W) (h3 : RS g3 m3 c3 f3 w W) (hne : g ≠ g3) (j : Nat) (v : Int) : RS g m c f w (W.setCell ⟨g3, j, none⟩ (.int .i64 v)) :=
  ⟨h.b.setCell (p := ⟨g3, j, none⟩) h3.le _, h.own.kept (h3.own.stored j (.int .i64 v)).2 (.inr (by simpa [Value.ownBlock] using hne))⟩

/-- The rows so far: the last one holds f, the one before it f'. -/
structure WT (w : World) (n k g c g' c' : Nat) (rv : Value) (f f' : Nat → Int) (W : World) : Prop where
  r : RS g (n + 1) c f w W
  q : RS g' (n + 1) c' f' w W
  t : ∃ vs, W.ownsRow w.heap.size 33 1 rv (k + 1) vs ∧ vs[k]? = some (.slice (some ⟨g, 0, none⟩) (n + 1) c) ∧ vs[k - 1]? = some (.slice (some ⟨g', 0, none⟩) (n + 1) c')
theorem WT.drew {w W : World} {n k g c g' c' : Nat} {rv : Value} {f f' : Nat → Int} (h : WT w n k g c g' c' rv f f' W) : WT w n k g c g' c' rv f f' W.drew := by
  obtain ⟨vs, h1, h2⟩ := h.t
  exact ⟨h.r.drew, h.q.drew, vs, own_same h1 fun _ _ _ => rfl, h2⟩
theorem WT.put {w W : World} {n k g c g' c' : Nat} {rv : Value} {f f' : Nat → Int} (h : WT w n k g c g' c' rv f f' W) (hne : g' ≠ g) (j : Nat) (v : Int) : WT w n k g c g' c' rv (fun i => if i = j then v else f i) f' (W.setCell ⟨g, j, none⟩ (.int .i64 v)) := by
  obtain ⟨vs, h1, h2⟩ := h.t
  have hg := (h.r.own.stored j (.int .i64 v)).2
  exact ⟨h.r.put j v, h.q.other h.r hne j v, vs, h1.kept hg (own_kinds h1 h.r.own (by decide)), h2⟩
theorem WT.congr {w W : World} {n k g c g' c' : Nat} {rv : Value} {f f' f2 f2' : Nat → Int} (h : WT w n k g c g' c' rv f f' W) (e : ∀ j, j < n + 1 → f j = f2 j) (e' : ∀ j, j < n + 1 → f' j = f2' j) : WT w n k g c g' c' rv f2 f2' W := ⟨h.r.congr e, h.q.congr e', h.t⟩

theorem WT.next {w W W3 W4 : World} {n k g c g' c' g3 c3 : Nat} {rv rv4 : Value} {f f' : Nat → Int} {o o2 : Obj} {vs : List Value} (h : WT w n k g c g' c' rv f f' W)
    (ho3 : W3.ownsRow W.heap.size 3 1 (.slice (some ⟨g3, 0, none⟩) (n + 1) c3) (n + 1) ((List.range (n + 1)).map fun j => Value.int .i64 (f j)))
    (hg3 : (W.alloc o).grownBy W3 (some W.heap.size))
    (ho : W3.ownsRow w.heap.size 33 1 rv (k + 1) vs) (hvk : vs[k]? = some (.slice (some ⟨g, 0, none⟩) (n + 1) c))
    (ho4 : W4.ownsRow w.heap.size 33 1 rv4 (k + 1 + 1) (vs ++ [.slice (some ⟨g3, 0, none⟩) (n + 1) c3])) (hg4 : (W3.alloc o2).grownBy W4 rv.ownBlock) :
    WT w n (k + 1) g3 c3 g c rv4 f f W4 ∧ RS g' (n + 1) c' f' w W4 ∧ g ≠ g3 ∧ g' ≠ g3 := by
  have hbs := h.r.b.size
  have b3 : Below w.heap.size w W3 := (h.r.b.alloc hbs _).grown hg3 (by simp; omega) (fun k e => by cases e; exact hbs)
  have s3 : W.heap.size + 1 ≤ W3.heap.size := by have := hg3.size; simpa using this
  have b4 : Below w.heap.size w W4 := (b3.alloc (by omega) o2).grown hg4 (by simp; omega) (fun j e => (ho.lt j e).1)
  have hl : vs.length = k + 1 := by simpa using ho.1
  have l3 := (ho3.lt g3 rfl).1
  have lg := (h.r.own.lt g rfl).2
  have lg' := (h.q.own.lt g' rfl).2
  have keep : ∀ {y cy : Nat} {fy : Nat → Int}, RS y (n + 1) cy fy w W → RS y (n + 1) cy fy w W4 := fun {y cy fy} hy => by
    have ly := (hy.own.lt y rfl).2
    have y3 := (hy.own.alloc o).kept hg3 (.inr fun e => Nat.ne_of_lt ly (Option.some.inj e))
    exact ⟨b4, (y3.alloc o2).kept hg4 (own_kinds (y3.alloc o2) (ho.alloc o2) (by decide))⟩
  refine ⟨⟨⟨b4, ?_⟩, keep h.r, _, ho4, ?_, ?_⟩, keep h.q, Nat.ne_of_lt (Nat.lt_of_lt_of_le lg l3), Nat.ne_of_lt (Nat.lt_of_lt_of_le lg' l3)⟩
  · have z := Joins.ownsRow_le ho3 hbs
    exact (z.alloc o2).kept hg4 (own_kinds (z.alloc o2) (ho.alloc o2) (by decide))
  · rw [← hl]
    simp
  · rw [Nat.add_sub_cancel, List.getElem?_append_left (by omega)]
    exact hvk
end Go.Proofs.Ytfecdpglcdhijaa
