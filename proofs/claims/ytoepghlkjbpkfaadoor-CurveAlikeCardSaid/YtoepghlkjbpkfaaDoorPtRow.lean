/- Slices of points as they lie in memory; rows of points of the call's own. No condition. -/
import Derived.Test.YtoepghlkjbpkfaaDoorHas
namespace Go.Proofs.YtoepghlkjbpkfaaDoor
open Go.RowKit
attribute [local go_sem] Oper.semAt_some

def ptv (q : Pt) : Value := .agg #[.int .i64 q.x, .int .i64 q.y, .bool q.f]
def fl3 (S : List Pt) : List Value := S.flatMap fun t => [.int .i64 t.x, .int .i64 t.y, .bool t.f]
theorem fl3_len (S : List Pt) : (fl3 S).length = S.length * 3 := by
  induction S with
  | nil => rfl
  | cons a t ih => simp [fl3] at ih ⊢; omega
theorem fl3_app (S T : List Pt) : fl3 (S ++ T) = fl3 S ++ fl3 T := by simp [fl3]
theorem fl3_one (S : List Pt) : ∀ u ∈ fl3 S, u.oneCell' = true := by
  intro u hu
  unfold fl3 at hu
  rw [List.mem_flatMap] at hu
  obtain ⟨p, -, hp⟩ := hu
  simp at hp
  rcases hp with rfl | rfl | rfl <;> rfl
def nth3 (L : List Pt) (j : Nat) : Pt := L.getD j ⟨0, 0, false⟩
theorem fl3_at : ∀ (S : List Pt) (j : Nat), j < S.length → (fl3 S)[j * 3]? = some (.int .i64 (nth3 S j).x) ∧ (fl3 S)[j * 3 + 1]? = some (.int .i64 (nth3 S j).y) ∧ (fl3 S)[j * 3 + 2]? = some (.bool (nth3 S j).f)
  | [], j, h => absurd h (by simp)
  | p :: t, 0, _ => by simp [fl3, nth3]
  | p :: t, j + 1, h => by
    have ih := fl3_at t j (by simpa using h)
    have e : fl3 (p :: t) = .int .i64 p.x :: .int .i64 p.y :: .bool p.f :: fl3 t := by simp [fl3]
    rw [e, show (j + 1) * 3 = j * 3 + 1 + 1 + 1 by omega]
    simpa [nth3, List.getD] using ih
/-- A row of points of the call's own; e: the type. -/
def RowP (e : TypeId) (B : Nat) (v : Value) (S : List Pt) (W : World) : Prop := W.ownsRow B e 3 v S.length (fl3 S)
theorem RowP.nil (e : TypeId) (B : Nat) (W : World) : RowP e B (.slice none 0 0) [] W := World.ownsRow_nil _ _ _ _
theorem RowP.later {e : TypeId} {B : Nat} {v : Value} {S : List Pt} {W W' : World} (h : RowP e B v S W) (hb : Below W.heap.size W W') : RowP e B v S W' := own_later h hb
theorem RowP.mono {e : TypeId} {B B' : Nat} {v : Value} {S : List Pt} {W : World} (h : RowP e B v S W) (hb : B' ≤ B) : RowP e B' v S W := Joins.ownsRow_le h hb
/-- Points as they lie. -/
def AgP (w : World) (a : Option Addr) (n : Nat) (S : List Pt) : Prop :=
  S.length = n ∧ (n = 0 ∨ ∃ b off, a = some ⟨b, off, none⟩ ∧ b < w.heap.size ∧ ∀ j, j < n →
    w.cell? ⟨b, off + j * 3, none⟩ = some (.int .i64 (nth3 S j).x) ∧ w.cell? ⟨b, off + j * 3 + 1, none⟩ = some (.int .i64 (nth3 S j).y) ∧ w.cell? ⟨b, off + j * 3 + 2, none⟩ = some (.bool (nth3 S j).f))
theorem AgP.later {w w' : World} {a : Option Addr} {n : Nat} {S : List Pt} (h : AgP w a n S) (hb : Below w.heap.size w w') : AgP w' a n S := by
  refine ⟨h.1, h.2.imp id ?_⟩
  rintro ⟨b, off, h1, h2, h3⟩
  refine ⟨b, off, h1, Nat.lt_of_lt_of_le h2 hb.size, fun j hj => ?_⟩
  obtain ⟨c0, c1, c2⟩ := h3 j hj
  exact ⟨(hb.cell (p := ⟨b, _, none⟩) h2).trans c0, (hb.cell (p := ⟨b, _, none⟩) h2).trans c1, (hb.cell (p := ⟨b, _, none⟩) h2).trans c2⟩
theorem AgP.pos {w : World} {a : Option Addr} {n : Nat} {S : List Pt} (h : AgP w a n S) (hn : 0 < n) : ∃ b off, a = some ⟨b, off, none⟩ ∧ b < w.heap.size ∧ ∀ j, j < n →
    w.cell? ⟨b, off + j * 3, none⟩ = some (.int .i64 (nth3 S j).x) ∧ w.cell? ⟨b, off + j * 3 + 1, none⟩ = some (.int .i64 (nth3 S j).y) ∧ w.cell? ⟨b, off + j * 3 + 2, none⟩ = some (.bool (nth3 S j).f) := h.2.resolve_left (by omega)
theorem AgP.nil (w : World) (a : Option Addr) : AgP w a 0 [] := ⟨rfl, .inl rfl⟩
theorem AgP.of {e : TypeId} {B : Nat} {v : Value} {S : List Pt} {W : World} (h : RowP e B v S W) : ∃ a c, v = .slice a S.length c ∧ S.length ≤ c ∧ c ≤ maxLen ∧ AgP W a S.length S := by
  unfold RowP at h
  rcases h.2 with ⟨h1, h2⟩ | ⟨g, cap, cur, h1, h2, h3, h4, h5, h6, h7⟩
  · have : S = [] := List.length_eq_zero_iff.1 h2
    subst this
    exact ⟨none, 0, h1, Nat.le_refl _, by unfold maxLen; omega, rfl, .inl rfl⟩
  · subst h1
    refine ⟨_, cap, rfl, h4, h5, rfl, .inr ⟨g, 0, rfl, (Array.getElem?_eq_some_iff.1 h3).1, fun j hj => ?_⟩⟩
    have h' : W.ownsRow B e 3 (.slice (some ⟨g, 0, none⟩) S.length cap) S.length (fl3 S) := h
    obtain ⟨a, b, c⟩ := fl3_at S j hj
    rw [Nat.zero_add]
    refine ⟨?_, ?_, ?_⟩
    · rw [h'.cellAt (j * 3) (by omega)]; exact a
    · rw [h'.cellAt (j * 3 + 1) (by omega)]; exact b
    · rw [h'.cellAt (j * 3 + 2) (by omega)]; exact c
theorem take_succ3 {S : List Pt} {k : Nat} (h : k < S.length) : S.take (k + 1) = S.take k ++ [nth3 S k] := by
  rw [List.take_succ_eq_append_getElem h]
  simp [nth3, List.getD, h]
theorem cell_three (W : World) (x y z : Value) (t : TypeId) : (W.alloc (.cells #[x, y, z] t)).cell? ⟨W.heap.size, 0, none⟩ = some x ∧ (W.alloc (.cells #[x, y, z] t)).cell? ⟨W.heap.size, 1, none⟩ = some y ∧ (W.alloc (.cells #[x, y, z] t)).cell? ⟨W.heap.size, 2, none⟩ = some z := by
  refine ⟨?_, ?_, ?_⟩ <;> (unfold World.cell?; rw [heap_alloc_last]; rfl)
theorem cell3_new (W : World) (p : Pt) (t : TypeId) : ∀ (j : Nat) (u : Value), (fl3 [p])[j]? = some u → (W.alloc (.cells #[.int .i64 p.x, .int .i64 p.y, .bool p.f] t)).cell? ((⟨W.heap.size, 0, none⟩ : Addr).add j) = some u := by
  intro j u h
  have hn : (W.alloc (.cells #[.int .i64 p.x, .int .i64 p.y, .bool p.f] t)).heap[W.heap.size]? = some (.cells #[.int .i64 p.x, .int .i64 p.y, .bool p.f] t (0, 0)) := heap_alloc_last W _
  unfold World.cell?
  rw [show ((⟨W.heap.size, 0, none⟩ : Addr).add j).block = W.heap.size by unfold Addr.add; split <;> rfl, hn]
  simp only [fl3, List.flatMap_cons, List.flatMap_nil, List.append_nil] at h
  match j, h with
  | 0, h => simpa [Addr.add] using h
  | 1, h => simpa [Addr.add] using h
  | 2, h => simpa [Addr.add] using h
  | j + 3, h => simp at h
theorem info34 : (Tryd.prog.info? 34).map (fun i => (i.zero, i.size, i.bytes)) = some (some (.agg #[.int .i64 0, .int .i64 0, .bool false]), 3, 24) := by kernel_rfl
theorem info25 : (Tryd.prog.info? 25).map (fun i => (i.zero, i.size, i.bytes)) = some (some (.agg #[.int .i64 0, .int .i64 0, .bool false]), 3, 24) := by kernel_rfl
theorem info_parts {t : TypeId} {z : Value} {s b : Nat} (h : (Tryd.prog.info? t).map (fun i => (i.zero, i.size, i.bytes)) = some (some z, s, b)) : ∃ i0, Tryd.prog.info? t = some i0 ∧ i0.zero = some z ∧ i0.size = s ∧ i0.bytes = b := by
  cases hi : Tryd.prog.info? t with
  | none => rw [hi] at h; cases h
  | some i0 =>
    rw [hi] at h
    simp at h
    exact ⟨i0, rfl, h.1, h.2.1, h.2.2⟩
end Go.Proofs.YtoepghlkjbpkfaaDoor
