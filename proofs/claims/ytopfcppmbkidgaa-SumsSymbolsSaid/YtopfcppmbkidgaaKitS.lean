/- How a slice of steps is read as an argument of a law. No condition beyond those stated. -/
import Derived.Test.YtopfcppmbkidgaaKit
import Derived.Test.YtopfcppmbkidgaaOwnS
import Derived.Deep.Slices
namespace Go.Proofs.Ytopfcppmbkidgaa
open Go.ChangeShapes Go.WideShapes Go.ChangeAt Go.RowKit

instance : Inhabited Stp := ⟨⟨0, 0, 0, 0⟩⟩
theorem cells55 : Try.prog.cellsOf 55 = 4 := by kernel_rfl
theorem bytes55 : Try.prog.bytesOf 55 = 32 := by kernel_rfl
theorem list4' {α : Type} (l : List α) (h : l.length = 4) : ∃ a b c d, l = [a, b, c, d] := by
  match l, h with
  | [a, b, c, d], _ => exact ⟨a, b, c, d, rfl⟩

theorem open_cells4 {H : Type} {enc : TypeId × Value → H} {W : World} {base : Nat} {sp : Nat → Bool} {held : Bool} {fuel : Nat} {cs : List Value} {x : DataW H × List MemPlace}
    (h : DataW.trod enc Try.prog W base sp held fuel 55 cs = some x) : ∃ u v y z : Int, cs = [.int .i64 u, .int .i64 v, .int .i64 y, .int .i64 z] := by
  obtain ⟨xs, m, rfl, hx, hc, hl, hi⟩ := DataW.trod_struct und55 h
  rw [cells55] at hc
  have hF := fl55
  obtain ⟨f, g, k, l, hf⟩ : ∃ f g k l, Try.prog.fieldsOf 55 = #[f, g, k, l] := by
    generalize Try.prog.fieldsOf 55 = A at hF
    obtain ⟨L⟩ := A
    match L, hF with
    | [f, g, k, l], _ => exact ⟨f, g, k, l, rfl⟩
    | [], h => simp at h
    | [_], h => simp at h
    | [_, _], h => simp at h
    | [_, _, _], h => simp at h
    | _ :: _ :: _ :: _ :: _ :: _, h => simp at h
  rw [hf] at hF hl hi
  simp only [List.map_cons, List.map_nil, List.cons.injEq, Prod.mk.injEq, and_true] at hF
  obtain ⟨⟨f1, f2, f3⟩, ⟨g1, g2, g3⟩, ⟨k1, k2, k3⟩, ⟨l1, l2, l3⟩⟩ := hF
  obtain ⟨c0, c1, c2, c3, rfl⟩ := list4' cs hc
  obtain ⟨z0, z1, z2, z3, rfl⟩ := list4' xs (by simpa using hl)
  have hy0 := hi 0 f rfl
  have hy1 := hi 1 g rfl
  have hy2 := hi 2 k rfl
  have hy3 := hi 3 l rfl
  rw [f2, f3] at hy0
  rw [g2, g3] at hy1
  rw [k2, k3] at hy2
  rw [l2, l3] at hy3
  simp [cells3] at hy0 hy1 hy2 hy3
  obtain ⟨x0, e0, -, -⟩ := DataW.trod_int Try.underlying3 hy0
  obtain ⟨x1, e1, -, -⟩ := DataW.trod_int Try.underlying3 hy1
  obtain ⟨x2, e2, -, -⟩ := DataW.trod_int Try.underlying3 hy2
  obtain ⟨x3, e3, -, -⟩ := DataW.trod_int Try.underlying3 hy3
  simp at e0 e1 e2 e3
  exact ⟨x0, x1, x2, x3, by rw [e0, e1, e2, e3]⟩

set_option maxRecDepth 100000 in
theorem open_rowS {H : Type} {enc : TypeId × Value → H} {W : World} {base : Nat} {v : Value} {d : DataW H} {p : List MemPlace}
    (hval : Value.okWide Try.prog W .any base 43 v) (h : DataW.Trod enc Try.prog W 0 (fun _ => true) true 43 v d p)
    (hs : ∀ elems spare, d = .slice elems spare → (elems.length + spare.length) * Try.prog.bytesOf 55 ≤ reachBytes) :
    ∃ a n c xs, v = .slice a n c ∧ Ag W a n xs ∧ n ≤ c ∧ n ≤ 4611686018427387904 ∧ c ≤ maxLen := by
  obtain ⟨a0, len, cap, rfl⟩ := okWide_slice Try.underlying43 hval
  obtain ⟨fuel, hf⟩ := h
  rcases Go.Deep.open_slice Try.underlying43 hf with ⟨hcs, hx⟩ | ⟨a, len', cap', m, k, D, Pl, hcs, _, hl, hmx, hm, hx, hcell⟩
  · simp [Value.cells] at hcs
    obtain ⟨rfl, rfl, rfl⟩ := hcs
    exact ⟨none, 0, 0, [], rfl, ⟨rfl, .inl rfl⟩, Nat.le_refl _, by omega, by unfold maxLen; omega⟩
  · simp [Value.cells] at hcs
    obtain ⟨rfl, rfl, rfl⟩ := hcs
    simp only [Prod.mk.injEq] at hx
    obtain ⟨rfl, -⟩ := hx
    simp only [if_true] at hm
    subst hm
    have hreach : len ≤ 4611686018427387904 := by
      have := hs _ _ rfl
      rw [bytes55] at this
      simp only [List.length_map, List.length_range, reachBytes] at this
      omega
    have each : ∀ i, i < len → ∃ t : Stp, W.cell? (a.add (i * 4)) = some (.int .i64 t.k) ∧ W.cell? (a.add (i * 4 + 1)) = some (.int .i64 t.a) ∧ W.cell? (a.add (i * 4 + 2)) = some (.int .i64 t.n) ∧ W.cell? (a.add (i * 4 + 3)) = some (.int .i64 t.s) := by
      intro i hi
      obtain ⟨cs, h1, h2⟩ := hcell i (by omega)
      rw [cells55] at h1
      obtain ⟨u, v, y, z, rfl⟩ := open_cells4 h2
      obtain ⟨_, _, hat⟩ := World.cells?_some h1
      have e0 := hat 0 (by omega)
      have e1 := hat 1 (by omega)
      have e2 := hat 2 (by omega)
      have e3 := hat 3 (by omega)
      rw [Go.Deep.add_add] at e0 e1 e2 e3
      exact ⟨⟨u, v, y, z⟩, by simpa using e0, by simpa using e1, by simpa using e2, by simpa using e3⟩
    obtain ⟨f, hf⟩ := Go.Deep.choose_lt each
    refine ⟨some a, len, _, (List.range len).map f, rfl, ⟨by simp, ?_⟩, hl, hreach, hmx⟩
    by_cases h0 : len = 0
    · exact .inl h0
    · obtain ⟨b, off, spot⟩ := a
      have hspot : spot = none := by simpa [Addr.add] using World.cell?_spot (hf 0 (by omega)).1
      subst hspot
      refine .inr ⟨b, off, rfl, World.block_lt_of_cell? _ _ (hf 0 (by omega)).1, fun j hj => ?_⟩
      have e : nth4 ((List.range len).map f) j = f j := by simp [nth4, List.getD, hj]
      obtain ⟨c0, c1, c2, c3⟩ := hf j hj
      rw [add_plain] at c0 c1 c2 c3
      rw [e]
      exact ⟨c0, by rw [Nat.add_assoc]; exact c1, by rw [Nat.add_assoc]; exact c2, by rw [Nat.add_assoc]; exact c3⟩
end Go.Proofs.Ytopfcppmbkidgaa
