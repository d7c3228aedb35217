/- One number appended to a row of the call's own, one row to a table of it. Conditions: as stated. -/
import Derived.Test.YtgfenponlkmfmaaClone
import Derived.Deep.LoopGhost
namespace Go.Proofs.Ytgfenponlkmfmaa
open Go.RowKit

theorem info35 : (Try.prog.info? 35).map (fun i => (i.zero, i.size, i.bytes)) = some (some (.slice none 0 0), 1, 24) := by kernel_rfl

theorem wpList_pushI {ops : Array Oper} {rest : List Oper} {o : Oper} {a : Act} {Q : Exit → Act → World → Prop} (s x : Operand) (hgd : o.guard = none)
    (ho : o.op = .call { callee := .builtin .append, args := #[s, x], argTypes := #[35, 35] }) (B : Nat) (v : Value) (xs : List Int) (y : Int) (W : World) (hs : a.eval s = v)
    (hr : Row B v xs W) (hx : a.eval x = .slice (some ⟨W.heap.size, 0, none⟩) 1 1) (hlen : xs.length ≤ 1000000) (hB : B ≤ W.heap.size)
    (h : ∀ v' w', Row B v' (xs ++ [y]) w' → Below B W w' → W.grownBy w' v.ownBlock → wpList Try.prog ops Q rest (a.put o.dst v') w') :
    wpList Try.prog ops Q (o :: rest) a (W.alloc (.cells #[.int .i64 y] 3)) := by
  obtain ⟨i0, hi, hz0, hz1, hz2⟩ := info_parts info3
  refine wpList_append_own_at _ hgd s x 35 ho B 3 i0 (.int .i64 0) 1 8 Try.underlying35 hi hz0 hz1 hz2 rfl (by decide) v xs.length _ hs (World.ownsRow.alloc (h := hr) _) ⟨W.heap.size, 0, none⟩ 1 1 [.int .i64 y] hx rfl (cell_one_new _ _ _) (by simp [Value.oneCell']) (by unfold maxLen; omega) (by omega) (by simp; omega) ?_
  intro v' w3 hown' hgrow _ hob
  refine h v' w3 ?_ (((Below.refl B W).alloc hB _).grown hgrow (by simp; omega) (fun j e => (World.ownsRow.lt (h := hr) j e).1)) ⟨by rw [hgrow.os]; rfl, by rw [hgrow.tape]; rfl, by rw [hgrow.output]; rfl, by have := hgrow.size; simp at this; omega, fun k hk hne => ?_⟩
  · unfold Row
    rw [List.length_append, List.map_append]
    exact hown'
  · rw [hgrow.block k (by simp; omega) hne]
    exact Below.heap_alloc W _ k hk

theorem wpList_pushT {ops : Array Oper} {rest : List Oper} {o : Oper} {a : Act} {Q : Exit → Act → World → Prop} (s x : Operand) (hgd : o.guard = none)
    (ho : o.op = .call { callee := .builtin .append, args := #[s, x], argTypes := #[22, 22] }) (B : Nat) (v : Value) (L : List (List Int)) (l : List Int) (ax : Option Addr) (n c : Nat) (W : World) (hs : a.eval s = v)
    (ht : TabO W B v L) (hn : l.length = n) (hl : Lies W ax c l) (hlb : ∀ ad, ax = some ad → ad.block < W.heap.size ∧ v.ownBlock ≠ some ad.block) (hx : a.eval x = .slice (some ⟨W.heap.size, 0, none⟩) 1 1) (hlen : L.length ≤ 1000000) (hB : B ≤ W.heap.size)
    (h : ∀ v' w', TabO w' B v' (L ++ [l]) → Below B W w' → W.grownBy w' v.ownBlock → wpList Try.prog ops Q rest (a.put o.dst v') w') :
    wpList Try.prog ops Q (o :: rest) a (W.alloc (.cells #[.slice ax n c] 35)) := by
  subst hn
  obtain ⟨i0, hi, hz0, hz1, hz2⟩ := info_parts info35
  obtain ⟨vs, ho1, hin⟩ := ht
  have hvl : vs.length = L.length := by simpa using ho1.1
  refine wpList_append_own_at _ hgd s x 22 ho B 35 i0 (.slice none 0 0) 1 24 Try.underlying22 hi hz0 hz1 hz2 rfl (by decide) v L.length _ hs (World.ownsRow.alloc (h := ho1) _) ⟨W.heap.size, 0, none⟩ 1 1 [.slice ax l.length c] hx rfl (cell_one_new _ _ _) (by simp [Value.oneCell']) (by unfold maxLen; omega) (by omega) (by simp; omega) ?_
  intro v' w3 hown' hgrow _ hob
  have hg : W.grownBy w3 v.ownBlock := ⟨by rw [hgrow.os]; rfl, by rw [hgrow.tape]; rfl, by rw [hgrow.output]; rfl, by have := hgrow.size; simp at this; omega, fun k hk hne => by
    rw [hgrow.block k (by simp; omega) hne]
    exact Below.heap_alloc W _ k hk⟩
  refine h v' w3 ?_ (((Below.refl B W).alloc hB _).grown hgrow (by simp; omega) (fun j e => (World.ownsRow.lt (h := ho1) j e).1)) hg
  exact TabO.push (W := W) hin hvl hl hlb hown' hg (by rcases hob with e | e; exact .inl e; exact .inr (.inr (by simpa using e)))
/-- A new row's block is none of the table's. -/
theorem new_block {W w1 : World} {B : Nat} {v : Value} {L : List (List Int)} {ax : Option Addr} (ht : TabO W B v L) (hb : ∀ ad, ax = some ad → W.heap.size ≤ ad.block ∧ ad.block < w1.heap.size) : ∀ ad, ax = some ad → ad.block < w1.heap.size ∧ v.ownBlock ≠ some ad.block := by
  intro ad e
  obtain ⟨vs, ho, -⟩ := ht
  refine ⟨(hb ad e).2, fun e2 => ?_⟩
  have := (World.ownsRow.lt (h := ho) ad.block e2).2
  have := (hb ad e).1
  omega
end Go.Proofs.Ytgfenponlkmfmaa
