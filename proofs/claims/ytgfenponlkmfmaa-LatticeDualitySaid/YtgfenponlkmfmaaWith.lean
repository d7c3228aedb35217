/- The walks of slices.Clone at rows, and of with. Condition: the rows lie in memory, none is empty. -/
import Derived.Test.YtgfenponlkmfmaaCopied
namespace Go.Proofs.Ytgfenponlkmfmaa
open Go.RowKit
attribute [local go_sem] Oper.semAt_some

theorem frozen_lat {w w' : World} {b o : Nat} {x : Bool} (h : w.frozen? ⟨b, o, none⟩ = x) (hb : Below w.heap.size w w') (hl : b < w.heap.size) : w'.frozen? ⟨b, o, none⟩ = x := by
  rw [← h]
  exact World.frozen?_of_block (hb.block b hl)
theorem eqNil66 : ∀ (w : World) (a : Option Addr) (n c n' c' : Nat), (binOp .eql 66 (.slice a n c) (.slice none n' c')).run Try.prog w = .ok (.bool a.isNone) w := fun w a n c n' c' => Lib.run_eql_slice_nil w _ _ a n c n' c' Try.underlying66

theorem tab_cells {W : World} {b off n : Nat} {L : List (List Int)} (ht : Tab W (some ⟨b, off, none⟩) n L) : ∃ y : Nat → Option Addr × Nat, ∀ i, i < n → W.cell? ⟨b, off + i, none⟩ = some (.slice (y i).1 (row L i).length (y i).2) ∧ Lies W (y i).1 (y i).2 (row L i) := by
  have hcs : ∀ i, i < n → ∃ y : Option Addr × Nat, W.cell? ⟨b, off + i, none⟩ = some (.slice y.1 (row L i).length y.2) ∧ Lies W y.1 y.2 (row L i) := by
    intro i hin
    obtain ⟨b', off', ai, ci, e, h2, h3, h4⟩ := ht.at hin
    cases e
    exact ⟨(ai, ci), h3, h4⟩
  exact Go.Deep.choose_lt hcs

theorem wpList_cloneT {ops : Array Oper} {rest : List Oper} {o : Oper} {a : Act} {Q : Exit → Act → World → Prop} (s x : Operand) (hgd : o.guard = none)
    (ho : o.op = .call { callee := .builtin .append, args := #[s, x], argTypes := #[66, 66] }) (b off n c : Nat) (L : List (List Int)) (W : World) (hs : a.eval s = .slice (some ⟨W.heap.size, 0, none⟩) 0 0)
    (hx : a.eval x = .slice (some ⟨b, off, none⟩) n c) (ht : Tab W (some ⟨b, off, none⟩) n L) (hne : ∀ i, i < n → 0 < (row L i).length) (hn : n ≤ 1000)
    (h : ∀ v' w', TabO w' W.heap.size v' L → Below W.heap.size W w' → wpList Try.prog ops Q rest (a.put o.dst v') w') :
    wpList Try.prog ops Q (o :: rest) a (W.alloc (.cells #[] 35)) := by
  obtain ⟨i0, hi, hz0, hz1, hz2⟩ := info_parts info35
  obtain ⟨y, hy⟩ := tab_cells ht
  have hba : Below W.heap.size W (W.alloc (.cells #[] 35)) := (Below.refl _ _).alloc (Nat.le_refl _) _
  have hown : (W.alloc (.cells #[] 35)).ownsRow W.heap.size 35 1 (.slice (some ⟨W.heap.size, 0, none⟩) 0 0) 0 [] := World.ownsRow_made W #[] 0 (Nat.le_refl _) (Nat.zero_le _) rfl
  refine wpList_append_own_at _ hgd s x 66 ho W.heap.size 35 i0 (.slice none 0 0) 1 24 Try.underlying66 hi hz0 hz1 hz2 rfl (by decide) _ 0 [] hs hown ⟨b, off, none⟩ n c ((List.range n).map fun i => Value.slice (y i).1 (row L i).length (y i).2) hx (by simp) (fun j u hj => by
      have hjn : j < n := by
        have := (List.getElem?_eq_some_iff.1 hj).1
        simpa using this
      rw [Addr.add_lit, (hba.cell (p := ⟨b, off + j, none⟩) (World.block_lt_of_cell? _ _ (hy j hjn).1)), (hy j hjn).1]
      rw [List.getElem?_map, List.getElem?_range hjn] at hj
      exact hj) (fun u hu => by
        obtain ⟨i, -, rfl⟩ := List.mem_map.1 hu
        rfl) (by unfold maxLen; omega) (by omega) (by simp) ?_
  intro v' w' r1 hgrow _ hob
  have hbw : Below W.heap.size W w' := hba.grown hgrow (by simp) (fun j e => by cases e; exact Nat.le_refl _)
  rw [Nat.zero_add, List.nil_append] at r1
  refine h v' w' ⟨_, by rw [ht.1]; exact r1, fun i hil => ?_⟩ hbw
  rw [ht.1] at hil
  refine ⟨(y i).1, (y i).2, ?_, (hy i hil).2.below hbw, fun ad e => ?_⟩
  · rw [List.getElem?_map, List.getElem?_range hil]
    rfl
  · obtain ⟨b2, o2, e2, e3, -⟩ := (hy i hil).2.ints.at (hne i hil)
    rw [e] at e2
    cases e2
    refine ⟨Nat.lt_of_lt_of_le e3 hbw.size, fun e4 => ?_⟩
    have := (World.ownsRow.lt (h := r1) _ e4).1
    simp at this
    omega

set_option maxRecDepth 100000 in
theorem cloneT_any (b off n c : Nat) (L : List (List Int)) (w : World) (h : Tab w (some ⟨b, off, none⟩) n L) (hne : ∀ i, i < n → 0 < (row L i).length) (hn : n ≤ 1000) :
    Calls Try.prog 106 #[.slice (some ⟨b, off, none⟩) n c] w fun e w' => ∃ v, e = .returned v ∧ TabO w' w.heap.size v L ∧ Below w.heap.size w w' := by
  have q66 := eqNil66
  have H := Lib.hid h
  have HN := Lib.hid hne
  clear h hne
  go_enter Try.func106, Try.ntmps106
  go_wp2_with (at_builtin; refine wpList_cloneT (.tmp 5) (.tmp 6) rfl rfl b off n c L w rfl rfl H.out HN.out hn ?_; intro v' w3 ht3 hb3)
  go_ret
  exact ⟨_, rfl, ht3, hb3⟩

theorem set_row {L : List (List Int)} {i r : Nat} {v : List Int} (hi : i < L.length) : row (L.set i v) r = if r = i then v else row L r := by
  by_cases h : r = i
  · subst h
    simp [row, List.getD, hi]
  · have : ¬ i = r := fun e => h e.symm
    simp [row, List.getD, this, h]
theorem set_ent {L : List (List Int)} {i : Nat} {v : List Int} (hi : i < L.length) : ent (L.set i v) = wth (ent L) i (nt v) := by
  funext r c
  unfold wth
  rw [ent_nt, set_row hi]
  split <;> rfl

set_option maxHeartbeats 1000000 in
set_option maxRecDepth 100000 in
theorem with_any (b off n c i : Nat) (L : List (List Int)) (v : List Int) (av : Option Addr) (d cv : Nat) (w : World) (h : Tab w (some ⟨b, off, none⟩) n L) (hne : ∀ i, i < n → 0 < (row L i).length) (hn : n ≤ 1000) (hi : i < n) (hv : Lies w av cv v) (hd : v.length = d) (hd0 : 0 < d) :
    Calls Try.prog 93 #[.slice (some ⟨b, off, none⟩) n c, .int .i64 (i : Int), .slice av d cv] w fun e w' => ∃ a' c', e = .returned (.slice a' n c') ∧ Tab w' a' n (L.set i v) ∧ Below w.heap.size w w' := by
  have HC := Lib.hid (cloneT_any b off n c L w h hne hn)
  have HV := Lib.hid hv
  have HL := Lib.hid h.1
  have i0 : (0 : Int) ≤ (i : Int) := by omega
  have i1 : (i : Int) < (n : Int) := by omega
  clear h hne hv
  go_enter Try.func93, Try.ntmps93
  go_wp2_with fail
  refine HC.out.mono ?_
  rintro e w1 ⟨v1, rfl, ht, hb⟩
  obtain ⟨a1, c1, rfl, htab, hle, hmx, hblk⟩ := ht.form
  rw [HL.out] at htab ht ⊢
  obtain ⟨g0, o0, ai, ci, rfl, hg0, hcell, -⟩ := htab.at hi
  have HT := Lib.hid ht
  obtain ⟨vs, hvs, -⟩ := ht
  rw [HL.out] at hvs
  have ho0 : o0 = 0 := by
    rcases hvs.2 with ⟨e, -⟩ | ⟨g, cap, cur, e, -⟩
    · cases e
    · cases e; rfl
  subst ho0
  rw [Nat.zero_add] at hcell
  have hfg := hvs.frozenAt i
  obtain ⟨bv, ov, hav, hbv, -⟩ := HV.out.ints.at (by rw [hd]; exact hd0)
  have hput := TabO.put (W := w1) (B := w.heap.size) (g := g0) (c := c1) (L := L) (i := i) (by rw [HL.out]; exact HT.out) (by rw [HL.out]; exact hi) (HV.out.below hb) (fun ad e => by
    rw [hav] at e
    cases e
    have := hblk _ rfl
    have := hb.size
    exact ⟨by show bv < _; omega, by show g0 ≠ bv; have := hblk ⟨g0, 0, none⟩ rfl; simp only at this; omega⟩)
  rw [hd] at hput
  obtain ⟨a3, c3, e3, ht3, -⟩ := hput.form
  rw [List.length_set, HL.out] at e3 ht3
  cases e3
  have HF := Lib.hid (And.intro ht3 (hb.setCell (p := ⟨g0, i, none⟩) (hblk ⟨g0, 0, none⟩ rfl) (.slice av d cv)))
  clear hput ht3 hvs htab hb HT hav
  go_wp2
  go_ret
  exact ⟨_, _, rfl, HF.out.1, HF.out.2⟩
end Go.Proofs.Ytgfenponlkmfmaa
