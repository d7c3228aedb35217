/- The walks of Clip and basis.and: rows, and a row after them. Condition: they lie in memory; no row is empty. -/
import Derived.Test.YtgfenponlkmfmaaGram3
import Derived.ArgAppend
namespace Go.Proofs.Ytgfenponlkmfmaa
open Go.RowKit
attribute [local go_sem] Oper.semAt_some

theorem clip_any (a : Option Addr) (n c : Nat) (w : World) (hc : n ≤ c) (hm : c ≤ maxLen) :
    Calls Try.prog 130 #[.slice a n c] w fun e w' => e = .returned (.slice a n n) ∧ w' = w := by
  have n0 : (0 : Int) ≤ (n : Int) := by omega
  have n1 : (n : Int) ≤ (c : Int) := by omega
  unfold maxLen at hm
  go_enter Try.func130, Try.ntmps130
  go_wp2
  go_ret
  exact ⟨rfl, rfl⟩

/-- A row appended to a slice without room: all goes to a new row. -/
theorem wpList_and {ops : Array Oper} {rest : List Oper} {o : Oper} {a : Act} {Q : Exit → Act → World → Prop} (s x : Operand) (hgd : o.guard = none)
    (ho : o.op = .call { callee := .builtin .append, args := #[s, x], argTypes := #[66, 66] }) (b off n : Nat) (L : List (List Int)) (l : List Int) (ax : Option Addr) (m c : Nat) (W : World) (hs : a.eval s = .slice (some ⟨b, off, none⟩) n n)
    (ht : Tab W (some ⟨b, off, none⟩) n L) (hne : ∀ i, i < n → 0 < (row L i).length) (hlm : l.length = m) (hm : 0 < m) (hl : Lies W ax c l) (hx : a.eval x = .slice (some ⟨W.heap.size, 0, none⟩) 1 1) (hn : n ≤ 1000)
    (h : ∀ v' w', TabO w' W.heap.size v' (L ++ [l]) → Below W.heap.size W w' → wpList Try.prog ops Q rest (a.put o.dst v') w') :
    wpList Try.prog ops Q (o :: rest) a (W.alloc (.cells #[.slice ax m c] 35)) := by
  subst hlm
  refine wpList_plain hgd fun K hK => ?_
  obtain ⟨i0, hi, hz0, hz1, hz2⟩ := info_parts info35
  have hcs : ∀ i, i < n → ∃ y : Option Addr × Nat, W.cell? ⟨b, off + i, none⟩ = some (.slice y.1 (row L i).length y.2) ∧ Lies W y.1 y.2 (row L i) := by
    intro i hin
    obtain ⟨b', off', ai, ci, e, h2, h3, h4⟩ := ht.at hin
    cases e
    exact ⟨(ai, ci), h3, h4⟩
  obtain ⟨y, hy⟩ := Go.Deep.choose_lt hcs
  have hba : Below W.heap.size W (W.alloc (.cells #[.slice ax l.length c] 35)) := (Below.refl _ _).alloc (Nat.le_refl _) _
  obtain ⟨v', w', hr, r1, r2⟩ := run_append_arg_grows (P := Try.prog) (W.alloc (.cells #[.slice ax l.length c] 35)) 66 o.type 35 i0 (.slice none 0 0) 1 24 Try.underlying66 hi hz0 hz1 hz2 rfl (by decide) ⟨b, off, none⟩ n n
    ((List.range n).map fun i => Value.slice (y i).1 (row L i).length (y i).2) (by simp) (fun j u hj => by
      have hjn : j < n := by
        have := (List.getElem?_eq_some_iff.1 hj).1
        simpa using this
      rw [Addr.add_lit, (hba.cell (p := ⟨b, off + j, none⟩) (World.block_lt_of_cell? _ _ (hy j hjn).1)), (hy j hjn).1]
      rw [List.getElem?_map, List.getElem?_range hjn] at hj
      exact hj) ⟨W.heap.size, 0, none⟩ 1 1 [.slice ax l.length c] rfl (cell_one_new _ _ _) (by omega) (by unfold maxLen; omega) (by omega)
  unfold Oper.wp execOp
  simp only [ho, resolve, invoke, builtin, Sem.run_bind, Sem.run_pure, Result.andThen_ok, List.map_toArray, List.map_cons, List.map_nil, hs, hx, hr]
  have hbw : Below W.heap.size W w' := hba.grown r2 (by simp) (fun j e => by cases e)
  refine hK _ _ (h v' w' ⟨_, own_mono (by rw [List.length_append, List.length_singleton, ht.1]; exact r1) (by simp), fun i hil => ?_⟩ hbw)
  have hblk : ∀ (ai : Option Addr) (ci : Nat) (xs : List Int), 0 < xs.length → Lies W ai ci xs → ∀ ad, ai = some ad → ad.block < w'.heap.size ∧ v'.ownBlock ≠ some ad.block := by
    intro ai ci xs hp hh ad e
    obtain ⟨b2, o2, e2, e3, -⟩ := hh.ints.at hp
    subst e
    cases e2
    refine ⟨Nat.lt_of_lt_of_le e3 hbw.size, fun e4 => ?_⟩
    have := (World.ownsRow.lt (h := r1) _ e4).1
    simp at this
    omega
  by_cases hin : i < n
  · refine ⟨(y i).1, (y i).2, ?_, ?_, ?_⟩
    · rw [row_left (by rw [ht.1]; exact hin), List.getElem?_append_left (by simpa using hin), List.getElem?_map, List.getElem?_range hin]
      rfl
    · rw [row_left (by rw [ht.1]; exact hin)]
      exact (hy i hin).2.below hbw
    · exact hblk _ _ _ (hne i hin) (hy i hin).2
  · have hie : i = n := by
      rw [List.length_append, ht.1] at hil
      simp at hil
      omega
    subst hie
    have er : row (L ++ [l]) i = l := by
      have := row_last L l
      rw [ht.1] at this
      exact this
    refine ⟨ax, c, ?_, ?_, ?_⟩
    · rw [er, List.getElem?_append_right (by simp)]
      simp
    · rw [er]
      exact hl.below hbw
    · exact hblk _ _ _ hm hl

set_option maxRecDepth 100000 in
theorem and_any (b off n c : Nat) (L : List (List Int)) (l : List Int) (ax : Option Addr) (m cx : Nat) (w : World) (h : Tab w (some ⟨b, off, none⟩) n L) (hne : ∀ i, i < n → 0 < (row L i).length) (hm : 0 < m) (hlm : l.length = m) (hl : Lies w ax cx l) (hn : n ≤ 1000) (hc : n ≤ c) (hcm : c ≤ maxLen) :
    Calls Try.prog 119 #[.slice (some ⟨b, off, none⟩) n c, .slice ax m cx] w fun e w' => ∃ v, e = .returned v ∧ TabO w' w.heap.size v (L ++ [l]) ∧ Below w.heap.size w w' := by
  have HC := Lib.hid (clip_any (some ⟨b, off, none⟩) n c w hc hcm)
  have H := Lib.hid h
  have HL := Lib.hid (And.intro hne (And.intro hlm hl))
  clear h hne hl hlm hcm
  go_enter Try.func119, Try.ntmps119
  go_wp2_with fail
  refine HC.out.mono ?_
  rintro e w1 ⟨rfl, rfl⟩
  go_wp2_with (at_builtin; refine wpList_and (.tmp 6) (.tmp 8) rfl rfl b off n L l ax m cx w1 rfl H.out HL.out.1 HL.out.2.1 hm HL.out.2.2 rfl hn ?_; intro v' w3 ht3 hb3)
  go_ret
  exact ⟨_, rfl, ht3, hb3⟩
end Go.Proofs.Ytgfenponlkmfmaa
