/- The walk of pell.Expand: a slice of its own that holds a0 and the period. Condition: d is a D (else the documented error). -/
import Derived.Test.YtbdadckedhcibaaAwake
import Derived.Maps.AppendAt
import Derived.Lib.SmallJoins
namespace Go.Proofs.Ytbdadckedhcibaa
open Go.RowKit Go.Shelf
attribute [local go_sem] Oper.semAt_some

/-! The period, plainly. -/
def pLAux (d : Int) : Nat → Nat → Nat
  | 0, k => k
  | f + 1, k => if cfA d k = 2 * cfA d 0 then k else pLAux d f (k + 1)
def pL (d : Int) : Nat := pLAux d 30 0
def pGood (d : Int) (k : Nat) : Bool := if k = pL d then decide (cfA d k = 2 * cfA d 0) else !decide (cfA d k = 2 * cfA d 0)
def pCheck : Bool := allBelow 101 fun d => !isD d || (decide (1 ≤ pL d) && decide (pL d < 20) && allBelow (pL d + 1) (pGood d))
theorem pCheck_ok : pCheck = true := by decide +kernel
theorem p_all {d : Int} (hd : isD d = true) : 1 ≤ pL d ∧ pL d < 20 ∧ cfA d (pL d) = 2 * cfA d 0 ∧ ∀ k, k < pL d → cfA d k ≠ 2 * cfA d 0 := by
  have hb := isD_bd hd
  have h := allBelow_at pCheck_ok (k := d.toNat) (by omega)
  rw [Int.toNat_of_nonneg (by omega), hd] at h
  simp at h
  refine ⟨h.1.1, h.1.2, ?_, fun k hk => ?_⟩
  · have := allBelow_at h.2 (k := pL d) (by omega)
    simpa [pGood] using this
  · have := allBelow_at h.2 (k := k) (by omega)
    simpa [pGood, show k ≠ pL d by omega] using this

/-- a0 .. a(k-1), as the cells of a slice. -/
def cfRow (d : Int) (k : Nat) : List Value := (List.range k).map fun j => Value.int .i64 (cfA d j)
theorem cfRow_succ (d : Int) (k : Nat) : cfRow d (k + 1) = cfRow d k ++ [.int .i64 (cfA d k)] := by simp [cfRow, List.range_succ]
theorem cfRow_len (d : Int) (k : Nat) : (cfRow d k).length = k := by simp [cfRow]
theorem cfRow_at (d : Int) {k j : Nat} (h : j < k) : (cfRow d k)[j]? = some (.int .i64 (cfA d j)) := by simp [cfRow, h]

theorem cfRow_head (d : Int) (k : Nat) : (cfRow d k ++ [.int .i64 (cfA d k)])[0]? = some (.int .i64 (cfA d 0)) := by rw [← cfRow_succ]; exact cfRow_at d (by omega)

/-- 'list = append(list, ..)' on a slice that owns blocks from base on, its variable in a box below base. -/
theorem appended_below {W w1 : World} {base B : Nat} {t e : TypeId} {size : Nat} {v v' : Value} {k m : Nat} {xs ys : List Value} {tmp : Obj}
    (hv : Boxed W B t v) (hB : B < base) (hrow : W.ownsRow base e size v k xs) (hbs : base ≤ W.heap.size)
    (hown' : w1.ownsRow base e size v' m ys) (hgrow : (W.alloc tmp).grownBy w1 v.ownBlock) :
    Boxed w1 B t v ∧ Boxed (w1.setCell ⟨B, 0, none⟩ v') B t v' ∧ (w1.setCell ⟨B, 0, none⟩ v').ownsRow base e size v' m ys ∧ KeepsOthers W (w1.setCell ⟨B, 0, none⟩ v') ∧
      (∀ j, j < base → j ≠ B → (w1.setCell ⟨B, 0, none⟩ v').heap[j]? = W.heap[j]?) ∧ Below B W (w1.setCell ⟨B, 0, none⟩ v') := by
  have hlt : ∀ r, v.ownBlock = some r → base ≤ r := fun r h => (hrow.lt r h).1
  have hv1 : Boxed w1 B t v := (hv.alloc tmp).kept hgrow (fun e => by have := hlt B e.symm; omega)
  have hold : ∀ j, j < base → w1.heap[j]? = W.heap[j]? := fun j hj =>
    (hgrow.block j (by simp; omega) (fun e => by have := hlt j e.symm; omega)).trans (Below.heap_alloc W tmp j (by omega))
  refine ⟨hv1, hv1.set v', ownsRow_setCell_below hown' (a := ⟨B, 0, none⟩) hB v', ?_, ?_, ?_⟩
  · refine ((KeepsOthers.alloc W tmp).trans (KeepsOthers.of_grownBy hgrow fun j o ej hj => ?_)).trans (KeepsOthers.setCell _ _ _)
    rcases (hrow.alloc tmp).2 with ⟨rfl, _⟩ | ⟨g, cap, cur, rfl, _, hgb, _⟩
    · simp [Value.ownBlock] at ej
    · obtain rfl : g = j := by simpa [Value.ownBlock] using ej
      rw [hgb] at hj; cases hj; rfl
  · intro j hj hne
    exact (Below.heap_setCell _ _ _ j hne).trans (hold j hj)
  · refine ⟨?_, ?_, ?_, ?_, fun j hj => ?_⟩
    · exact hgrow.os
    · exact hgrow.tape
    · exact hgrow.output
    · have h1 := hgrow.size
      have h2 : (w1.setCell ⟨B, 0, none⟩ v').heap.size = w1.heap.size := by simp [World.setCell]
      rw [h2]
      simp at h1
      omega
    · exact (Below.heap_setCell _ _ _ j (by show j ≠ B; omega)).trans (hold j (by omega))

theorem info3 : (Try.prog.info? 3).map (fun i => (i.zero, i.size, i.bytes)) = some (some (.int .i64 0), 1, 8) := by kernel_rfl

/-- The variables of Expand behind k rounds. -/
structure EState (d : Int) (B k : Nat) (w W : World) : Prop where
  l : ∃ v, Boxed W B 22 v ∧ W.ownsRow (B + 2) 3 1 v k (cfRow d k)
  b : Below B w W
theorem EState.putObj {d : Int} {B k : Nat} {w W : World} (h : EState d B k w W) {l : Nat} (hl : B + 2 ≤ l) {o : Obj} (ho : W.heap[l]? = some o) (hc : o.isCells = false) (o' : Obj) : EState d B k w (W.putObj l o') := by
  obtain ⟨v, h1, h2⟩ := h.l
  exact ⟨⟨v, boxed_putObj _ h1 (by omega), ownsRow_putObj h2 o' ho hc⟩, h.b.trans (below_putObj W (by omega) o')⟩
theorem EState.alloc {d : Int} {B k : Nat} {w W : World} (h : EState d B k w W) (hs : B ≤ W.heap.size) (o : Obj) : EState d B k w (W.alloc o) := by
  obtain ⟨v, h1, h2⟩ := h.l
  exact ⟨⟨v, h1.alloc o, h2.alloc o⟩, h.b.alloc hs o⟩

set_option maxRecDepth 100000 in
set_option maxHeartbeats 2000000 in
theorem Expand_yes (d : Int) (hd : isD d = true) (w : World) :
    Calls Try.prog 14 #[.int .i64 d] w fun e w' => ∃ v, e = .returned (.tuple #[v, .int .i64 0]) ∧ w'.ownsRow w.heap.size 3 1 v (pL d + 1) (cfRow d (pL d + 1)) ∧ Below w.heap.size w w' := by
  have hd2 := isD_bd hd
  obtain ⟨pa, pb, pc, pd⟩ := p_all hd
  obtain ⟨i0, hi, hz0, hz1, hz2⟩ := info_parts info3
  have HP := Lib.hid (And.intro pc pd)
  have HI := Lib.hid (And.intro hi (And.intro hz0 (And.intro hz1 hz2)))
  clear pc pd hi hz0 hz1 hz2
  refine (callsIn_wide (n := 5)).1 ?_
  refine callsIn_of_wp_marks Try.func14 rfl trivial ?_ rfl
  simp only [Try.ntmps14, List.size_toArray, List.length_cons, List.length_nil, Nat.reduceAdd, Nat.reduceSub, Array.replicate_succ, Array.replicate_zero, List.push_toArray, List.append_toArray, List.nil_append, List.cons_append]
  gi_wp2_with (first | (refine ⟨trivial, ?_⟩; gi_at_call 41; refine (callsIn_wide.2 (validD_any _ _)).mono ?_; rintro e w' ⟨rfl, rfl⟩) | (refine ⟨trivial, ?_⟩; gi_at_call 42; refine (callsIn_wide.2 (terms_any _ _)).mono ?_; rintro e w' ⟨rfl, rfl⟩))
  obtain ⟨B, hB⟩ : ∃ B, w.heap.size = B := ⟨_, rfl⟩
  have hs0 : EState d B 0 w ((w.alloc (.cells #[.slice none 0 0] 22)).alloc (.cells #[.int .i64 d] 3)) := by
    have y0 := Boxed.new w 22 (.slice none 0 0)
    rw [hB] at y0
    exact ⟨⟨_, y0.alloc _, World.ownsRow_nil _ _ _ _⟩, ((Below.refl B w).alloc (by omega) _).alloc (by simp; omega) _⟩
  have hd0 : Boxed ((w.alloc (.cells #[.slice none 0 0] 22)).alloc (.cells #[.int .i64 d] 3)) (B + 1) 3 (.int .i64 d) := by
    have y5 := Boxed.new (w.alloc (.cells #[.slice none 0 0] 22)) 3 (.int .i64 d)
    simp only [World.size_alloc, hB] at y5
    exact y5
  have hsz : ((w.alloc (.cells #[.slice none 0 0] 22)).alloc (.cells #[.int .i64 d] 3)).heap.size = B + 2 := by simp [hB]
  simp only [hB]
  generalize ((w.alloc (.cells #[.slice none 0 0] 22)).alloc (.cells #[.int .i64 d] 3)) = Wc at hs0 hd0 hsz ⊢
  refine wpIn_range_ix (gf := 64) (lb := #[.pointer (some ⟨B + 1, 0, none⟩)]) rfl (enters_of Try.func64 (by kernel_rfl) rfl)
    (terms_iter d hd (B + 1) Wc (by omega) hd0 (pL d + 1) (by omega)) (Below.refl _ _) (fun _ => rfl)
    (fun A A' h => by cases h; exact ⟨rfl, rfl⟩)
    (fun A A' r r1 r2 _ h => by
      unfold keepBox at h ⊢
      rw [World.putObj_heap_other (by omega)] at h ⊢
      exact h)
    (fun k A => k ≤ pL d ∧ EState d B k w A)
    (fun c k A => c = .exit 0 ∧ EState d B (pL d + 1) w A)
    (fun k A A' h e => by cases e; exact h) (fun c k A A' h e => by cases e; exact h)
    (fun k A r r' h ho => ⟨h.1, h.2.putObj (by omega) ho rfl _⟩)
    (fun c k A r r' h ho => ⟨h.1, h.2.putObj (by omega) ho rfl _⟩)
    (fun r => ⟨by omega, (hs0.alloc (by omega) _).alloc (by simp; omega) _⟩)
    (fun A h => by have := h.1; omega)
    (fun k => { tmps := #[.int .i64 d, undef, .slice none 0 0, .int .i64 0, .pointer (some ⟨B, 0, none⟩), .int .i64 (cfA d k), .int .i64 d, .bool true, .bool false, .int .i64 d, .func (.func 64) #[] #[.pointer (some ⟨B + 1, 0, none⟩)], .int .i64 (cfA d k), undef, undef, undef, undef, undef, undef, undef, undef, undef, undef, undef], defers := [] }) ?assign ?body ?done ?stop
  case assign =>
    intro l x A K hK
    gi_wp2
    exact hK
  case done =>
    intro A h
    exact h.elim
  case stop =>
    rintro c k A hk ⟨rfl, hs⟩ hK
    obtain ⟨v, hv, hrow⟩ := hs.l
    have hc := hv.cell
    gi_wp2
    refine ⟨by simp, .inl ⟨_, _, rfl, run_takeDeferred hK, ?_⟩⟩
    refine ⟨.tuple #[v, .int .i64 0], by simp [results, Try.f14, go_sem], v, rfl, ?_, ?_⟩
    · rw [hB]
      exact ownsRow_putObj (Joins.ownsRow_le hrow (by omega)) _ hK rfl
    · rw [hB]
      exact hs.b.trans (below_putObj A (by omega) _)
  case body =>
    rintro l' k A ⟨hk, hs⟩ hkN hlt ⟨hr0, r, hr1⟩
    obtain ⟨v, hv, hrow⟩ := hs.l
    obtain ⟨g1, g2, g3, g4, g5, g6, g7⟩ := cf_facts hd (k := k) (by omega)
    obtain ⟨-, -, -, -, x5, x6, -⟩ := cf_facts hd (k := 0) (by omega)
    obtain ⟨hi, hz0, hz1, hz2⟩ := HI.out
    have hc := hv.cell
    have hf := hv.frozen
    clear hs0 hd0
    by_cases hkp : k = pL d
    · have b1 : (cfA d k == 2 * cfA d 0) = true := by simp [hkp, HP.out.1]
      have HKP := Lib.hid hkp
      clear hkp
      have R0 := Lib.hid hr0
      have R1 := Lib.hid hr1
      clear hr0 hr1
      gi_wp2_with (gi_at_builtin; refine wpListIn_append_own _ rfl _ _ 22 rfl (B + 2) 3 i0 (.int .i64 0) 1 8 Try.underlying22 hi hz0 hz1 hz2 rfl (by decide) _ _ _ rfl (hrow.alloc _) ⟨A.heap.size, 0, none⟩ 1 1 [.int .i64 (cfA d k)] rfl rfl (cell_one_new _ _ _) (by simp [Value.oneCell']) (by unfold maxLen; omega) (by omega) (by simp; omega) ?_; intro v' w1 hown' hgrow _; obtain ⟨g', cap', rfl⟩ := ownsRow_succ hown'; obtain ⟨hv1, hv2, hr2, hk2, hj2, hb2⟩ := appended_below hv (by omega) hrow (by omega) hown' hgrow; have hc1 := hv1.cell; have hf1 := hv1.frozen; have hc2 := hv2.cell; have hcg := (hr2.cellAt 0 (by omega)).trans (cfRow_head d k))
      rw [← cfRow_succ] at hr2
      refine ⟨⟨(hk2.same _ _ R0.out rfl).trans R0.out.symm, (hk2.same _ _ R1.out rfl).trans R1.out.symm⟩, hj2 (B + 1) (by omega) (by omega), rfl, ?_⟩
      rw [← HKP.out]
      exact ⟨⟨_, hv2, hr2⟩, hs.b.trans hb2⟩
    · have b1 : (cfA d k == 2 * cfA d 0) = false := by simp [HP.out.2 k (by omega)]
      have R0 := Lib.hid hr0
      have R1 := Lib.hid hr1
      clear hr0 hr1
      gi_wp2_with (gi_at_builtin; refine wpListIn_append_own _ rfl _ _ 22 rfl (B + 2) 3 i0 (.int .i64 0) 1 8 Try.underlying22 hi hz0 hz1 hz2 rfl (by decide) _ _ _ rfl (hrow.alloc _) ⟨A.heap.size, 0, none⟩ 1 1 [.int .i64 (cfA d k)] rfl rfl (cell_one_new _ _ _) (by simp [Value.oneCell']) (by unfold maxLen; omega) (by omega) (by simp; omega) ?_; intro v' w1 hown' hgrow _; obtain ⟨g', cap', rfl⟩ := ownsRow_succ hown'; obtain ⟨hv1, hv2, hr2, hk2, hj2, hb2⟩ := appended_below hv (by omega) hrow (by omega) hown' hgrow; have hc1 := hv1.cell; have hf1 := hv1.frozen; have hc2 := hv2.cell; have hcg := (hr2.cellAt 0 (by omega)).trans (cfRow_head d k))
      rw [← cfRow_succ] at hr2
      exact ⟨⟨(hk2.same _ _ R0.out rfl).trans R0.out.symm, (hk2.same _ _ R1.out rfl).trans R1.out.symm⟩, hj2 (B + 1) (by omega) (by omega), by omega, ⟨⟨_, hv2, hr2⟩, hs.b.trans hb2⟩⟩

set_option maxHeartbeats 400000 in
theorem Expand_no (d : Int) (hd : isD d = false) (w : World) :
    Calls Try.prog 14 #[.int .i64 d] w fun e w' => e = .returned (.tuple #[.slice none 0 0, .int .i64 2]) ∧ w = w' := by
  go_enter Try.func14, Try.ntmps14
  go_wp2_with (first | (go_at_call 41; refine (validD_any _ _).mono ?_; rintro e w' ⟨rfl, rfl⟩))
  go_ret2
  exact ⟨rfl, rfl⟩
end Go.Proofs.Ytbdadckedhcibaa
