/- The walk of slices.SortFunc at pairs, compared by their first numbers. Condition: the slice is the call's own, and no two first numbers are the same. -/
import Derived.Test.YtbdabpmpfciibaaGap2
import Derived.Test.YtbdabpmpfciibaaShelf4
namespace Go.Proofs.Ytbdabpmpfciibaa
open Go.RowKit Go.Shelf Go.Lib Go.Sort
attribute [local go_sem] Oper.semAt_some

/-- The comparison of counted. -/
def cfK (x y : Int × Int) : Int := Lib.compareInt x.1 y.1
def encP (p : Int × Int) : List Value := [.int .i64 p.1, .int .i64 p.2]
theorem ltK (x y : Int × Int) : ltOf cfK x y = decide (x.1 < y.1) := by
  unfold ltOf cfK Lib.compareInt
  by_cases h1 : x.1 < y.1
  · simp [h1]
  · by_cases h2 : y.1 < x.1 <;> simp [h1, h2]
theorem swoK : SWO (ltOf cfK) where
  irrefl x := by rw [ltK]; simp
  trans x y z h1 h2 := by rw [ltK] at *; simp at *; omega
  ntrans x y z h1 h2 := by rw [ltK] at *; simp at *; omega

set_option maxHeartbeats 1000000 in
set_option maxRecDepth 100000 in
theorem closure104 (x y : Int × Int) (W : World) : Calls Try.prog 104 #[.agg #[.int .i64 x.1, .int .i64 x.2], .agg #[.int .i64 y.1, .int .i64 y.2]] W fun e w' =>
    e = .returned (.int .i64 (cfK x y)) ∧ w' = (W.alloc (.cells #[.int .i64 x.1, .int .i64 x.2] 46)).alloc (.cells #[.int .i64 y.1, .int .i64 y.2] 46) := by
  obtain ⟨x1, x2⟩ := x
  obtain ⟨y1, y2⟩ := y
  have hh := heap_alloc_last (W.alloc (.cells #[.int .i64 x1, .int .i64 x2] 46)) (.cells #[.int .i64 y1, .int .i64 y2] 46)
  rw [World.size_alloc] at hh
  have c0 : ((W.alloc (.cells #[.int .i64 x1, .int .i64 x2] 46)).alloc (.cells #[.int .i64 y1, .int .i64 y2] 46)).cell? ⟨W.heap.size, 0, none⟩ = some (.int .i64 x1) := Lib.cell?_alloc_some _ (by simp)
  have c1 : ((W.alloc (.cells #[.int .i64 x1, .int .i64 x2] 46)).alloc (.cells #[.int .i64 y1, .int .i64 y2] 46)).cell? ⟨W.heap.size + 1, 0, none⟩ = some (.int .i64 y1) := by unfold World.cell?; rw [hh]; rfl
  clear hh
  unfold cfK
  go_enter Try.func104, Try.ntmps104
  go_wp2_with fail
  refine (Try.cmp_Compare_int _ _ _).mono ?_
  rintro e w' ⟨rfl, rfl⟩
  go_wp2
  go_ret
  exact ⟨rfl, rfl⟩

theorem cmpLays104 (blk off size : Nat) (w : World) : CmpLays Try.prog 104 #[] encP 2 cfK blk off size w := by
  intro m os dk _ x y
  refine (closure104 x y _).mono ?_
  rintro e w' ⟨rfl, rfl⟩
  exact ⟨rfl, 0, #[.cells #[.int .i64 x.1, .int .i64 x.2] 46, .cells #[.int .i64 y.1, .int .i64 y.2] 46], by rw [alloc_eq_grow, alloc_eq_grow, grow_grow]; rfl⟩

theorem get_nth2 {L : List (Int × Int)} {j : Nat} (h : j < L.length) : L.toArray[j]! = nth2 L j := by
  unfold nth2
  rw [List.getD_eq_getElem?_getD, List.getElem?_eq_getElem h, getElem!_pos L.toArray j (by simpa using h)]
  simp
theorem holds_row2 {B g n cp : Nat} {L : List (Int × Int)} {W : World} (h : Row2 B (.slice (some ⟨g, 0, none⟩) n cp) L W) : HoldsK encP 2 W g 0 L.toArray := by
  intro t ht
  have ht' : t < L.length * 2 := by simpa using ht
  rw [get_flatK encP 2 L.toArray t (by simpa using ht'), Nat.zero_add]
  have hj : t / 2 < L.length := by omega
  rw [get_nth2 hj]
  obtain ⟨c0, c1⟩ := h.cell hj
  have hfz : W.frozen? ⟨g, t, none⟩ = false := by
    rcases h.2 with ⟨h1, -⟩ | ⟨g', cap, cur, h1, -⟩
    · cases h1
    · have hl : n = L.length := by cases h1; rfl
      subst hl
      exact World.ownsRow.frozenAt h t
  refine ⟨?_, hfz⟩
  rcases Nat.mod_two_eq_zero_or_one t with h2 | h2
  · rw [show t / 2 * 2 = t by omega] at c0
    rw [c0, h2]; rfl
  · rw [show t / 2 * 2 + 1 = t by omega] at c1
    rw [c1, h2]; rfl
/-- Pairs that lie in a block. -/
def Sl2 (W : World) (g : Nat) (L : List (Int × Int)) : Prop := ∀ j, j < L.length → W.cell? ⟨g, j * 2, none⟩ = some (.int .i64 (nth2 L j).1) ∧ W.cell? ⟨g, j * 2 + 1, none⟩ = some (.int .i64 (nth2 L j).2)
theorem sl2_holds {g : Nat} {L : List (Int × Int)} {W : World} (h : HoldsK encP 2 W g 0 L.toArray) : Sl2 W g L := by
  intro j hj
  have h0 := (h (j * 2) (by simp; omega)).1
  have h1 := (h (j * 2 + 1) (by simp; omega)).1
  rw [get_flatK encP 2 L.toArray _ (by simp; omega), Nat.zero_add, show j * 2 / 2 = j by omega, show j * 2 % 2 = 0 by omega, get_nth2 hj] at h0
  rw [get_flatK encP 2 L.toArray _ (by simp; omega), Nat.zero_add, show (j * 2 + 1) / 2 = j by omega, show (j * 2 + 1) % 2 = 1 by omega, get_nth2 hj] at h1
  exact ⟨h0, h1⟩
theorem grownBy_sortK {w : World} {g n : Nat} {os : Array Obj} (d : Array (Int × Int)) : w.grownBy (sortWorldK encP 2 w g 0 n d os) (some g) := by
  unfold sortWorldK putRowK
  refine ⟨rfl, rfl, rfl, by simp, fun k hk hne => ?_⟩
  rw [heap_grow_old _ _ (by simpa using hk)]
  have : g ≠ k := fun e => hne (by rw [e])
  simp [putRow, mapBlock, Sort.ahead, Array.getElem?_modify, this]
theorem isAgg46 (w : World) : (isAgg 46).run Try.prog w = .ok true w := by kernel_rfl

theorem sort2_any (B g cp n : Nat) (L : List (Int × Int)) (w W : World) (hb : Below B w W) (hB : B ≤ W.heap.size) (hl : Row2 B (.slice (some ⟨g, 0, none⟩) n cp) L W) (hn : L.length = n) (hn2 : n ≤ 2000) (ha : L.Pairwise fun a b => a.1 ≠ b.1) :
    Calls Try.prog 103 #[.slice (some ⟨g, 0, none⟩) n cp, .func (.func 104) #[] #[]] W fun e w' => e = .returned (.tuple #[]) ∧ Below B w w' ∧ g < w'.heap.size ∧ ∃ L', L'.Perm L ∧ (L'.Pairwise fun a b => a.1 < b.1) ∧ Sl2 w' g L' := by
  subst hn
  obtain ⟨hg0, hg1⟩ := World.ownsRow.lt hl g rfl
  have hH := holds_row2 hl
  have eg : ∀ args w, (callFunc 104 args).run Try.prog w = .ok (.enter 104 args) w := enters_of Try.func104 (by kernel_rfl) rfl
  have hS := AnyQ.slices_SortFunc Try.sfK 2 isAgg46 size46 encP (fun _ => rfl) (fun x v hv => by simp [encP] at hv; rcases hv with rfl | rfl <;> rfl) cfK swoK 104 #[] g 0 cp L.toArray W eg (cmpLays104 g 0 _ W) hH hg1 (by simp; omega)
  have e1 : L.toArray.size = L.length := by simp
  rw [e1] at hS
  refine hS.mono fun e w' ⟨he, d', n, os, hp, hs, hw⟩ => ?_
  subst hw
  obtain ⟨p1, -, p3⟩ := hp
  have hsz : d'.size = L.length := by rw [p1]; simp
  have hperm : d'.toList.Perm L := by
    have q1 : (d'.extract 0 L.length).toList = d'.toList := by rw [← hsz]; simp
    have q2 : (L.toArray.extract 0 L.length).toList = L := by simp
    rw [q1, q2] at p3
    exact p3
  have hap : d'.toList.Pairwise fun a b => a.1 ≠ b.1 := (hperm.pairwise_iff (fun h => fun e => h e.symm)).2 ha
  refine ⟨he, hb.grown (grownBy_sortK d') hB (fun k e => by have e' : g = k := Option.some.inj e; omega), ?_, d'.toList, hperm, ?_, ?_⟩
  · exact Nat.lt_of_lt_of_le hg1 (grownBy_sortK (w := W) (g := g) (n := n) (os := os) d').size
  · rw [List.pairwise_iff_getElem] at hap ⊢
    intro i j hi hj hij
    have h1 := hap i j hi hj hij
    have hi' : i < d'.size := by simpa using hi
    have hj' : j < d'.size := by simpa using hj
    have h2 := hs i j (Nat.zero_le _) hij (by rw [hsz] at hj'; exact hj')
    rw [ltK, getElem!_pos d' j hj', getElem!_pos d' i hi'] at h2
    have h3 : ¬ d'[j].1 < d'[i].1 := of_decide_eq_false h2
    simp only [Array.getElem_toList] at h1 ⊢
    omega
  · refine sl2_holds ?_
    have := holdsK_sortWorldK_c encP 2 W g 0 L.toArray d' n os hH hg1 (by rw [p1])
    simpa using this
end Go.Proofs.Ytbdabpmpfciibaa
