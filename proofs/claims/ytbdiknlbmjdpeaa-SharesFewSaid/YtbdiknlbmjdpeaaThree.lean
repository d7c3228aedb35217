/- The walks of Three and Split. Conditions: the numbers are in range. -/
import Derived.Test.YtbdiknlbmjdpeaaBoundL
import Derived.Laws.Cover3
namespace Go.Proofs.Ytbdiknlbmjdpeaa
open Go.RowKit
attribute [local go_sem] Oper.semAt_some


theorem at38 (g n c : Nat) (h : 3 ≤ n) (w : World) : (Instr.arrayAt 38 (.slice (some ⟨g, 0, none⟩) n c)).run Try.prog w = .ok (.pointer (some ⟨g, 0, none⟩)) w := run_arrayAt w 38 _ 3 _ n c Try.underlying38 h
theorem at41 (g n c : Nat) (h : 2 ≤ n) (w : World) : (Instr.arrayAt 41 (.slice (some ⟨g, 0, none⟩) n c)).run Try.prog w = .ok (.pointer (some ⟨g, 0, none⟩)) w := run_arrayAt w 41 _ 2 _ n c Try.underlying41 h
/-- What Three hands back. -/
def TRes (R : Option (List Nat)) (e : Ending) : Prop :=
  match R with
  | some [x, y, z] => e = .returned (.tuple #[.agg #[.int .i64 (x : Int), .int .i64 (y : Int), .int .i64 (z : Int)], .int .i64 0])
  | some _ => False
  | none => e = .returned (.tuple #[.agg #[.int .i64 0, .int .i64 0, .int .i64 0], .int .i64 4])
/-- What Split hands back. -/
def PRes (R : Option (List Nat)) (e : Ending) : Prop :=
  match R with
  | some [x, y] => e = .returned (.tuple #[.agg #[.int .i64 (x : Int), .int .i64 (y : Int)], .int .i64 0])
  | some _ => False
  | none => e = .returned (.tuple #[.agg #[.int .i64 0, .int .i64 0], .int .i64 4])
def thrF (n : Nat) : Option (List Nat) := fnd 0 maxI 2 4 n 1
def splF (d : Nat) : Option (List Nat) := lst 1 1 d
theorem list3 {α : Type} (l : List α) (h : l.length = 3) : ∃ a b c, l = [a, b, c] := by
  match l, h with
  | [a, b, c], _ => exact ⟨a, b, c, rfl⟩
theorem list2 {α : Type} (l : List α) (h : l.length = 2) : ∃ a b, l = [a, b] := by
  match l, h with
  | [a, b], _ => exact ⟨a, b, rfl⟩
theorem cell_tri (W : World) (x y z : Value) (t : TypeId) : (W.alloc (.cells #[x, y, z] t)).cell? ⟨W.heap.size, 0, none⟩ = some x ∧ (W.alloc (.cells #[x, y, z] t)).cell? ⟨W.heap.size, 1, none⟩ = some y ∧ (W.alloc (.cells #[x, y, z] t)).cell? ⟨W.heap.size, 2, none⟩ = some z := by
  refine ⟨?_, ?_, ?_⟩ <;> (unfold World.cell?; rw [heap_alloc_last]; rfl)
theorem Row.cell1 {B g c n : Nat} {L : List Nat} {W : World} (h : Row B (.slice (some ⟨g, 0, none⟩) n c) (nats L) W) (j : Nat) (x : Nat) (hj : L[j]? = some x) : W.cell? ⟨g, j, none⟩ = some (.int .i64 (x : Int)) := by
  have := nats_cells h j (.int .i64 (x : Int)) (by simp [nats, hj])
  have e : (⟨g, 0, none⟩ : Addr).add j = ⟨g, j, none⟩ := by simp [Addr.add]; exact fun h => h.symm
  rw [e] at this
  exact this

set_option maxHeartbeats 4000000 in
set_option maxRecDepth 100000 in
theorem Three_no (n : Int) (h : n < 2 ∨ 300 < n) (w : World) :
    Calls Try.prog 31 #[.int .i64 n] w fun e w' => e = .returned (.tuple #[.agg #[.int .i64 0, .int .i64 0, .int .i64 0], .int .i64 2]) ∧ Below w.heap.size w w' := by
  by_cases h1 : n < 2
  · have b1 : decide (n < 2) = true := by simpa using h1
    clear h
    go_enter Try.func31, Try.ntmps31
    go_wp2
    exact bodyPost_ret (v := .tuple #[.agg #[.int .i64 0, .int .i64 0, .int .i64 0], .int .i64 2]) (by simp [results, Try.results31, go_sem]) rfl ⟨rfl, (Below.refl _ _).alloc (Nat.le_refl _) _⟩
  · have b1 : decide (n < 2) = false := by simpa using h1
    have h2 : 300 < n := by omega
    have b2 : decide (300 < n) = true := by simpa using h2
    clear h
    go_enter Try.func31, Try.ntmps31
    go_wp2
    exact bodyPost_ret (v := .tuple #[.agg #[.int .i64 0, .int .i64 0, .int .i64 0], .int .i64 2]) (by simp [results, Try.results31, go_sem]) rfl ⟨rfl, (Below.refl _ _).alloc (Nat.le_refl _) _⟩

set_option maxHeartbeats 4000000 in
set_option maxRecDepth 100000 in
theorem Three_yes (n : Nat) (h1 : 2 ≤ n) (h2 : n ≤ 300) (w : World) :
    Calls Try.prog 31 #[.int .i64 (n : Int)] w fun e w' => TRes (thrF n) e ∧ Below w.heap.size w w' := by
  have hF := fun gm gf gg w he => find_any 0 maxI gm gf gg (by omega) 2 4 n 1 w (by omega) (by omega) (by omega) (by omega) (fitB_bound (by omega) (by omega) h2) (by omega) he
  have hln := fun L h => (fnd_sound 0 maxI 2 (num := 4) (den := n) (least := 1) (L := L) (by omega) (by omega) h).1
  obtain ⟨R, hR⟩ : ∃ R, thrF n = R := ⟨_, rfl⟩
  rw [hR]
  have hR2 : fnd 0 maxI 2 4 n 1 = R := hR
  simp only [hR2] at hF hln
  have HF := Lib.hid hF
  have HLN := Lib.hid hln
  have b1 : ¬ (n : Int) < 2 := by omega
  have b2 : ¬ (300 : Int) < (n : Int) := by omega
  have hb0 : Below w.heap.size w (w.alloc (.cells #[.int .i64 0, .int .i64 0, .int .i64 0] 38)) := (Below.refl _ _).alloc (Nat.le_refl _) _
  obtain ⟨p0, p1, p2⟩ := cell_tri w (.int .i64 0) (.int .i64 0) (.int .i64 0) 38
  have z0 := frozen_new w #[.int .i64 0, .int .i64 0, .int .i64 0] 0 (t := 38)
  have z1 := frozen_new w #[.int .i64 0, .int .i64 0, .int .i64 0] 1 (t := 38)
  have z2 := frozen_new w #[.int .i64 0, .int .i64 0, .int .i64 0] 2 (t := 38)
  have hsz : w.heap.size < (w.alloc (.cells #[.int .i64 0, .int .i64 0, .int .i64 0] 38)).heap.size := by simp
  have HB0 := Lib.hid hb0
  have HC := Lib.hid (And.intro p0 (And.intro p1 p2))
  have HZ := Lib.hid (And.intro z0 (And.intro z1 z2))
  have HSZ := Lib.hid hsz
  have q22 := eqNil
  clear hF hln hR hR2 hb0 p0 p1 p2 z0 z1 z2 hsz
  go_enter Try.func31, Try.ntmps31
  go_wp2_with fail
  refine (finder_max 0 _).mono ?_
  rintro e w1 ⟨⟨gm, gf, gg, rfl, he⟩, hb1⟩
  have hF2 := HF.out gm gf gg w1 he
  have HF2 := Lib.hid hF2
  have HB1 := Lib.hid hb1
  clear he hb1 hF2
  go_wp2_with fail
  refine HF2.out.mono ?_
  rintro e w2 ⟨hf, hb2⟩
  have hbb := HB1.out.trans (hb2.mono HB1.out.size)
  have r0 := (hbb.cell (p := ⟨w.heap.size, 0, none⟩) HSZ.out).trans HC.out.1
  have r1 := (hbb.cell (p := ⟨w.heap.size, 1, none⟩) HSZ.out).trans HC.out.2.1
  have r2 := (hbb.cell (p := ⟨w.heap.size, 2, none⟩) HSZ.out).trans HC.out.2.2
  have s0 := (hbb.frozen (p := ⟨w.heap.size, 0, none⟩) HSZ.out).trans HZ.out.1
  have s1 := (hbb.frozen (p := ⟨w.heap.size, 1, none⟩) HSZ.out).trans HZ.out.2.1
  have s2 := (hbb.frozen (p := ⟨w.heap.size, 2, none⟩) HSZ.out).trans HZ.out.2.2
  have HBB := Lib.hid (HB0.out.trans (hbb.mono HB0.out.size))
  clear hb2 hbb
  cases R with
  | none =>
    have he : e = .returned (.slice none 0 0) := hf
    subst he
    clear hf
    go_wp2
    refine bodyPost_ret (v := .tuple #[.agg #[.int .i64 0, .int .i64 0, .int .i64 0], .int .i64 4]) (by simp [results, Try.results31, go_sem, r0, r1, r2]) rfl ⟨rfl, ?_⟩
    exact ((HBB.out.setCell (by simp) _).setCell (by simp) _).setCell (by simp) _
  | some L =>
    obtain ⟨g, c, rfl, hr⟩ := hf
    have hl := HLN.out L rfl
    obtain ⟨x, y, z, rfl⟩ := list3 L hl
    · skip
      have k0 := hr.cell1 0 x rfl
      have k1 := hr.cell1 1 y rfl
      have k2 := hr.cell1 2 z rfl
      have hat := at38 g 3 c (by omega)
      clear hr hl
      go_wp2_with (simp only [hat])
      refine bodyPost_ret (v := .tuple #[.agg #[.int .i64 (x : Int), .int .i64 (y : Int), .int .i64 (z : Int)], .int .i64 0]) (by simp [results, Try.results31, go_sem, r0, r1, r2]) rfl ⟨rfl, ?_⟩
      exact ((HBB.out.setCell (by simp) _).setCell (by simp) _).setCell (by simp) _

set_option maxHeartbeats 4000000 in
set_option maxRecDepth 100000 in
theorem Split_no (n : Int) (h : n < 2 ∨ 100000 < n) (w : World) :
    Calls Try.prog 32 #[.int .i64 n] w fun e w' => e = .returned (.tuple #[.agg #[.int .i64 0, .int .i64 0], .int .i64 2]) ∧ Below w.heap.size w w' := by
  by_cases h1 : n < 2
  · have b1 : decide (n < 2) = true := by simpa using h1
    clear h
    go_enter Try.func32, Try.ntmps32
    go_wp2
    exact bodyPost_ret (v := .tuple #[.agg #[.int .i64 0, .int .i64 0], .int .i64 2]) (by simp [results, Try.results32, go_sem]) rfl ⟨rfl, (Below.refl _ _).alloc (Nat.le_refl _) _⟩
  · have b1 : decide (n < 2) = false := by simpa using h1
    have h2 : 100000 < n := by omega
    have b2 : decide (100000 < n) = true := by simpa using h2
    clear h
    go_enter Try.func32, Try.ntmps32
    go_wp2
    exact bodyPost_ret (v := .tuple #[.agg #[.int .i64 0, .int .i64 0], .int .i64 2]) (by simp [results, Try.results32, go_sem]) rfl ⟨rfl, (Below.refl _ _).alloc (Nat.le_refl _) _⟩

set_option maxHeartbeats 4000000 in
set_option maxRecDepth 100000 in
theorem Split_yes (n : Nat) (h1 : 2 ≤ n) (h2 : n ≤ 100000) (w : World) :
    Calls Try.prog 32 #[.int .i64 (n : Int)] w fun e w' => PRes (splF n) e ∧ Below w.heap.size w w' := by
  have hF := fun w => last_more 0 1 n w (by omega) (by omega) (by omega) (by omega) (fitB_split h2)
  have hln := fun L h => lst_len (t := 1) (a := 1) (b := n) (L := L) (by omega) (by omega) h
  obtain ⟨R, hR⟩ : ∃ R, splF n = R := ⟨_, rfl⟩
  rw [hR]
  have hR2 : lst (0 + 1) 1 n = R := hR
  have hR3 : lst 1 1 n = R := hR
  simp only [hR2] at hF
  simp only [hR3] at hln
  have HF := Lib.hid hF
  have HLN := Lib.hid hln
  have b1 : ¬ (n : Int) < 2 := by omega
  have b2 : ¬ (100000 : Int) < (n : Int) := by omega
  have hb0 : Below w.heap.size w (w.alloc (.cells #[.int .i64 0, .int .i64 0] 41)) := (Below.refl _ _).alloc (Nat.le_refl _) _
  obtain ⟨p0, p1⟩ := cell_pair w (.int .i64 0) (.int .i64 0) 41
  have z0 := frozen_new w #[.int .i64 0, .int .i64 0] 0 (t := 41)
  have z1 := frozen_new w #[.int .i64 0, .int .i64 0] 1 (t := 41)
  have hsz : w.heap.size < (w.alloc (.cells #[.int .i64 0, .int .i64 0] 41)).heap.size := by simp
  have HB0 := Lib.hid hb0
  have HC := Lib.hid (And.intro p0 p1)
  have HZ := Lib.hid (And.intro z0 z1)
  have HSZ := Lib.hid hsz
  have q22 := eqNil
  clear hF hln hR hR2 hR3 hb0 p0 p1 z0 z1 hsz
  go_enter Try.func32, Try.ntmps32
  go_wp2_with fail
  refine (HF.out _).mono ?_
  rintro e w2 ⟨hf, hbb⟩
  have r0 := (hbb.cell (p := ⟨w.heap.size, 0, none⟩) HSZ.out).trans HC.out.1
  have r1 := (hbb.cell (p := ⟨w.heap.size, 1, none⟩) HSZ.out).trans HC.out.2
  have s0 := (hbb.frozen (p := ⟨w.heap.size, 0, none⟩) HSZ.out).trans HZ.out.1
  have s1 := (hbb.frozen (p := ⟨w.heap.size, 1, none⟩) HSZ.out).trans HZ.out.2
  have HBB := Lib.hid (HB0.out.trans (hbb.mono HB0.out.size))
  clear hbb
  cases R with
  | none =>
    have he : e = .returned (.slice none 0 0) := hf
    subst he
    clear hf
    go_wp2
    refine bodyPost_ret (v := .tuple #[.agg #[.int .i64 0, .int .i64 0], .int .i64 4]) (by simp [results, Try.results32, go_sem, r0, r1]) rfl ⟨rfl, ?_⟩
    exact (HBB.out.setCell (by simp) _).setCell (by simp) _
  | some L =>
    obtain ⟨g, c, rfl, hr⟩ := hf
    have hl := HLN.out L rfl
    obtain ⟨x, y, rfl⟩ := list2 L hl
    · skip
      have k0 := hr.cell1 0 x rfl
      have k1 := hr.cell1 1 y rfl
      have hat := at41 g 2 c (by omega)
      clear hr hl
      go_wp2_with (simp only [hat])
      refine bodyPost_ret (v := .tuple #[.agg #[.int .i64 (x : Int), .int .i64 (y : Int)], .int .i64 0]) (by simp [results, Try.results32, go_sem, r0, r1]) rfl ⟨rfl, ?_⟩
      exact (HBB.out.setCell (by simp) _).setCell (by simp) _
end Go.Proofs.Ytbdiknlbmjdpeaa
