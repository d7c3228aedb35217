/- The walk of choose, at the plain lattice of one row. Condition: the boxes lie in memory. -/
import Derived.Test.YtgfenponlkmfmaaAwk1
namespace Go.Proofs.Ytgfenponlkmfmaa
open Go.RowKit
attribute [local go_sem] Oper.semAt_some

def EvA (w1 : World) (s b off cb ta : Nat) (W : World) : Prop := ∃ f fo, Ev w1 s b off cb ta f fo W
theorem EvA.of {w1 W : World} {s b off cb ta : Nat} {f : Value} {fo : Option Int} (h : Ev w1 s b off cb ta f fo W) : EvA w1 s b off cb ta W := ⟨f, fo, h⟩
theorem EvA.below {w1 W W' : World} {s b off cb ta : Nat} (h : EvA w1 s b off cb ta W) (hb : Below W.heap.size W W') : EvA w1 s b off cb ta W' := by
  obtain ⟨f, fo, h⟩ := h
  exact ⟨f, fo, h.below hb⟩
def fn3 (s : Nat) : Value := .func (.func 103) #[] #[.pointer (some ⟨s, 0, none⟩), .pointer (some ⟨s + 2, 0, none⟩), .pointer (some ⟨s + 1, 0, none⟩)]
/-- What a region of the leaf keeps. -/
def SL (w1 : World) (s b off cb ta : Nat) (W : World) : Prop :=
  W.cell? ⟨s + 6, 0, none⟩ = some (.func (.func 103) #[] #[.pointer (some ⟨s, 0, none⟩), .pointer (some ⟨s + 2, 0, none⟩), .pointer (some ⟨s + 1, 0, none⟩)]) ∧ W.cell? ⟨s + 4, 0, none⟩ = some (.slice (some ⟨ta, 0, none⟩) 1 1) ∧ EvA w1 s b off cb ta W
theorem SL.of {w1 W : World} {s b off cb ta : Nat} (h : EvA w1 s b off cb ta W) : SL w1 s b off cb ta W := by
  obtain ⟨f, fo, h1⟩ := h
  exact ⟨h1.c6, h1.c4, f, fo, h1⟩
theorem SL.next {w1 W W' : World} {s b off cb ta : Nat} (h : SL w1 s b off cb ta W) (hb : Below W.heap.size W W') : SL w1 s b off cb ta W' := SL.of (h.2.2.below hb)
attribute [local irreducible] EvA

theorem one_row {W : World} {g : Nat} {x : Int} (hx : W.cell? ⟨g, 0, none⟩ = some (.int .i64 x)) : Ints W (some ⟨g, 0, none⟩) 1 [x] :=
  ⟨rfl, .inr ⟨g, 0, rfl, World.block_lt_of_cell? _ _ hx, fun j hj => by
    obtain rfl : j = 0 := by omega
    exact hx⟩⟩
theorem plus_one (x k y : Int) (h : -100 ≤ x ∧ x ≤ 100) (hk : k = 1 ∨ k = -1 ∨ k = 0) (hy : -1 ≤ y ∧ y ≤ 1) : plusL 1 (nt [x]) k (nt [y]) = [x + k * y] := by
  have e : plusL 1 (nt [x]) k (nt [y]) = [wrap64 (x + wrap64 (k * y))] := rfl
  rw [e]
  rcases hk with rfl | rfl | rfl
  · rw [IntWalk.wrap64_in (1 * y) (by omega), IntWalk.wrap64_in (x + 1 * y) (by omega)]
  · rw [IntWalk.wrap64_in (-1 * y) (by omega), IntWalk.wrap64_in (x + -1 * y) (by omega)]
  · rw [IntWalk.wrap64_in (0 * y) (by omega), IntWalk.wrap64_in (x + 0 * y) (by omega)]
/-- A row of one number of the call's own: its block is new. -/
theorem row_one {B g : Nat} {x : Int} {W : World} (h : Row B (.slice (some ⟨g, 0, none⟩) 1 1) [x] W) : B ≤ g ∧ W.cell? ⟨g, 0, none⟩ = some (.int .i64 x) := by
  have h1 := World.ownsRow.lt (h := h) g rfl
  refine ⟨h1.1, ?_⟩
  obtain ⟨a, c, e, hi, -⟩ := h.form
  cases e
  obtain ⟨b, off, e2, h2, h3⟩ := hi.at (by simp)
  cases e2
  exact h3 0 (by simp)

set_option maxHeartbeats 2000000 in
set_option maxRecDepth 100000 in
theorem leaf_any (w1 : World) (s b off cb ta g : Nat) (f : Value) (fo : Option Int) (y : Int) (W : World) (h : Ev w1 s b off cb ta f fo W) (hx : W.cell? ⟨g, 0, none⟩ = some (.int .i64 y)) (hy : y = 0 ∨ y = 1 ∨ y = -1) :
    Calls Try.prog 120 #[.int .i64 (-1), .slice (some ⟨g, 0, none⟩) 1 1, .pointer (some ⟨s + 6, 0, none⟩), .pointer (some ⟨s + 4, 0, none⟩), .pointer (some ⟨s + 3, 0, none⟩), .pointer (some ⟨s + 5, 0, none⟩), .pointer (some ⟨s + 7, 0, none⟩)] W
      fun e w' => e = .returned (.tuple #[]) ∧ (∃ f', Ev w1 s b off cb ta f' (stepV fo y (y * y)) w') ∧ Kp s W w' := by
  have hsz := h.sz
  have hP : ∀ W', EvA w1 s b off cb ta W' → W'.cell? ⟨g, 0, none⟩ = some (.int .i64 y) → Calls Try.prog 121 #[.slice (some ⟨g, 0, none⟩) 1 1, .int .i64 1, .slice (some ⟨ta, 0, none⟩) 1 1] W' fun e w' => ∃ g', e = .returned (.slice (some ⟨g', 0, none⟩) 1 1) ∧ s + 8 ≤ g' ∧ w'.cell? ⟨g', 0, none⟩ = some (.int .i64 y) ∧ Below W'.heap.size W' w' := by
    intro W' hE hg
    unfold EvA at hE
    obtain ⟨f2, fo2, hE⟩ := hE
    refine (plus_any _ _ 1 1 1 1 [y] [0] 1 W' (one_row hg) (hE.ti.below hE.b1) (Nat.le_refl _) (by omega)).mono ?_
    rintro e w2 ⟨g', rfl, hr, hb⟩
    rw [plus_one y 1 0 (by omega) (.inl rfl) (by omega), show y + 1 * 0 = y by omega] at hr
    obtain ⟨r1, r2⟩ := row_one hr
    exact ⟨g', rfl, by have := hE.sz; omega, r2, hb⟩
  have hN : ∀ W', W'.cell? ⟨g, 0, none⟩ = some (.int .i64 y) → Calls Try.prog 80 #[.slice (some ⟨g, 0, none⟩) 1 1] W' fun e w' => e = .returned (.int .i64 (y * y)) ∧ w' = W' := by
    intro W' hg
    have := norm_any (some ⟨g, 0, none⟩) 1 1 [y] W' (one_row hg) (by omega)
    rw [show dot 1 (nt [y]) (nt [y]) = y * y by simp [dot, sm, nt], IntWalk.wrap64_in (y * y) (by rcases hy with rfl | rfl | rfl <;> omega)] at this
    exact this
  obtain ⟨D, hD⟩ : ∃ D, y * y = D := ⟨_, rfl⟩
  have hd1 : D = 0 ∨ D = 1 := by rcases hy with rfl | rfl | rfl <;> omega
  rw [hD] at hN ⊢
  have HP := Lib.hid hP
  have HN := Lib.hid hN
  have HD := Lib.hid hd1
  have HE := Lib.hid h
  have HX := Lib.hid hx
  have H0 := Lib.hid (SL.of (EvA.of h))
  have HNX := Lib.hid (fun (W1 W2 : World) (hb : Below W1.heap.size W1 W2) (h : SL w1 s b off cb ta W1) => h.next hb)
  have HDR := Lib.hid (fun (W1 : World) => Below.drew (Below.refl W1.heap.size W1))
  have HA := Lib.hid (fun (W1 : World) (h : SL w1 s b off cb ta W1) => h.2.2)
  have HEV := Lib.hid (fun (W1 : World) (f' : Value) (fo' : Option Int) (h : Ev w1 s b off cb ta f' fo' W1) => SL.of (EvA.of h))
  clear hP hN hD hd1 h hx hy
  go_enter Try.func120, Try.ntmps120
  go_wp2
  go_region_held3 (fun W1 => W1.cell? ⟨s + 6, 0, none⟩ = some (.func (.func 103) #[] #[.pointer (some ⟨s, 0, none⟩), .pointer (some ⟨s + 2, 0, none⟩), .pointer (some ⟨s + 1, 0, none⟩)]) ∧ W1.cell? ⟨s + 4, 0, none⟩ = some (.slice (some ⟨ta, 0, none⟩) 1 1) ∧ EvA w1 s b off cb ta W1)
    (first | assumption | exact H0.out | exact HNX.out _ _ (HDR.out _) H0.out | exact HNX.out _ _ (HDR.out _) (by assumption) | exact HNX.out _ _ hbp (by assumption) | exact HEV.out _ _ _ hev)
    ((first
      | (go_at_call 121; refine (HP.out _ (HA.out _ (by assumption)) (by first | exact HX.out | exact cell_later HX.out (HDR.out _))).mono ?_; rintro e wx ⟨g', rfl, hg', hcg, hbp⟩)
      | (go_at_call 80; refine (HN.out _ (by first | exact HX.out | exact cell_later HX.out hbp | exact cell_later HX.out (HDR.out _) | exact cell_later (cell_later HX.out (HDR.out _)) hbp)).mono ?_; rintro e wx ⟨rfl, rfl⟩)
      | (go_at_call 103; refine (visit_any w1 s b off cb ta g' f fo y D _ (by first | exact HE.out.below hbp | exact (HE.out.below (HDR.out _)).below hbp) hg' hcg HD.out).mono ?_; rintro e wx ⟨rfl, ⟨f', hev⟩, hkp⟩)))
  all_goals
    go_wp2
    (try simp only [Exit.inBlock, Exit.then]); first | (refine bodyPost_ret (results_none rfl _ _ _) rfl ?_) | (refine bodyPost_end (results_none rfl _ _ _) rfl ?_)
    exact ⟨rfl, ⟨f', by first | exact hev | exact hev.drewN 1⟩, by first | exact (Kp.below hbp).trans hkp | exact ((Kp.below (HDR.out _)).trans (Kp.below hbp)).trans hkp | exact ((Kp.below hbp).trans hkp).drew⟩
end Go.Proofs.Ytgfenponlkmfmaa
