/- The walks of each, nearest, reduced and Shortest at the plain lattice of one row, and of awake. No condition. -/
import Derived.Test.YtgfenponlkmfmaaAwk3
import Derived.Test.YtgfenponlkmfmaaCopied
import Derived.Laws.EntriesVeiled
namespace Go.Proofs.Ytgfenponlkmfmaa
open Go.RowKit
attribute [local go_sem] Oper.semAt_some

/-- What the region of each keeps. -/
def SE (w1 : World) (s b off cb ta : Nat) (W : World) : Prop :=
  W.cell? ⟨s + 7, 0, none⟩ = some (.func (.func 120) #[] #[.pointer (some ⟨s + 6, 0, none⟩), .pointer (some ⟨s + 4, 0, none⟩), .pointer (some ⟨s + 3, 0, none⟩), .pointer (some ⟨s + 5, 0, none⟩), .pointer (some ⟨s + 7, 0, none⟩)]) ∧ W.cell? ⟨s + 3, 0, none⟩ = some (.slice (some ⟨b, off, none⟩) 1 cb) ∧ W.cell? ⟨s + 4, 0, none⟩ = some (.slice (some ⟨ta, 0, none⟩) 1 1) ∧ EvA w1 s b off cb ta W
theorem SE.of {w1 W : World} {s b off cb ta : Nat} (h : EvA w1 s b off cb ta W) : SE w1 s b off cb ta W := by
  obtain ⟨f, fo, h1⟩ := h
  exact ⟨h1.c7, h1.c3, h1.c4, f, fo, h1⟩
theorem SE.next {w1 W W' : World} {s b off cb ta : Nat} (h : SE w1 s b off cb ta W) (hb : Below W.heap.size W W') : SE w1 s b off cb ta W' := SE.of (h.2.2.2.below hb)
attribute [local irreducible] EvA

theorem ev_start (w1 : World) (s b off cb ta : Nat) (W : World) (hs : w1.heap.size = s) (hsz : W.heap.size = s + 3) (hb1 : Below w1.heap.size w1 W) (hbs : b < s) (hts : ta < s)
    (c0 : W.cell? ⟨s, 0, none⟩ = some (.int .i64 1)) (c1 : W.cell? ⟨s + 1, 0, none⟩ = some (.slice none 0 0)) (c2 : W.cell? ⟨s + 2, 0, none⟩ = some (.int .i64 1)) (z1 : W.frozen? ⟨s + 1, 0, none⟩ = false) (z2 : W.frozen? ⟨s + 2, 0, none⟩ = false)
    (tab : Tab w1 (some ⟨b, off, none⟩) 1 [[1]]) (ti : Ints w1 (some ⟨ta, 0, none⟩) 1 [0]) (T3 T4 T5 T6 T7 : TypeId) :
    Ev w1 s b off cb ta (.slice none 0 0) none (((((W.alloc (.cells #[.slice (some ⟨b, off, none⟩) 1 cb] T3)).alloc (.cells #[.slice (some ⟨ta, 0, none⟩) 1 1] T4)).alloc (.cells #[.int .i64 1] T5)).alloc (.cells #[.func (.func 103) #[] #[.pointer (some ⟨s, 0, none⟩), .pointer (some ⟨s + 2, 0, none⟩), .pointer (some ⟨s + 1, 0, none⟩)]] T6)).alloc (.cells #[.func (.func 120) #[] #[.pointer (some ⟨s + 6, 0, none⟩), .pointer (some ⟨s + 4, 0, none⟩), .pointer (some ⟨s + 3, 0, none⟩), .pointer (some ⟨s + 5, 0, none⟩), .pointer (some ⟨s + 7, 0, none⟩)]] T7)) := by
  have k3 := cell_box W (.slice (some ⟨b, off, none⟩) 1 cb) T3
  rw [hsz] at k3
  obtain ⟨W3, hW3⟩ : ∃ W3, W.alloc (.cells #[.slice (some ⟨b, off, none⟩) 1 cb] T3) = W3 := ⟨_, rfl⟩
  have s3 : W3.heap.size = s + 4 := by rw [← hW3]; simp [hsz]
  have b3 : Below W.heap.size W W3 := by rw [← hW3]; exact (Below.refl _ _).alloc (Nat.le_refl _) _
  rw [hW3] at k3 ⊢
  have k4 := cell_box W3 (.slice (some ⟨ta, 0, none⟩) 1 1) T4
  rw [s3] at k4
  obtain ⟨W4, hW4⟩ : ∃ W4, W3.alloc (.cells #[.slice (some ⟨ta, 0, none⟩) 1 1] T4) = W4 := ⟨_, rfl⟩
  have s4 : W4.heap.size = s + 5 := by rw [← hW4]; simp [s3]
  have b4 : Below W3.heap.size W3 W4 := by rw [← hW4]; exact (Below.refl _ _).alloc (Nat.le_refl _) _
  rw [hW4] at k4 ⊢
  have k5 := cell_box W4 (.int .i64 1) T5
  rw [s4] at k5
  obtain ⟨W5, hW5⟩ : ∃ W5, W4.alloc (.cells #[.int .i64 1] T5) = W5 := ⟨_, rfl⟩
  have s5 : W5.heap.size = s + 6 := by rw [← hW5]; simp [s4]
  have b5 : Below W4.heap.size W4 W5 := by rw [← hW5]; exact (Below.refl _ _).alloc (Nat.le_refl _) _
  rw [hW5] at k5 ⊢
  have k6 := cell_box W5 (.func (.func 103) #[] #[.pointer (some ⟨s, 0, none⟩), .pointer (some ⟨s + 2, 0, none⟩), .pointer (some ⟨s + 1, 0, none⟩)]) T6
  rw [s5] at k6
  obtain ⟨W6, hW6⟩ : ∃ W6, W5.alloc (.cells #[.func (.func 103) #[] #[.pointer (some ⟨s, 0, none⟩), .pointer (some ⟨s + 2, 0, none⟩), .pointer (some ⟨s + 1, 0, none⟩)]] T6) = W6 := ⟨_, rfl⟩
  have s6 : W6.heap.size = s + 7 := by rw [← hW6]; simp [s5]
  have b6 : Below W5.heap.size W5 W6 := by rw [← hW6]; exact (Below.refl _ _).alloc (Nat.le_refl _) _
  rw [hW6] at k6 ⊢
  have k8 := cell_box W6 (.func (.func 120) #[] #[.pointer (some ⟨s + 6, 0, none⟩), .pointer (some ⟨s + 4, 0, none⟩), .pointer (some ⟨s + 3, 0, none⟩), .pointer (some ⟨s + 5, 0, none⟩), .pointer (some ⟨s + 7, 0, none⟩)]) T7
  rw [s6] at k8
  obtain ⟨W7, hW7⟩ : ∃ W7, W6.alloc (.cells #[.func (.func 120) #[] #[.pointer (some ⟨s + 6, 0, none⟩), .pointer (some ⟨s + 4, 0, none⟩), .pointer (some ⟨s + 3, 0, none⟩), .pointer (some ⟨s + 5, 0, none⟩), .pointer (some ⟨s + 7, 0, none⟩)]] T7) = W7 := ⟨_, rfl⟩
  have s7 : W7.heap.size = s + 8 := by rw [← hW7]; simp [s6]
  have b7 : Below W6.heap.size W6 W7 := by rw [← hW7]; exact (Below.refl _ _).alloc (Nat.le_refl _) _
  rw [hW7] at k8 ⊢
  have q67 : Below W5.heap.size W5 W7 := b6.trans (b7.mono b6.size)
  have q57 : Below W4.heap.size W4 W7 := b5.trans (q67.mono b5.size)
  have q47 : Below W3.heap.size W3 W7 := b4.trans (q57.mono b4.size)
  have q37 : Below W.heap.size W W7 := b3.trans (q47.mono b3.size)
  exact ⟨hb1.trans (q37.mono hb1.size), hs, hbs, hts, by omega, cell_later c0 q37, cell_later c1 q37, cell_later c2 q37, cell_later k3 q47, cell_later k4 q57, cell_later k5 q67, cell_later k6 b7, k8, frozen_later z1 q37 (by omega), frozen_later z2 q37 (by omega), tab, ti, .inl ⟨rfl, rfl⟩⟩

set_option maxHeartbeats 4000000 in
set_option maxRecDepth 100000 in
theorem each_any (w1 : World) (s b off cb ta : Nat) (W : World) (hs : w1.heap.size = s) (hsz : W.heap.size = s + 3) (hb1 : Below w1.heap.size w1 W) (hbs : b < s) (hts : ta < s)
    (c0 : W.cell? ⟨s, 0, none⟩ = some (.int .i64 1)) (c1 : W.cell? ⟨s + 1, 0, none⟩ = some (.slice none 0 0)) (c2 : W.cell? ⟨s + 2, 0, none⟩ = some (.int .i64 1)) (z1 : W.frozen? ⟨s + 1, 0, none⟩ = false) (z2 : W.frozen? ⟨s + 2, 0, none⟩ = false)
    (tab : Tab w1 (some ⟨b, off, none⟩) 1 [[1]]) (ti : Ints w1 (some ⟨ta, 0, none⟩) 1 [0]) (hcb : 1 ≤ cb ∧ cb ≤ 1000) :
    Calls Try.prog 102 #[.slice (some ⟨b, off, none⟩) 1 cb, .slice (some ⟨ta, 0, none⟩) 1 1, .int .i64 1, .func (.func 103) #[] #[.pointer (some ⟨s, 0, none⟩), .pointer (some ⟨s + 2, 0, none⟩), .pointer (some ⟨s + 1, 0, none⟩)]] W
      fun e w' => e = .returned (.tuple #[]) ∧ ∃ f', Ev w1 s b off cb ta f' (some (-1)) w' := by
  have hev := ev_start w1 s b off cb ta W hs hsz hb1 hbs hts c0 c1 c2 z1 z2 tab ti 66 35 3 94 115
  have HEV := Lib.hid hev
  clear hev c0 c1 c2 z1 z2 tab ti hb1 hbs hts
  go_enter Try.func102, Try.ntmps102
  go_wp2
  simp only [Nat.add_assoc, Nat.reduceAdd]
  have hev := HEV.out
  obtain ⟨W7, hW7⟩ : ∃ W7, (((((W.alloc (.cells #[.slice (some ⟨b, off, none⟩) 1 cb] 66)).alloc (.cells #[.slice (some ⟨ta, 0, none⟩) 1 1] 35)).alloc (.cells #[.int .i64 1] 3)).alloc (.cells #[.func (.func 103) #[] #[.pointer (some ⟨s, 0, none⟩), .pointer (some ⟨s + 2, 0, none⟩), .pointer (some ⟨s + 1, 0, none⟩)]] 94)).alloc (.cells #[.func (.func 120) #[] #[.pointer (some ⟨s + 6, 0, none⟩), .pointer (some ⟨s + 4, 0, none⟩), .pointer (some ⟨s + 3, 0, none⟩), .pointer (some ⟨s + 5, 0, none⟩), .pointer (some ⟨s + 7, 0, none⟩)]] 115)) = W7 := ⟨_, rfl⟩
  rw [hW7] at hev ⊢
  clear hW7
  have hO : ∀ W', EvA w1 s b off cb ta W' → Calls Try.prog 79 #[.int .i64 1] W' fun e w' => ∃ g, e = .returned (.slice (some ⟨g, 0, none⟩) 1 1) ∧ w'.cell? ⟨g, 0, none⟩ = some (.int .i64 0) ∧ Below W'.heap.size W' w' := by
    intro W' hE
    refine (origin_any 1 W' (by omega)).mono ?_
    rintro e w2 ⟨g, rfl, hc, hb⟩
    exact ⟨g, rfl, hc.cell (by omega), hb⟩
  have hP : ∀ W' g, EvA w1 s b off cb ta W' → W'.cell? ⟨g, 0, none⟩ = some (.int .i64 0) → Calls Try.prog 121 #[.slice (some ⟨g, 0, none⟩) 1 1, .int .i64 (-1), .slice (some ⟨ta, 0, none⟩) 1 1] W' fun e w' => ∃ g', e = .returned (.slice (some ⟨g', 0, none⟩) 1 1) ∧ w'.cell? ⟨g', 0, none⟩ = some (.int .i64 0) ∧ Below W'.heap.size W' w' := by
    intro W' g hE hg
    unfold EvA at hE
    obtain ⟨f2, fo2, hE⟩ := hE
    refine (plus_any _ _ 1 1 1 1 [0] [0] (-1) W' (one_row hg) (hE.ti.below hE.b1) (Nat.le_refl _) (by omega)).mono ?_
    rintro e w2 ⟨g', rfl, hr, hb⟩
    rw [plus_one 0 (-1) 0 (by omega) (.inr (.inl rfl)) (by omega)] at hr
    exact ⟨g', rfl, (row_one hr).2, hb⟩
  have HO := Lib.hid hO
  have HP := Lib.hid hP
  have HE := Lib.hid hev
  have H0 := Lib.hid (SE.of (EvA.of hev))
  have HNX := Lib.hid (fun (W1 W2 : World) (hb : Below W1.heap.size W1 W2) (h : SE w1 s b off cb ta W1) => h.next hb)
  have HDR := Lib.hid (fun (W1 : World) => Below.drew (Below.refl W1.heap.size W1))
  have HA := Lib.hid (fun (W1 : World) (h : SE w1 s b off cb ta W1) => h.2.2.2)
  have HEV2 := Lib.hid (fun (W1 : World) (f' : Value) (fo' : Option Int) (h : Ev w1 s b off cb ta f' fo' W1) => SE.of (EvA.of h))
  clear hO hP hev
  go_region_held3 (fun W1 => W1.cell? ⟨s + 7, 0, none⟩ = some (.func (.func 120) #[] #[.pointer (some ⟨s + 6, 0, none⟩), .pointer (some ⟨s + 4, 0, none⟩), .pointer (some ⟨s + 3, 0, none⟩), .pointer (some ⟨s + 5, 0, none⟩), .pointer (some ⟨s + 7, 0, none⟩)]) ∧ W1.cell? ⟨s + 3, 0, none⟩ = some (.slice (some ⟨b, off, none⟩) 1 cb) ∧ W1.cell? ⟨s + 4, 0, none⟩ = some (.slice (some ⟨ta, 0, none⟩) 1 1) ∧ EvA w1 s b off cb ta W1)
    (first | assumption | exact H0.out | exact HNX.out _ _ (HDR.out _) H0.out | exact HNX.out _ _ (HDR.out _) (by assumption) | exact HNX.out _ _ hbp (by assumption) | exact HNX.out _ _ hbo (by assumption) | exact HEV2.out _ _ _ hfin)
    ((first
      | (go_at_call 79; refine (HO.out _ (HA.out _ (by assumption))).mono ?_; rintro e wx ⟨go, rfl, hco, hbo⟩)
      | (go_at_call 121; refine (HP.out _ go (HA.out _ (by assumption)) hco).mono ?_; rintro e wx ⟨g', rfl, hcg, hbp⟩)
      | (go_at_call 120; refine (choose_any w1 s b off cb ta g' _ _ (by first | exact (HE.out.below hbo).below hbp | exact ((HE.out.below (HDR.out _)).below hbo).below hbp) hcg hcb).mono ?_; rintro e wx ⟨rfl, f', hfin⟩)))
  all_goals
    go_wp2
    (try simp only [Exit.inBlock, Exit.then]); first | (refine bodyPost_ret (results_none rfl _ _ _) rfl ?_) | (refine bodyPost_end (results_none rfl _ _ _) rfl ?_)
    exact ⟨rfl, f', by first | exact hfin | exact hfin.drewN 1⟩
end Go.Proofs.Ytgfenponlkmfmaa
