/- The walks of nearest, reduced and Shortest at the plain lattice of one row, and of awake. No condition. -/
import Derived.Test.YtgfenponlkmfmaaAwk4
namespace Go.Proofs.Ytgfenponlkmfmaa
open Go.RowKit
attribute [local go_sem] Oper.semAt_some

theorem near_start (W : World) (T0 T1 T2 : TypeId) :
    ∃ W3, W3 = ((W.alloc (.cells #[.int .i64 1] T0)).alloc (.cells #[.slice none 0 0] T1)).alloc (.cells #[.int .i64 1] T2) ∧ W3.heap.size = W.heap.size + 3 ∧ Below W.heap.size W W3 ∧
      W3.cell? ⟨W.heap.size, 0, none⟩ = some (.int .i64 1) ∧ W3.cell? ⟨W.heap.size + 1, 0, none⟩ = some (.slice none 0 0) ∧ W3.cell? ⟨W.heap.size + 2, 0, none⟩ = some (.int .i64 1) ∧ W3.frozen? ⟨W.heap.size + 1, 0, none⟩ = false ∧ W3.frozen? ⟨W.heap.size + 2, 0, none⟩ = false := by
  have k0 := cell_box W (.int .i64 1) T0
  obtain ⟨W1, hW1⟩ : ∃ W1, W.alloc (.cells #[.int .i64 1] T0) = W1 := ⟨_, rfl⟩
  have s1 : W1.heap.size = W.heap.size + 1 := by rw [← hW1]; simp
  have b1 : Below W.heap.size W W1 := by rw [← hW1]; exact (Below.refl _ _).alloc (Nat.le_refl _) _
  rw [hW1] at k0 ⊢
  have k1 := cell_box W1 (.slice none 0 0) T1
  have z1 := frozen_new W1 #[.slice none 0 0] 0 (t := T1)
  rw [s1] at k1 z1
  obtain ⟨W2, hW2⟩ : ∃ W2, W1.alloc (.cells #[.slice none 0 0] T1) = W2 := ⟨_, rfl⟩
  have s2 : W2.heap.size = W.heap.size + 2 := by rw [← hW2]; simp [s1]
  have b2 : Below W1.heap.size W1 W2 := by rw [← hW2]; exact (Below.refl _ _).alloc (Nat.le_refl _) _
  rw [hW2] at k1 z1 ⊢
  have k2 := cell_box W2 (.int .i64 1) T2
  have z2 := frozen_new W2 #[.int .i64 1] 0 (t := T2)
  rw [s2] at k2 z2
  have b3 : Below W2.heap.size W2 (W2.alloc (.cells #[.int .i64 1] T2)) := (Below.refl _ _).alloc (Nat.le_refl _) _
  have q13 : Below W1.heap.size W1 (W2.alloc (.cells #[.int .i64 1] T2)) := b2.trans (b3.mono b2.size)
  have q03 : Below W.heap.size W (W2.alloc (.cells #[.int .i64 1] T2)) := b1.trans (q13.mono b1.size)
  exact ⟨_, rfl, by simp [s2], q03, cell_later k0 q13, cell_later k1 b3, k2, frozen_later z1 b3 (by omega), z2⟩

set_option maxHeartbeats 4000000 in
set_option maxRecDepth 100000 in
theorem nearest_any (b off cb ta : Nat) (W : World) (hb : b < W.heap.size) (hta : ta < W.heap.size) (tab : Tab W (some ⟨b, off, none⟩) 1 [[1]]) (ti : Ints W (some ⟨ta, 0, none⟩) 1 [0]) (hcb : 1 ≤ cb ∧ cb ≤ 1000) :
    Calls Try.prog 78 #[.slice (some ⟨b, off, none⟩) 1 cb, .slice (some ⟨ta, 0, none⟩) 1 1, .int .i64 1, .int .i64 1] W fun e w' => ∃ g, e = .returned (.slice (some ⟨g, 0, none⟩) 1 1) ∧ w'.cell? ⟨g, 0, none⟩ = some (.int .i64 (-1)) ∧ Below W.heap.size W w' := by
  obtain ⟨W3, hW3, hsz, hb3, c0, c1, c2, z1, z2⟩ := near_start W 3 35 3
  obtain ⟨s, hs⟩ : ∃ s, W.heap.size = s := ⟨_, rfl⟩
  rw [hs] at hb hta hsz c0 c1 c2 z1 z2
  have HE := Lib.hid (each_any W s b off cb ta W3 hs hsz hb3 hb hta c0 c1 c2 z1 z2 tab ti hcb)
  have HW3 := Lib.hid hW3
  clear c0 c1 c2 z1 z2 tab ti hb3 hb hta hsz hW3
  go_enter Try.func78, Try.ntmps78
  go_wp2_with fail
  rw [← HW3.out]
  refine HE.out.mono ?_
  rintro e w2 ⟨rfl, f', hev⟩
  have c1 := hev.c1
  have HB := Lib.hid hev.b1
  rcases hev.fd with ⟨h, -⟩ | ⟨g, x, hx, rfl, -, -, hc⟩
  · cases h
  · cases hx
    have HC := Lib.hid hc
    clear hev hc
    go_wp2
    go_ret
    exact ⟨g, rfl, HC.out, HB.out⟩

set_option maxHeartbeats 4000000 in
set_option maxRecDepth 100000 in
theorem reduced1_any (a : Option Addr) (c : Nat) (L : List (List Int)) (W : World) (h : Tab W a 1 L) (hL : (row L 0).length ≤ 1000000) :
    Calls Try.prog 77 #[.slice a 1 c] W fun e w' => ∃ G, e = .returned (.slice (some ⟨G, 0, none⟩) 1 1) ∧ TabO w' W.heap.size (.slice (some ⟨G, 0, none⟩) 1 1) L ∧ Below W.heap.size W w' := by
  have HC := Lib.hid (copied_any a 1 c L W h (by omega) (fun i hi => by obtain rfl : i = 0 := by omega
                                                                        exact hL))
  clear h hL
  go_enter Try.func77, Try.ntmps77
  go_wp2_with fail
  refine HC.out.mono ?_
  rintro e w1 ⟨G, rfl, ht, hb⟩
  have HT := Lib.hid (And.intro ht hb)
  clear ht hb
  go_wp2
  go_loopg [4] 0 (fun gk s4 wr => s4 = .int .i64 1 ∧ wr = w1)
  case atStart => exact ⟨rfl, rfl⟩
  case round =>
    obtain ⟨rfl, rfl⟩ := hrel
    go_wp2
    go_ret
    exact ⟨G, rfl, HT.out.1, HT.out.2⟩

theorem basis1 : isBasis [[1]] = true := by decide +kernel

set_option maxHeartbeats 4000000 in
set_option maxRecDepth 100000 in
theorem Shortest1_any (a : Option Addr) (c : Nat) (W : World) (h : Tab W a 1 [[1]]) :
    Calls Try.prog 42 #[.slice a 1 c] W fun e w' => ∃ g, e = .returned (.tuple #[.slice (some ⟨g, 0, none⟩) 1 1, .int .i64 0]) ∧ w'.cell? ⟨g, 0, none⟩ = some (.int .i64 (-1)) ∧ Below W.heap.size W w' := by
  have hV := valid_any a 1 c [[1]] W h (by omega) (fun i hi => by obtain rfl : i = 0 := by omega
                                                                  decide)
  rw [basis1] at hV
  have HV := Lib.hid hV
  have HR := Lib.hid (reduced1_any a c [[1]] W h (by decide))
  clear hV h
  go_enter Try.func42, Try.ntmps42
  go_wp2_with fail
  refine HV.out.mono ?_
  rintro e w1 ⟨rfl, rfl⟩
  go_wp2_with fail
  refine HR.out.mono ?_
  rintro e w1 ⟨G, rfl, ht, hb⟩
  obtain ⟨a1, c1, e1, htab, -⟩ := ht.form
  cases e1
  obtain ⟨b', off', ai, ci, e0, hgb, hcell, hli⟩ := htab.at (show 0 < 1 by omega)
  cases e0
  have hcell2 : w1.cell? ⟨G, 0, none⟩ = some (.slice ai 1 ci) := hcell
  have hli2 : Ints w1 ai 1 [1] := hli.ints
  have H0 := Lib.hid (BelF.begin w1)
  have HCE := Lib.hid (fun (W' : World) (hB : BelF w1.heap.size w1 W') => And.intro (cell_later hcell2 hB.to) hB)
  have HB := Lib.hid hb
  have hO : ∀ W', BelF w1.heap.size w1 W' → Calls Try.prog 79 #[.int .i64 1] W' fun e w' => ∃ g, e = .returned (.slice (some ⟨g, 0, none⟩) 1 1) ∧ w'.cell? ⟨g, 0, none⟩ = some (.int .i64 0) ∧ Below W'.heap.size W' w' := by
    intro W' hE
    refine (origin_any 1 W' (by omega)).mono ?_
    rintro e w2 ⟨g, rfl, hc, hb⟩
    exact ⟨g, rfl, hc.cell (by omega), hb⟩
  have hN : ∀ W', BelF w1.heap.size w1 W' → Calls Try.prog 80 #[.slice ai 1 ci] W' fun e w' => e = .returned (.int .i64 1) ∧ w' = W' := by
    intro W' hB
    have := norm_any ai 1 ci [1] W' (hli2.below hB.to) (by omega)
    rw [show wrap64 (dot 1 (nt [1]) (nt [1])) = 1 by decide +kernel] at this
    exact this
  have hNR : ∀ W' go, BelF w1.heap.size w1 W' → W'.cell? ⟨go, 0, none⟩ = some (.int .i64 0) → Calls Try.prog 78 #[.slice (some ⟨G, 0, none⟩) 1 1, .slice (some ⟨go, 0, none⟩) 1 1, .int .i64 1, .int .i64 1] W' fun e w' => ∃ g, e = .returned (.slice (some ⟨g, 0, none⟩) 1 1) ∧ w'.cell? ⟨g, 0, none⟩ = some (.int .i64 (-1)) ∧ Below W'.heap.size W' w' := by
    intro W' go hB hg
    exact nearest_any G 0 1 go W' (Nat.lt_of_lt_of_le hgb hB.to.size) (World.block_lt_of_cell? _ _ hg) (htab.below hB.to) (one_row hg) (by omega)
  have HO := Lib.hid hO
  have HN := Lib.hid hN
  have HNR := Lib.hid hNR
  have HNX := Lib.hid (fun (W1 W2 : World) (hb : Below W1.heap.size W1 W2) (h : BelF w1.heap.size w1 W1) => h.next hb)
  have HDR := Lib.hid (fun (W1 : World) => Below.drew (Below.refl W1.heap.size W1))
  have HC2 := Lib.hid (fun (W1 : World) (hB : W1.cell? ⟨G, 0, none⟩ = some (.slice ai 1 ci) ∧ BelF w1.heap.size w1 W1) => hB.2)
  clear hO hN hNR hcell hcell2 hli hli2 htab ht hb hgb
  go_wp2
  go_region_held3 (fun W1 => W1.cell? ⟨G, 0, none⟩ = some (.slice ai 1 ci) ∧ BelF w1.heap.size w1 W1)
    (first | assumption | exact HCE.out _ H0.out | exact HCE.out _ (HNX.out _ _ (HDR.out _) H0.out) | exact HCE.out _ (HNX.out _ _ (HDR.out _) (HC2.out _ (by assumption))) | exact HCE.out _ (HNX.out _ _ hbo (HC2.out _ (by assumption))) | exact HCE.out _ (HNX.out _ _ hbn (HC2.out _ (by assumption))))
    ((first
      | (go_at_call 79; refine (HO.out _ (HC2.out _ (by assumption))).mono ?_; rintro e wx ⟨go, rfl, hco, hbo⟩)
      | (go_at_call 80; refine (HN.out _ (HC2.out _ (by assumption))).mono ?_; rintro e wx ⟨rfl, rfl⟩)
      | (go_at_call 78; refine (HNR.out _ go (HC2.out _ (by assumption)) hco).mono ?_; rintro e wx ⟨g, rfl, hcg, hbn⟩)))
  all_goals
    go_wp2
    go_ret2
    exact ⟨g, rfl, by first | exact hcg | exact cell_later hcg (HDR.out _), by first | exact HB.out.trans ((BelF.to (HC2.out _ (by assumption))).mono HB.out.size) | exact HB.out.trans ((BelF.to (BelF.drew (HC2.out _ (by assumption)))).mono HB.out.size)⟩

theorem lit_tab (W : World) (T0 T1 : TypeId) : Tab ((W.alloc (.cells #[.int .i64 1] T0)).alloc (.cells #[.slice (some ⟨W.heap.size, 0, none⟩) 1 1] T1)) (some ⟨W.heap.size + 1, 0, none⟩) 1 [[1]] := by
  have k0 := cell_box W (.int .i64 1) T0
  have k1 := cell_box (W.alloc (.cells #[.int .i64 1] T0)) (.slice (some ⟨W.heap.size, 0, none⟩) 1 1) T1
  have s1 : (W.alloc (.cells #[.int .i64 1] T0)).heap.size = W.heap.size + 1 := by simp
  rw [s1] at k1
  have k2 := cell_later k0 ((Below.refl (W.alloc (.cells #[.int .i64 1] T0)).heap.size _).alloc (Nat.le_refl _) (.cells #[.slice (some ⟨W.heap.size, 0, none⟩) 1 1] T1))
  refine ⟨rfl, .inr ⟨W.heap.size + 1, 0, rfl, by simp, fun i hi => ?_⟩⟩
  obtain rfl : i = 0 := by omega
  exact ⟨some ⟨W.heap.size, 0, none⟩, 1, k1, ⟨one_row k2, by simp [row], by unfold maxLen; omega⟩⟩

set_option maxHeartbeats 4000000 in
set_option maxRecDepth 100000 in
theorem awake_any (W : World) : Calls Try.prog 23 #[] W fun e w' => e = .returned (.bool true) ∧ Below W.heap.size W w' := by
  have HB0 := Lib.hid (((Below.refl W.heap.size W).alloc (Nat.le_refl _) (.cells #[.int .i64 1] 3)).alloc (by simp) (.cells #[.slice (some ⟨W.heap.size, 0, none⟩) 1 1] 35))
  have HS := Lib.hid (Shortest1_any (some ⟨W.heap.size + 1, 0, none⟩) 1 _ (lit_tab W 3 35))
  go_enter Try.func23, Try.ntmps23
  go_wp2_with fail
  refine HS.out.mono ?_
  rintro e w1 ⟨g, rfl, hc, hb⟩
  have HB := Lib.hid (HB0.out.trans (hb.mono HB0.out.size))
  have hb2 := (Below.refl w1.heap.size w1).alloc (Nat.le_refl _) (.cells #[.int .i64 (-1)] 3)
  have HEQ := Lib.hid (equal_any (some ⟨g, 0, none⟩) (some ⟨w1.heap.size, 0, none⟩) 1 1 1 1 [-1] [-1] _ (one_row (cell_later hc hb2)) (one_row (cell_box w1 (.int .i64 (-1)) 3)) (by omega) (by omega))
  have HB2 := Lib.hid hb2
  clear hc hb hb2
  go_wp2_with fail
  refine HEQ.out.mono ?_
  rintro e w2 ⟨rfl, q, rfl⟩
  go_wp2
  go_ret
  exact ⟨ret_bool (by decide), below_drewN (HB.out.trans (HB2.out.mono HB.out.size)) q⟩
end Go.Proofs.Ytgfenponlkmfmaa
