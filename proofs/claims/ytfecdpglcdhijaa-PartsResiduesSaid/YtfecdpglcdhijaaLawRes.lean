/- The law PartsResidues: its walk in every case. No condition on the argument. -/
import Derived.Test.YtfecdpglcdhijaaResMath
import Derived.Test.YtfecdpglcdhijaaLawLists
namespace Go.Proofs.Ytfecdpglcdhijaa
open Go.RowKit

theorem three_ints {w W : World} (h : Below w.heap.size w W) : At w (W.alloc (.cells #[.int .i64 5, .int .i64 7, .int .i64 11] 3)) (some ⟨W.heap.size, 0, none⟩) 3 [5, 7, 11] := by
  have h1 := World.ownsRow_lit (base := w.heap.size) (e := 3) (size := 1) W #[.int .i64 5, .int .i64 7, .int .i64 11] 3 h.size (by unfold maxLen; omega) rfl
  exact ⟨h.alloc h.size _, (Ints.own (xs := [5, 7, 11]) h1).1⟩
/-- All that a round of the law's first loop knows. -/
structure RO (w W1 W : World) (a : Option Addr) (b : Nat) (T : List (List Int)) : Prop where
  bb : Below W1.heap.size W1 W
  b0 : Below w.heap.size w W1
  t : TabR W1 a T
  i : Ints W1 (some ⟨b, 0, none⟩) 3 [5, 7, 11]
theorem RO.cells {w W1 W : World} {a : Option Addr} {b : Nat} {T : List (List Int)} (h : RO w W1 W a b T) : W.cell? ⟨b, 0, none⟩ = some (.int .i64 5) ∧ W.cell? ⟨b, 1, none⟩ = some (.int .i64 7) ∧ W.cell? ⟨b, 2, none⟩ = some (.int .i64 11) := by
  obtain ⟨b', off, e, -, hc⟩ := (h.i.below h.bb).at (by omega)
  cases e
  exact ⟨by simpa using hc 0 (by omega), by simpa using hc 1 (by omega), by simpa using hc 2 (by omega)⟩

theorem mk5 (w : World) : (Instr.makeSlice 33 (.int .i64 5) (.int .i64 5)).run Try.prog w = .ok (.slice (some ⟨w.heap.size, 0, none⟩) 5 5) (w.alloc (.cells #[.int .i64 0, .int .i64 0, .int .i64 0, .int .i64 0, .int .i64 0] 3)) := by kernel_rfl
theorem mk7 (w : World) : (Instr.makeSlice 33 (.int .i64 7) (.int .i64 7)).run Try.prog w = .ok (.slice (some ⟨w.heap.size, 0, none⟩) 7 7) (w.alloc (.cells #[.int .i64 0, .int .i64 0, .int .i64 0, .int .i64 0, .int .i64 0, .int .i64 0, .int .i64 0] 3)) := by kernel_rfl
theorem mk11 (w : World) : (Instr.makeSlice 33 (.int .i64 11) (.int .i64 11)).run Try.prog w = .ok (.slice (some ⟨w.heap.size, 0, none⟩) 11 11) (w.alloc (.cells #[.int .i64 0, .int .i64 0, .int .i64 0, .int .i64 0, .int .i64 0, .int .i64 0, .int .i64 0, .int .i64 0, .int .i64 0, .int .i64 0, .int .i64 0] 3)) := by kernel_rfl

theorem rows5 {w W1 W : World} {a : Option Addr} {b : Nat} {T : List (List Int)} (h : RO w W1 W a b T) (q : Nat) : CoState W.heap.size 5 (cntL rankL 5 (T.take 0)) W1 (((W.drewN q).alloc (.cells #[.int .i64 0, .int .i64 0, .int .i64 0, .int .i64 0, .int .i64 0] 3)).alloc (.cells #[.int .i64 0, .int .i64 0, .int .i64 0, .int .i64 0, .int .i64 0] 3)) ∧ CoState (W.heap.size + 1) 5 (cntL crankL 5 (T.take 0)) W1 (((W.drewN q).alloc (.cells #[.int .i64 0, .int .i64 0, .int .i64 0, .int .i64 0, .int .i64 0] 3)).alloc (.cells #[.int .i64 0, .int .i64 0, .int .i64 0, .int .i64 0, .int .i64 0] 3))
    ∧ CoState W.heap.size 5 (cntL crankL 5 (T.take 0)) W1 (((W.drewN q).alloc (.cells #[.int .i64 0, .int .i64 0, .int .i64 0, .int .i64 0, .int .i64 0] 3)).alloc (.cells #[.int .i64 0, .int .i64 0, .int .i64 0, .int .i64 0, .int .i64 0] 3)) ∧ CoState (W.heap.size + 1) 5 (cntL rankL 5 (T.take 0)) W1 (((W.drewN q).alloc (.cells #[.int .i64 0, .int .i64 0, .int .i64 0, .int .i64 0, .int .i64 0] 3)).alloc (.cells #[.int .i64 0, .int .i64 0, .int .i64 0, .int .i64 0, .int .i64 0] 3)) := by
  have hs' : W1.heap.size ≤ W.heap.size := h.bb.size
  have hs : W1.heap.size ≤ (W.drewN q).heap.size := hs'
  have h1 := World.ownsRow_lit (base := W1.heap.size) (e := 3) (size := 1) (W.drewN q) #[.int .i64 0, .int .i64 0, .int .i64 0, .int .i64 0, .int .i64 0] 5 hs (by unfold maxLen; omega) rfl
  have h2 := World.ownsRow_lit (base := W1.heap.size) (e := 3) (size := 1) ((W.drewN q).alloc (.cells #[.int .i64 0, .int .i64 0, .int .i64 0, .int .i64 0, .int .i64 0] 3)) #[.int .i64 0, .int .i64 0, .int .i64 0, .int .i64 0, .int .i64 0] 5 (by simp; omega) (by unfold maxLen; omega) rfl
  rw [show ((W.drewN q).alloc (.cells #[.int .i64 0, .int .i64 0, .int .i64 0, .int .i64 0, .int .i64 0] 3)).heap.size = W.heap.size + 1 by simp [World.drewN]] at h2
  have hb : Below W1.heap.size W1 (((W.drewN q).alloc (.cells #[.int .i64 0, .int .i64 0, .int .i64 0, .int .i64 0, .int .i64 0] 3)).alloc (.cells #[.int .i64 0, .int .i64 0, .int .i64 0, .int .i64 0, .int .i64 0] 3)) := ((below_drewN h.bb q).alloc hs _).alloc (by simp; omega) _
  have k1 : CoState W.heap.size 5 (fun _ => 0) W1 (((W.drewN q).alloc (.cells #[.int .i64 0, .int .i64 0, .int .i64 0, .int .i64 0, .int .i64 0] 3)).alloc (.cells #[.int .i64 0, .int .i64 0, .int .i64 0, .int .i64 0, .int .i64 0] 3)) := ⟨hb, h1.alloc _⟩
  have k2 : CoState (W.heap.size + 1) 5 (fun _ => 0) W1 (((W.drewN q).alloc (.cells #[.int .i64 0, .int .i64 0, .int .i64 0, .int .i64 0, .int .i64 0] 3)).alloc (.cells #[.int .i64 0, .int .i64 0, .int .i64 0, .int .i64 0, .int .i64 0] 3)) := ⟨hb, h2⟩
  have e : ∀ (F : List Int → Int) (j : Nat), (0 : Int) = cntL F 5 (T.take 0) j := fun F j => rfl
  exact ⟨k1.congr fun j _ => e _ j, k2.congr fun j _ => e _ j, k1.congr fun j _ => e _ j, k2.congr fun j _ => e _ j⟩
theorem rows7 {w W1 W : World} {a : Option Addr} {b : Nat} {T : List (List Int)} (h : RO w W1 W a b T) (q : Nat) : CoState W.heap.size 7 (cntL rankL 7 (T.take 0)) W1 (((W.drewN q).alloc (.cells #[.int .i64 0, .int .i64 0, .int .i64 0, .int .i64 0, .int .i64 0, .int .i64 0, .int .i64 0] 3)).alloc (.cells #[.int .i64 0, .int .i64 0, .int .i64 0, .int .i64 0, .int .i64 0, .int .i64 0, .int .i64 0] 3)) ∧ CoState (W.heap.size + 1) 7 (cntL crankL 7 (T.take 0)) W1 (((W.drewN q).alloc (.cells #[.int .i64 0, .int .i64 0, .int .i64 0, .int .i64 0, .int .i64 0, .int .i64 0, .int .i64 0] 3)).alloc (.cells #[.int .i64 0, .int .i64 0, .int .i64 0, .int .i64 0, .int .i64 0, .int .i64 0, .int .i64 0] 3))
    ∧ CoState W.heap.size 7 (cntL crankL 7 (T.take 0)) W1 (((W.drewN q).alloc (.cells #[.int .i64 0, .int .i64 0, .int .i64 0, .int .i64 0, .int .i64 0, .int .i64 0, .int .i64 0] 3)).alloc (.cells #[.int .i64 0, .int .i64 0, .int .i64 0, .int .i64 0, .int .i64 0, .int .i64 0, .int .i64 0] 3)) ∧ CoState (W.heap.size + 1) 7 (cntL rankL 7 (T.take 0)) W1 (((W.drewN q).alloc (.cells #[.int .i64 0, .int .i64 0, .int .i64 0, .int .i64 0, .int .i64 0, .int .i64 0, .int .i64 0] 3)).alloc (.cells #[.int .i64 0, .int .i64 0, .int .i64 0, .int .i64 0, .int .i64 0, .int .i64 0, .int .i64 0] 3)) := by
  have hs' : W1.heap.size ≤ W.heap.size := h.bb.size
  have hs : W1.heap.size ≤ (W.drewN q).heap.size := hs'
  have h1 := World.ownsRow_lit (base := W1.heap.size) (e := 3) (size := 1) (W.drewN q) #[.int .i64 0, .int .i64 0, .int .i64 0, .int .i64 0, .int .i64 0, .int .i64 0, .int .i64 0] 7 hs (by unfold maxLen; omega) rfl
  have h2 := World.ownsRow_lit (base := W1.heap.size) (e := 3) (size := 1) ((W.drewN q).alloc (.cells #[.int .i64 0, .int .i64 0, .int .i64 0, .int .i64 0, .int .i64 0, .int .i64 0, .int .i64 0] 3)) #[.int .i64 0, .int .i64 0, .int .i64 0, .int .i64 0, .int .i64 0, .int .i64 0, .int .i64 0] 7 (by simp; omega) (by unfold maxLen; omega) rfl
  rw [show ((W.drewN q).alloc (.cells #[.int .i64 0, .int .i64 0, .int .i64 0, .int .i64 0, .int .i64 0, .int .i64 0, .int .i64 0] 3)).heap.size = W.heap.size + 1 by simp [World.drewN]] at h2
  have hb : Below W1.heap.size W1 (((W.drewN q).alloc (.cells #[.int .i64 0, .int .i64 0, .int .i64 0, .int .i64 0, .int .i64 0, .int .i64 0, .int .i64 0] 3)).alloc (.cells #[.int .i64 0, .int .i64 0, .int .i64 0, .int .i64 0, .int .i64 0, .int .i64 0, .int .i64 0] 3)) := ((below_drewN h.bb q).alloc hs _).alloc (by simp; omega) _
  have k1 : CoState W.heap.size 7 (fun _ => 0) W1 (((W.drewN q).alloc (.cells #[.int .i64 0, .int .i64 0, .int .i64 0, .int .i64 0, .int .i64 0, .int .i64 0, .int .i64 0] 3)).alloc (.cells #[.int .i64 0, .int .i64 0, .int .i64 0, .int .i64 0, .int .i64 0, .int .i64 0, .int .i64 0] 3)) := ⟨hb, h1.alloc _⟩
  have k2 : CoState (W.heap.size + 1) 7 (fun _ => 0) W1 (((W.drewN q).alloc (.cells #[.int .i64 0, .int .i64 0, .int .i64 0, .int .i64 0, .int .i64 0, .int .i64 0, .int .i64 0] 3)).alloc (.cells #[.int .i64 0, .int .i64 0, .int .i64 0, .int .i64 0, .int .i64 0, .int .i64 0, .int .i64 0] 3)) := ⟨hb, h2⟩
  have e : ∀ (F : List Int → Int) (j : Nat), (0 : Int) = cntL F 7 (T.take 0) j := fun F j => rfl
  exact ⟨k1.congr fun j _ => e _ j, k2.congr fun j _ => e _ j, k1.congr fun j _ => e _ j, k2.congr fun j _ => e _ j⟩
theorem rows11 {w W1 W : World} {a : Option Addr} {b : Nat} {T : List (List Int)} (h : RO w W1 W a b T) (q : Nat) : CoState W.heap.size 11 (cntL rankL 11 (T.take 0)) W1 (((W.drewN q).alloc (.cells #[.int .i64 0, .int .i64 0, .int .i64 0, .int .i64 0, .int .i64 0, .int .i64 0, .int .i64 0, .int .i64 0, .int .i64 0, .int .i64 0, .int .i64 0] 3)).alloc (.cells #[.int .i64 0, .int .i64 0, .int .i64 0, .int .i64 0, .int .i64 0, .int .i64 0, .int .i64 0, .int .i64 0, .int .i64 0, .int .i64 0, .int .i64 0] 3)) ∧ CoState (W.heap.size + 1) 11 (cntL crankL 11 (T.take 0)) W1 (((W.drewN q).alloc (.cells #[.int .i64 0, .int .i64 0, .int .i64 0, .int .i64 0, .int .i64 0, .int .i64 0, .int .i64 0, .int .i64 0, .int .i64 0, .int .i64 0, .int .i64 0] 3)).alloc (.cells #[.int .i64 0, .int .i64 0, .int .i64 0, .int .i64 0, .int .i64 0, .int .i64 0, .int .i64 0, .int .i64 0, .int .i64 0, .int .i64 0, .int .i64 0] 3))
    ∧ CoState W.heap.size 11 (cntL crankL 11 (T.take 0)) W1 (((W.drewN q).alloc (.cells #[.int .i64 0, .int .i64 0, .int .i64 0, .int .i64 0, .int .i64 0, .int .i64 0, .int .i64 0, .int .i64 0, .int .i64 0, .int .i64 0, .int .i64 0] 3)).alloc (.cells #[.int .i64 0, .int .i64 0, .int .i64 0, .int .i64 0, .int .i64 0, .int .i64 0, .int .i64 0, .int .i64 0, .int .i64 0, .int .i64 0, .int .i64 0] 3)) ∧ CoState (W.heap.size + 1) 11 (cntL rankL 11 (T.take 0)) W1 (((W.drewN q).alloc (.cells #[.int .i64 0, .int .i64 0, .int .i64 0, .int .i64 0, .int .i64 0, .int .i64 0, .int .i64 0, .int .i64 0, .int .i64 0, .int .i64 0, .int .i64 0] 3)).alloc (.cells #[.int .i64 0, .int .i64 0, .int .i64 0, .int .i64 0, .int .i64 0, .int .i64 0, .int .i64 0, .int .i64 0, .int .i64 0, .int .i64 0, .int .i64 0] 3)) := by
  have hs' : W1.heap.size ≤ W.heap.size := h.bb.size
  have hs : W1.heap.size ≤ (W.drewN q).heap.size := hs'
  have h1 := World.ownsRow_lit (base := W1.heap.size) (e := 3) (size := 1) (W.drewN q) #[.int .i64 0, .int .i64 0, .int .i64 0, .int .i64 0, .int .i64 0, .int .i64 0, .int .i64 0, .int .i64 0, .int .i64 0, .int .i64 0, .int .i64 0] 11 hs (by unfold maxLen; omega) rfl
  have h2 := World.ownsRow_lit (base := W1.heap.size) (e := 3) (size := 1) ((W.drewN q).alloc (.cells #[.int .i64 0, .int .i64 0, .int .i64 0, .int .i64 0, .int .i64 0, .int .i64 0, .int .i64 0, .int .i64 0, .int .i64 0, .int .i64 0, .int .i64 0] 3)) #[.int .i64 0, .int .i64 0, .int .i64 0, .int .i64 0, .int .i64 0, .int .i64 0, .int .i64 0, .int .i64 0, .int .i64 0, .int .i64 0, .int .i64 0] 11 (by simp; omega) (by unfold maxLen; omega) rfl
  rw [show ((W.drewN q).alloc (.cells #[.int .i64 0, .int .i64 0, .int .i64 0, .int .i64 0, .int .i64 0, .int .i64 0, .int .i64 0, .int .i64 0, .int .i64 0, .int .i64 0, .int .i64 0] 3)).heap.size = W.heap.size + 1 by simp [World.drewN]] at h2
  have hb : Below W1.heap.size W1 (((W.drewN q).alloc (.cells #[.int .i64 0, .int .i64 0, .int .i64 0, .int .i64 0, .int .i64 0, .int .i64 0, .int .i64 0, .int .i64 0, .int .i64 0, .int .i64 0, .int .i64 0] 3)).alloc (.cells #[.int .i64 0, .int .i64 0, .int .i64 0, .int .i64 0, .int .i64 0, .int .i64 0, .int .i64 0, .int .i64 0, .int .i64 0, .int .i64 0, .int .i64 0] 3)) := ((below_drewN h.bb q).alloc hs _).alloc (by simp; omega) _
  have k1 : CoState W.heap.size 11 (fun _ => 0) W1 (((W.drewN q).alloc (.cells #[.int .i64 0, .int .i64 0, .int .i64 0, .int .i64 0, .int .i64 0, .int .i64 0, .int .i64 0, .int .i64 0, .int .i64 0, .int .i64 0, .int .i64 0] 3)).alloc (.cells #[.int .i64 0, .int .i64 0, .int .i64 0, .int .i64 0, .int .i64 0, .int .i64 0, .int .i64 0, .int .i64 0, .int .i64 0, .int .i64 0, .int .i64 0] 3)) := ⟨hb, h1.alloc _⟩
  have k2 : CoState (W.heap.size + 1) 11 (fun _ => 0) W1 (((W.drewN q).alloc (.cells #[.int .i64 0, .int .i64 0, .int .i64 0, .int .i64 0, .int .i64 0, .int .i64 0, .int .i64 0, .int .i64 0, .int .i64 0, .int .i64 0, .int .i64 0] 3)).alloc (.cells #[.int .i64 0, .int .i64 0, .int .i64 0, .int .i64 0, .int .i64 0, .int .i64 0, .int .i64 0, .int .i64 0, .int .i64 0, .int .i64 0, .int .i64 0] 3)) := ⟨hb, h2⟩
  have e : ∀ (F : List Int → Int) (j : Nat), (0 : Int) = cntL F 11 (T.take 0) j := fun F j => rfl
  exact ⟨k1.congr fun j _ => e _ j, k2.congr fun j _ => e _ j, k1.congr fun j _ => e _ j, k2.congr fun j _ => e _ j⟩
theorem CoState.drewN {g m : Nat} {f : Nat → Int} {w W : World} (h : CoState g m f w W) (q : Nat) : CoState g m f w (W.drewN q) := ⟨below_drewN h.b q, own_same h.own fun _ _ _ => rfl⟩
theorem cntL_put {F : List Int → Int} {m : Nat} {L : List (List Int)} {k i : Nat} (h : k < L.length) (hs : slotOf F m (nthL L k) = (i : Int)) (j : Nat) : (if j = i then cntL F m (L.take k) i + 1 else cntL F m (L.take k) j) = cntL F m (L.take (k + 1)) j := by
  rw [cntL_take h, hs]
  by_cases e : j = i
  · subst e; rw [if_pos rfl, if_pos rfl]
  · rw [if_neg e, if_neg (by omega)]

set_option maxHeartbeats 4000000 in
set_option maxRecDepth 100000 in
theorem lawRes_in (n : Nat) (hn : n ≤ 20) (w : World) :
    Calls Try.prog 13 #[.int .i64 (n : Int)] w fun e w' => e = .returned (.bool true) ∧ Below w.heap.size w w' := by
  have hL := fun W => List_yes n hn W
  have hC := fun W => Count_yes n (by omega) W
  rw [len_cnt hn] at hC
  obtain ⟨T, hT⟩ : ∃ T, pF 20 n n = T := ⟨_, rfl⟩
  obtain ⟨N, hN⟩ : ∃ N, T.length = N := ⟨_, rfl⟩
  rw [hT] at hL hC
  rw [hN] at hC
  have HL := Lib.hid hL
  have HC := Lib.hid hC
  have HT := Lib.hid hT
  have HN := Lib.hid hN
  have HNN := Lib.hid hn
  have HSM := Lib.hid (show N ≤ 1048576 by have := (pF_small n hn).1; rw [hT, hN] at this; exact this)
  clear hL hC hT hN
  go_enter Try.func13, Try.ntmps13
  go_wp2_with fail
  refine (HL.out _).mono ?_
  rintro e w1 ⟨a, c, rfl, ht, hb1⟩
  rw [HN.out] at ht ⊢
  have hr := ht.read.1
  have h3 := three_ints hb1
  have hro : RO w (w1.alloc (.cells #[.int .i64 5, .int .i64 7, .int .i64 11] 3)) (w1.alloc (.cells #[.int .i64 5, .int .i64 7, .int .i64 11] 3)) a w1.heap.size T := ⟨Below.refl _ _, h3.b, hr.below ((Below.refl _ _).alloc (Nat.le_refl _) _), h3.i⟩
  have HRO := Lib.hid hro
  clear ht hr h3 hro hb1
  go_wp2_with fail
  obtain ⟨W1, hW1⟩ : ∃ W1, w1.alloc (.cells #[.int .i64 5, .int .i64 7, .int .i64 11] 3) = W1 := ⟨_, rfl⟩
  obtain ⟨b, hb⟩ : ∃ b, w1.heap.size = b := ⟨_, rfl⟩
  rw [hW1, hb] at HRO
  rw [hW1] at ⊢
  rw [hb] at ⊢
  clear hW1 hb
  go_loopg [31] 3 (fun gk i wr => ∃ (q : Nat), q + gk = 3 ∧ i = .int .i64 (q : Int) ∧ RO w W1 wr a b T)
  case atStart => exact ⟨0, rfl, rfl, HRO.out⟩
  case round =>
    obtain ⟨q, hq, rfl, hro⟩ := hrel
    have HR := Lib.hid hro
    obtain ⟨c0, c1, c2⟩ := hro.cells
    have HQ := Lib.hid hq
    clear hro HRO
    by_cases hq3 : q = 3
    · have hge : ¬ (q : Int) < 3 := by omega
      clear hq hq3
      go_wp2_with fail
      refine (HC.out _).mono ?_
      rintro e w2 ⟨rfl, hb2⟩
      have B2 := Lib.hid ((HR.out.b0.trans (HR.out.bb.mono HR.out.b0.size)).trans (hb2.mono (by have := HR.out.b0.size; have := HR.out.bb.size; omega)))
      clear hb2 HR
      go_wp2_with fail
      refine (awake_any _).mono ?_
      rintro e w6 ⟨rfl, hb6⟩
      have B6 := Lib.hid (B2.out.trans (hb6.mono B2.out.size))
      clear hb6 B2
      go_wp2_with fail
      go_ret
      exact ⟨rfl, B6.out⟩
    · have hq012 : q = 0 ∨ q = 1 ∨ q = 2 := by omega
      clear hq3 hq
      rcases hq012 with rfl | rfl | rfl
      · rw [show ((0 : Nat) : Int) = 0 from rfl]
        have hmod : Int.tmod (n : Int) 5 = (n : Int) % 5 := Int.tmod_eq_emod_of_nonneg (by omega)
        have hix : ∀ w, (Instr.index 51 (.agg #[.int .i64 0, .int .i64 0, .int .i64 0, .int .i64 0, .int .i64 0, .int .i64 4, .int .i64 0, .int .i64 5, .int .i64 0, .int .i64 0, .int .i64 0, .int .i64 6]) (.int .i64 5)).run Try.prog w = .ok (.int .i64 4) w := fun _ => by kernel_rfl
        by_cases hres : (n : Int) % 5 = 4
        · obtain ⟨s1, s2, s3⟩ := residOK_spec (n := n) (m := 5) (by
            have h := (resid_at HNN.out).1
            rw [show n % 5 = 4 by omega] at h
            simpa using h)
          rw [HT.out] at s1 s2 s3
          have HISP := Lib.hid s1
          have HCR := Lib.hid s2
          have HRK := Lib.hid (s3 rfl)
          clear s1 s2 s3
          go_wp2
          go_quiet (fail)
          go_wp2
          have hmk := fun w => mk5 w
          go_region
          all_goals go_wp2
          · have hrows := rows5 HR.out (nq + 1)
            obtain ⟨WW, hWW⟩ : ∃ WW, ((wr.drewN (nq + 1)).alloc (.cells #[.int .i64 0, .int .i64 0, .int .i64 0, .int .i64 0, .int .i64 0] 3)).alloc (.cells #[.int .i64 0, .int .i64 0, .int .i64 0, .int .i64 0, .int .i64 0] 3) = WW := ⟨_, rfl⟩
            rw [hWW] at hrows ⊢
            obtain ⟨g8, hg8⟩ : ∃ g, wr.heap.size + 1 = g := ⟨_, rfl⟩
            obtain ⟨g7, hg7⟩ : ∃ g, wr.heap.size = g := ⟨_, rfl⟩
            have hne : g7 ≠ g8 := by omega
            rw [hg8, hg7] at hrows
            rw [hg8, hg7]
            have h7 := hrows.1
            have h8 := hrows.2.1
            clear hg7 hg8 hWW
            have HNE := Lib.hid hne
            have HS7 := Lib.hid h7
            have HS8 := Lib.hid h8
            clear hrows h7 h8 hne hix hmk hres hmod c0 c1 c2
            go_loopg [48] N (fun g2 i W2 => ∃ (k : Nat), k + g2 = N ∧ i = .int .i64 (k : Int) ∧ CoState g7 5 (cntL rankL 5 (T.take k)) W1 W2 ∧ CoState g8 5 (cntL crankL 5 (T.take k)) W1 W2)
            case atStart => exact ⟨0, by omega, rfl, HS7.out, HS8.out⟩
            case round =>
              obtain ⟨k, hk, rfl, h7, h8⟩ := hrel
              have H7 := Lib.hid h7
              have H8 := Lib.hid h8
              have HK := Lib.hid hk
              clear HS7 HS8
              by_cases hkN : k = N
              · have hge : ¬ (k : Int) < (N : Int) := by omega
                rw [hkN, List.take_of_length_le (Nat.le_of_eq HN.out)] at h7 h8
                have h8' := h8.congr (f' := fun _ => cntL crankL 5 T 0) fun j hj => HCR.out j hj
                have h7' := h7.congr (f' := fun _ => cntL rankL 5 T 0) fun j hj => HRK.out j hj
                obtain ⟨C, hC⟩ : ∃ C, cntL crankL 5 T 0 = C := ⟨_, rfl⟩
                rw [hC] at h8'
                obtain ⟨K, hK⟩ : ∃ K, cntL rankL 5 T 0 = K := ⟨_, rfl⟩
                rw [hK] at h7'
                have H7' := Lib.hid h7'
                have H8' := Lib.hid h8'
                clear h7 h8 h7' h8' H7 H8 hC hK hkN hk
                go_wp2
                go_loopg [96] 5 (fun g3 i W3 => ∃ (j : Nat), j + g3 = 5 ∧ i = .int .i64 (j : Int) ∧ CoState g7 5 (fun _ => K) W1 W3 ∧ CoState g8 5 (fun _ => C) W1 W3)
                case atStart => exact ⟨0, by omega, rfl, H7'.out, H8'.out⟩
                case round =>
                  obtain ⟨j, hj, rfl, h7, h8⟩ := hrel
                  have HJ := Lib.hid hj
                  clear H7' H8'
                  by_cases hj5 : j = 5
                  · have hge2 : ¬ (j : Int) < 5 := by omega
                    have HB8 := Lib.hid h8.b
                    clear h7 h8 hj hj5
                    go_wp2
                    go_roundg (3 - 0 - 1)
                    case rel => exact ⟨0 + 1, by omega, by go_num, ⟨HB8.out, HR.out.b0, HR.out.t, HR.out.i⟩⟩
                    case measure => have := HQ.out; omega
                  · have hlt2 : (j : Int) < 5 := by omega
                    have hlt3 : j < 5 := by omega
                    have j0 : (0 : Int) ≤ (j : Int) := by omega
                    have e1 := h8.cell (j := j) hlt3
                    have e2 := h8.cell (j := 0) (by omega)
                    have e3 := h7.cell (j := j) hlt3
                    have e4 := h7.cell (j := 0) (by omega)
                    have H7 := Lib.hid h7
                    have H8 := Lib.hid h8
                    clear h7 h8 hj hj5
                    go_wp2
                    go_quiet (fail)
                    go_wp2
                    go_roundg (5 - j - 1)
                    case rel => exact ⟨j + 1, by have := HJ.out; omega, by go_num, H7.out.drewN _, H8.out.drewN _⟩
                    case measure => have := HJ.out; omega
              · have hlt : (k : Int) < (N : Int) := by omega
                have hltN : k < N := by omega
                have htab := (HR.out.t.below h8.b)
                obtain ⟨bl, off, rfl, -, hcs⟩ := htab.resolve_left (by rw [HN.out]; omega)
                obtain ⟨ai, ci, hcl, hin⟩ := hcs k (by rw [HN.out]; omega)
                have hmem : nthL T k ∈ T := nthL_mem (by rw [HN.out]; omega)
                have hP := HISP.out _ hmem
                obtain ⟨i7, hi7, hs7⟩ := slot_nat rankL (m := 5) (by omega) (nthL T k)
                obtain ⟨i8, hi8, hs8⟩ := slot_nat crankL (m := 5) (by omega) (nthL T k)
                have HS7 := Lib.hid hs7
                have HS8 := Lib.hid hs8
                obtain ⟨bd1, bd2⟩ := cntL_bound rankL 5 T k i7
                obtain ⟨bd3, bd4⟩ := cntL_bound crankL 5 T k i8
                rw [HN.out] at bd2 bd4
                have hp7 := fun j => cntL_put (F := rankL) (m := 5) (L := T) (k := k) (i := i7) (by rw [HN.out]; omega) hs7 j
                have hp8 := fun j => cntL_put (F := crankL) (m := 5) (L := T) (k := k) (i := i8) (by rw [HN.out]; omega) hs8 j
                unfold slotOf at hs7 hs8
                obtain ⟨tb1, tb2⟩ := tm_bounds (rankL (nthL T k)) (m := 5) (by omega)
                obtain ⟨tb3, tb4⟩ := tm_bounds (crankL (nthL T k)) (m := 5) (by omega)
                have hlen := isP_len hP
                obtain ⟨x, hx⟩ : ∃ x, nthL T k = x := ⟨_, rfl⟩
                rw [hx] at hcl hin hP hs7 hs8 tb1 tb2 tb3 tb4 hlen
                obtain ⟨R, hR⟩ : ∃ R, rankL x = R := ⟨_, rfl⟩
                obtain ⟨C, hC⟩ : ∃ C, crankL x = C := ⟨_, rfl⟩
                have hRank := fun aa cc WW h => Rank_any aa x.length cc x WW h (by omega)
                have hCrank := fun aa cc WW h => Crank_any aa x.length cc x WW h (by omega)
                rw [if_pos hP, if_pos hP, hR] at hRank
                rw [if_pos hP, if_pos hP, hC] at hCrank
                rw [hR] at hs7 tb1 tb2
                rw [hC] at hs8 tb3 tb4
                obtain ⟨A7, hA7⟩ : ∃ A, Int.tmod R 5 = A := ⟨_, rfl⟩
                obtain ⟨A8, hA8⟩ : ∃ A, Int.tmod C 5 = A := ⟨_, rfl⟩
                rw [show (((5 : Nat)) : Int) = 5 from rfl] at hs7 hs8 tb1 tb2 tb3 tb4
                rw [hA7] at hs7 tb1 tb2
                rw [hA8] at hs8 tb3 tb4
                obtain ⟨v7, hv7⟩ : ∃ v, cntL rankL 5 (T.take k) i7 = v := ⟨_, rfl⟩
                obtain ⟨v8, hv8⟩ : ∃ v, cntL crankL 5 (T.take k) i8 = v := ⟨_, rfl⟩
                rw [hv7] at bd1 bd2
                rw [hv8] at bd3 bd4
                have hbig : x.length ≤ 1000000 := by omega
                have HRK2 := Lib.hid hRank
                have HCR2 := Lib.hid hCrank
                have HIN := Lib.hid hin
                have HBIG := Lib.hid hbig
                have HP7 := Lib.hid hp7
                have HP8 := Lib.hid hp8
                have HV7 := Lib.hid hv7
                have HV8 := Lib.hid hv8
                have k0 : (0 : Int) ≤ (k : Int) := by omega
                have hNs : (N : Int) ≤ 1048576 := by have := HSM.out; omega
                obtain ⟨xl, hxl⟩ : ∃ l, x.length = l := ⟨_, rfl⟩
                rw [hxl] at hcl HRK2 HCR2 HIN HBIG
                clear h7 h8 htab hcs hmem hP hlen hx hR hC hRank hCrank hv7 hv8 hp7 hp8 hin hbig hk hkN HS7 HS8 hxl
                go_wp2_with fail
                refine (clone_any ai xl ci x _ HIN.out HBIG.out).mono ?_
                rintro e W3 ⟨ao, co, rfl, ho, -, -, hb3⟩
                have I3 := Lib.hid (Ints.own ho).1
                have IN3 := Lib.hid (HIN.out.below hb3)
                have G7 := Lib.hid (H7.out.later hb3)
                have G8 := Lib.hid (H8.out.later hb3)
                clear ho hb3 HIN hcl
                go_wp2_with fail
                refine (HRK2.out _ _ _ I3.out).mono ?_
                rintro e W' ⟨rfl, rfl⟩
                go_wp2_with fail
                refine (clone_any ai xl ci x _ IN3.out HBIG.out).mono ?_
                rintro e W4 ⟨ao4, co4, rfl, ho, -, -, hb4⟩
                have I4 := Lib.hid (Ints.own ho).1
                have F7 := Lib.hid (G7.out.later hb4)
                have F8 := Lib.hid (G8.out.later hb4)
                clear ho hb4 G7 G8 I3 IN3
                go_wp2_with fail
                refine (HCR2.out _ _ _ I4.out).mono ?_
                rintro e W' ⟨rfl, rfl⟩
                have e1 := F7.out.cell hi7
                have e2 := F7.out.frozen i7
                rw [HV7.out] at e1
                have D7 := Lib.hid (F7.out.put i7 (v7 + 1))
                have D8 := Lib.hid (F8.out.other F7.out HNE.out i7 (v7 + 1))
                have e3 := D8.out.cell hi8
                have e4 := D8.out.frozen i8
                rw [HV8.out] at e3
                have E7 := Lib.hid (D7.out.other D8.out (fun e => HNE.out e.symm) i8 (v8 + 1))
                have E8 := Lib.hid (D8.out.put i8 (v8 + 1))
                have z7 : (0 : Int) ≤ (i7 : Int) := by omega
                have z8 : (0 : Int) ≤ (i8 : Int) := by omega
                have y7 : (i7 : Int) < 5 := by omega
                have y8 : (i8 : Int) < 5 := by omega
                clear F7 F8 D7 D8 I4
                go_wp2
                go_roundg (N - k - 1)
                case rel =>
                  refine ⟨k + 1, by have := HK.out; omega, by go_num, E7.out.congr fun j _ => ?_, E8.out.congr fun j _ => ?_⟩
                  · rw [← HP7.out j, HV7.out]
                  · rw [← HP8.out j, HV8.out]
                case measure => have := HK.out; omega
          · have hrows := rows5 HR.out (nq + 1)
            obtain ⟨WW, hWW⟩ : ∃ WW, ((wr.drewN (nq + 1)).alloc (.cells #[.int .i64 0, .int .i64 0, .int .i64 0, .int .i64 0, .int .i64 0] 3)).alloc (.cells #[.int .i64 0, .int .i64 0, .int .i64 0, .int .i64 0, .int .i64 0] 3) = WW := ⟨_, rfl⟩
            rw [hWW] at hrows ⊢
            obtain ⟨g7, hg7⟩ : ∃ g, wr.heap.size + 1 = g := ⟨_, rfl⟩
            obtain ⟨g8, hg8⟩ : ∃ g, wr.heap.size = g := ⟨_, rfl⟩
            have hne : g7 ≠ g8 := by omega
            rw [hg7, hg8] at hrows
            rw [hg7, hg8]
            have h7 := hrows.2.2.2
            have h8 := hrows.2.2.1
            clear hg8 hg7 hWW
            have HNE := Lib.hid hne
            have HS7 := Lib.hid h7
            have HS8 := Lib.hid h8
            clear hrows h7 h8 hne hix hmk hres hmod c0 c1 c2
            go_loopg [48] N (fun g2 i W2 => ∃ (k : Nat), k + g2 = N ∧ i = .int .i64 (k : Int) ∧ CoState g7 5 (cntL rankL 5 (T.take k)) W1 W2 ∧ CoState g8 5 (cntL crankL 5 (T.take k)) W1 W2)
            case atStart => exact ⟨0, by omega, rfl, HS7.out, HS8.out⟩
            case round =>
              obtain ⟨k, hk, rfl, h7, h8⟩ := hrel
              have H7 := Lib.hid h7
              have H8 := Lib.hid h8
              have HK := Lib.hid hk
              clear HS7 HS8
              by_cases hkN : k = N
              · have hge : ¬ (k : Int) < (N : Int) := by omega
                rw [hkN, List.take_of_length_le (Nat.le_of_eq HN.out)] at h7 h8
                have h8' := h8.congr (f' := fun _ => cntL crankL 5 T 0) fun j hj => HCR.out j hj
                have h7' := h7.congr (f' := fun _ => cntL rankL 5 T 0) fun j hj => HRK.out j hj
                obtain ⟨C, hC⟩ : ∃ C, cntL crankL 5 T 0 = C := ⟨_, rfl⟩
                rw [hC] at h8'
                obtain ⟨K, hK⟩ : ∃ K, cntL rankL 5 T 0 = K := ⟨_, rfl⟩
                rw [hK] at h7'
                have H7' := Lib.hid h7'
                have H8' := Lib.hid h8'
                clear h7 h8 h7' h8' H7 H8 hC hK hkN hk
                go_wp2
                go_loopg [96] 5 (fun g3 i W3 => ∃ (j : Nat), j + g3 = 5 ∧ i = .int .i64 (j : Int) ∧ CoState g7 5 (fun _ => K) W1 W3 ∧ CoState g8 5 (fun _ => C) W1 W3)
                case atStart => exact ⟨0, by omega, rfl, H7'.out, H8'.out⟩
                case round =>
                  obtain ⟨j, hj, rfl, h7, h8⟩ := hrel
                  have HJ := Lib.hid hj
                  clear H7' H8'
                  by_cases hj5 : j = 5
                  · have hge2 : ¬ (j : Int) < 5 := by omega
                    have HB8 := Lib.hid h8.b
                    clear h7 h8 hj hj5
                    go_wp2
                    go_roundg (3 - 0 - 1)
                    case rel => exact ⟨0 + 1, by omega, by go_num, ⟨HB8.out, HR.out.b0, HR.out.t, HR.out.i⟩⟩
                    case measure => have := HQ.out; omega
                  · have hlt2 : (j : Int) < 5 := by omega
                    have hlt3 : j < 5 := by omega
                    have j0 : (0 : Int) ≤ (j : Int) := by omega
                    have e1 := h8.cell (j := j) hlt3
                    have e2 := h8.cell (j := 0) (by omega)
                    have e3 := h7.cell (j := j) hlt3
                    have e4 := h7.cell (j := 0) (by omega)
                    have H7 := Lib.hid h7
                    have H8 := Lib.hid h8
                    clear h7 h8 hj hj5
                    go_wp2
                    go_quiet (fail)
                    go_wp2
                    go_roundg (5 - j - 1)
                    case rel => exact ⟨j + 1, by have := HJ.out; omega, by go_num, H7.out.drewN _, H8.out.drewN _⟩
                    case measure => have := HJ.out; omega
              · have hlt : (k : Int) < (N : Int) := by omega
                have hltN : k < N := by omega
                have htab := (HR.out.t.below h8.b)
                obtain ⟨bl, off, rfl, -, hcs⟩ := htab.resolve_left (by rw [HN.out]; omega)
                obtain ⟨ai, ci, hcl, hin⟩ := hcs k (by rw [HN.out]; omega)
                have hmem : nthL T k ∈ T := nthL_mem (by rw [HN.out]; omega)
                have hP := HISP.out _ hmem
                obtain ⟨i7, hi7, hs7⟩ := slot_nat rankL (m := 5) (by omega) (nthL T k)
                obtain ⟨i8, hi8, hs8⟩ := slot_nat crankL (m := 5) (by omega) (nthL T k)
                have HS7 := Lib.hid hs7
                have HS8 := Lib.hid hs8
                obtain ⟨bd1, bd2⟩ := cntL_bound rankL 5 T k i7
                obtain ⟨bd3, bd4⟩ := cntL_bound crankL 5 T k i8
                rw [HN.out] at bd2 bd4
                have hp7 := fun j => cntL_put (F := rankL) (m := 5) (L := T) (k := k) (i := i7) (by rw [HN.out]; omega) hs7 j
                have hp8 := fun j => cntL_put (F := crankL) (m := 5) (L := T) (k := k) (i := i8) (by rw [HN.out]; omega) hs8 j
                unfold slotOf at hs7 hs8
                obtain ⟨tb1, tb2⟩ := tm_bounds (rankL (nthL T k)) (m := 5) (by omega)
                obtain ⟨tb3, tb4⟩ := tm_bounds (crankL (nthL T k)) (m := 5) (by omega)
                have hlen := isP_len hP
                obtain ⟨x, hx⟩ : ∃ x, nthL T k = x := ⟨_, rfl⟩
                rw [hx] at hcl hin hP hs7 hs8 tb1 tb2 tb3 tb4 hlen
                obtain ⟨R, hR⟩ : ∃ R, rankL x = R := ⟨_, rfl⟩
                obtain ⟨C, hC⟩ : ∃ C, crankL x = C := ⟨_, rfl⟩
                have hRank := fun aa cc WW h => Rank_any aa x.length cc x WW h (by omega)
                have hCrank := fun aa cc WW h => Crank_any aa x.length cc x WW h (by omega)
                rw [if_pos hP, if_pos hP, hR] at hRank
                rw [if_pos hP, if_pos hP, hC] at hCrank
                rw [hR] at hs7 tb1 tb2
                rw [hC] at hs8 tb3 tb4
                obtain ⟨A7, hA7⟩ : ∃ A, Int.tmod R 5 = A := ⟨_, rfl⟩
                obtain ⟨A8, hA8⟩ : ∃ A, Int.tmod C 5 = A := ⟨_, rfl⟩
                rw [show (((5 : Nat)) : Int) = 5 from rfl] at hs7 hs8 tb1 tb2 tb3 tb4
                rw [hA7] at hs7 tb1 tb2
                rw [hA8] at hs8 tb3 tb4
                obtain ⟨v7, hv7⟩ : ∃ v, cntL rankL 5 (T.take k) i7 = v := ⟨_, rfl⟩
                obtain ⟨v8, hv8⟩ : ∃ v, cntL crankL 5 (T.take k) i8 = v := ⟨_, rfl⟩
                rw [hv7] at bd1 bd2
                rw [hv8] at bd3 bd4
                have hbig : x.length ≤ 1000000 := by omega
                have HRK2 := Lib.hid hRank
                have HCR2 := Lib.hid hCrank
                have HIN := Lib.hid hin
                have HBIG := Lib.hid hbig
                have HP7 := Lib.hid hp7
                have HP8 := Lib.hid hp8
                have HV7 := Lib.hid hv7
                have HV8 := Lib.hid hv8
                have k0 : (0 : Int) ≤ (k : Int) := by omega
                have hNs : (N : Int) ≤ 1048576 := by have := HSM.out; omega
                obtain ⟨xl, hxl⟩ : ∃ l, x.length = l := ⟨_, rfl⟩
                rw [hxl] at hcl HRK2 HCR2 HIN HBIG
                clear h7 h8 htab hcs hmem hP hlen hx hR hC hRank hCrank hv7 hv8 hp7 hp8 hin hbig hk hkN HS7 HS8 hxl
                go_wp2_with fail
                refine (clone_any ai xl ci x _ HIN.out HBIG.out).mono ?_
                rintro e W3 ⟨ao, co, rfl, ho, -, -, hb3⟩
                have I3 := Lib.hid (Ints.own ho).1
                have IN3 := Lib.hid (HIN.out.below hb3)
                have G7 := Lib.hid (H7.out.later hb3)
                have G8 := Lib.hid (H8.out.later hb3)
                clear ho hb3 HIN hcl
                go_wp2_with fail
                refine (HRK2.out _ _ _ I3.out).mono ?_
                rintro e W' ⟨rfl, rfl⟩
                go_wp2_with fail
                refine (clone_any ai xl ci x _ IN3.out HBIG.out).mono ?_
                rintro e W4 ⟨ao4, co4, rfl, ho, -, -, hb4⟩
                have I4 := Lib.hid (Ints.own ho).1
                have F7 := Lib.hid (G7.out.later hb4)
                have F8 := Lib.hid (G8.out.later hb4)
                clear ho hb4 G7 G8 I3 IN3
                go_wp2_with fail
                refine (HCR2.out _ _ _ I4.out).mono ?_
                rintro e W' ⟨rfl, rfl⟩
                have e1 := F7.out.cell hi7
                have e2 := F7.out.frozen i7
                rw [HV7.out] at e1
                have D7 := Lib.hid (F7.out.put i7 (v7 + 1))
                have D8 := Lib.hid (F8.out.other F7.out HNE.out i7 (v7 + 1))
                have e3 := D8.out.cell hi8
                have e4 := D8.out.frozen i8
                rw [HV8.out] at e3
                have E7 := Lib.hid (D7.out.other D8.out (fun e => HNE.out e.symm) i8 (v8 + 1))
                have E8 := Lib.hid (D8.out.put i8 (v8 + 1))
                have z7 : (0 : Int) ≤ (i7 : Int) := by omega
                have z8 : (0 : Int) ≤ (i8 : Int) := by omega
                have y7 : (i7 : Int) < 5 := by omega
                have y8 : (i8 : Int) < 5 := by omega
                clear F7 F8 D7 D8 I4
                go_wp2
                go_roundg (N - k - 1)
                case rel =>
                  refine ⟨k + 1, by have := HK.out; omega, by go_num, E7.out.congr fun j _ => ?_, E8.out.congr fun j _ => ?_⟩
                  · rw [← HP7.out j, HV7.out]
                  · rw [← HP8.out j, HV8.out]
                case measure => have := HK.out; omega
        · go_wp2
          go_quiet (fail)
          go_wp2
          go_roundg (3 - 0 - 1)
          case rel => exact ⟨0 + 1, by omega, by go_num, ⟨below_drewN HR.out.bb _, HR.out.b0, HR.out.t, HR.out.i⟩⟩
          case measure => have := HQ.out; omega
      · rw [show ((1 : Nat) : Int) = 1 from rfl]
        have hmod : Int.tmod (n : Int) 7 = (n : Int) % 7 := Int.tmod_eq_emod_of_nonneg (by omega)
        have hix : ∀ w, (Instr.index 51 (.agg #[.int .i64 0, .int .i64 0, .int .i64 0, .int .i64 0, .int .i64 0, .int .i64 4, .int .i64 0, .int .i64 5, .int .i64 0, .int .i64 0, .int .i64 0, .int .i64 6]) (.int .i64 7)).run Try.prog w = .ok (.int .i64 5) w := fun _ => by kernel_rfl
        by_cases hres : (n : Int) % 7 = 5
        · obtain ⟨s1, s2, s3⟩ := residOK_spec (n := n) (m := 7) (by
            have h := (resid_at HNN.out).2.1
            rw [show n % 7 = 5 by omega] at h
            simpa using h)
          rw [HT.out] at s1 s2 s3
          have HISP := Lib.hid s1
          have HCR := Lib.hid s2
          clear s3
          clear s1 s2
          go_wp2
          go_quiet (fail)
          go_wp2
          have hmk := fun w => mk7 w
          go_region
          all_goals go_wp2
          · have hrows := rows7 HR.out (nq + 1)
            obtain ⟨WW, hWW⟩ : ∃ WW, ((wr.drewN (nq + 1)).alloc (.cells #[.int .i64 0, .int .i64 0, .int .i64 0, .int .i64 0, .int .i64 0, .int .i64 0, .int .i64 0] 3)).alloc (.cells #[.int .i64 0, .int .i64 0, .int .i64 0, .int .i64 0, .int .i64 0, .int .i64 0, .int .i64 0] 3) = WW := ⟨_, rfl⟩
            rw [hWW] at hrows ⊢
            obtain ⟨g8, hg8⟩ : ∃ g, wr.heap.size + 1 = g := ⟨_, rfl⟩
            obtain ⟨g7, hg7⟩ : ∃ g, wr.heap.size = g := ⟨_, rfl⟩
            have hne : g7 ≠ g8 := by omega
            rw [hg8, hg7] at hrows
            rw [hg8, hg7]
            have h7 := hrows.1
            have h8 := hrows.2.1
            clear hg7 hg8 hWW
            have HNE := Lib.hid hne
            have HS7 := Lib.hid h7
            have HS8 := Lib.hid h8
            clear hrows h7 h8 hne hix hmk hres hmod c0 c1 c2
            go_loopg [48] N (fun g2 i W2 => ∃ (k : Nat), k + g2 = N ∧ i = .int .i64 (k : Int) ∧ CoState g7 7 (cntL rankL 7 (T.take k)) W1 W2 ∧ CoState g8 7 (cntL crankL 7 (T.take k)) W1 W2)
            case atStart => exact ⟨0, by omega, rfl, HS7.out, HS8.out⟩
            case round =>
              obtain ⟨k, hk, rfl, h7, h8⟩ := hrel
              have H7 := Lib.hid h7
              have H8 := Lib.hid h8
              have HK := Lib.hid hk
              clear HS7 HS8
              by_cases hkN : k = N
              · have hge : ¬ (k : Int) < (N : Int) := by omega
                rw [hkN, List.take_of_length_le (Nat.le_of_eq HN.out)] at h7 h8
                have h8' := h8.congr (f' := fun _ => cntL crankL 7 T 0) fun j hj => HCR.out j hj
                have h7' := h7
                obtain ⟨C, hC⟩ : ∃ C, cntL crankL 7 T 0 = C := ⟨_, rfl⟩
                rw [hC] at h8'
                obtain ⟨K, hK⟩ : ∃ K, cntL rankL 7 T = K := ⟨_, rfl⟩
                rw [hK] at h7'
                have H7' := Lib.hid h7'
                have H8' := Lib.hid h8'
                clear h7 h8 h7' h8' H7 H8 hC hK hkN hk
                go_wp2
                go_loopg [96] 7 (fun g3 i W3 => ∃ (j : Nat), j + g3 = 7 ∧ i = .int .i64 (j : Int) ∧ CoState g7 7 K W1 W3 ∧ CoState g8 7 (fun _ => C) W1 W3)
                case atStart => exact ⟨0, by omega, rfl, H7'.out, H8'.out⟩
                case round =>
                  obtain ⟨j, hj, rfl, h7, h8⟩ := hrel
                  have HJ := Lib.hid hj
                  clear H7' H8'
                  by_cases hj7 : j = 7
                  · have hge2 : ¬ (j : Int) < 7 := by omega
                    have HB8 := Lib.hid h8.b
                    clear h7 h8 hj hj7
                    go_wp2
                    go_roundg (3 - 1 - 1)
                    case rel => exact ⟨1 + 1, by omega, by go_num, ⟨HB8.out, HR.out.b0, HR.out.t, HR.out.i⟩⟩
                    case measure => have := HQ.out; omega
                  · have hlt2 : (j : Int) < 7 := by omega
                    have hlt3 : j < 7 := by omega
                    have j0 : (0 : Int) ≤ (j : Int) := by omega
                    have e1 := h8.cell (j := j) hlt3
                    have e2 := h8.cell (j := 0) (by omega)
                    have e3 := h7.cell (j := j) hlt3
                    have e4 := h7.cell (j := 0) (by omega)
                    have H7 := Lib.hid h7
                    have H8 := Lib.hid h8
                    clear h7 h8 hj hj7
                    go_wp2
                    go_quiet (fail)
                    go_wp2
                    go_roundg (7 - j - 1)
                    case rel => exact ⟨j + 1, by have := HJ.out; omega, by go_num, H7.out.drewN _, H8.out.drewN _⟩
                    case measure => have := HJ.out; omega
              · have hlt : (k : Int) < (N : Int) := by omega
                have hltN : k < N := by omega
                have htab := (HR.out.t.below h8.b)
                obtain ⟨bl, off, rfl, -, hcs⟩ := htab.resolve_left (by rw [HN.out]; omega)
                obtain ⟨ai, ci, hcl, hin⟩ := hcs k (by rw [HN.out]; omega)
                have hmem : nthL T k ∈ T := nthL_mem (by rw [HN.out]; omega)
                have hP := HISP.out _ hmem
                obtain ⟨i7, hi7, hs7⟩ := slot_nat rankL (m := 7) (by omega) (nthL T k)
                obtain ⟨i8, hi8, hs8⟩ := slot_nat crankL (m := 7) (by omega) (nthL T k)
                have HS7 := Lib.hid hs7
                have HS8 := Lib.hid hs8
                obtain ⟨bd1, bd2⟩ := cntL_bound rankL 7 T k i7
                obtain ⟨bd3, bd4⟩ := cntL_bound crankL 7 T k i8
                rw [HN.out] at bd2 bd4
                have hp7 := fun j => cntL_put (F := rankL) (m := 7) (L := T) (k := k) (i := i7) (by rw [HN.out]; omega) hs7 j
                have hp8 := fun j => cntL_put (F := crankL) (m := 7) (L := T) (k := k) (i := i8) (by rw [HN.out]; omega) hs8 j
                unfold slotOf at hs7 hs8
                obtain ⟨tb1, tb2⟩ := tm_bounds (rankL (nthL T k)) (m := 7) (by omega)
                obtain ⟨tb3, tb4⟩ := tm_bounds (crankL (nthL T k)) (m := 7) (by omega)
                have hlen := isP_len hP
                obtain ⟨x, hx⟩ : ∃ x, nthL T k = x := ⟨_, rfl⟩
                rw [hx] at hcl hin hP hs7 hs8 tb1 tb2 tb3 tb4 hlen
                obtain ⟨R, hR⟩ : ∃ R, rankL x = R := ⟨_, rfl⟩
                obtain ⟨C, hC⟩ : ∃ C, crankL x = C := ⟨_, rfl⟩
                have hRank := fun aa cc WW h => Rank_any aa x.length cc x WW h (by omega)
                have hCrank := fun aa cc WW h => Crank_any aa x.length cc x WW h (by omega)
                rw [if_pos hP, if_pos hP, hR] at hRank
                rw [if_pos hP, if_pos hP, hC] at hCrank
                rw [hR] at hs7 tb1 tb2
                rw [hC] at hs8 tb3 tb4
                obtain ⟨A7, hA7⟩ : ∃ A, Int.tmod R 7 = A := ⟨_, rfl⟩
                obtain ⟨A8, hA8⟩ : ∃ A, Int.tmod C 7 = A := ⟨_, rfl⟩
                rw [show (((7 : Nat)) : Int) = 7 from rfl] at hs7 hs8 tb1 tb2 tb3 tb4
                rw [hA7] at hs7 tb1 tb2
                rw [hA8] at hs8 tb3 tb4
                obtain ⟨v7, hv7⟩ : ∃ v, cntL rankL 7 (T.take k) i7 = v := ⟨_, rfl⟩
                obtain ⟨v8, hv8⟩ : ∃ v, cntL crankL 7 (T.take k) i8 = v := ⟨_, rfl⟩
                rw [hv7] at bd1 bd2
                rw [hv8] at bd3 bd4
                have hbig : x.length ≤ 1000000 := by omega
                have HRK2 := Lib.hid hRank
                have HCR2 := Lib.hid hCrank
                have HIN := Lib.hid hin
                have HBIG := Lib.hid hbig
                have HP7 := Lib.hid hp7
                have HP8 := Lib.hid hp8
                have HV7 := Lib.hid hv7
                have HV8 := Lib.hid hv8
                have k0 : (0 : Int) ≤ (k : Int) := by omega
                have hNs : (N : Int) ≤ 1048576 := by have := HSM.out; omega
                obtain ⟨xl, hxl⟩ : ∃ l, x.length = l := ⟨_, rfl⟩
                rw [hxl] at hcl HRK2 HCR2 HIN HBIG
                clear h7 h8 htab hcs hmem hP hlen hx hR hC hRank hCrank hv7 hv8 hp7 hp8 hin hbig hk hkN HS7 HS8 hxl
                go_wp2_with fail
                refine (clone_any ai xl ci x _ HIN.out HBIG.out).mono ?_
                rintro e W3 ⟨ao, co, rfl, ho, -, -, hb3⟩
                have I3 := Lib.hid (Ints.own ho).1
                have IN3 := Lib.hid (HIN.out.below hb3)
                have G7 := Lib.hid (H7.out.later hb3)
                have G8 := Lib.hid (H8.out.later hb3)
                clear ho hb3 HIN hcl
                go_wp2_with fail
                refine (HRK2.out _ _ _ I3.out).mono ?_
                rintro e W' ⟨rfl, rfl⟩
                go_wp2_with fail
                refine (clone_any ai xl ci x _ IN3.out HBIG.out).mono ?_
                rintro e W4 ⟨ao4, co4, rfl, ho, -, -, hb4⟩
                have I4 := Lib.hid (Ints.own ho).1
                have F7 := Lib.hid (G7.out.later hb4)
                have F8 := Lib.hid (G8.out.later hb4)
                clear ho hb4 G7 G8 I3 IN3
                go_wp2_with fail
                refine (HCR2.out _ _ _ I4.out).mono ?_
                rintro e W' ⟨rfl, rfl⟩
                have e1 := F7.out.cell hi7
                have e2 := F7.out.frozen i7
                rw [HV7.out] at e1
                have D7 := Lib.hid (F7.out.put i7 (v7 + 1))
                have D8 := Lib.hid (F8.out.other F7.out HNE.out i7 (v7 + 1))
                have e3 := D8.out.cell hi8
                have e4 := D8.out.frozen i8
                rw [HV8.out] at e3
                have E7 := Lib.hid (D7.out.other D8.out (fun e => HNE.out e.symm) i8 (v8 + 1))
                have E8 := Lib.hid (D8.out.put i8 (v8 + 1))
                have z7 : (0 : Int) ≤ (i7 : Int) := by omega
                have z8 : (0 : Int) ≤ (i8 : Int) := by omega
                have y7 : (i7 : Int) < 7 := by omega
                have y8 : (i8 : Int) < 7 := by omega
                clear F7 F8 D7 D8 I4
                go_wp2
                go_roundg (N - k - 1)
                case rel =>
                  refine ⟨k + 1, by have := HK.out; omega, by go_num, E7.out.congr fun j _ => ?_, E8.out.congr fun j _ => ?_⟩
                  · rw [← HP7.out j, HV7.out]
                  · rw [← HP8.out j, HV8.out]
                case measure => have := HK.out; omega
          · have hrows := rows7 HR.out (nq + 1)
            obtain ⟨WW, hWW⟩ : ∃ WW, ((wr.drewN (nq + 1)).alloc (.cells #[.int .i64 0, .int .i64 0, .int .i64 0, .int .i64 0, .int .i64 0, .int .i64 0, .int .i64 0] 3)).alloc (.cells #[.int .i64 0, .int .i64 0, .int .i64 0, .int .i64 0, .int .i64 0, .int .i64 0, .int .i64 0] 3) = WW := ⟨_, rfl⟩
            rw [hWW] at hrows ⊢
            obtain ⟨g7, hg7⟩ : ∃ g, wr.heap.size + 1 = g := ⟨_, rfl⟩
            obtain ⟨g8, hg8⟩ : ∃ g, wr.heap.size = g := ⟨_, rfl⟩
            have hne : g7 ≠ g8 := by omega
            rw [hg7, hg8] at hrows
            rw [hg7, hg8]
            have h7 := hrows.2.2.2
            have h8 := hrows.2.2.1
            clear hg8 hg7 hWW
            have HNE := Lib.hid hne
            have HS7 := Lib.hid h7
            have HS8 := Lib.hid h8
            clear hrows h7 h8 hne hix hmk hres hmod c0 c1 c2
            go_loopg [48] N (fun g2 i W2 => ∃ (k : Nat), k + g2 = N ∧ i = .int .i64 (k : Int) ∧ CoState g7 7 (cntL rankL 7 (T.take k)) W1 W2 ∧ CoState g8 7 (cntL crankL 7 (T.take k)) W1 W2)
            case atStart => exact ⟨0, by omega, rfl, HS7.out, HS8.out⟩
            case round =>
              obtain ⟨k, hk, rfl, h7, h8⟩ := hrel
              have H7 := Lib.hid h7
              have H8 := Lib.hid h8
              have HK := Lib.hid hk
              clear HS7 HS8
              by_cases hkN : k = N
              · have hge : ¬ (k : Int) < (N : Int) := by omega
                rw [hkN, List.take_of_length_le (Nat.le_of_eq HN.out)] at h7 h8
                have h8' := h8.congr (f' := fun _ => cntL crankL 7 T 0) fun j hj => HCR.out j hj
                have h7' := h7
                obtain ⟨C, hC⟩ : ∃ C, cntL crankL 7 T 0 = C := ⟨_, rfl⟩
                rw [hC] at h8'
                obtain ⟨K, hK⟩ : ∃ K, cntL rankL 7 T = K := ⟨_, rfl⟩
                rw [hK] at h7'
                have H7' := Lib.hid h7'
                have H8' := Lib.hid h8'
                clear h7 h8 h7' h8' H7 H8 hC hK hkN hk
                go_wp2
                go_loopg [96] 7 (fun g3 i W3 => ∃ (j : Nat), j + g3 = 7 ∧ i = .int .i64 (j : Int) ∧ CoState g7 7 K W1 W3 ∧ CoState g8 7 (fun _ => C) W1 W3)
                case atStart => exact ⟨0, by omega, rfl, H7'.out, H8'.out⟩
                case round =>
                  obtain ⟨j, hj, rfl, h7, h8⟩ := hrel
                  have HJ := Lib.hid hj
                  clear H7' H8'
                  by_cases hj7 : j = 7
                  · have hge2 : ¬ (j : Int) < 7 := by omega
                    have HB8 := Lib.hid h8.b
                    clear h7 h8 hj hj7
                    go_wp2
                    go_roundg (3 - 1 - 1)
                    case rel => exact ⟨1 + 1, by omega, by go_num, ⟨HB8.out, HR.out.b0, HR.out.t, HR.out.i⟩⟩
                    case measure => have := HQ.out; omega
                  · have hlt2 : (j : Int) < 7 := by omega
                    have hlt3 : j < 7 := by omega
                    have j0 : (0 : Int) ≤ (j : Int) := by omega
                    have e1 := h8.cell (j := j) hlt3
                    have e2 := h8.cell (j := 0) (by omega)
                    have e3 := h7.cell (j := j) hlt3
                    have e4 := h7.cell (j := 0) (by omega)
                    have H7 := Lib.hid h7
                    have H8 := Lib.hid h8
                    clear h7 h8 hj hj7
                    go_wp2
                    go_quiet (fail)
                    go_wp2
                    go_roundg (7 - j - 1)
                    case rel => exact ⟨j + 1, by have := HJ.out; omega, by go_num, H7.out.drewN _, H8.out.drewN _⟩
                    case measure => have := HJ.out; omega
              · have hlt : (k : Int) < (N : Int) := by omega
                have hltN : k < N := by omega
                have htab := (HR.out.t.below h8.b)
                obtain ⟨bl, off, rfl, -, hcs⟩ := htab.resolve_left (by rw [HN.out]; omega)
                obtain ⟨ai, ci, hcl, hin⟩ := hcs k (by rw [HN.out]; omega)
                have hmem : nthL T k ∈ T := nthL_mem (by rw [HN.out]; omega)
                have hP := HISP.out _ hmem
                obtain ⟨i7, hi7, hs7⟩ := slot_nat rankL (m := 7) (by omega) (nthL T k)
                obtain ⟨i8, hi8, hs8⟩ := slot_nat crankL (m := 7) (by omega) (nthL T k)
                have HS7 := Lib.hid hs7
                have HS8 := Lib.hid hs8
                obtain ⟨bd1, bd2⟩ := cntL_bound rankL 7 T k i7
                obtain ⟨bd3, bd4⟩ := cntL_bound crankL 7 T k i8
                rw [HN.out] at bd2 bd4
                have hp7 := fun j => cntL_put (F := rankL) (m := 7) (L := T) (k := k) (i := i7) (by rw [HN.out]; omega) hs7 j
                have hp8 := fun j => cntL_put (F := crankL) (m := 7) (L := T) (k := k) (i := i8) (by rw [HN.out]; omega) hs8 j
                unfold slotOf at hs7 hs8
                obtain ⟨tb1, tb2⟩ := tm_bounds (rankL (nthL T k)) (m := 7) (by omega)
                obtain ⟨tb3, tb4⟩ := tm_bounds (crankL (nthL T k)) (m := 7) (by omega)
                have hlen := isP_len hP
                obtain ⟨x, hx⟩ : ∃ x, nthL T k = x := ⟨_, rfl⟩
                rw [hx] at hcl hin hP hs7 hs8 tb1 tb2 tb3 tb4 hlen
                obtain ⟨R, hR⟩ : ∃ R, rankL x = R := ⟨_, rfl⟩
                obtain ⟨C, hC⟩ : ∃ C, crankL x = C := ⟨_, rfl⟩
                have hRank := fun aa cc WW h => Rank_any aa x.length cc x WW h (by omega)
                have hCrank := fun aa cc WW h => Crank_any aa x.length cc x WW h (by omega)
                rw [if_pos hP, if_pos hP, hR] at hRank
                rw [if_pos hP, if_pos hP, hC] at hCrank
                rw [hR] at hs7 tb1 tb2
                rw [hC] at hs8 tb3 tb4
                obtain ⟨A7, hA7⟩ : ∃ A, Int.tmod R 7 = A := ⟨_, rfl⟩
                obtain ⟨A8, hA8⟩ : ∃ A, Int.tmod C 7 = A := ⟨_, rfl⟩
                rw [show (((7 : Nat)) : Int) = 7 from rfl] at hs7 hs8 tb1 tb2 tb3 tb4
                rw [hA7] at hs7 tb1 tb2
                rw [hA8] at hs8 tb3 tb4
                obtain ⟨v7, hv7⟩ : ∃ v, cntL rankL 7 (T.take k) i7 = v := ⟨_, rfl⟩
                obtain ⟨v8, hv8⟩ : ∃ v, cntL crankL 7 (T.take k) i8 = v := ⟨_, rfl⟩
                rw [hv7] at bd1 bd2
                rw [hv8] at bd3 bd4
                have hbig : x.length ≤ 1000000 := by omega
                have HRK2 := Lib.hid hRank
                have HCR2 := Lib.hid hCrank
                have HIN := Lib.hid hin
                have HBIG := Lib.hid hbig
                have HP7 := Lib.hid hp7
                have HP8 := Lib.hid hp8
                have HV7 := Lib.hid hv7
                have HV8 := Lib.hid hv8
                have k0 : (0 : Int) ≤ (k : Int) := by omega
                have hNs : (N : Int) ≤ 1048576 := by have := HSM.out; omega
                obtain ⟨xl, hxl⟩ : ∃ l, x.length = l := ⟨_, rfl⟩
                rw [hxl] at hcl HRK2 HCR2 HIN HBIG
                clear h7 h8 htab hcs hmem hP hlen hx hR hC hRank hCrank hv7 hv8 hp7 hp8 hin hbig hk hkN HS7 HS8 hxl
                go_wp2_with fail
                refine (clone_any ai xl ci x _ HIN.out HBIG.out).mono ?_
                rintro e W3 ⟨ao, co, rfl, ho, -, -, hb3⟩
                have I3 := Lib.hid (Ints.own ho).1
                have IN3 := Lib.hid (HIN.out.below hb3)
                have G7 := Lib.hid (H7.out.later hb3)
                have G8 := Lib.hid (H8.out.later hb3)
                clear ho hb3 HIN hcl
                go_wp2_with fail
                refine (HRK2.out _ _ _ I3.out).mono ?_
                rintro e W' ⟨rfl, rfl⟩
                go_wp2_with fail
                refine (clone_any ai xl ci x _ IN3.out HBIG.out).mono ?_
                rintro e W4 ⟨ao4, co4, rfl, ho, -, -, hb4⟩
                have I4 := Lib.hid (Ints.own ho).1
                have F7 := Lib.hid (G7.out.later hb4)
                have F8 := Lib.hid (G8.out.later hb4)
                clear ho hb4 G7 G8 I3 IN3
                go_wp2_with fail
                refine (HCR2.out _ _ _ I4.out).mono ?_
                rintro e W' ⟨rfl, rfl⟩
                have e1 := F7.out.cell hi7
                have e2 := F7.out.frozen i7
                rw [HV7.out] at e1
                have D7 := Lib.hid (F7.out.put i7 (v7 + 1))
                have D8 := Lib.hid (F8.out.other F7.out HNE.out i7 (v7 + 1))
                have e3 := D8.out.cell hi8
                have e4 := D8.out.frozen i8
                rw [HV8.out] at e3
                have E7 := Lib.hid (D7.out.other D8.out (fun e => HNE.out e.symm) i8 (v8 + 1))
                have E8 := Lib.hid (D8.out.put i8 (v8 + 1))
                have z7 : (0 : Int) ≤ (i7 : Int) := by omega
                have z8 : (0 : Int) ≤ (i8 : Int) := by omega
                have y7 : (i7 : Int) < 7 := by omega
                have y8 : (i8 : Int) < 7 := by omega
                clear F7 F8 D7 D8 I4
                go_wp2
                go_roundg (N - k - 1)
                case rel =>
                  refine ⟨k + 1, by have := HK.out; omega, by go_num, E7.out.congr fun j _ => ?_, E8.out.congr fun j _ => ?_⟩
                  · rw [← HP7.out j, HV7.out]
                  · rw [← HP8.out j, HV8.out]
                case measure => have := HK.out; omega
        · go_wp2
          go_quiet (fail)
          go_wp2
          go_roundg (3 - 1 - 1)
          case rel => exact ⟨1 + 1, by omega, by go_num, ⟨below_drewN HR.out.bb _, HR.out.b0, HR.out.t, HR.out.i⟩⟩
          case measure => have := HQ.out; omega
      · rw [show ((2 : Nat) : Int) = 2 from rfl]
        have hmod : Int.tmod (n : Int) 11 = (n : Int) % 11 := Int.tmod_eq_emod_of_nonneg (by omega)
        have hix : ∀ w, (Instr.index 51 (.agg #[.int .i64 0, .int .i64 0, .int .i64 0, .int .i64 0, .int .i64 0, .int .i64 4, .int .i64 0, .int .i64 5, .int .i64 0, .int .i64 0, .int .i64 0, .int .i64 6]) (.int .i64 11)).run Try.prog w = .ok (.int .i64 6) w := fun _ => by kernel_rfl
        by_cases hres : (n : Int) % 11 = 6
        · obtain ⟨s1, s2, s3⟩ := residOK_spec (n := n) (m := 11) (by
            have h := (resid_at HNN.out).2.2
            rw [show n % 11 = 6 by omega] at h
            simpa using h)
          rw [HT.out] at s1 s2 s3
          have HISP := Lib.hid s1
          have HCR := Lib.hid s2
          clear s3
          clear s1 s2
          go_wp2
          go_quiet (fail)
          go_wp2
          have hmk := fun w => mk11 w
          go_region
          all_goals go_wp2
          · have hrows := rows11 HR.out (nq + 1)
            obtain ⟨WW, hWW⟩ : ∃ WW, ((wr.drewN (nq + 1)).alloc (.cells #[.int .i64 0, .int .i64 0, .int .i64 0, .int .i64 0, .int .i64 0, .int .i64 0, .int .i64 0, .int .i64 0, .int .i64 0, .int .i64 0, .int .i64 0] 3)).alloc (.cells #[.int .i64 0, .int .i64 0, .int .i64 0, .int .i64 0, .int .i64 0, .int .i64 0, .int .i64 0, .int .i64 0, .int .i64 0, .int .i64 0, .int .i64 0] 3) = WW := ⟨_, rfl⟩
            rw [hWW] at hrows ⊢
            obtain ⟨g8, hg8⟩ : ∃ g, wr.heap.size + 1 = g := ⟨_, rfl⟩
            obtain ⟨g7, hg7⟩ : ∃ g, wr.heap.size = g := ⟨_, rfl⟩
            have hne : g7 ≠ g8 := by omega
            rw [hg8, hg7] at hrows
            rw [hg8, hg7]
            have h7 := hrows.1
            have h8 := hrows.2.1
            clear hg7 hg8 hWW
            have HNE := Lib.hid hne
            have HS7 := Lib.hid h7
            have HS8 := Lib.hid h8
            clear hrows h7 h8 hne hix hmk hres hmod c0 c1 c2
            go_loopg [48] N (fun g2 i W2 => ∃ (k : Nat), k + g2 = N ∧ i = .int .i64 (k : Int) ∧ CoState g7 11 (cntL rankL 11 (T.take k)) W1 W2 ∧ CoState g8 11 (cntL crankL 11 (T.take k)) W1 W2)
            case atStart => exact ⟨0, by omega, rfl, HS7.out, HS8.out⟩
            case round =>
              obtain ⟨k, hk, rfl, h7, h8⟩ := hrel
              have H7 := Lib.hid h7
              have H8 := Lib.hid h8
              have HK := Lib.hid hk
              clear HS7 HS8
              by_cases hkN : k = N
              · have hge : ¬ (k : Int) < (N : Int) := by omega
                rw [hkN, List.take_of_length_le (Nat.le_of_eq HN.out)] at h7 h8
                have h8' := h8.congr (f' := fun _ => cntL crankL 11 T 0) fun j hj => HCR.out j hj
                have h7' := h7
                obtain ⟨C, hC⟩ : ∃ C, cntL crankL 11 T 0 = C := ⟨_, rfl⟩
                rw [hC] at h8'
                obtain ⟨K, hK⟩ : ∃ K, cntL rankL 11 T = K := ⟨_, rfl⟩
                rw [hK] at h7'
                have H7' := Lib.hid h7'
                have H8' := Lib.hid h8'
                clear h7 h8 h7' h8' H7 H8 hC hK hkN hk
                go_wp2
                go_loopg [96] 11 (fun g3 i W3 => ∃ (j : Nat), j + g3 = 11 ∧ i = .int .i64 (j : Int) ∧ CoState g7 11 K W1 W3 ∧ CoState g8 11 (fun _ => C) W1 W3)
                case atStart => exact ⟨0, by omega, rfl, H7'.out, H8'.out⟩
                case round =>
                  obtain ⟨j, hj, rfl, h7, h8⟩ := hrel
                  have HJ := Lib.hid hj
                  clear H7' H8'
                  by_cases hj11 : j = 11
                  · have hge2 : ¬ (j : Int) < 11 := by omega
                    have HB8 := Lib.hid h8.b
                    clear h7 h8 hj hj11
                    go_wp2
                    go_roundg (3 - 2 - 1)
                    case rel => exact ⟨2 + 1, by omega, by go_num, ⟨HB8.out, HR.out.b0, HR.out.t, HR.out.i⟩⟩
                    case measure => have := HQ.out; omega
                  · have hlt2 : (j : Int) < 11 := by omega
                    have hlt3 : j < 11 := by omega
                    have j0 : (0 : Int) ≤ (j : Int) := by omega
                    have e1 := h8.cell (j := j) hlt3
                    have e2 := h8.cell (j := 0) (by omega)
                    have e3 := h7.cell (j := j) hlt3
                    have e4 := h7.cell (j := 0) (by omega)
                    have H7 := Lib.hid h7
                    have H8 := Lib.hid h8
                    clear h7 h8 hj hj11
                    go_wp2
                    go_quiet (fail)
                    go_wp2
                    go_roundg (11 - j - 1)
                    case rel => exact ⟨j + 1, by have := HJ.out; omega, by go_num, H7.out.drewN _, H8.out.drewN _⟩
                    case measure => have := HJ.out; omega
              · have hlt : (k : Int) < (N : Int) := by omega
                have hltN : k < N := by omega
                have htab := (HR.out.t.below h8.b)
                obtain ⟨bl, off, rfl, -, hcs⟩ := htab.resolve_left (by rw [HN.out]; omega)
                obtain ⟨ai, ci, hcl, hin⟩ := hcs k (by rw [HN.out]; omega)
                have hmem : nthL T k ∈ T := nthL_mem (by rw [HN.out]; omega)
                have hP := HISP.out _ hmem
                obtain ⟨i7, hi7, hs7⟩ := slot_nat rankL (m := 11) (by omega) (nthL T k)
                obtain ⟨i8, hi8, hs8⟩ := slot_nat crankL (m := 11) (by omega) (nthL T k)
                have HS7 := Lib.hid hs7
                have HS8 := Lib.hid hs8
                obtain ⟨bd1, bd2⟩ := cntL_bound rankL 11 T k i7
                obtain ⟨bd3, bd4⟩ := cntL_bound crankL 11 T k i8
                rw [HN.out] at bd2 bd4
                have hp7 := fun j => cntL_put (F := rankL) (m := 11) (L := T) (k := k) (i := i7) (by rw [HN.out]; omega) hs7 j
                have hp8 := fun j => cntL_put (F := crankL) (m := 11) (L := T) (k := k) (i := i8) (by rw [HN.out]; omega) hs8 j
                unfold slotOf at hs7 hs8
                obtain ⟨tb1, tb2⟩ := tm_bounds (rankL (nthL T k)) (m := 11) (by omega)
                obtain ⟨tb3, tb4⟩ := tm_bounds (crankL (nthL T k)) (m := 11) (by omega)
                have hlen := isP_len hP
                obtain ⟨x, hx⟩ : ∃ x, nthL T k = x := ⟨_, rfl⟩
                rw [hx] at hcl hin hP hs7 hs8 tb1 tb2 tb3 tb4 hlen
                obtain ⟨R, hR⟩ : ∃ R, rankL x = R := ⟨_, rfl⟩
                obtain ⟨C, hC⟩ : ∃ C, crankL x = C := ⟨_, rfl⟩
                have hRank := fun aa cc WW h => Rank_any aa x.length cc x WW h (by omega)
                have hCrank := fun aa cc WW h => Crank_any aa x.length cc x WW h (by omega)
                rw [if_pos hP, if_pos hP, hR] at hRank
                rw [if_pos hP, if_pos hP, hC] at hCrank
                rw [hR] at hs7 tb1 tb2
                rw [hC] at hs8 tb3 tb4
                obtain ⟨A7, hA7⟩ : ∃ A, Int.tmod R 11 = A := ⟨_, rfl⟩
                obtain ⟨A8, hA8⟩ : ∃ A, Int.tmod C 11 = A := ⟨_, rfl⟩
                rw [show (((11 : Nat)) : Int) = 11 from rfl] at hs7 hs8 tb1 tb2 tb3 tb4
                rw [hA7] at hs7 tb1 tb2
                rw [hA8] at hs8 tb3 tb4
                obtain ⟨v7, hv7⟩ : ∃ v, cntL rankL 11 (T.take k) i7 = v := ⟨_, rfl⟩
                obtain ⟨v8, hv8⟩ : ∃ v, cntL crankL 11 (T.take k) i8 = v := ⟨_, rfl⟩
                rw [hv7] at bd1 bd2
                rw [hv8] at bd3 bd4
                have hbig : x.length ≤ 1000000 := by omega
                have HRK2 := Lib.hid hRank
                have HCR2 := Lib.hid hCrank
                have HIN := Lib.hid hin
                have HBIG := Lib.hid hbig
                have HP7 := Lib.hid hp7
                have HP8 := Lib.hid hp8
                have HV7 := Lib.hid hv7
                have HV8 := Lib.hid hv8
                have k0 : (0 : Int) ≤ (k : Int) := by omega
                have hNs : (N : Int) ≤ 1048576 := by have := HSM.out; omega
                obtain ⟨xl, hxl⟩ : ∃ l, x.length = l := ⟨_, rfl⟩
                rw [hxl] at hcl HRK2 HCR2 HIN HBIG
                clear h7 h8 htab hcs hmem hP hlen hx hR hC hRank hCrank hv7 hv8 hp7 hp8 hin hbig hk hkN HS7 HS8 hxl
                go_wp2_with fail
                refine (clone_any ai xl ci x _ HIN.out HBIG.out).mono ?_
                rintro e W3 ⟨ao, co, rfl, ho, -, -, hb3⟩
                have I3 := Lib.hid (Ints.own ho).1
                have IN3 := Lib.hid (HIN.out.below hb3)
                have G7 := Lib.hid (H7.out.later hb3)
                have G8 := Lib.hid (H8.out.later hb3)
                clear ho hb3 HIN hcl
                go_wp2_with fail
                refine (HRK2.out _ _ _ I3.out).mono ?_
                rintro e W' ⟨rfl, rfl⟩
                go_wp2_with fail
                refine (clone_any ai xl ci x _ IN3.out HBIG.out).mono ?_
                rintro e W4 ⟨ao4, co4, rfl, ho, -, -, hb4⟩
                have I4 := Lib.hid (Ints.own ho).1
                have F7 := Lib.hid (G7.out.later hb4)
                have F8 := Lib.hid (G8.out.later hb4)
                clear ho hb4 G7 G8 I3 IN3
                go_wp2_with fail
                refine (HCR2.out _ _ _ I4.out).mono ?_
                rintro e W' ⟨rfl, rfl⟩
                have e1 := F7.out.cell hi7
                have e2 := F7.out.frozen i7
                rw [HV7.out] at e1
                have D7 := Lib.hid (F7.out.put i7 (v7 + 1))
                have D8 := Lib.hid (F8.out.other F7.out HNE.out i7 (v7 + 1))
                have e3 := D8.out.cell hi8
                have e4 := D8.out.frozen i8
                rw [HV8.out] at e3
                have E7 := Lib.hid (D7.out.other D8.out (fun e => HNE.out e.symm) i8 (v8 + 1))
                have E8 := Lib.hid (D8.out.put i8 (v8 + 1))
                have z7 : (0 : Int) ≤ (i7 : Int) := by omega
                have z8 : (0 : Int) ≤ (i8 : Int) := by omega
                have y7 : (i7 : Int) < 11 := by omega
                have y8 : (i8 : Int) < 11 := by omega
                clear F7 F8 D7 D8 I4
                go_wp2
                go_roundg (N - k - 1)
                case rel =>
                  refine ⟨k + 1, by have := HK.out; omega, by go_num, E7.out.congr fun j _ => ?_, E8.out.congr fun j _ => ?_⟩
                  · rw [← HP7.out j, HV7.out]
                  · rw [← HP8.out j, HV8.out]
                case measure => have := HK.out; omega
          · have hrows := rows11 HR.out (nq + 1)
            obtain ⟨WW, hWW⟩ : ∃ WW, ((wr.drewN (nq + 1)).alloc (.cells #[.int .i64 0, .int .i64 0, .int .i64 0, .int .i64 0, .int .i64 0, .int .i64 0, .int .i64 0, .int .i64 0, .int .i64 0, .int .i64 0, .int .i64 0] 3)).alloc (.cells #[.int .i64 0, .int .i64 0, .int .i64 0, .int .i64 0, .int .i64 0, .int .i64 0, .int .i64 0, .int .i64 0, .int .i64 0, .int .i64 0, .int .i64 0] 3) = WW := ⟨_, rfl⟩
            rw [hWW] at hrows ⊢
            obtain ⟨g7, hg7⟩ : ∃ g, wr.heap.size + 1 = g := ⟨_, rfl⟩
            obtain ⟨g8, hg8⟩ : ∃ g, wr.heap.size = g := ⟨_, rfl⟩
            have hne : g7 ≠ g8 := by omega
            rw [hg7, hg8] at hrows
            rw [hg7, hg8]
            have h7 := hrows.2.2.2
            have h8 := hrows.2.2.1
            clear hg8 hg7 hWW
            have HNE := Lib.hid hne
            have HS7 := Lib.hid h7
            have HS8 := Lib.hid h8
            clear hrows h7 h8 hne hix hmk hres hmod c0 c1 c2
            go_loopg [48] N (fun g2 i W2 => ∃ (k : Nat), k + g2 = N ∧ i = .int .i64 (k : Int) ∧ CoState g7 11 (cntL rankL 11 (T.take k)) W1 W2 ∧ CoState g8 11 (cntL crankL 11 (T.take k)) W1 W2)
            case atStart => exact ⟨0, by omega, rfl, HS7.out, HS8.out⟩
            case round =>
              obtain ⟨k, hk, rfl, h7, h8⟩ := hrel
              have H7 := Lib.hid h7
              have H8 := Lib.hid h8
              have HK := Lib.hid hk
              clear HS7 HS8
              by_cases hkN : k = N
              · have hge : ¬ (k : Int) < (N : Int) := by omega
                rw [hkN, List.take_of_length_le (Nat.le_of_eq HN.out)] at h7 h8
                have h8' := h8.congr (f' := fun _ => cntL crankL 11 T 0) fun j hj => HCR.out j hj
                have h7' := h7
                obtain ⟨C, hC⟩ : ∃ C, cntL crankL 11 T 0 = C := ⟨_, rfl⟩
                rw [hC] at h8'
                obtain ⟨K, hK⟩ : ∃ K, cntL rankL 11 T = K := ⟨_, rfl⟩
                rw [hK] at h7'
                have H7' := Lib.hid h7'
                have H8' := Lib.hid h8'
                clear h7 h8 h7' h8' H7 H8 hC hK hkN hk
                go_wp2
                go_loopg [96] 11 (fun g3 i W3 => ∃ (j : Nat), j + g3 = 11 ∧ i = .int .i64 (j : Int) ∧ CoState g7 11 K W1 W3 ∧ CoState g8 11 (fun _ => C) W1 W3)
                case atStart => exact ⟨0, by omega, rfl, H7'.out, H8'.out⟩
                case round =>
                  obtain ⟨j, hj, rfl, h7, h8⟩ := hrel
                  have HJ := Lib.hid hj
                  clear H7' H8'
                  by_cases hj11 : j = 11
                  · have hge2 : ¬ (j : Int) < 11 := by omega
                    have HB8 := Lib.hid h8.b
                    clear h7 h8 hj hj11
                    go_wp2
                    go_roundg (3 - 2 - 1)
                    case rel => exact ⟨2 + 1, by omega, by go_num, ⟨HB8.out, HR.out.b0, HR.out.t, HR.out.i⟩⟩
                    case measure => have := HQ.out; omega
                  · have hlt2 : (j : Int) < 11 := by omega
                    have hlt3 : j < 11 := by omega
                    have j0 : (0 : Int) ≤ (j : Int) := by omega
                    have e1 := h8.cell (j := j) hlt3
                    have e2 := h8.cell (j := 0) (by omega)
                    have e3 := h7.cell (j := j) hlt3
                    have e4 := h7.cell (j := 0) (by omega)
                    have H7 := Lib.hid h7
                    have H8 := Lib.hid h8
                    clear h7 h8 hj hj11
                    go_wp2
                    go_quiet (fail)
                    go_wp2
                    go_roundg (11 - j - 1)
                    case rel => exact ⟨j + 1, by have := HJ.out; omega, by go_num, H7.out.drewN _, H8.out.drewN _⟩
                    case measure => have := HJ.out; omega
              · have hlt : (k : Int) < (N : Int) := by omega
                have hltN : k < N := by omega
                have htab := (HR.out.t.below h8.b)
                obtain ⟨bl, off, rfl, -, hcs⟩ := htab.resolve_left (by rw [HN.out]; omega)
                obtain ⟨ai, ci, hcl, hin⟩ := hcs k (by rw [HN.out]; omega)
                have hmem : nthL T k ∈ T := nthL_mem (by rw [HN.out]; omega)
                have hP := HISP.out _ hmem
                obtain ⟨i7, hi7, hs7⟩ := slot_nat rankL (m := 11) (by omega) (nthL T k)
                obtain ⟨i8, hi8, hs8⟩ := slot_nat crankL (m := 11) (by omega) (nthL T k)
                have HS7 := Lib.hid hs7
                have HS8 := Lib.hid hs8
                obtain ⟨bd1, bd2⟩ := cntL_bound rankL 11 T k i7
                obtain ⟨bd3, bd4⟩ := cntL_bound crankL 11 T k i8
                rw [HN.out] at bd2 bd4
                have hp7 := fun j => cntL_put (F := rankL) (m := 11) (L := T) (k := k) (i := i7) (by rw [HN.out]; omega) hs7 j
                have hp8 := fun j => cntL_put (F := crankL) (m := 11) (L := T) (k := k) (i := i8) (by rw [HN.out]; omega) hs8 j
                unfold slotOf at hs7 hs8
                obtain ⟨tb1, tb2⟩ := tm_bounds (rankL (nthL T k)) (m := 11) (by omega)
                obtain ⟨tb3, tb4⟩ := tm_bounds (crankL (nthL T k)) (m := 11) (by omega)
                have hlen := isP_len hP
                obtain ⟨x, hx⟩ : ∃ x, nthL T k = x := ⟨_, rfl⟩
                rw [hx] at hcl hin hP hs7 hs8 tb1 tb2 tb3 tb4 hlen
                obtain ⟨R, hR⟩ : ∃ R, rankL x = R := ⟨_, rfl⟩
                obtain ⟨C, hC⟩ : ∃ C, crankL x = C := ⟨_, rfl⟩
                have hRank := fun aa cc WW h => Rank_any aa x.length cc x WW h (by omega)
                have hCrank := fun aa cc WW h => Crank_any aa x.length cc x WW h (by omega)
                rw [if_pos hP, if_pos hP, hR] at hRank
                rw [if_pos hP, if_pos hP, hC] at hCrank
                rw [hR] at hs7 tb1 tb2
                rw [hC] at hs8 tb3 tb4
                obtain ⟨A7, hA7⟩ : ∃ A, Int.tmod R 11 = A := ⟨_, rfl⟩
                obtain ⟨A8, hA8⟩ : ∃ A, Int.tmod C 11 = A := ⟨_, rfl⟩
                rw [show (((11 : Nat)) : Int) = 11 from rfl] at hs7 hs8 tb1 tb2 tb3 tb4
                rw [hA7] at hs7 tb1 tb2
                rw [hA8] at hs8 tb3 tb4
                obtain ⟨v7, hv7⟩ : ∃ v, cntL rankL 11 (T.take k) i7 = v := ⟨_, rfl⟩
                obtain ⟨v8, hv8⟩ : ∃ v, cntL crankL 11 (T.take k) i8 = v := ⟨_, rfl⟩
                rw [hv7] at bd1 bd2
                rw [hv8] at bd3 bd4
                have hbig : x.length ≤ 1000000 := by omega
                have HRK2 := Lib.hid hRank
                have HCR2 := Lib.hid hCrank
                have HIN := Lib.hid hin
                have HBIG := Lib.hid hbig
                have HP7 := Lib.hid hp7
                have HP8 := Lib.hid hp8
                have HV7 := Lib.hid hv7
                have HV8 := Lib.hid hv8
                have k0 : (0 : Int) ≤ (k : Int) := by omega
                have hNs : (N : Int) ≤ 1048576 := by have := HSM.out; omega
                obtain ⟨xl, hxl⟩ : ∃ l, x.length = l := ⟨_, rfl⟩
                rw [hxl] at hcl HRK2 HCR2 HIN HBIG
                clear h7 h8 htab hcs hmem hP hlen hx hR hC hRank hCrank hv7 hv8 hp7 hp8 hin hbig hk hkN HS7 HS8 hxl
                go_wp2_with fail
                refine (clone_any ai xl ci x _ HIN.out HBIG.out).mono ?_
                rintro e W3 ⟨ao, co, rfl, ho, -, -, hb3⟩
                have I3 := Lib.hid (Ints.own ho).1
                have IN3 := Lib.hid (HIN.out.below hb3)
                have G7 := Lib.hid (H7.out.later hb3)
                have G8 := Lib.hid (H8.out.later hb3)
                clear ho hb3 HIN hcl
                go_wp2_with fail
                refine (HRK2.out _ _ _ I3.out).mono ?_
                rintro e W' ⟨rfl, rfl⟩
                go_wp2_with fail
                refine (clone_any ai xl ci x _ IN3.out HBIG.out).mono ?_
                rintro e W4 ⟨ao4, co4, rfl, ho, -, -, hb4⟩
                have I4 := Lib.hid (Ints.own ho).1
                have F7 := Lib.hid (G7.out.later hb4)
                have F8 := Lib.hid (G8.out.later hb4)
                clear ho hb4 G7 G8 I3 IN3
                go_wp2_with fail
                refine (HCR2.out _ _ _ I4.out).mono ?_
                rintro e W' ⟨rfl, rfl⟩
                have e1 := F7.out.cell hi7
                have e2 := F7.out.frozen i7
                rw [HV7.out] at e1
                have D7 := Lib.hid (F7.out.put i7 (v7 + 1))
                have D8 := Lib.hid (F8.out.other F7.out HNE.out i7 (v7 + 1))
                have e3 := D8.out.cell hi8
                have e4 := D8.out.frozen i8
                rw [HV8.out] at e3
                have E7 := Lib.hid (D7.out.other D8.out (fun e => HNE.out e.symm) i8 (v8 + 1))
                have E8 := Lib.hid (D8.out.put i8 (v8 + 1))
                have z7 : (0 : Int) ≤ (i7 : Int) := by omega
                have z8 : (0 : Int) ≤ (i8 : Int) := by omega
                have y7 : (i7 : Int) < 11 := by omega
                have y8 : (i8 : Int) < 11 := by omega
                clear F7 F8 D7 D8 I4
                go_wp2
                go_roundg (N - k - 1)
                case rel =>
                  refine ⟨k + 1, by have := HK.out; omega, by go_num, E7.out.congr fun j _ => ?_, E8.out.congr fun j _ => ?_⟩
                  · rw [← HP7.out j, HV7.out]
                  · rw [← HP8.out j, HV8.out]
                case measure => have := HK.out; omega
        · go_wp2
          go_quiet (fail)
          go_wp2
          go_roundg (3 - 2 - 1)
          case rel => exact ⟨2 + 1, by omega, by go_num, ⟨below_drewN HR.out.bb _, HR.out.b0, HR.out.t, HR.out.i⟩⟩
          case measure => have := HQ.out; omega

set_option maxHeartbeats 2000000 in
set_option maxRecDepth 100000 in
theorem lawRes_out (n : Int) (hn : n < 0 ∨ 20 < n) (w : World) :
    Calls Try.prog 13 #[.int .i64 n] w fun e w' => e = .returned (.bool true) ∧ Below w.heap.size w w' := by
  have HL := Lib.hid (fun W => List_no n hn W)
  clear hn
  go_enter Try.func13, Try.ntmps13
  go_wp2_with fail
  refine (HL.out _).mono ?_
  rintro e w' ⟨rfl, rfl⟩
  go_wp2_with fail
  refine (awake_any _).mono ?_
  rintro e w6 ⟨rfl, hb6⟩
  have B6 := Lib.hid hb6
  clear hb6
  go_wp2_with fail
  go_ret
  exact ⟨rfl, B6.out⟩

theorem lawRes_any (n : Int) (w : World) :
    Calls Try.prog 13 #[.int .i64 n] w fun e w' => e = .returned (.bool true) ∧ Below w.heap.size w w' := by
  by_cases h : n < 0 ∨ 20 < n
  · exact lawRes_out n h w
  · obtain ⟨m, rfl⟩ : ∃ m : Nat, n = (m : Int) := ⟨n.toNat, by omega⟩
    exact lawRes_in m (by omega) w
end Go.Proofs.Ytfecdpglcdhijaa
