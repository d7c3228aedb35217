/- The walks of byTaken and slices.MinFunc at pairs. Condition: the slice is the call's own, with at least one pair; the numbers are small. -/
import Derived.Test.YtbdabpmpfciibaaGame3
import Derived.Deep.RegionHeld3
namespace Go.Proofs.Ytbdabpmpfciibaa
open Go.RowKit
attribute [local go_sem] Oper.semAt_some

def smallP (p : Int × Int) : Prop := -10000000 ≤ p.1 ∧ p.1 ≤ 10000000 ∧ -10000000 ≤ p.2 ∧ p.2 ≤ 10000000

set_option maxHeartbeats 8000000 in
set_option maxRecDepth 100000 in
theorem byTaken_any (x m : Int × Int) (w : World) (hx : smallP x) (hm : smallP m) :
    Calls Try.prog 101 #[.agg #[.int .i64 x.1, .int .i64 x.2], .agg #[.int .i64 m.1, .int .i64 m.2]] w fun e w' => e = .returned (.int .i64 (bt x m)) ∧ Below w.heap.size w w' := by
  obtain ⟨x1, x2⟩ := x
  obtain ⟨m1, m2⟩ := m
  obtain ⟨a1, a2, a3, a4⟩ := hx
  obtain ⟨b1, b2, b3, b4⟩ := hm
  simp only at a1 a2 a3 a4 b1 b2 b3 b4 ⊢
  have hw1 : IntKind.i64.wrap (m1 + m2) = m1 + m2 := by simp [IntKind.wrap, IntKind.bits, IntKind.signed]; omega
  have hw2 : IntKind.i64.wrap (x1 + x2) = x1 + x2 := by simp [IntKind.wrap, IntKind.bits, IntKind.signed]; omega
  have hbt : bt (x1, x2) (m1, m2) = orF (Lib.compareInt (m1 + m2) (x1 + x2)) (Lib.compareInt x1 m1) := rfl
  rw [hbt]
  obtain ⟨g, hg⟩ : ∃ g, w.heap.size = g := ⟨_, rfl⟩
  obtain ⟨W, hW⟩ : ∃ W, (w.alloc (.cells #[.int .i64 x1, .int .i64 x2] 72)).alloc (.cells #[.int .i64 m1, .int .i64 m2] 72) = W := ⟨_, rfl⟩
  have hc0 : W.cell? ⟨g, 0, none⟩ = some (.int .i64 x1) := by rw [← hW, ← hg]; exact Lib.cell?_alloc_some _ (by simp)
  have hc1 : W.cell? ⟨g, 1, none⟩ = some (.int .i64 x2) := by rw [← hW, ← hg]; exact Lib.cell?_alloc_some _ (by simp)
  have hh := heap_alloc_last (w.alloc (.cells #[.int .i64 x1, .int .i64 x2] 72)) (.cells #[.int .i64 m1, .int .i64 m2] 72)
  rw [World.size_alloc, hW, hg] at hh
  have hc2 : W.cell? ⟨g + 1, 0, none⟩ = some (.int .i64 m1) := by unfold World.cell?; rw [hh]; rfl
  have hc3 : W.cell? ⟨g + 1, 1, none⟩ = some (.int .i64 m2) := by unfold World.cell?; rw [hh]; rfl
  have hBW : Below w.heap.size w W := hW ▸ (((Below.refl w.heap.size w).alloc (Nat.le_refl _) _).alloc (by simp) _)
  have hgl : g + 1 < W.heap.size := by rw [← hW, ← hg]; simp
  have HC := Lib.hid (And.intro hc0 (And.intro hc1 (And.intro hc2 (And.intro hc3 (And.intro hBW hgl)))))
  clear hbt hh hc0 hc1 hc2 hc3 hBW hgl
  go_enter Try.func101, Try.ntmps101
  go_wp2_with fail
  clear hW hg
  go_region_held3 (fun w' => w'.cell? ⟨g, 0, none⟩ = some (.int .i64 x1) ∧ w'.cell? ⟨g, 1, none⟩ = some (.int .i64 x2) ∧ w'.cell? ⟨g + 1, 0, none⟩ = some (.int .i64 m1) ∧ w'.cell? ⟨g + 1, 1, none⟩ = some (.int .i64 m2))
    (first | exact ⟨HC.out.1, HC.out.2.1, HC.out.2.2.1, HC.out.2.2.2.1⟩ | exact ⟨Lib.cell?_alloc_some _ HC.out.1, Lib.cell?_alloc_some _ HC.out.2.1, Lib.cell?_alloc_some _ HC.out.2.2.1, Lib.cell?_alloc_some _ HC.out.2.2.2.1⟩)
    (first
      | (go_at_call 87; refine (Try.cmp_Compare_int _ _ _).mono ?_; rintro e w1 ⟨rfl, rfl⟩)
      | (go_at_call 114; refine (or_any _ _ (Lib.compareInt (m1 + m2) (x1 + x2)) (Lib.compareInt x1 m1) _ (by simp) (by simp)).mono ?_; rintro e w1 ⟨rfl, rfl⟩))
  all_goals
    go_wp2
    go_ret
    exact ⟨rfl, (HC.out.2.2.2.2.1.alloc HC.out.2.2.2.2.1.size _).drew⟩

/-- The best of the first pairs. -/
def minTo (S : List (Int × Int)) : Nat → Int × Int
  | 0 => nth2 S 0
  | t + 1 => if bt (nth2 S (t + 1)) (minTo S t) < 0 then nth2 S (t + 1) else minTo S t
theorem minTo_mem (S : List (Int × Int)) : ∀ t, ∃ j, j ≤ t ∧ minTo S t = nth2 S j
  | 0 => ⟨0, Nat.le_refl _, rfl⟩
  | t + 1 => by
    unfold minTo
    split
    · exact ⟨t + 1, Nat.le_refl _, rfl⟩
    · obtain ⟨j, hj, e⟩ := minTo_mem S t
      exact ⟨j, by omega, e⟩

/-- The worlds of MinFunc. -/
structure MS (w : World) (m : Int × Int) (W : World) : Prop where
  b : Below w.heap.size w W
  r : W.heap[w.heap.size]? = some (.cells #[.int .i64 0, .int .i64 0] 72 (0, 0))
  m : W.heap[w.heap.size + 1]? = some (.cells #[.int .i64 m.1, .int .i64 m.2] 72 (0, 0))
theorem MS.later {w W W' : World} {m : Int × Int} (h : MS w m W) (hb : Below W.heap.size W W') : MS w m W' :=
  ⟨h.b.trans (hb.mono h.b.size), (hb.block _ (Array.getElem?_eq_some_iff.1 h.r).1).trans h.r, (hb.block _ (Array.getElem?_eq_some_iff.1 h.m).1).trans h.m⟩
theorem MS.c0 {w W : World} {m : Int × Int} (h : MS w m W) : W.cell? ⟨w.heap.size + 1, 0, none⟩ = some (.int .i64 m.1) := by unfold World.cell?; rw [h.m]; rfl
theorem MS.c1 {w W : World} {m : Int × Int} (h : MS w m W) : W.cell? ⟨w.heap.size + 1, 1, none⟩ = some (.int .i64 m.2) := by unfold World.cell?; rw [h.m]; rfl
theorem MS.put {w W : World} {m : Int × Int} (h : MS w m W) (x y : Int) : MS w (x, y) (W.setRow (w.heap.size + 1) #[.int .i64 x, .int .i64 y]) :=
  ⟨below_setRow h.b (Nat.le_succ _) _, by rw [← h.r]; exact setRow_other _ _ _ _ (by omega), setRow_heap W (w.heap.size + 1) _ _ 72 (0, 0) h.m⟩
theorem MS.start (w : World) (m : Int × Int) : MS w m ((w.alloc (.cells #[.int .i64 0, .int .i64 0] 72)).alloc (.cells #[.int .i64 m.1, .int .i64 m.2] 72)) := by
  have hh := heap_alloc_last (w.alloc (.cells #[.int .i64 0, .int .i64 0] 72)) (.cells #[.int .i64 m.1, .int .i64 m.2] 72)
  rw [World.size_alloc] at hh
  have hb := (Below.refl (w.alloc (.cells #[.int .i64 0, .int .i64 0] 72)).heap.size (w.alloc (.cells #[.int .i64 0, .int .i64 0] 72))).alloc (Nat.le_refl _) (.cells #[.int .i64 m.1, .int .i64 m.2] 72)
  refine ⟨((Below.refl w.heap.size w).alloc (Nat.le_refl _) _).alloc (by simp) _, ?_, hh⟩
  exact (hb.block _ (by simp)).trans (heap_alloc_last w _)

set_option maxHeartbeats 8000000 in
set_option maxRecDepth 100000 in
theorem min_any (B g cp k : Nat) (S : List (Int × Int)) (w : World) (hS : HB B g S w) (hk : 1 ≤ k) (hkS : k ≤ S.length) (hk2 : k ≤ 1000) (hsm : ∀ j, j < k → smallP (nth2 S j)) :
    Calls Try.prog 99 #[.slice (some ⟨g, 0, none⟩) k cp, .func (.func 101) #[] #[]] w fun e w' => e = .returned (.agg #[.int .i64 (minTo S (k - 1)).1, .int .i64 (minTo S (k - 1)).2]) ∧ Below w.heap.size w w' := by
  have HS := Lib.hid hS
  have HKS := Lib.hid hkS
  have HSM := Lib.hid hsm
  have hr := hS.range (j := 0) (by omega)
  rw [Nat.zero_mul] at hr
  have hc0 := hr 0 _ rfl
  have hc1 := hr 1 _ rfl
  rw [Nat.add_zero] at hc0
  rw [Nat.zero_add] at hc1
  have k0 : ¬ (k : Int) < 1 := by omega
  have k1 : (0 : Int) < (k : Int) := by omega
  have k2 : 0 < k := by omega
  have hM := Lib.hid (MS.start w (nth2 S 0))
  have e0 := Lib.cell?_alloc_some (.cells #[.int .i64 0, .int .i64 0] 72) hc0
  have e1 := Lib.cell?_alloc_some (.cells #[.int .i64 0, .int .i64 0] 72) hc1
  obtain ⟨x, hx⟩ : ∃ x, (nth2 S 0).1 = x := ⟨_, rfl⟩
  obtain ⟨y, hy⟩ : ∃ y, (nth2 S 0).2 = y := ⟨_, rfl⟩
  rw [hx] at hc0 e0 hM
  rw [hy] at hc1 e1 hM
  clear hS hkS hsm hr hc0 hc1 hx hy
  go_enter Try.func99, Try.ntmps99
  go_wp2
  clear e0 e1
  obtain ⟨W0, hW0⟩ : ∃ W0, ((w.alloc (.cells #[.int .i64 0, .int .i64 0] 72)).alloc (.cells #[.int .i64 x, .int .i64 y] 72)) = W0 := ⟨_, rfl⟩
  rw [hW0] at hM ⊢
  clear hW0
  have hM0 : MS w (minTo S 0) W0 := hM.out
  have HM0 := Lib.hid hM0
  clear hM hM0
  go_loopg [6] (k - 1) (fun gk s6 wr => ∃ (t : Nat), t + 1 + gk = k ∧ s6 = .int .i64 ((t : Int) + 1) ∧ MS w (minTo S t) wr)
  case atStart => exact ⟨0, by omega, by go_num, HM0.out⟩
  case round =>
    obtain ⟨t, ht, rfl, hm⟩ := hrel
    have HT := Lib.hid ht
    have HM := Lib.hid hm
    clear ht hm HM0
    obtain ⟨j, hj⟩ : ∃ j, t + 1 = j := ⟨_, rfl⟩
    have hji : (t : Int) + 1 = (j : Int) := by omega
    rw [hji]
    have HJ := Lib.hid hj
    have j0 : (0 : Int) ≤ (j : Int) := by omega
    clear hj hji
    by_cases hjk : j = k
    · have hge : ¬ (j : Int) < (k : Int) := by omega
      have hge2 : ¬ j < k := by omega
      have hmm := HM.out
      have ek : k - 1 = t := by have := HJ.out; omega
      have EK := Lib.hid ek
      obtain ⟨m1, hm1⟩ : ∃ m1, (minTo S t).1 = m1 := ⟨_, rfl⟩
      obtain ⟨m2, hm2⟩ : ∃ m2, (minTo S t).2 = m2 := ⟨_, rfl⟩
      have hc0 := hmm.c0
      have hc1 := hmm.c1
      have hr := hmm.r
      rw [hm1] at hc0
      rw [hm2] at hc1
      have H1 := Lib.hid hm1
      have H2 := Lib.hid hm2
      have HR := Lib.hid hr
      have HB := Lib.hid hmm.b
      clear hmm hr hm1 hm2 ek hjk
      go_wp2_with (refine wpList_store_row rfl 72 (.tmp 4) (.tmp 32) rfl w.heap.size #[.int .i64 m1, .int .i64 m2] #[.int .i64 0, .int .i64 0] rfl rfl HR.out info72 rfl (one_pair _ _) ?_)
      refine bodyPost_ret (v := .agg #[.int .i64 m1, .int .i64 m2]) ?_ rfl ⟨by rw [EK.out, H1.out, H2.out], below_setRow HB.out (Nat.le_refl _) _⟩
      rw [results_cell_one (fn := Try.f99) (p := 4) (ty := 72) Try.results99]
      exact run_loadVar_row _ _ 72 72 _ (0, 0) _ (setRow_heap wr w.heap.size _ _ 72 (0, 0) HR.out) Try.underlying72 rfl info72
    · have hlt2 : j < k := by have := HT.out; have := HJ.out; omega
      have hlt : (j : Int) < (k : Int) := by omega
      have hS2 := HS.out.later (HM.out.b)
      have hr := hS2.range (j := j) (by have := HKS.out; omega)
      have hc0 := hr 0 _ rfl
      have hc1 := hr 1 _ rfl
      rw [Nat.add_zero] at hc0
      have hb0 := HM.out.c0
      have hb1 := HM.out.c1
      have hgl := hS2.lt
      have hpl : w.heap.size + 1 < wr.heap.size := (Array.getElem?_eq_some_iff.1 HM.out.m).1
      have hmt : minTo S (t + 1) = if bt (nth2 S (t + 1)) (minTo S t) < 0 then nth2 S (t + 1) else minTo S t := rfl
      rw [HJ.out] at hmt
      have hsmm : smallP (minTo S t) := by
        obtain ⟨i, hi, e⟩ := minTo_mem S t
        rw [e]
        exact HSM.out i (by have := HJ.out; omega)
      have HC := fun W => byTaken_any (nth2 S j) (minTo S t) W (HSM.out j hlt2) hsmm
      obtain ⟨R, hR⟩ : ∃ R, bt (nth2 S j) (minTo S t) = R := ⟨_, rfl⟩
      rw [hR] at HC hmt
      have HMT := Lib.hid hmt
      obtain ⟨m1, hm1⟩ : ∃ m1, (minTo S t).1 = m1 := ⟨_, rfl⟩
      obtain ⟨m2, hm2⟩ : ∃ m2, (minTo S t).2 = m2 := ⟨_, rfl⟩
      obtain ⟨x', hx⟩ : ∃ x, (nth2 S j).1 = x := ⟨_, rfl⟩
      obtain ⟨y', hy⟩ : ∃ y, (nth2 S j).2 = y := ⟨_, rfl⟩
      have hm1' : ∀ W, MS w (minTo S t) W → W.heap[w.heap.size + 1]? = some (.cells #[.int .i64 m1, .int .i64 m2] 72 (0, 0)) := fun W h => by have := h.m; rw [hm1, hm2] at this; exact this
      have HX := Lib.hid (show nth2 S j = (x', y') by rw [← hx, ← hy])
      rw [hm1, hm2, hx, hy] at HC
      rw [hm1] at hb0
      rw [hm2] at hb1
      rw [hx] at hc0
      rw [hy] at hc1
      have HCC := Lib.hid HC
      have HF := Lib.hid (And.intro hc0 (And.intro hc1 (And.intro hb0 (And.intro hb1 (And.intro hgl hpl)))))
      clear hS2 hr hgl hpl hmt hsmm hR hm1 hm2 hx hy HC hjk hc0 hc1 hb0 hb1
      go_wp2
      go_region_held3 (fun w' => w'.cell? ⟨g, j * 2, none⟩ = some (.int .i64 x') ∧ w'.cell? ⟨g, j * 2 + 1, none⟩ = some (.int .i64 y') ∧ w'.cell? ⟨w.heap.size + 1, 0, none⟩ = some (.int .i64 m1) ∧ w'.cell? ⟨w.heap.size + 1, 1, none⟩ = some (.int .i64 m2))
        (first | exact ⟨HF.out.1, HF.out.2.1, HF.out.2.2.1, HF.out.2.2.2.1⟩ | exact ⟨(hb.cell (p := ⟨g, j * 2, none⟩) HF.out.2.2.2.2.1).trans HF.out.1, (hb.cell (p := ⟨g, j * 2 + 1, none⟩) HF.out.2.2.2.2.1).trans HF.out.2.1, (hb.cell (p := ⟨w.heap.size + 1, 0, none⟩) HF.out.2.2.2.2.2).trans HF.out.2.2.1, (hb.cell (p := ⟨w.heap.size + 1, 1, none⟩) HF.out.2.2.2.2.2).trans HF.out.2.2.2.1⟩)
        (first | (go_at_call 101; refine (HCC.out _).mono ?_; rintro e w1 ⟨rfl, hb⟩))
      obtain ⟨hq0, hq1, -, -⟩ := (by assumption : w1.cell? ⟨g, j * 2, none⟩ = some (.int .i64 x') ∧ w1.cell? ⟨g, j * 2 + 1, none⟩ = some (.int .i64 y') ∧ w1.cell? ⟨w.heap.size + 1, 0, none⟩ = some (.int .i64 m1) ∧ w1.cell? ⟨w.heap.size + 1, 1, none⟩ = some (.int .i64 m2))
      have HM1 := Lib.hid (HM.out.later (show Below wr.heap.size wr w1 from ⟨hb.os, hb.tape, hb.output, hb.size, hb.block⟩))
      have H1 := Lib.hid hm1'
      clear hb HM
      by_cases hR : R < 0
      · have e := HMT.out
        rw [if_pos hR, HX.out] at e
        have HE := Lib.hid e
        clear e
        go_wp2_with (refine wpList_store_row rfl 72 (.tmp 5) (.tmp 31) rfl (w.heap.size + 1) #[.int .i64 x', .int .i64 y'] #[.int .i64 m1, .int .i64 m2] rfl rfl (H1.out w1 HM1.out) info72 rfl (one_pair _ _) ?_)
        have HM2 := Lib.hid (HM1.out.put x' y')
        go_roundg (gk - 1)
        case rel => exact ⟨t + 1, by have := HT.out; have := HJ.out; omega, by have := HJ.out; go_num, by rw [HJ.out, HE.out]; exact HM2.out⟩
        case measure => have := HT.out; have := HJ.out; omega
      · have e := HMT.out
        rw [if_neg hR] at e
        have HE := Lib.hid e
        clear e
        go_wp2
        go_roundg (gk - 1)
        case rel => exact ⟨t + 1, by have := HT.out; have := HJ.out; omega, by have := HJ.out; go_num, by rw [HJ.out, HE.out]; exact HM1.out⟩
        case measure => have := HT.out; have := HJ.out; omega
end Go.Proofs.Ytbdabpmpfciibaa
