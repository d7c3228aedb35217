/- The walk of numeral.heaps.best: the best of the cold pairs that can be reached. Condition: the heaps are at most a million, and not cold. -/
import Derived.Test.YtbdabpmpfciibaaGame4
namespace Go.Proofs.Ytbdabpmpfciibaa
open Go.RowKit
attribute [local go_sem] Oper.semAt_some

/-- The cold pairs that might be reached. -/
def cands (a b : Int) : List (Int × Int) := [(cpA (b - a), cpB (b - a)), (pt b, b), (a, pt a)]
def reach (a b : Int) : List (Int × Int) := keepL a b (cands a b)
/-- The best of them. -/
def bestF (a b : Int) : Int × Int := minTo (reach a b) ((reach a b).length - 1)
theorem nth2_app_left {A Z : List (Int × Int)} {j : Nat} (h : j < A.length) : nth2 (A ++ Z) j = nth2 A j := by
  unfold nth2
  rw [List.getD_eq_getElem?_getD, List.getD_eq_getElem?_getD, List.getElem?_append_left h]
theorem minTo_app {A Z : List (Int × Int)} : ∀ t, t < A.length → minTo (A ++ Z) t = minTo A t
  | 0, h => nth2_app_left h
  | t + 1, h => by
    have ih := minTo_app (A := A) (Z := Z) t (by omega)
    unfold minTo
    rw [ih, nth2_app_left h]
theorem reach_mem {a b : Int} {p : Int × Int} (h : p ∈ reach a b) : p ∈ cands a b ∧ p.1 ≤ a ∧ p.2 ≤ b := by
  unfold reach keepL at h
  rw [List.mem_filter] at h
  obtain ⟨h1, h2⟩ := h
  unfold tooL at h2
  simp at h2
  exact ⟨h1, by omega, by omega⟩
theorem reach_ne {a b : Int} (h : isHp a b = true) (hw : isCold a b = false) : 1 ≤ (reach a b).length := by
  obtain ⟨a0, a1, b0, b1⟩ := isHp_yes h
  have hex : ∃ p, p ∈ reach a b := by
    unfold reach keepL cands
    rcases warm_move a0 a1 b0 b1 hw with ⟨h1, h2⟩ | h1 | h1
    · exact ⟨(cpA (b - a), cpB (b - a)), List.mem_filter.2 ⟨by simp, by unfold tooL; simp; omega⟩⟩
    · exact ⟨(pt b, b), List.mem_filter.2 ⟨by simp, by unfold tooL; simp; omega⟩⟩
    · exact ⟨(a, pt a), List.mem_filter.2 ⟨by simp, by unfold tooL; simp; omega⟩⟩
  obtain ⟨p, hp⟩ := hex
  exact List.length_pos_of_mem hp
theorem reach_len (a b : Int) : (reach a b).length ≤ 3 := by
  unfold reach keepL
  exact Nat.le_trans (List.length_filter_le _ _) (Nat.le_refl _)
theorem cands_small {a b : Int} (h : isHp a b = true) {p : Int × Int} (hp : p ∈ cands a b) : smallP p ∧ 0 ≤ p.1 ∧ 0 ≤ p.2 ∧ isCold p.1 p.2 = true := by
  obtain ⟨a0, a1, b0, b1⟩ := isHp_yes h
  unfold cands at hp
  simp only [List.mem_cons, List.not_mem_nil, or_false] at hp
  unfold smallP
  rcases hp with rfl | rfl | rfl
  · obtain ⟨c1, c2, c3, c4⟩ := cp_cold (d := b - a) (by omega) (by omega)
    have hb : cpA (b - a) ≤ 4000000 ∧ cpB (b - a) ≤ 4000000 := by
      unfold cpA cpB
      by_cases f : b - a < 0
      · rw [if_pos f, if_pos f]
        have := coldA_bd (n := -(b - a)) (by omega) (by omega)
        omega
      · rw [if_neg f, if_neg f]
        have := coldA_bd (n := b - a) (by omega) (by omega)
        omega
    exact ⟨⟨by show _ ≤ cpA (b - a); omega, by show cpA (b - a) ≤ _; omega, by show _ ≤ cpB (b - a); omega, by show cpB (b - a) ≤ _; omega⟩, c3, c4, c1⟩
  · obtain ⟨c1, c2, c3, c4⟩ := pt_cold b0 b1
    exact ⟨⟨by show _ ≤ pt b; omega, by show pt b ≤ _; omega, by show _ ≤ b; omega, by show b ≤ _; omega⟩, c3, b0, c2⟩
  · obtain ⟨c1, c2, c3, c4⟩ := pt_cold a0 a1
    exact ⟨⟨by show _ ≤ a; omega, by show a ≤ _; omega, by show _ ≤ pt a; omega, by show pt a ≤ _; omega⟩, a0, c3, c1⟩
theorem best_mem {a b : Int} (h : isHp a b = true) (hw : isCold a b = false) : bestF a b ∈ reach a b := by
  have hl := reach_ne h hw
  unfold bestF
  obtain ⟨j, hj, e⟩ := minTo_mem (reach a b) ((reach a b).length - 1)
  rw [e]
  exact nth2_mem (by omega)

/-- Below, as a conjunction that does not look at the draws. -/
def BelF (B : Nat) (w W : World) : Prop := W.os = w.os ∧ W.tape = w.tape ∧ W.output = w.output ∧ w.heap.size ≤ W.heap.size ∧ ∀ k, k < B → W.heap[k]? = w.heap[k]?
theorem BelF.to {B : Nat} {w W : World} (h : BelF B w W) : Below B w W := ⟨h.1, h.2.1, h.2.2.1, h.2.2.2.1, h.2.2.2.2⟩
theorem BelF.of {B : Nat} {w W : World} (h : Below B w W) : BelF B w W := ⟨h.os, h.tape, h.output, h.size, h.block⟩
theorem hold_next {g : Nat} {a b : Int} {w W W' : World} (hb : Below W.heap.size W W') (h : W.cell? ⟨g, 0, none⟩ = some (.int .i64 a) ∧ W.cell? ⟨g, 1, none⟩ = some (.int .i64 b) ∧ g + 1 < W.heap.size ∧ W.heap[g + 1]? = some (.cells #[.int .i64 0, .int .i64 0] 72 (0, 0)) ∧ BelF w.heap.size w W) :
    W'.cell? ⟨g, 0, none⟩ = some (.int .i64 a) ∧ W'.cell? ⟨g, 1, none⟩ = some (.int .i64 b) ∧ g + 1 < W'.heap.size ∧ W'.heap[g + 1]? = some (.cells #[.int .i64 0, .int .i64 0] 72 (0, 0)) ∧ BelF w.heap.size w W' :=
  ⟨(hb.cell (p := ⟨g, 0, none⟩) (by show g < _; have := h.2.2.1; omega)).trans h.1, (hb.cell (p := ⟨g, 1, none⟩) (by show g < _; have := h.2.2.1; omega)).trans h.2.1, Nat.lt_of_lt_of_le h.2.2.1 hb.size, (hb.block _ h.2.2.1).trans h.2.2.2.1, BelF.of (h.2.2.2.2.to.trans (hb.mono h.2.2.2.2.2.2.2.1))⟩

set_option maxHeartbeats 8000000 in
set_option maxRecDepth 100000 in
theorem best_any (a b : Int) (w : World) (h : isHp a b = true) (hw : isCold a b = false) :
    Calls Try.prog 76 #[.agg #[.int .i64 a, .int .i64 b]] w fun e w' => e = .returned (.agg #[.int .i64 (bestF a b).1, .int .i64 (bestF a b).2]) ∧ Below w.heap.size w w' := by
  obtain ⟨a0, a1, b0, b1⟩ := isHp_yes h
  have hwr : IntKind.i64.wrap (b - a) = b - a := by simp [IntKind.wrap, IntKind.bits, IntKind.signed]; omega
  obtain ⟨g, hg⟩ : ∃ g, w.heap.size = g := ⟨_, rfl⟩
  obtain ⟨W, hW⟩ : ∃ W, (w.alloc (.cells #[.int .i64 a, .int .i64 b] 72)).alloc (.cells #[.int .i64 0, .int .i64 0] 72) = W := ⟨_, rfl⟩
  have hc0 : W.cell? ⟨g, 0, none⟩ = some (.int .i64 a) := by rw [← hW, ← hg]; exact Lib.cell?_alloc_some _ (by simp)
  have hc1 : W.cell? ⟨g, 1, none⟩ = some (.int .i64 b) := by rw [← hW, ← hg]; exact Lib.cell?_alloc_some _ (by simp)
  have hh := heap_alloc_last (w.alloc (.cells #[.int .i64 a, .int .i64 b] 72)) (.cells #[.int .i64 0, .int .i64 0] 72)
  rw [World.size_alloc, hW, hg] at hh
  have hBW : Below w.heap.size w W := hW ▸ (((Below.refl w.heap.size w).alloc (Nat.le_refl _) _).alloc (by simp) _)
  have hgl : g + 1 < W.heap.size := by rw [← hW, ← hg]; simp
  have HC := Lib.hid (show W.cell? ⟨g, 0, none⟩ = some (.int .i64 a) ∧ W.cell? ⟨g, 1, none⟩ = some (.int .i64 b) ∧ g + 1 < W.heap.size ∧ W.heap[g + 1]? = some (.cells #[.int .i64 0, .int .i64 0] 72 (0, 0)) ∧ BelF w.heap.size w W from ⟨hc0, hc1, hgl, hh, BelF.of hBW⟩)
  have HP := Lib.hid h
  have HWM := Lib.hid hw
  have HG := Lib.hid hg
  clear hc0 hc1 hh hBW hgl h hw
  go_enter Try.func76, Try.ntmps76
  go_wp2_with fail
  clear hW hg
  go_region_held3 (fun w' => w'.cell? ⟨g, 0, none⟩ = some (.int .i64 a) ∧ w'.cell? ⟨g, 1, none⟩ = some (.int .i64 b) ∧ g + 1 < w'.heap.size ∧ w'.heap[g + 1]? = some (.cells #[.int .i64 0, .int .i64 0] 72 (0, 0)) ∧ BelF w.heap.size w w')
    (first | exact HC.out | exact hold_next (by assumption) (by assumption) | exact hold_next ((Below.refl _ _).alloc (Nat.le_refl _) _) (by assumption))
    (first
      | (go_at_call 77; refine (coldPair_any _ _ (by omega) (by omega)).mono ?_; rintro e w1 ⟨rfl, hb⟩)
      | (go_at_call 97; refine (partner_any _ _ (by omega) (by omega)).mono ?_; rintro e w1 ⟨rfl, hb⟩))
  rename_i wA hA wB hB hHeld
  obtain ⟨s0, s1, s2, s3, s4⟩ := hHeld
  have h3 : HB w1.heap.size w1.heap.size (cands a b) (w1.alloc (.cells #[.int .i64 (cpA (b - a)), .int .i64 (cpB (b - a)), .int .i64 (pt b), .int .i64 b, .int .i64 a, .int .i64 (pt a)] 72)) := HB.start _ rfl
  have hsz : (w1.alloc (.cells #[.int .i64 (cpA (b - a)), .int .i64 (cpB (b - a)), .int .i64 (pt b), .int .i64 b, .int .i64 a, .int .i64 (pt a)] 72)).heap.size = w1.heap.size + 1 := by simp
  obtain ⟨W3, hW3⟩ : ∃ W3, w1.alloc (.cells #[.int .i64 (cpA (b - a)), .int .i64 (cpB (b - a)), .int .i64 (pt b), .int .i64 b, .int .i64 a, .int .i64 (pt a)] 72) = W3 := ⟨_, rfl⟩
  rw [hW3] at s0 s1 s2 s3 s4 h3 hsz ⊢
  have hg1 : g + 1 < w1.heap.size := by
    have q1 : W.heap.size ≤ wA.heap.size := hA.size
    have q2 := hB.size
    have q3 := hb.size
    have q4 := HC.out.2.2.1
    omega
  obtain ⟨G, hG⟩ : ∃ G, w1.heap.size = G := ⟨_, rfl⟩
  rw [hG] at h3 hsz hg1 ⊢
  have HD := Lib.hid (delete_any G G 3 g a b (cands a b) W3 h3 ⟨s0, s1, by omega⟩ (by omega) (by omega) (Nat.le_of_ble_eq_true rfl) (Nat.le_refl _) (by omega))
  have HS3 := Lib.hid (And.intro s2 (And.intro s3 s4.to))
  have hK : keepL a b (cands a b) = reach a b := rfl
  rw [hK] at HD
  have HK1 := Lib.hid (reach_ne HP.out HWM.out)
  have hK3 := reach_len a b
  have HSM := Lib.hid (fun j (hj : j < (reach a b).length) => (cands_small HP.out (reach_mem (nth2_mem hj)).1).1)
  have HBF := Lib.hid (show bestF a b = minTo (reach a b) ((reach a b).length - 1) from rfl)
  have HAPP := Lib.hid (fun Z => minTo_app (A := reach a b) (Z := Z) ((reach a b).length - 1) (by have := HK1.out; omega))
  have HNTH := Lib.hid (fun Z j (hj : j < (reach a b).length) => nth2_app_left (Z := Z) hj)
  obtain ⟨K, hKK⟩ : ∃ K, reach a b = K := ⟨_, rfl⟩
  rw [hKK] at HD HK1 hK3 HSM HBF HAPP HNTH
  obtain ⟨k, hk⟩ : ∃ k, K.length = k := ⟨_, rfl⟩
  rw [hk] at HD HK1 hK3 HSM HBF HAPP HNTH
  have HKL := Lib.hid hk
  have k0 := HK1.out
  have HGG := Lib.hid hg1
  have HSZ := Lib.hid hsz
  have lenc : (cands a b).length = 3 := rfl
  rw [lenc] at HD
  obtain ⟨cs, hcs⟩ : ∃ cs, cands a b = cs := ⟨_, rfl⟩
  clear s0 s1 s2 s3 s4 h3 hsz hg1 hG hK hKK hk hA hB hb hW3 HC lenc hcs
  go_wp2_with fail
  refine HD.out.mono ?_
  rintro e w4 ⟨rfl, hb4, Z, h4⟩
  have HM := Lib.hid (min_any G G 3 k (K ++ Z) w4 h4 k0 (by rw [List.length_append]; have := HKL.out; omega) (by omega) (fun j hj => by rw [HNTH.out Z j hj]; exact HSM.out j hj))
  rw [HAPP.out Z, ← HBF.out] at HM
  obtain ⟨X, hX⟩ : ∃ X, (bestF a b).1 = X := ⟨_, rfl⟩
  obtain ⟨Y, hY⟩ : ∃ Y, (bestF a b).2 = Y := ⟨_, rfl⟩
  rw [hX, hY] at HM
  have HX := Lib.hid hX
  have HY := Lib.hid hY
  have HB4 := Lib.hid (And.intro ((hb4.block (g + 1) (by have := HGG.out; omega)).trans HS3.out.2.1) (HS3.out.2.2.trans (hb4.mono (by have := HGG.out; have := HG.out; omega))))
  clear hb4 h4 hX hY HD
  go_wp2_with fail
  refine HM.out.mono ?_
  rintro e w5 ⟨rfl, hb5⟩
  have HB5 := Lib.hid (And.intro ((hb5.block (g + 1) (Array.getElem?_eq_some_iff.1 HB4.out.1).1).trans HB4.out.1) (HB4.out.2.trans (hb5.mono HB4.out.2.size)))
  clear hb5 HB4 HM
  go_wp2_with (refine wpList_store_row rfl 72 (.tmp 2) (.tmp 28) rfl (g + 1) #[.int .i64 X, .int .i64 Y] #[.int .i64 0, .int .i64 0] rfl rfl HB5.out.1 info72 rfl (one_pair _ _) ?_)
  refine bodyPost_ret (v := .agg #[.int .i64 X, .int .i64 Y]) ?_ rfl ⟨by rw [HX.out, HY.out], below_setRow HB5.out.2 (by have := HG.out; omega) _⟩
  rw [results_cell_one (fn := Try.f76) (p := 2) (ty := 72) Try.results76]
  exact run_loadVar_row _ _ 72 72 _ (0, 0) _ (setRow_heap w5 (g + 1) _ _ 72 (0, 0) HB5.out.1) Try.underlying72 rfl info72
end Go.Proofs.Ytbdabpmpfciibaa
