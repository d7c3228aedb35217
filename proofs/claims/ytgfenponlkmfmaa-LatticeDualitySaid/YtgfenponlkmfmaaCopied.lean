/- The walk of copied. Condition: the table lies in memory. -/
import Derived.Test.YtgfenponlkmfmaaCmp
namespace Go.Proofs.Ytgfenponlkmfmaa
open Go.RowKit
attribute [local go_sem] Oper.semAt_some

theorem clone2_any (a : Option Addr) (n c : Nat) (xs : List Int) (w : World) (h : Ints w a n xs) (hbig : n ≤ 1000000) :
    Calls Try.prog 55 #[.slice a n c] w fun e w' => ∃ ao co, e = .returned (.slice ao n co) ∧ Row w.heap.size (.slice ao n co) xs w' ∧ Below w.heap.size w w' := by
  refine (clone_any a n c xs w h hbig).mono ?_
  rintro e w' ⟨ao, co, rfl, ho, -, -, hb⟩
  exact ⟨ao, co, rfl, (Row.of ho).1, hb⟩
/-- The first i rows, then as many empty ones as there were. -/
def part (L : List (List Int)) (n i : Nat) : List (List Int) := L.take i ++ List.replicate (n - i) []
theorem part_len {L : List (List Int)} {n i : Nat} (h : L.length = n) (hi : i ≤ n) : (part L n i).length = n := by
  unfold part
  rw [List.length_append, List.length_take, List.length_replicate]
  omega
theorem part_set {L : List (List Int)} {n i : Nat} (h : L.length = n) (hi : i < n) : (part L n i).set i (row L i) = part L n (i + 1) := by
  unfold part
  have hl : (L.take i).length = i := by rw [List.length_take]; omega
  rw [List.set_append_right _ _ (by omega), hl, Nat.sub_self, show n - i = (n - (i + 1)) + 1 by omega, List.replicate_succ, List.set_cons_zero, List.take_succ_eq_append_getElem (by omega), List.append_assoc]
  simp [row, List.getD, show i < L.length by omega]
theorem part_full {L : List (List Int)} {n : Nat} (h : L.length = n) : part L n n = L := by
  unfold part
  rw [Nat.sub_self, List.replicate_zero, List.append_nil, List.take_of_length_le (by omega)]
theorem part_start (L : List (List Int)) (n : Nat) : part L n 0 = List.replicate n [] := by simp [part]
theorem TabO.blank {w W : World} {n : Nat} (hg : W.ownsRow w.heap.size 35 1 (.slice (some ⟨w.heap.size, 0, none⟩) n n) n (madeCells (Value.slice none 0 0).cells (n * 1)).toList) : TabO W w.heap.size (.slice (some ⟨w.heap.size, 0, none⟩) n n) (List.replicate n []) := by
  have e : (madeCells (Value.slice none 0 0).cells (n * 1)).toList = List.replicate n (Value.slice none 0 0) := by
    rw [Nat.mul_one, show (Value.slice none 0 0).cells = #[Value.slice none 0 0] from rfl, toList_madeCells_one]
  rw [e] at hg
  refine ⟨_, by rw [List.length_replicate]; exact hg, fun i hi => ?_⟩
  rw [List.length_replicate] at hi
  have hr : row (List.replicate n []) i = [] := by simp [row, List.getD, hi]
  rw [hr]
  exact ⟨none, 0, by simp [hi], ⟨Ints.nil _ _, Nat.le_refl _, by unfold maxLen; omega⟩, fun ad e => by cases e⟩

set_option maxHeartbeats 4000000 in
set_option maxRecDepth 100000 in
theorem copied_any (a : Option Addr) (n c : Nat) (L : List (List Int)) (w : World) (h : Tab w a n L) (hn : n ≤ 4) (hL : ∀ i, i < n → (row L i).length ≤ 1000000) :
    Calls Try.prog 101 #[.slice a n c] w fun e w' => ∃ G, e = .returned (.slice (some ⟨G, 0, none⟩) n n) ∧ TabO w' w.heap.size (.slice (some ⟨G, 0, none⟩) n n) L ∧ Below w.heap.size w w' := by
  obtain ⟨i0, hi, hz0, hz1, hz2⟩ := info_parts info35
  have H := Lib.hid h
  have HL := Lib.hid h.1
  have HR := Lib.hid hL
  have n0 : (0 : Int) ≤ (n : Int) := by omega
  clear h hL
  go_enter Try.func101, Try.ntmps101
  go_wp2_with (at_make; refine wpList_make_full _ rfl _ _ 66 rfl w.heap.size 35 i0 (.slice none 0 0) 1 Try.underlying66 hi hz0 hz1 _ _ _ _ n rfl rfl (by omega) (by omega) (by rw [hz2]; omega) (by unfold maxLen; omega) (Nat.le_refl _) ?_; intro w1 hown hgrow)
  have S0 := Lib.hid (And.intro (TabO.blank hown) ((Below.refl w.heap.size w).grown hgrow (Nat.le_refl _) (fun k e => by cases e)))
  clear hown hgrow hi hz0 hz1 hz2
  obtain ⟨G, hG⟩ : ∃ G, w.heap.size = G := ⟨_, rfl⟩
  have S1 := S0.out
  rw [hG] at S1 ⊢
  have HS1 := Lib.hid S1
  clear S1 S0
  go_loopg [11] n (fun gk s11 wr => ∃ (i : Nat), i + gk = n ∧ s11 = .int .i64 (i : Int) ∧ TabO wr G (.slice (some ⟨G, 0, none⟩) n n) (part L n i) ∧ Below G w wr)
  case atStart => exact ⟨0, by omega, rfl, by rw [part_start]; exact HS1.out.1, HS1.out.2⟩
  case round =>
    obtain ⟨i, hig, rfl, ht, hb⟩ := hrel
    have HT := Lib.hid ht
    have HB := Lib.hid hb
    have HK := Lib.hid hig
    clear HS1
    have hb' : Below w.heap.size w wr := by rw [hG]; exact hb
    by_cases hin : i < n
    · have l1 : (i : Int) < (n : Int) := by omega
      have i0 : (0 : Int) ≤ (i : Int) := by omega
      obtain ⟨b, off, ai, ci, rfl, hbl, hcell, hlie⟩ := (H.out.below hb').at hin
      have HC := Lib.hid (clone2_any ai (row L i).length ci (row L i) wr hlie.ints (HR.out i hin))
      have hst := part_set (i := i) HL.out hin
      have hpl := part_len (i := i) HL.out (by omega)
      have HST := Lib.hid (And.intro hst hpl)
      obtain ⟨M, hM⟩ : ∃ M, (row L i).length = M := ⟨_, rfl⟩
      rw [hM] at HC hcell
      have HM := Lib.hid hM
      clear hlie hst hpl hM ht hb hb' hig
      go_wp2_with fail
      refine HC.out.mono ?_
      rintro e w2 ⟨ao, co, rfl, hr, hb2⟩
      obtain ⟨a2, c2, e2, l2, k2⟩ := hr.lies
      rw [HM.out] at e2
      cases e2
      have ht2 := HT.out.below hb2
      obtain ⟨vs, hvs, -⟩ := HT.out.below hb2
      rw [HST.out.2] at hvs
      have hcg : ∃ u, w2.cell? ⟨G, i, none⟩ = some u := ⟨_, by rw [hvs.cellAt i (by omega), List.getElem?_eq_getElem (by have := hvs.1; omega)]⟩
      obtain ⟨u, hcg⟩ := hcg
      have hfg := hvs.frozenAt i
      have hnb := new_block HT.out k2
      have hput : TabO (w2.setCell ⟨G, i, none⟩ (.slice ao M co)) G (.slice (some ⟨G, 0, none⟩) n n) (part L n (i + 1)) := by
        have := TabO.put (W := w2) (B := G) (g := G) (c := n) (L := part L n i) (by rw [HST.out.2]; exact ht2) (i := i) (by rw [HST.out.2]; exact hin) l2 (fun ad e => ⟨(hnb ad e).1, fun e3 => (hnb ad e).2 (by rw [← e3]; rfl)⟩)
        rw [HM.out, HST.out.2, HST.out.1] at this
        exact this
      have HF := Lib.hid (And.intro hput (show Below G w (w2.setCell ⟨G, i, none⟩ (.slice ao M co)) from (HB.out.trans (hb2.mono (Nat.le_trans (by omega) HB.out.size))).setCell (p := ⟨G, i, none⟩) (Nat.le_refl _) _))
      clear hput hnb hvs ht2 l2 k2 hr hb2
      go_wp2
      go_roundg (gk - 1)
      case rel => exact ⟨i + 1, by have := HK.out; omega, by go_num, HF.out.1, HF.out.2⟩
      case measure => have := HK.out; omega
    · have l1 : ¬ (i : Int) < (n : Int) := by omega
      have hin2 : i = n := by omega
      have HF := Lib.hid (show TabO wr G (.slice (some ⟨G, 0, none⟩) n n) L by have := HT.out; rw [hin2, part_full HL.out] at this; exact this)
      clear ht hb hb' hig hin
      go_wp2
      go_ret
      exact ⟨_, rfl, HF.out, HB.out⟩
end Go.Proofs.Ytgfenponlkmfmaa
