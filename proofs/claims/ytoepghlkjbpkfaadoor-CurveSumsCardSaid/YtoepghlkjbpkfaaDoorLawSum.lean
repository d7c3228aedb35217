/- The law CurveSums: it returns true, whatever its arguments are. Condition: the far point lies in memory. -/
import Derived.Test.YtoepghlkjbpkfaaDoorAbk
namespace Go.Proofs.YtoepghlkjbpkfaaDoor
open Go.RowKit
attribute [local go_sem] Oper.semAt_some

set_option maxHeartbeats 8000000 in
set_option maxRecDepth 100000 in
theorem lawSums_no (P A B k : Int) (q r : Pt) (hv : (vB P A B && onB P A B q) = false) (w : World) (hF : Far w) :
    Calls Tryd.prog 4 #[.agg #[.int .i64 P, .int .i64 A, .int .i64 B], .agg #[.int .i64 q.x, .int .i64 q.y, .bool q.f], .agg #[.int .i64 r.x, .int .i64 r.y, .bool r.f], .int .i64 k] w fun e w' => e = .returned (.bool true) ∧ Below w.heap.size w w' := by
  have hb3 := below3 w (.cells #[.int .i64 P, .int .i64 A, .int .i64 B] 23) (.cells #[.int .i64 q.x, .int .i64 q.y, .bool q.f] 25) (.cells #[.int .i64 r.x, .int .i64 r.y, .bool r.f] 25)
  obtain ⟨W0, hW0⟩ : ∃ W0, ((w.alloc (.cells #[.int .i64 P, .int .i64 A, .int .i64 B] 23)).alloc (.cells #[.int .i64 q.x, .int .i64 q.y, .bool q.f] 25)).alloc (.cells #[.int .i64 r.x, .int .i64 r.y, .bool r.f] 25) = W0 := ⟨_, rfl⟩
  obtain ⟨hc, hd, he, -, hsz⟩ := blocks3 w _ _ _ _ _ _ _ _ _ _ _ _ W0 hW0.symm
  rw [hW0] at hb3
  have HB := Lib.hid hb3
  have HFa := Lib.hid (hF.below hb3)
  have HAw := Lib.hid (fun W hF => awake_any W hF)
  have HFI := Lib.hid (fun a n c W h hn => fine_any P A B a n c [q] W h hn)
  have hfi : (vB P A B && [q].all (onB P A B)) = false := by simpa using hv
  rw [hfi] at HFI
  obtain ⟨av, hav⟩ : ∃ av : Pt, av = ⟨0, 0, false⟩ := ⟨_, rfl⟩
  obtain ⟨bv, hbv⟩ : ∃ bv : Pt, bv = ⟨0, 0, false⟩ := ⟨_, rfl⟩
  have HAdd := Lib.hid (fun W hF => (show Calls Tryd.prog 27 _ W fun e w' => e = .returned (.tuple #[.agg #[.int .i64 av.x, .int .i64 av.y, .bool av.f], .int .i64 2]) ∧ Below W.heap.size W w' by rw [hav]; exact Add_no P A B q r (by cases h1 : vB P A B <;> simp_all) W hF))
  have HTm := Lib.hid (fun W hF => (show Calls Tryd.prog 28 _ W fun e w' => e = .returned (.tuple #[.agg #[.int .i64 bv.x, .int .i64 bv.y, .bool bv.f], .int .i64 2]) ∧ Below W.heap.size W w' by rw [hbv]; exact Times_no P A B q k hv W hF))
  have HOr := Lib.hid (fun W hF => Order_no P A B q hv W hF)
  have HNa := Lib.hid (fun W => none_any av W)
  have HNb := Lib.hid (fun W => none_any bv W)
  rw [decide_eq_true hav] at HNa
  rw [decide_eq_true hbv] at HNb
  clear hv hF hb3 hsz hfi hav hbv
  have HC := Lib.hid hc
  have HD := Lib.hid hd
  have HE := Lib.hid he
  obtain ⟨c0, c1, c2⟩ := id hc
  obtain ⟨d0, d1, d2⟩ := id hd
  obtain ⟨e0, e1, e2⟩ := id he
  go_enter Tryd.func4, Tryd.ntmps4
  go_wp2
  have HK := Lib.hid (fun (W : World) (hb : Below W0.heap.size W0 W) => (show W.cell? ⟨w.heap.size, 0, none⟩ = some (.int .i64 P) ∧ W.cell? ⟨w.heap.size, 1, none⟩ = some (.int .i64 A) ∧ W.cell? ⟨w.heap.size, 2, none⟩ = some (.int .i64 B) ∧ W.cell? ⟨w.heap.size + 1, 0, none⟩ = some (.int .i64 q.x) ∧ W.cell? ⟨w.heap.size + 1, 1, none⟩ = some (.int .i64 q.y) ∧ W.cell? ⟨w.heap.size + 1, 2, none⟩ = some (.bool q.f) ∧ W.cell? ⟨w.heap.size + 1 + 1, 0, none⟩ = some (.int .i64 r.x) ∧ W.cell? ⟨w.heap.size + 1 + 1, 1, none⟩ = some (.int .i64 r.y) ∧ W.cell? ⟨w.heap.size + 1 + 1, 2, none⟩ = some (.bool r.f) ∧ BelF W0.heap.size W0 W from ⟨cell_later hc.1 hb, cell_later hc.2.1 hb, cell_later hc.2.2 hb, cell_later hd.1 hb, cell_later hd.2.1 hb, cell_later hd.2.2 hb, cell_later he.1 hb, cell_later he.2.1 hb, cell_later he.2.2 hb, BelF.of hb⟩))
  have hB : Below W0.heap.size W0 W0.drew := drew_below W0
  refine share_rest (S := fun g W => W0.heap.size ≤ g ∧ C3 g (.int .i64 av.x) (.int .i64 av.y) (.bool av.f) W ∧ F3 g W ∧ Below W0.heap.size W0 W) (G := ?Gga) ?mainga ?restga
  case mainga =>
    intro KK
    go_region_held3 (fun W => W.cell? ⟨w.heap.size, 0, none⟩ = some (.int .i64 P) ∧ W.cell? ⟨w.heap.size, 1, none⟩ = some (.int .i64 A) ∧ W.cell? ⟨w.heap.size, 2, none⟩ = some (.int .i64 B) ∧ W.cell? ⟨w.heap.size + 1, 0, none⟩ = some (.int .i64 q.x) ∧ W.cell? ⟨w.heap.size + 1, 1, none⟩ = some (.int .i64 q.y) ∧ W.cell? ⟨w.heap.size + 1, 2, none⟩ = some (.bool q.f) ∧ W.cell? ⟨w.heap.size + 1 + 1, 0, none⟩ = some (.int .i64 r.x) ∧ W.cell? ⟨w.heap.size + 1 + 1, 1, none⟩ = some (.int .i64 r.y) ∧ W.cell? ⟨w.heap.size + 1 + 1, 2, none⟩ = some (.bool r.f) ∧ BelF W0.heap.size W0 W)
      (first | exact HK.out _ hB | exact HK.out _ (hB.alloc hB.size _) | exact HK.out _ (set3 hB (by first | assumption | exact Nat.le_refl _) _ _ _) | exact HK.out _ (Below.refl _ _))
      (((first
        | (go_at_call 18; refine (Of_any _ _ _ _).mono ?_; rintro e wx ⟨rfl, hbf⟩)
        | (go_at_call 20; refine (at_any _ _).mono ?_; rintro e wx ⟨rfl, hbf⟩)
        | (go_at_call 27; refine (HAdd.out _ (by first | exact HFa.out.below hB | exact HFa.out.below (hB.alloc hB.size _))).mono ?_; rintro e wx ⟨rfl, hbf⟩)); have hzx := hB.size; have hB := (show Below W0.heap.size W0 wx from by first | exact hB.trans (hbf.mono hB.size) | exact (hB.alloc hB.size _).trans (hbf.mono (hB.alloc hB.size _).size)); (first | (have hzc : C3 W0.heap.size (.int .i64 0) (.int .i64 0) (.bool false) wx := (C3.new W0.drew (.int .i64 0) (.int .i64 0) (.bool false) 34).later hbf; have hzf : F3 W0.heap.size wx := (F3.new W0.drew (.int .i64 0) (.int .i64 0) (.bool false) 34).below (by simp) hbf; have hzl := hzc.lt; have hzd := hzc; have hze := hzf; obtain ⟨y0, y1, y2⟩ := hzd; obtain ⟨z0, z1, z2⟩ := hze) | (have hzc := (C3.new _ (.int .i64 0) (.int .i64 0) (.bool false) 34).later hbf; have hzf := (F3.new _ (.int .i64 0) (.int .i64 0) (.bool false) 34).below (by simp) hbf; have hzl := hzc.lt; have hzd := hzc; have hze := hzf; obtain ⟨y0, y1, y2⟩ := hzd; obtain ⟨z0, z1, z2⟩ := hze) | (have hzf := hzf.below hzl hbf; have hzc := hzc.later hbf; have hzl := hzc.lt; have hzd := hzc; have hze := hzf; obtain ⟨y0, y1, y2⟩ := hzd; obtain ⟨z0, z1, z2⟩ := hze) | skip)))
    all_goals try (
      have hS0 : C3 W0.heap.size (.int .i64 0) (.int .i64 0) (.bool false) wx := hzc
      have hS1 : F3 W0.heap.size wx := hzf
      have hSB := set3 hB (Nat.le_refl _) (.int .i64 av.x) (.int .i64 av.y) (.bool av.f)
      have hSC := hS0.set (x := .int .i64 av.x) (y := .int .i64 av.y) (z := .bool av.f)
      have hSF := hS1.set (g' := W0.heap.size) (.int .i64 av.x) (.int .i64 av.y) (.bool av.f)
      obtain ⟨W', hW'⟩ : ∃ W', W' = (((wx.setCell ⟨W0.heap.size, 0, none⟩ (.int .i64 av.x)).setCell ⟨W0.heap.size, 1, none⟩ (.int .i64 av.y)).setCell ⟨W0.heap.size, 2, none⟩ (.bool av.f)) := ⟨_, rfl⟩
      rw [← hW'] at hSB hSC hSF ⊢
      obtain ⟨g', hg'⟩ : ∃ g', g' = W0.heap.size := ⟨_, rfl⟩
      rw [← hg']
      exact KK g' W' (by rw [hg']; exact ⟨Nat.le_refl _, hSC, hSF, hSB⟩))
    all_goals first
      | exact KK _ _ ⟨by assumption, hzc.set, hzf.set _ _ _, set3 hB (by assumption) _ _ _⟩
      | exact KK _ _ ⟨hB.size, C3.new wx _ _ _ 34, F3.new wx _ _ _ 34, hB.alloc hB.size _⟩
  case restga =>
    clear hB HK
    intro ga w3 hR
    obtain ⟨hgle, hCg, hFg, hbg⟩ := hR
    have HB3 := Lib.hid (HB.out.trans (hbg.mono HB.out.size))
    have HF3 := Lib.hid (HFa.out.below hbg)
    have HA3 := Lib.hid hCg
    have hc3 := HC.out.later hbg
    have hd3 := HD.out.later hbg
    have he3 := HE.out.later hbg
    have HC3 := Lib.hid hc3
    have HD3 := Lib.hid hd3
    have HE3 := Lib.hid he3
    have HGA := Lib.hid hCg.lt
    clear c0 c1 c2 d0 d1 d2 e0 e1 e2 hgle hCg hFg hbg hW0
    obtain ⟨c0, c1, c2⟩ := id hc3
    obtain ⟨d0, d1, d2⟩ := id hd3
    obtain ⟨e0, e1, e2⟩ := id he3
    go_wp2
    have HK := Lib.hid (fun (W : World) (hb : Below w3.heap.size w3 W) => (show W.cell? ⟨w.heap.size, 0, none⟩ = some (.int .i64 P) ∧ W.cell? ⟨w.heap.size, 1, none⟩ = some (.int .i64 A) ∧ W.cell? ⟨w.heap.size, 2, none⟩ = some (.int .i64 B) ∧ W.cell? ⟨w.heap.size + 1, 0, none⟩ = some (.int .i64 q.x) ∧ W.cell? ⟨w.heap.size + 1, 1, none⟩ = some (.int .i64 q.y) ∧ W.cell? ⟨w.heap.size + 1, 2, none⟩ = some (.bool q.f) ∧ BelF w3.heap.size w3 W from ⟨cell_later hc3.1 hb, cell_later hc3.2.1 hb, cell_later hc3.2.2 hb, cell_later hd3.1 hb, cell_later hd3.2.1 hb, cell_later hd3.2.2 hb, BelF.of hb⟩))
    have hB : Below w3.heap.size w3 w3.drew := drew_below w3
    refine share_rest (S := fun g W => w3.heap.size ≤ g ∧ C3 g (.int .i64 bv.x) (.int .i64 bv.y) (.bool bv.f) W ∧ F3 g W ∧ Below w3.heap.size w3 W) (G := ?Ggb) ?maingb ?restgb
    case maingb =>
      intro KK
      go_region_held3 (fun W => W.cell? ⟨w.heap.size, 0, none⟩ = some (.int .i64 P) ∧ W.cell? ⟨w.heap.size, 1, none⟩ = some (.int .i64 A) ∧ W.cell? ⟨w.heap.size, 2, none⟩ = some (.int .i64 B) ∧ W.cell? ⟨w.heap.size + 1, 0, none⟩ = some (.int .i64 q.x) ∧ W.cell? ⟨w.heap.size + 1, 1, none⟩ = some (.int .i64 q.y) ∧ W.cell? ⟨w.heap.size + 1, 2, none⟩ = some (.bool q.f) ∧ BelF w3.heap.size w3 W)
        (first | exact HK.out _ hB | exact HK.out _ (hB.alloc hB.size _) | exact HK.out _ (set3 hB (by first | assumption | exact Nat.le_refl _) _ _ _) | exact HK.out _ (Below.refl _ _))
        (((first
          | (go_at_call 18; refine (Of_any _ _ _ _).mono ?_; rintro e wx ⟨rfl, hbf⟩)
          | (go_at_call 20; refine (at_any _ _).mono ?_; rintro e wx ⟨rfl, hbf⟩)
          | (go_at_call 28; refine (HTm.out _ (by first | exact HF3.out.below hB | exact HF3.out.below (hB.alloc hB.size _))).mono ?_; rintro e wx ⟨rfl, hbf⟩)); have hzx := hB.size; have hB := (show Below w3.heap.size w3 wx from by first | exact hB.trans (hbf.mono hB.size) | exact (hB.alloc hB.size _).trans (hbf.mono (hB.alloc hB.size _).size)); (first | (have hzc : C3 w3.heap.size (.int .i64 0) (.int .i64 0) (.bool false) wx := (C3.new w3.drew (.int .i64 0) (.int .i64 0) (.bool false) 34).later hbf; have hzf : F3 w3.heap.size wx := (F3.new w3.drew (.int .i64 0) (.int .i64 0) (.bool false) 34).below (by simp) hbf; have hzl := hzc.lt; have hzd := hzc; have hze := hzf; obtain ⟨y0, y1, y2⟩ := hzd; obtain ⟨z0, z1, z2⟩ := hze) | (have hzc := (C3.new _ (.int .i64 0) (.int .i64 0) (.bool false) 34).later hbf; have hzf := (F3.new _ (.int .i64 0) (.int .i64 0) (.bool false) 34).below (by simp) hbf; have hzl := hzc.lt; have hzd := hzc; have hze := hzf; obtain ⟨y0, y1, y2⟩ := hzd; obtain ⟨z0, z1, z2⟩ := hze) | (have hzf := hzf.below hzl hbf; have hzc := hzc.later hbf; have hzl := hzc.lt; have hzd := hzc; have hze := hzf; obtain ⟨y0, y1, y2⟩ := hzd; obtain ⟨z0, z1, z2⟩ := hze) | skip)))
      all_goals try (
        have hS0 : C3 w3.heap.size (.int .i64 0) (.int .i64 0) (.bool false) wx := hzc
        have hS1 : F3 w3.heap.size wx := hzf
        have hSB := set3 hB (Nat.le_refl _) (.int .i64 bv.x) (.int .i64 bv.y) (.bool bv.f)
        have hSC := hS0.set (x := .int .i64 bv.x) (y := .int .i64 bv.y) (z := .bool bv.f)
        have hSF := hS1.set (g' := w3.heap.size) (.int .i64 bv.x) (.int .i64 bv.y) (.bool bv.f)
        obtain ⟨W', hW'⟩ : ∃ W', W' = (((wx.setCell ⟨w3.heap.size, 0, none⟩ (.int .i64 bv.x)).setCell ⟨w3.heap.size, 1, none⟩ (.int .i64 bv.y)).setCell ⟨w3.heap.size, 2, none⟩ (.bool bv.f)) := ⟨_, rfl⟩
        rw [← hW'] at hSB hSC hSF ⊢
        obtain ⟨g', hg'⟩ : ∃ g', g' = w3.heap.size := ⟨_, rfl⟩
        rw [← hg']
        exact KK g' W' (by rw [hg']; exact ⟨Nat.le_refl _, hSC, hSF, hSB⟩))
      all_goals first
        | exact KK _ _ ⟨by assumption, hzc.set, hzf.set _ _ _, set3 hB (by assumption) _ _ _⟩
        | exact KK _ _ ⟨hB.size, C3.new wx _ _ _ 34, F3.new wx _ _ _ 34, hB.alloc hB.size _⟩
    case restgb =>
      clear hB HK
      intro gb w4 hR
      obtain ⟨hgle, hCg, hFg, hbg⟩ := hR
      have HB4 := Lib.hid (HB3.out.trans (hbg.mono HB3.out.size))
      have HF4 := Lib.hid (HF3.out.below hbg)
      have HBV := Lib.hid hCg
      have HA4 := Lib.hid (HA3.out.later hbg)
      have hc4 := HC3.out.later hbg
      have hd4 := HD3.out.later hbg
      have HC4 := Lib.hid hc4
      have HD4 := Lib.hid hd4
      have HE4 := Lib.hid (HE3.out.later hbg)
      clear c0 c1 c2 d0 d1 d2 e0 e1 e2 hgle hCg hFg hbg
      obtain ⟨c0, c1, c2⟩ := id hc4
      obtain ⟨d0, d1, d2⟩ := id hd4
      go_wp2
      have HN4 := Lib.hid (fun (W1 W2 : World) (hb : Below W1.heap.size W1 W2) (h : W1.cell? ⟨w.heap.size, 0, none⟩ = some (.int .i64 P) ∧ W1.cell? ⟨w.heap.size, 1, none⟩ = some (.int .i64 A) ∧ W1.cell? ⟨w.heap.size, 2, none⟩ = some (.int .i64 B) ∧ W1.cell? ⟨w.heap.size + 1, 0, none⟩ = some (.int .i64 q.x) ∧ W1.cell? ⟨w.heap.size + 1, 1, none⟩ = some (.int .i64 q.y) ∧ W1.cell? ⟨w.heap.size + 1, 2, none⟩ = some (.bool q.f) ∧ BelF w4.heap.size w4 W1) => (show W2.cell? ⟨w.heap.size, 0, none⟩ = some (.int .i64 P) ∧ W2.cell? ⟨w.heap.size, 1, none⟩ = some (.int .i64 A) ∧ W2.cell? ⟨w.heap.size, 2, none⟩ = some (.int .i64 B) ∧ W2.cell? ⟨w.heap.size + 1, 0, none⟩ = some (.int .i64 q.x) ∧ W2.cell? ⟨w.heap.size + 1, 1, none⟩ = some (.int .i64 q.y) ∧ W2.cell? ⟨w.heap.size + 1, 2, none⟩ = some (.bool q.f) ∧ BelF w4.heap.size w4 W2 from ⟨cell_later h.1 hb, cell_later h.2.1 hb, cell_later h.2.2.1 hb, cell_later h.2.2.2.1 hb, cell_later h.2.2.2.2.1 hb, cell_later h.2.2.2.2.2.1 hb, h.2.2.2.2.2.2.next hb⟩))
      have HBS4 := Lib.hid (fun (W1 : World) (h : W1.cell? ⟨w.heap.size, 0, none⟩ = some (.int .i64 P) ∧ W1.cell? ⟨w.heap.size, 1, none⟩ = some (.int .i64 A) ∧ W1.cell? ⟨w.heap.size, 2, none⟩ = some (.int .i64 B) ∧ W1.cell? ⟨w.heap.size + 1, 0, none⟩ = some (.int .i64 q.x) ∧ W1.cell? ⟨w.heap.size + 1, 1, none⟩ = some (.int .i64 q.y) ∧ W1.cell? ⟨w.heap.size + 1, 2, none⟩ = some (.bool q.f) ∧ BelF w4.heap.size w4 W1) => (show Below w4.heap.size w4 W1 from h.2.2.2.2.2.2.to))
      have HS4 := Lib.hid (show w4.cell? ⟨w.heap.size, 0, none⟩ = some (.int .i64 P) ∧ w4.cell? ⟨w.heap.size, 1, none⟩ = some (.int .i64 A) ∧ w4.cell? ⟨w.heap.size, 2, none⟩ = some (.int .i64 B) ∧ w4.cell? ⟨w.heap.size + 1, 0, none⟩ = some (.int .i64 q.x) ∧ w4.cell? ⟨w.heap.size + 1, 1, none⟩ = some (.int .i64 q.y) ∧ w4.cell? ⟨w.heap.size + 1, 2, none⟩ = some (.bool q.f) ∧ BelF w4.heap.size w4 w4 from ⟨c0, c1, c2, d0, d1, d2, BelF.begin w4⟩)
      go_region_held3 (fun W => W.cell? ⟨w.heap.size, 0, none⟩ = some (.int .i64 P) ∧ W.cell? ⟨w.heap.size, 1, none⟩ = some (.int .i64 A) ∧ W.cell? ⟨w.heap.size, 2, none⟩ = some (.int .i64 B) ∧ W.cell? ⟨w.heap.size + 1, 0, none⟩ = some (.int .i64 q.x) ∧ W.cell? ⟨w.heap.size + 1, 1, none⟩ = some (.int .i64 q.y) ∧ W.cell? ⟨w.heap.size + 1, 2, none⟩ = some (.bool q.f) ∧ BelF w4.heap.size w4 W)
        (first | exact HS4.out | exact HN4.out _ _ hbf (by assumption) | exact HN4.out _ _ (drew_below _) (by assumption) | exact HN4.out _ _ (drew_below _) HS4.out)
        ((first
          | (go_at_call 18; refine (Of_any _ _ _ _).mono ?_; rintro e wx ⟨rfl, hbf⟩)
          | (go_at_call 20; refine (at_any _ _).mono ?_; rintro e wx ⟨rfl, hbf⟩)
          | (go_at_call 29; refine (HOr.out _ (HF4.out.below (HBS4.out _ (by assumption)))).mono ?_; rintro e wx ⟨rfl, hbf⟩)))
      all_goals
        refine at_world (S := fun W => W.cell? ⟨w.heap.size, 0, none⟩ = some (.int .i64 P) ∧ W.cell? ⟨w.heap.size, 1, none⟩ = some (.int .i64 A) ∧ W.cell? ⟨w.heap.size, 2, none⟩ = some (.int .i64 B) ∧ W.cell? ⟨w.heap.size + 1, 0, none⟩ = some (.int .i64 q.x) ∧ W.cell? ⟨w.heap.size + 1, 1, none⟩ = some (.int .i64 q.y) ∧ W.cell? ⟨w.heap.size + 1, 2, none⟩ = some (.bool q.f) ∧ BelF w4.heap.size w4 W) (G := fun W => Exit.then _ _ _ _ W) (by assumption) ?_
        intro w5 hS
        have hb5 := HBS4.out _ hS
        have HB5 := Lib.hid (HB4.out.trans (hb5.mono HB4.out.size))
        have HF5 := Lib.hid (HF4.out.below hb5)
        have HA5 := Lib.hid (HA4.out.later hb5)
        have HV5 := Lib.hid (HBV.out.later hb5)
        have HC5 := Lib.hid (HC4.out.later hb5)
        have HD5 := Lib.hid (HD4.out.later hb5)
        have HE5 := Lib.hid (HE4.out.later hb5)
        clear hS hb5 c0 c1 c2 d0 d1 d2
        obtain ⟨c0, c1, c2⟩ := HC5.out
        obtain ⟨d0, d1, d2⟩ := HD5.out
        have hbs := below1 w5 (.cells #[.int .i64 q.x, .int .i64 q.y, .bool q.f] 25)
        have HFQ := Lib.hid (HFI.out (some ⟨w5.heap.size, 0, none⟩) 1 1 _ (agp_one w5 q 25) (by omega))
        have HBs := Lib.hid (HB5.out.trans (hbs.mono HB5.out.size))
        have HFs := Lib.hid (HF5.out.below hbs)
        have HAs := Lib.hid (HA5.out.later hbs)
        have HVs := Lib.hid (HV5.out.later hbs)
        have HCs := Lib.hid (HC5.out.later hbs)
        have HDs := Lib.hid (HD5.out.later hbs)
        have HEs := Lib.hid (HE5.out.later hbs)
        clear hbs
        go_wp2_with fail
        refine HFQ.out.mono ?_
        rintro e w6 ⟨rfl, hb⟩
        have HB6 := Lib.hid (HBs.out.trans (hb.mono HBs.out.size))
        have HF6 := Lib.hid (HFs.out.below hb)
        have HA6 := Lib.hid (HAs.out.later hb)
        have HV6 := Lib.hid (HVs.out.later hb)
        have HC6 := Lib.hid (HCs.out.later hb)
        have HD6 := Lib.hid (HDs.out.later hb)
        have HE6 := Lib.hid (HEs.out.later hb)
        clear hb c0 c1 c2 d0 d1 d2
        obtain ⟨a0, a1, a2⟩ := HA6.out
        obtain ⟨v0, v1, v2⟩ := HV6.out
        go_wp2_with fail
        refine (HNa.out _).mono ?_
        rintro e w7 ⟨rfl, hb⟩
        have HB7 := Lib.hid (HB6.out.trans (hb.mono HB6.out.size))
        have HF7 := Lib.hid (HF6.out.below hb)
        have HV7 := Lib.hid (HV6.out.later hb)
        clear hb a0 a1 a2 v0 v1 v2
        obtain ⟨v0, v1, v2⟩ := HV7.out
        go_wp2_with fail
        refine (HNb.out _).mono ?_
        rintro e w8 ⟨rfl, hb⟩
        have HB8 := Lib.hid (HB7.out.trans (hb.mono HB7.out.size))
        have HF8 := Lib.hid (HF7.out.below hb)
        clear hb v0 v1 v2
        go_wp2_with fail
        refine (HAw.out _ HF8.out).mono ?_
        rintro e w9 ⟨rfl, hb⟩
        have HB9 := Lib.hid (HB8.out.trans (hb.mono HB8.out.size))
        clear hb
        go_wp2
        go_ret
        exact ⟨ret_bool (by simp), HB9.out⟩

set_option maxHeartbeats 8000000 in
set_option maxRecDepth 100000 in
theorem lawSums_off (P A B k : Int) (q r : Pt) (hv : vB P A B = true) (hq : onB P A B q = true) (hr : onB P A B r = false) (w : World) (hF : Far w) :
    Calls Tryd.prog 4 #[.agg #[.int .i64 P, .int .i64 A, .int .i64 B], .agg #[.int .i64 q.x, .int .i64 q.y, .bool q.f], .agg #[.int .i64 r.x, .int .i64 r.y, .bool r.f], .int .i64 k] w fun e w' => e = .returned (.bool true) ∧ Below w.heap.size w w' := by
  have hb3 := below3 w (.cells #[.int .i64 P, .int .i64 A, .int .i64 B] 23) (.cells #[.int .i64 q.x, .int .i64 q.y, .bool q.f] 25) (.cells #[.int .i64 r.x, .int .i64 r.y, .bool r.f] 25)
  obtain ⟨W0, hW0⟩ : ∃ W0, ((w.alloc (.cells #[.int .i64 P, .int .i64 A, .int .i64 B] 23)).alloc (.cells #[.int .i64 q.x, .int .i64 q.y, .bool q.f] 25)).alloc (.cells #[.int .i64 r.x, .int .i64 r.y, .bool r.f] 25) = W0 := ⟨_, rfl⟩
  obtain ⟨hc, hd, he, -, hsz⟩ := blocks3 w _ _ _ _ _ _ _ _ _ _ _ _ W0 hW0.symm
  rw [hW0] at hb3
  have HB := Lib.hid hb3
  have HFa := Lib.hid (hF.below hb3)
  have HAw := Lib.hid (fun W hF => awake_any W hF)
  have HFI := Lib.hid (fun a n c W h hn => fine_any P A B a n c [q] W h hn)
  have hfi : (vB P A B && [q].all (onB P A B)) = true := by simp [hv, hq]
  rw [hfi] at HFI
  obtain ⟨n, ho, hn⟩ := ord_ex (vB_iff.1 hv).1 (vB_iff.1 hv).2.2.2 hq
  have hbo := vB_le hv
  have HOn := Lib.hid (fun W => onR_any P A B r hbo.1 hbo.2.1 hbo.2.2 W)
  rw [hr] at HOn
  obtain ⟨bv, hbv⟩ : ∃ bv, tmP P A q n k = bv := ⟨_, rfl⟩
  have HTm := Lib.hid (fun W hF => Times_yes P A B q n k hv hq ho hn W hF)
  have HTR := Lib.hid (fun W => timesR_any P A B q n k hv hq ho hn W)
  rw [hbv] at HTm HTR
  have HOr := Lib.hid (fun W hF => Order_yes P A B q n hv hq ho hn W hF)
  have HOR := Lib.hid (fun W => orderR_any P A B q n hv hq ho hn W)
  have HNE := Lib.hid (fun W => neq25 W bv bv)
  rw [decide_eq_true rfl] at HNE
  obtain ⟨av, hav⟩ : ∃ av : Pt, av = ⟨0, 0, false⟩ := ⟨_, rfl⟩
  have HAdd := Lib.hid (fun W hF => (show Calls Tryd.prog 27 _ W fun e w' => e = .returned (.tuple #[.agg #[.int .i64 av.x, .int .i64 av.y, .bool av.f], .int .i64 2]) ∧ Below W.heap.size W w' by rw [hav]; exact Add_no P A B q r (by rw [hr]; simp) W hF))
  have HNa := Lib.hid (fun W => none_any av W)
  rw [decide_eq_true hav] at HNa
  clear hv hq hr ho hn hF hb3 hsz hfi hav hbv hbo
  have HC := Lib.hid hc
  have HD := Lib.hid hd
  have HE := Lib.hid he
  obtain ⟨c0, c1, c2⟩ := id hc
  obtain ⟨d0, d1, d2⟩ := id hd
  obtain ⟨e0, e1, e2⟩ := id he
  go_enter Tryd.func4, Tryd.ntmps4
  go_wp2
  have HK := Lib.hid (fun (W : World) (hb : Below W0.heap.size W0 W) => (show W.cell? ⟨w.heap.size, 0, none⟩ = some (.int .i64 P) ∧ W.cell? ⟨w.heap.size, 1, none⟩ = some (.int .i64 A) ∧ W.cell? ⟨w.heap.size, 2, none⟩ = some (.int .i64 B) ∧ W.cell? ⟨w.heap.size + 1, 0, none⟩ = some (.int .i64 q.x) ∧ W.cell? ⟨w.heap.size + 1, 1, none⟩ = some (.int .i64 q.y) ∧ W.cell? ⟨w.heap.size + 1, 2, none⟩ = some (.bool q.f) ∧ W.cell? ⟨w.heap.size + 1 + 1, 0, none⟩ = some (.int .i64 r.x) ∧ W.cell? ⟨w.heap.size + 1 + 1, 1, none⟩ = some (.int .i64 r.y) ∧ W.cell? ⟨w.heap.size + 1 + 1, 2, none⟩ = some (.bool r.f) ∧ BelF W0.heap.size W0 W from ⟨cell_later hc.1 hb, cell_later hc.2.1 hb, cell_later hc.2.2 hb, cell_later hd.1 hb, cell_later hd.2.1 hb, cell_later hd.2.2 hb, cell_later he.1 hb, cell_later he.2.1 hb, cell_later he.2.2 hb, BelF.of hb⟩))
  have hB : Below W0.heap.size W0 W0.drew := drew_below W0
  refine share_rest (S := fun g W => W0.heap.size ≤ g ∧ C3 g (.int .i64 av.x) (.int .i64 av.y) (.bool av.f) W ∧ F3 g W ∧ Below W0.heap.size W0 W) (G := ?Gga) ?mainga ?restga
  case mainga =>
    intro KK
    go_region_held3 (fun W => W.cell? ⟨w.heap.size, 0, none⟩ = some (.int .i64 P) ∧ W.cell? ⟨w.heap.size, 1, none⟩ = some (.int .i64 A) ∧ W.cell? ⟨w.heap.size, 2, none⟩ = some (.int .i64 B) ∧ W.cell? ⟨w.heap.size + 1, 0, none⟩ = some (.int .i64 q.x) ∧ W.cell? ⟨w.heap.size + 1, 1, none⟩ = some (.int .i64 q.y) ∧ W.cell? ⟨w.heap.size + 1, 2, none⟩ = some (.bool q.f) ∧ W.cell? ⟨w.heap.size + 1 + 1, 0, none⟩ = some (.int .i64 r.x) ∧ W.cell? ⟨w.heap.size + 1 + 1, 1, none⟩ = some (.int .i64 r.y) ∧ W.cell? ⟨w.heap.size + 1 + 1, 2, none⟩ = some (.bool r.f) ∧ BelF W0.heap.size W0 W)
      (first | exact HK.out _ hB | exact HK.out _ (hB.alloc hB.size _) | exact HK.out _ (set3 hB (by first | assumption | exact Nat.le_refl _) _ _ _) | exact HK.out _ (Below.refl _ _))
      (((first
        | (go_at_call 18; refine (Of_any _ _ _ _).mono ?_; rintro e wx ⟨rfl, hbf⟩)
        | (go_at_call 20; refine (at_any _ _).mono ?_; rintro e wx ⟨rfl, hbf⟩)
        | (go_at_call 27; refine (HAdd.out _ (by first | exact HFa.out.below hB | exact HFa.out.below (hB.alloc hB.size _))).mono ?_; rintro e wx ⟨rfl, hbf⟩)); have hzx := hB.size; have hB := (show Below W0.heap.size W0 wx from by first | exact hB.trans (hbf.mono hB.size) | exact (hB.alloc hB.size _).trans (hbf.mono (hB.alloc hB.size _).size)); (first | (have hzc : C3 W0.heap.size (.int .i64 0) (.int .i64 0) (.bool false) wx := (C3.new W0.drew (.int .i64 0) (.int .i64 0) (.bool false) 34).later hbf; have hzf : F3 W0.heap.size wx := (F3.new W0.drew (.int .i64 0) (.int .i64 0) (.bool false) 34).below (by simp) hbf; have hzl := hzc.lt; have hzd := hzc; have hze := hzf; obtain ⟨y0, y1, y2⟩ := hzd; obtain ⟨z0, z1, z2⟩ := hze) | (have hzc := (C3.new _ (.int .i64 0) (.int .i64 0) (.bool false) 34).later hbf; have hzf := (F3.new _ (.int .i64 0) (.int .i64 0) (.bool false) 34).below (by simp) hbf; have hzl := hzc.lt; have hzd := hzc; have hze := hzf; obtain ⟨y0, y1, y2⟩ := hzd; obtain ⟨z0, z1, z2⟩ := hze) | (have hzf := hzf.below hzl hbf; have hzc := hzc.later hbf; have hzl := hzc.lt; have hzd := hzc; have hze := hzf; obtain ⟨y0, y1, y2⟩ := hzd; obtain ⟨z0, z1, z2⟩ := hze) | skip)))
    all_goals try (
      have hS0 : C3 W0.heap.size (.int .i64 0) (.int .i64 0) (.bool false) wx := hzc
      have hS1 : F3 W0.heap.size wx := hzf
      have hSB := set3 hB (Nat.le_refl _) (.int .i64 av.x) (.int .i64 av.y) (.bool av.f)
      have hSC := hS0.set (x := .int .i64 av.x) (y := .int .i64 av.y) (z := .bool av.f)
      have hSF := hS1.set (g' := W0.heap.size) (.int .i64 av.x) (.int .i64 av.y) (.bool av.f)
      obtain ⟨W', hW'⟩ : ∃ W', W' = (((wx.setCell ⟨W0.heap.size, 0, none⟩ (.int .i64 av.x)).setCell ⟨W0.heap.size, 1, none⟩ (.int .i64 av.y)).setCell ⟨W0.heap.size, 2, none⟩ (.bool av.f)) := ⟨_, rfl⟩
      rw [← hW'] at hSB hSC hSF ⊢
      obtain ⟨g', hg'⟩ : ∃ g', g' = W0.heap.size := ⟨_, rfl⟩
      rw [← hg']
      exact KK g' W' (by rw [hg']; exact ⟨Nat.le_refl _, hSC, hSF, hSB⟩))
    all_goals first
      | exact KK _ _ ⟨by assumption, hzc.set, hzf.set _ _ _, set3 hB (by assumption) _ _ _⟩
      | exact KK _ _ ⟨hB.size, C3.new wx _ _ _ 34, F3.new wx _ _ _ 34, hB.alloc hB.size _⟩
  case restga =>
    clear hB HK
    intro ga w3 hR
    obtain ⟨hgle, hCg, hFg, hbg⟩ := hR
    have HB3 := Lib.hid (HB.out.trans (hbg.mono HB.out.size))
    have HF3 := Lib.hid (HFa.out.below hbg)
    have HA3 := Lib.hid hCg
    have hc3 := HC.out.later hbg
    have hd3 := HD.out.later hbg
    have he3 := HE.out.later hbg
    have HC3 := Lib.hid hc3
    have HD3 := Lib.hid hd3
    have HE3 := Lib.hid he3
    have HGA := Lib.hid hCg.lt
    clear c0 c1 c2 d0 d1 d2 e0 e1 e2 hgle hCg hFg hbg hW0
    obtain ⟨c0, c1, c2⟩ := id hc3
    obtain ⟨d0, d1, d2⟩ := id hd3
    obtain ⟨e0, e1, e2⟩ := id he3
    go_wp2
    have HK := Lib.hid (fun (W : World) (hb : Below w3.heap.size w3 W) => (show W.cell? ⟨w.heap.size, 0, none⟩ = some (.int .i64 P) ∧ W.cell? ⟨w.heap.size, 1, none⟩ = some (.int .i64 A) ∧ W.cell? ⟨w.heap.size, 2, none⟩ = some (.int .i64 B) ∧ W.cell? ⟨w.heap.size + 1, 0, none⟩ = some (.int .i64 q.x) ∧ W.cell? ⟨w.heap.size + 1, 1, none⟩ = some (.int .i64 q.y) ∧ W.cell? ⟨w.heap.size + 1, 2, none⟩ = some (.bool q.f) ∧ BelF w3.heap.size w3 W from ⟨cell_later hc3.1 hb, cell_later hc3.2.1 hb, cell_later hc3.2.2 hb, cell_later hd3.1 hb, cell_later hd3.2.1 hb, cell_later hd3.2.2 hb, BelF.of hb⟩))
    have hB : Below w3.heap.size w3 w3.drew := drew_below w3
    refine share_rest (S := fun g W => w3.heap.size ≤ g ∧ C3 g (.int .i64 bv.x) (.int .i64 bv.y) (.bool bv.f) W ∧ F3 g W ∧ Below w3.heap.size w3 W) (G := ?Ggb) ?maingb ?restgb
    case maingb =>
      intro KK
      go_region_held3 (fun W => W.cell? ⟨w.heap.size, 0, none⟩ = some (.int .i64 P) ∧ W.cell? ⟨w.heap.size, 1, none⟩ = some (.int .i64 A) ∧ W.cell? ⟨w.heap.size, 2, none⟩ = some (.int .i64 B) ∧ W.cell? ⟨w.heap.size + 1, 0, none⟩ = some (.int .i64 q.x) ∧ W.cell? ⟨w.heap.size + 1, 1, none⟩ = some (.int .i64 q.y) ∧ W.cell? ⟨w.heap.size + 1, 2, none⟩ = some (.bool q.f) ∧ BelF w3.heap.size w3 W)
        (first | exact HK.out _ hB | exact HK.out _ (hB.alloc hB.size _) | exact HK.out _ (set3 hB (by first | assumption | exact Nat.le_refl _) _ _ _) | exact HK.out _ (Below.refl _ _))
        (((first
          | (go_at_call 18; refine (Of_any _ _ _ _).mono ?_; rintro e wx ⟨rfl, hbf⟩)
          | (go_at_call 20; refine (at_any _ _).mono ?_; rintro e wx ⟨rfl, hbf⟩)
          | (go_at_call 28; refine (HTm.out _ (by first | exact HF3.out.below hB | exact HF3.out.below (hB.alloc hB.size _))).mono ?_; rintro e wx ⟨rfl, hbf⟩)); have hzx := hB.size; have hB := (show Below w3.heap.size w3 wx from by first | exact hB.trans (hbf.mono hB.size) | exact (hB.alloc hB.size _).trans (hbf.mono (hB.alloc hB.size _).size)); (first | (have hzc : C3 w3.heap.size (.int .i64 0) (.int .i64 0) (.bool false) wx := (C3.new w3.drew (.int .i64 0) (.int .i64 0) (.bool false) 34).later hbf; have hzf : F3 w3.heap.size wx := (F3.new w3.drew (.int .i64 0) (.int .i64 0) (.bool false) 34).below (by simp) hbf; have hzl := hzc.lt; have hzd := hzc; have hze := hzf; obtain ⟨y0, y1, y2⟩ := hzd; obtain ⟨z0, z1, z2⟩ := hze) | (have hzc := (C3.new _ (.int .i64 0) (.int .i64 0) (.bool false) 34).later hbf; have hzf := (F3.new _ (.int .i64 0) (.int .i64 0) (.bool false) 34).below (by simp) hbf; have hzl := hzc.lt; have hzd := hzc; have hze := hzf; obtain ⟨y0, y1, y2⟩ := hzd; obtain ⟨z0, z1, z2⟩ := hze) | (have hzf := hzf.below hzl hbf; have hzc := hzc.later hbf; have hzl := hzc.lt; have hzd := hzc; have hze := hzf; obtain ⟨y0, y1, y2⟩ := hzd; obtain ⟨z0, z1, z2⟩ := hze) | skip)))
      all_goals try (
        have hS0 : C3 w3.heap.size (.int .i64 0) (.int .i64 0) (.bool false) wx := hzc
        have hS1 : F3 w3.heap.size wx := hzf
        have hSB := set3 hB (Nat.le_refl _) (.int .i64 bv.x) (.int .i64 bv.y) (.bool bv.f)
        have hSC := hS0.set (x := .int .i64 bv.x) (y := .int .i64 bv.y) (z := .bool bv.f)
        have hSF := hS1.set (g' := w3.heap.size) (.int .i64 bv.x) (.int .i64 bv.y) (.bool bv.f)
        obtain ⟨W', hW'⟩ : ∃ W', W' = (((wx.setCell ⟨w3.heap.size, 0, none⟩ (.int .i64 bv.x)).setCell ⟨w3.heap.size, 1, none⟩ (.int .i64 bv.y)).setCell ⟨w3.heap.size, 2, none⟩ (.bool bv.f)) := ⟨_, rfl⟩
        rw [← hW'] at hSB hSC hSF ⊢
        obtain ⟨g', hg'⟩ : ∃ g', g' = w3.heap.size := ⟨_, rfl⟩
        rw [← hg']
        exact KK g' W' (by rw [hg']; exact ⟨Nat.le_refl _, hSC, hSF, hSB⟩))
      all_goals first
        | exact KK _ _ ⟨by assumption, hzc.set, hzf.set _ _ _, set3 hB (by assumption) _ _ _⟩
        | exact KK _ _ ⟨hB.size, C3.new wx _ _ _ 34, F3.new wx _ _ _ 34, hB.alloc hB.size _⟩
    case restgb =>
      clear hB HK
      intro gb w4 hR
      obtain ⟨hgle, hCg, hFg, hbg⟩ := hR
      have HB4 := Lib.hid (HB3.out.trans (hbg.mono HB3.out.size))
      have HF4 := Lib.hid (HF3.out.below hbg)
      have HBV := Lib.hid hCg
      have HA4 := Lib.hid (HA3.out.later hbg)
      have hc4 := HC3.out.later hbg
      have hd4 := HD3.out.later hbg
      have HC4 := Lib.hid hc4
      have HD4 := Lib.hid hd4
      have HE4 := Lib.hid (HE3.out.later hbg)
      clear c0 c1 c2 d0 d1 d2 e0 e1 e2 hgle hCg hFg hbg
      obtain ⟨c0, c1, c2⟩ := id hc4
      obtain ⟨d0, d1, d2⟩ := id hd4
      go_wp2
      have HN4 := Lib.hid (fun (W1 W2 : World) (hb : Below W1.heap.size W1 W2) (h : W1.cell? ⟨w.heap.size, 0, none⟩ = some (.int .i64 P) ∧ W1.cell? ⟨w.heap.size, 1, none⟩ = some (.int .i64 A) ∧ W1.cell? ⟨w.heap.size, 2, none⟩ = some (.int .i64 B) ∧ W1.cell? ⟨w.heap.size + 1, 0, none⟩ = some (.int .i64 q.x) ∧ W1.cell? ⟨w.heap.size + 1, 1, none⟩ = some (.int .i64 q.y) ∧ W1.cell? ⟨w.heap.size + 1, 2, none⟩ = some (.bool q.f) ∧ BelF w4.heap.size w4 W1) => (show W2.cell? ⟨w.heap.size, 0, none⟩ = some (.int .i64 P) ∧ W2.cell? ⟨w.heap.size, 1, none⟩ = some (.int .i64 A) ∧ W2.cell? ⟨w.heap.size, 2, none⟩ = some (.int .i64 B) ∧ W2.cell? ⟨w.heap.size + 1, 0, none⟩ = some (.int .i64 q.x) ∧ W2.cell? ⟨w.heap.size + 1, 1, none⟩ = some (.int .i64 q.y) ∧ W2.cell? ⟨w.heap.size + 1, 2, none⟩ = some (.bool q.f) ∧ BelF w4.heap.size w4 W2 from ⟨cell_later h.1 hb, cell_later h.2.1 hb, cell_later h.2.2.1 hb, cell_later h.2.2.2.1 hb, cell_later h.2.2.2.2.1 hb, cell_later h.2.2.2.2.2.1 hb, h.2.2.2.2.2.2.next hb⟩))
      have HBS4 := Lib.hid (fun (W1 : World) (h : W1.cell? ⟨w.heap.size, 0, none⟩ = some (.int .i64 P) ∧ W1.cell? ⟨w.heap.size, 1, none⟩ = some (.int .i64 A) ∧ W1.cell? ⟨w.heap.size, 2, none⟩ = some (.int .i64 B) ∧ W1.cell? ⟨w.heap.size + 1, 0, none⟩ = some (.int .i64 q.x) ∧ W1.cell? ⟨w.heap.size + 1, 1, none⟩ = some (.int .i64 q.y) ∧ W1.cell? ⟨w.heap.size + 1, 2, none⟩ = some (.bool q.f) ∧ BelF w4.heap.size w4 W1) => (show Below w4.heap.size w4 W1 from h.2.2.2.2.2.2.to))
      have HS4 := Lib.hid (show w4.cell? ⟨w.heap.size, 0, none⟩ = some (.int .i64 P) ∧ w4.cell? ⟨w.heap.size, 1, none⟩ = some (.int .i64 A) ∧ w4.cell? ⟨w.heap.size, 2, none⟩ = some (.int .i64 B) ∧ w4.cell? ⟨w.heap.size + 1, 0, none⟩ = some (.int .i64 q.x) ∧ w4.cell? ⟨w.heap.size + 1, 1, none⟩ = some (.int .i64 q.y) ∧ w4.cell? ⟨w.heap.size + 1, 2, none⟩ = some (.bool q.f) ∧ BelF w4.heap.size w4 w4 from ⟨c0, c1, c2, d0, d1, d2, BelF.begin w4⟩)
      go_region_held3 (fun W => W.cell? ⟨w.heap.size, 0, none⟩ = some (.int .i64 P) ∧ W.cell? ⟨w.heap.size, 1, none⟩ = some (.int .i64 A) ∧ W.cell? ⟨w.heap.size, 2, none⟩ = some (.int .i64 B) ∧ W.cell? ⟨w.heap.size + 1, 0, none⟩ = some (.int .i64 q.x) ∧ W.cell? ⟨w.heap.size + 1, 1, none⟩ = some (.int .i64 q.y) ∧ W.cell? ⟨w.heap.size + 1, 2, none⟩ = some (.bool q.f) ∧ BelF w4.heap.size w4 W)
        (first | exact HS4.out | exact HN4.out _ _ hbf (by assumption) | exact HN4.out _ _ (drew_below _) (by assumption) | exact HN4.out _ _ (drew_below _) HS4.out)
        ((first
          | (go_at_call 18; refine (Of_any _ _ _ _).mono ?_; rintro e wx ⟨rfl, hbf⟩)
          | (go_at_call 20; refine (at_any _ _).mono ?_; rintro e wx ⟨rfl, hbf⟩)
          | (go_at_call 29; refine (HOr.out _ (HF4.out.below (HBS4.out _ (by assumption)))).mono ?_; rintro e wx ⟨rfl, hbf⟩)))
      all_goals
        refine at_world (S := fun W => W.cell? ⟨w.heap.size, 0, none⟩ = some (.int .i64 P) ∧ W.cell? ⟨w.heap.size, 1, none⟩ = some (.int .i64 A) ∧ W.cell? ⟨w.heap.size, 2, none⟩ = some (.int .i64 B) ∧ W.cell? ⟨w.heap.size + 1, 0, none⟩ = some (.int .i64 q.x) ∧ W.cell? ⟨w.heap.size + 1, 1, none⟩ = some (.int .i64 q.y) ∧ W.cell? ⟨w.heap.size + 1, 2, none⟩ = some (.bool q.f) ∧ BelF w4.heap.size w4 W) (G := fun W => Exit.then _ _ _ _ W) (by assumption) ?_
        intro w5 hS
        have hb5 := HBS4.out _ hS
        have HB5 := Lib.hid (HB4.out.trans (hb5.mono HB4.out.size))
        have HF5 := Lib.hid (HF4.out.below hb5)
        have HA5 := Lib.hid (HA4.out.later hb5)
        have HV5 := Lib.hid (HBV.out.later hb5)
        have HC5 := Lib.hid (HC4.out.later hb5)
        have HD5 := Lib.hid (HD4.out.later hb5)
        have HE5 := Lib.hid (HE4.out.later hb5)
        clear hS hb5 c0 c1 c2 d0 d1 d2
        obtain ⟨c0, c1, c2⟩ := HC5.out
        obtain ⟨d0, d1, d2⟩ := HD5.out
        have hbs := below1 w5 (.cells #[.int .i64 q.x, .int .i64 q.y, .bool q.f] 25)
        have HFQ := Lib.hid (HFI.out (some ⟨w5.heap.size, 0, none⟩) 1 1 _ (agp_one w5 q 25) (by omega))
        have HBs := Lib.hid (HB5.out.trans (hbs.mono HB5.out.size))
        have HFs := Lib.hid (HF5.out.below hbs)
        have HAs := Lib.hid (HA5.out.later hbs)
        have HVs := Lib.hid (HV5.out.later hbs)
        have HCs := Lib.hid (HC5.out.later hbs)
        have HDs := Lib.hid (HD5.out.later hbs)
        have HEs := Lib.hid (HE5.out.later hbs)
        clear hbs
        go_wp2_with fail
        refine HFQ.out.mono ?_
        rintro e w6 ⟨rfl, hb⟩
        have HB6 := Lib.hid (HBs.out.trans (hb.mono HBs.out.size))
        have HF6 := Lib.hid (HFs.out.below hb)
        have HA6 := Lib.hid (HAs.out.later hb)
        have HV6 := Lib.hid (HVs.out.later hb)
        have HC6 := Lib.hid (HCs.out.later hb)
        have HD6 := Lib.hid (HDs.out.later hb)
        have HE6 := Lib.hid (HEs.out.later hb)
        clear hb c0 c1 c2 d0 d1 d2
        obtain ⟨a0, a1, a2⟩ := HA6.out
        obtain ⟨v0, v1, v2⟩ := HV6.out
        obtain ⟨c0, c1, c2⟩ := HC6.out
        obtain ⟨d0, d1, d2⟩ := HD6.out
        have hne := fun W => HNE.out W
        have HN6 := Lib.hid (fun (W1 W2 : World) (hb : Below W1.heap.size W1 W2) (h : W1.cell? ⟨gb, 0, none⟩ = some (.int .i64 bv.x) ∧ W1.cell? ⟨gb, 1, none⟩ = some (.int .i64 bv.y) ∧ W1.cell? ⟨gb, 2, none⟩ = some (.bool bv.f) ∧ W1.cell? ⟨w.heap.size, 0, none⟩ = some (.int .i64 P) ∧ W1.cell? ⟨w.heap.size, 1, none⟩ = some (.int .i64 A) ∧ W1.cell? ⟨w.heap.size, 2, none⟩ = some (.int .i64 B) ∧ W1.cell? ⟨w.heap.size + 1, 0, none⟩ = some (.int .i64 q.x) ∧ W1.cell? ⟨w.heap.size + 1, 1, none⟩ = some (.int .i64 q.y) ∧ W1.cell? ⟨w.heap.size + 1, 2, none⟩ = some (.bool q.f) ∧ BelF w6.heap.size w6 W1) => (show W2.cell? ⟨gb, 0, none⟩ = some (.int .i64 bv.x) ∧ W2.cell? ⟨gb, 1, none⟩ = some (.int .i64 bv.y) ∧ W2.cell? ⟨gb, 2, none⟩ = some (.bool bv.f) ∧ W2.cell? ⟨w.heap.size, 0, none⟩ = some (.int .i64 P) ∧ W2.cell? ⟨w.heap.size, 1, none⟩ = some (.int .i64 A) ∧ W2.cell? ⟨w.heap.size, 2, none⟩ = some (.int .i64 B) ∧ W2.cell? ⟨w.heap.size + 1, 0, none⟩ = some (.int .i64 q.x) ∧ W2.cell? ⟨w.heap.size + 1, 1, none⟩ = some (.int .i64 q.y) ∧ W2.cell? ⟨w.heap.size + 1, 2, none⟩ = some (.bool q.f) ∧ BelF w6.heap.size w6 W2 from ⟨cell_later h.1 hb, cell_later h.2.1 hb, cell_later h.2.2.1 hb, cell_later h.2.2.2.1 hb, cell_later h.2.2.2.2.1 hb, cell_later h.2.2.2.2.2.1 hb, cell_later h.2.2.2.2.2.2.1 hb, cell_later h.2.2.2.2.2.2.2.1 hb, cell_later h.2.2.2.2.2.2.2.2.1 hb, h.2.2.2.2.2.2.2.2.2.next hb⟩))
        have HBS6 := Lib.hid (fun (W1 : World) (h : W1.cell? ⟨gb, 0, none⟩ = some (.int .i64 bv.x) ∧ W1.cell? ⟨gb, 1, none⟩ = some (.int .i64 bv.y) ∧ W1.cell? ⟨gb, 2, none⟩ = some (.bool bv.f) ∧ W1.cell? ⟨w.heap.size, 0, none⟩ = some (.int .i64 P) ∧ W1.cell? ⟨w.heap.size, 1, none⟩ = some (.int .i64 A) ∧ W1.cell? ⟨w.heap.size, 2, none⟩ = some (.int .i64 B) ∧ W1.cell? ⟨w.heap.size + 1, 0, none⟩ = some (.int .i64 q.x) ∧ W1.cell? ⟨w.heap.size + 1, 1, none⟩ = some (.int .i64 q.y) ∧ W1.cell? ⟨w.heap.size + 1, 2, none⟩ = some (.bool q.f) ∧ BelF w6.heap.size w6 W1) => (show Below w6.heap.size w6 W1 from h.2.2.2.2.2.2.2.2.2.to))
        have HS6 := Lib.hid (show w6.cell? ⟨gb, 0, none⟩ = some (.int .i64 bv.x) ∧ w6.cell? ⟨gb, 1, none⟩ = some (.int .i64 bv.y) ∧ w6.cell? ⟨gb, 2, none⟩ = some (.bool bv.f) ∧ w6.cell? ⟨w.heap.size, 0, none⟩ = some (.int .i64 P) ∧ w6.cell? ⟨w.heap.size, 1, none⟩ = some (.int .i64 A) ∧ w6.cell? ⟨w.heap.size, 2, none⟩ = some (.int .i64 B) ∧ w6.cell? ⟨w.heap.size + 1, 0, none⟩ = some (.int .i64 q.x) ∧ w6.cell? ⟨w.heap.size + 1, 1, none⟩ = some (.int .i64 q.y) ∧ w6.cell? ⟨w.heap.size + 1, 2, none⟩ = some (.bool q.f) ∧ BelF w6.heap.size w6 w6 from ⟨v0, v1, v2, c0, c1, c2, d0, d1, d2, BelF.begin w6⟩)
        go_wp2
        go_region_held3 (fun W => W.cell? ⟨gb, 0, none⟩ = some (.int .i64 bv.x) ∧ W.cell? ⟨gb, 1, none⟩ = some (.int .i64 bv.y) ∧ W.cell? ⟨gb, 2, none⟩ = some (.bool bv.f) ∧ W.cell? ⟨w.heap.size, 0, none⟩ = some (.int .i64 P) ∧ W.cell? ⟨w.heap.size, 1, none⟩ = some (.int .i64 A) ∧ W.cell? ⟨w.heap.size, 2, none⟩ = some (.int .i64 B) ∧ W.cell? ⟨w.heap.size + 1, 0, none⟩ = some (.int .i64 q.x) ∧ W.cell? ⟨w.heap.size + 1, 1, none⟩ = some (.int .i64 q.y) ∧ W.cell? ⟨w.heap.size + 1, 2, none⟩ = some (.bool q.f) ∧ BelF w6.heap.size w6 W)
          (first | exact HS6.out | exact HN6.out _ _ hbf (by assumption) | exact HN6.out _ _ (drew_below _) (by assumption) | exact HN6.out _ _ (drew_below _) HS6.out)
          ((first
            | (go_at_call 32; refine (own_any _ _).mono ?_; rintro e wx ⟨rfl, hbf⟩)
            | (go_at_call 33; refine (HTR.out _).mono ?_; rintro e wx ⟨rfl, hbf⟩)
            | (go_at_call 34; refine (HOR.out _).mono ?_; rintro e wx ⟨rfl, hbf⟩)
            | (go_at_call 22; refine (HAw.out _ (HF6.out.below (HBS6.out _ (by assumption)))).mono ?_; rintro e wx ⟨rfl, hbf⟩)))
        all_goals
          refine at_world (S := fun W => W.cell? ⟨gb, 0, none⟩ = some (.int .i64 bv.x) ∧ W.cell? ⟨gb, 1, none⟩ = some (.int .i64 bv.y) ∧ W.cell? ⟨gb, 2, none⟩ = some (.bool bv.f) ∧ W.cell? ⟨w.heap.size, 0, none⟩ = some (.int .i64 P) ∧ W.cell? ⟨w.heap.size, 1, none⟩ = some (.int .i64 A) ∧ W.cell? ⟨w.heap.size, 2, none⟩ = some (.int .i64 B) ∧ W.cell? ⟨w.heap.size + 1, 0, none⟩ = some (.int .i64 q.x) ∧ W.cell? ⟨w.heap.size + 1, 1, none⟩ = some (.int .i64 q.y) ∧ W.cell? ⟨w.heap.size + 1, 2, none⟩ = some (.bool q.f) ∧ BelF w6.heap.size w6 W) (G := fun W => Exit.then _ _ _ _ W) (by assumption) ?_
          intro w7 hS
          have hb7 := HBS6.out _ hS
          have HB7 := Lib.hid (HB6.out.trans (hb7.mono HB6.out.size))
          have HA7 := Lib.hid (HA6.out.later hb7)
          have HC7 := Lib.hid (HC6.out.later hb7)
          have HD7 := Lib.hid (HD6.out.later hb7)
          have HE7 := Lib.hid (HE6.out.later hb7)
          clear hS hb7 a0 a1 a2 v0 v1 v2 c0 c1 c2 d0 d1 d2
          obtain ⟨c0, c1, c2⟩ := HC7.out
          obtain ⟨e0, e1, e2⟩ := HE7.out
          go_wp2_with fail
          refine (HOn.out _).mono ?_
          rintro e w8 ⟨rfl, hb⟩
          have HB8 := Lib.hid (HB7.out.trans (hb.mono HB7.out.size))
          have HA8 := Lib.hid (HA7.out.later hb)
          have HC8 := Lib.hid (HC7.out.later hb)
          have HD8 := Lib.hid (HD7.out.later hb)
          have HE8 := Lib.hid (HE7.out.later hb)
          clear hb c0 c1 c2 e0 e1 e2
          obtain ⟨a0, a1, a2⟩ := HA8.out
          go_wp2_with fail
          refine (HNa.out _).mono ?_
          rintro e w9 ⟨rfl, hb⟩
          have HB9 := Lib.hid (HB8.out.trans (hb.mono HB8.out.size))
          clear hb a0 a1 a2
          go_wp2
          go_ret
          exact ⟨ret_bool (by simp), HB9.out⟩

set_option maxHeartbeats 8000000 in
set_option maxRecDepth 100000 in
theorem lawSums_yes (P A B k : Int) (q r : Pt) (hv : vB P A B = true) (hq : onB P A B q = true) (hr : onB P A B r = true) (w : World) (hF : Far w) :
    Calls Tryd.prog 4 #[.agg #[.int .i64 P, .int .i64 A, .int .i64 B], .agg #[.int .i64 q.x, .int .i64 q.y, .bool q.f], .agg #[.int .i64 r.x, .int .i64 r.y, .bool r.f], .int .i64 k] w fun e w' => e = .returned (.bool true) ∧ Below w.heap.size w w' := by
  have hb3 := below3 w (.cells #[.int .i64 P, .int .i64 A, .int .i64 B] 23) (.cells #[.int .i64 q.x, .int .i64 q.y, .bool q.f] 25) (.cells #[.int .i64 r.x, .int .i64 r.y, .bool r.f] 25)
  obtain ⟨W0, hW0⟩ : ∃ W0, ((w.alloc (.cells #[.int .i64 P, .int .i64 A, .int .i64 B] 23)).alloc (.cells #[.int .i64 q.x, .int .i64 q.y, .bool q.f] 25)).alloc (.cells #[.int .i64 r.x, .int .i64 r.y, .bool r.f] 25) = W0 := ⟨_, rfl⟩
  obtain ⟨hc, hd, he, -, hsz⟩ := blocks3 w _ _ _ _ _ _ _ _ _ _ _ _ W0 hW0.symm
  rw [hW0] at hb3
  have HB := Lib.hid hb3
  have HFa := Lib.hid (hF.below hb3)
  have HAw := Lib.hid (fun W hF => awake_any W hF)
  have HFI := Lib.hid (fun a n c W h hn => fine_any P A B a n c [q] W h hn)
  have hfi : (vB P A B && [q].all (onB P A B)) = true := by simp [hv, hq]
  rw [hfi] at HFI
  obtain ⟨n, ho, hn⟩ := ord_ex (vB_iff.1 hv).1 (vB_iff.1 hv).2.2.2 hq
  have hbo := vB_le hv
  have HOn := Lib.hid (fun W => onR_any P A B r hbo.1 hbo.2.1 hbo.2.2 W)
  rw [hr] at HOn
  obtain ⟨bv, hbv⟩ : ∃ bv, tmP P A q n k = bv := ⟨_, rfl⟩
  have HTm := Lib.hid (fun W hF => Times_yes P A B q n k hv hq ho hn W hF)
  have HTR := Lib.hid (fun W => timesR_any P A B q n k hv hq ho hn W)
  rw [hbv] at HTm HTR
  have HOr := Lib.hid (fun W hF => Order_yes P A B q n hv hq ho hn W hF)
  have HOR := Lib.hid (fun W => orderR_any P A B q n hv hq ho hn W)
  have HNE := Lib.hid (fun W => neq25 W bv bv)
  rw [decide_eq_true rfl] at HNE
  obtain ⟨av, hav⟩ : ∃ av, sumP P A q r = av := ⟨_, rfl⟩
  have HAdd := Lib.hid (fun W hF => Add_yes P A B q r hv hq hr W hF)
  have HAR := Lib.hid (fun W => addR_any P A B q r hv hq hr W)
  rw [hav] at HAdd HAR
  have HEQ := Lib.hid (fun W => eql25 W av av)
  rw [decide_eq_true rfl] at HEQ
  clear hv hq hr ho hn hF hb3 hsz hfi hav hbv hbo
  have HC := Lib.hid hc
  have HD := Lib.hid hd
  have HE := Lib.hid he
  obtain ⟨c0, c1, c2⟩ := id hc
  obtain ⟨d0, d1, d2⟩ := id hd
  obtain ⟨e0, e1, e2⟩ := id he
  go_enter Tryd.func4, Tryd.ntmps4
  go_wp2
  have HK := Lib.hid (fun (W : World) (hb : Below W0.heap.size W0 W) => (show W.cell? ⟨w.heap.size, 0, none⟩ = some (.int .i64 P) ∧ W.cell? ⟨w.heap.size, 1, none⟩ = some (.int .i64 A) ∧ W.cell? ⟨w.heap.size, 2, none⟩ = some (.int .i64 B) ∧ W.cell? ⟨w.heap.size + 1, 0, none⟩ = some (.int .i64 q.x) ∧ W.cell? ⟨w.heap.size + 1, 1, none⟩ = some (.int .i64 q.y) ∧ W.cell? ⟨w.heap.size + 1, 2, none⟩ = some (.bool q.f) ∧ W.cell? ⟨w.heap.size + 1 + 1, 0, none⟩ = some (.int .i64 r.x) ∧ W.cell? ⟨w.heap.size + 1 + 1, 1, none⟩ = some (.int .i64 r.y) ∧ W.cell? ⟨w.heap.size + 1 + 1, 2, none⟩ = some (.bool r.f) ∧ BelF W0.heap.size W0 W from ⟨cell_later hc.1 hb, cell_later hc.2.1 hb, cell_later hc.2.2 hb, cell_later hd.1 hb, cell_later hd.2.1 hb, cell_later hd.2.2 hb, cell_later he.1 hb, cell_later he.2.1 hb, cell_later he.2.2 hb, BelF.of hb⟩))
  have hB : Below W0.heap.size W0 W0.drew := drew_below W0
  refine share_rest (S := fun g W => W0.heap.size ≤ g ∧ C3 g (.int .i64 av.x) (.int .i64 av.y) (.bool av.f) W ∧ F3 g W ∧ Below W0.heap.size W0 W) (G := ?Gga) ?mainga ?restga
  case mainga =>
    intro KK
    go_region_held3 (fun W => W.cell? ⟨w.heap.size, 0, none⟩ = some (.int .i64 P) ∧ W.cell? ⟨w.heap.size, 1, none⟩ = some (.int .i64 A) ∧ W.cell? ⟨w.heap.size, 2, none⟩ = some (.int .i64 B) ∧ W.cell? ⟨w.heap.size + 1, 0, none⟩ = some (.int .i64 q.x) ∧ W.cell? ⟨w.heap.size + 1, 1, none⟩ = some (.int .i64 q.y) ∧ W.cell? ⟨w.heap.size + 1, 2, none⟩ = some (.bool q.f) ∧ W.cell? ⟨w.heap.size + 1 + 1, 0, none⟩ = some (.int .i64 r.x) ∧ W.cell? ⟨w.heap.size + 1 + 1, 1, none⟩ = some (.int .i64 r.y) ∧ W.cell? ⟨w.heap.size + 1 + 1, 2, none⟩ = some (.bool r.f) ∧ BelF W0.heap.size W0 W)
      (first | exact HK.out _ hB | exact HK.out _ (hB.alloc hB.size _) | exact HK.out _ (set3 hB (by first | assumption | exact Nat.le_refl _) _ _ _) | exact HK.out _ (Below.refl _ _))
      (((first
        | (go_at_call 18; refine (Of_any _ _ _ _).mono ?_; rintro e wx ⟨rfl, hbf⟩)
        | (go_at_call 20; refine (at_any _ _).mono ?_; rintro e wx ⟨rfl, hbf⟩)
        | (go_at_call 27; refine (HAdd.out _ (by first | exact HFa.out.below hB | exact HFa.out.below (hB.alloc hB.size _))).mono ?_; rintro e wx ⟨rfl, hbf⟩)); have hzx := hB.size; have hB := (show Below W0.heap.size W0 wx from by first | exact hB.trans (hbf.mono hB.size) | exact (hB.alloc hB.size _).trans (hbf.mono (hB.alloc hB.size _).size)); (first | (have hzc : C3 W0.heap.size (.int .i64 0) (.int .i64 0) (.bool false) wx := (C3.new W0.drew (.int .i64 0) (.int .i64 0) (.bool false) 34).later hbf; have hzf : F3 W0.heap.size wx := (F3.new W0.drew (.int .i64 0) (.int .i64 0) (.bool false) 34).below (by simp) hbf; have hzl := hzc.lt; have hzd := hzc; have hze := hzf; obtain ⟨y0, y1, y2⟩ := hzd; obtain ⟨z0, z1, z2⟩ := hze) | (have hzc := (C3.new _ (.int .i64 0) (.int .i64 0) (.bool false) 34).later hbf; have hzf := (F3.new _ (.int .i64 0) (.int .i64 0) (.bool false) 34).below (by simp) hbf; have hzl := hzc.lt; have hzd := hzc; have hze := hzf; obtain ⟨y0, y1, y2⟩ := hzd; obtain ⟨z0, z1, z2⟩ := hze) | (have hzf := hzf.below hzl hbf; have hzc := hzc.later hbf; have hzl := hzc.lt; have hzd := hzc; have hze := hzf; obtain ⟨y0, y1, y2⟩ := hzd; obtain ⟨z0, z1, z2⟩ := hze) | skip)))
    all_goals try (
      have hS0 : C3 W0.heap.size (.int .i64 0) (.int .i64 0) (.bool false) wx := hzc
      have hS1 : F3 W0.heap.size wx := hzf
      have hSB := set3 hB (Nat.le_refl _) (.int .i64 av.x) (.int .i64 av.y) (.bool av.f)
      have hSC := hS0.set (x := .int .i64 av.x) (y := .int .i64 av.y) (z := .bool av.f)
      have hSF := hS1.set (g' := W0.heap.size) (.int .i64 av.x) (.int .i64 av.y) (.bool av.f)
      obtain ⟨W', hW'⟩ : ∃ W', W' = (((wx.setCell ⟨W0.heap.size, 0, none⟩ (.int .i64 av.x)).setCell ⟨W0.heap.size, 1, none⟩ (.int .i64 av.y)).setCell ⟨W0.heap.size, 2, none⟩ (.bool av.f)) := ⟨_, rfl⟩
      rw [← hW'] at hSB hSC hSF ⊢
      obtain ⟨g', hg'⟩ : ∃ g', g' = W0.heap.size := ⟨_, rfl⟩
      rw [← hg']
      exact KK g' W' (by rw [hg']; exact ⟨Nat.le_refl _, hSC, hSF, hSB⟩))
    all_goals first
      | exact KK _ _ ⟨by assumption, hzc.set, hzf.set _ _ _, set3 hB (by assumption) _ _ _⟩
      | exact KK _ _ ⟨hB.size, C3.new wx _ _ _ 34, F3.new wx _ _ _ 34, hB.alloc hB.size _⟩
  case restga =>
    clear hB HK
    intro ga w3 hR
    obtain ⟨hgle, hCg, hFg, hbg⟩ := hR
    have HB3 := Lib.hid (HB.out.trans (hbg.mono HB.out.size))
    have HF3 := Lib.hid (HFa.out.below hbg)
    have HA3 := Lib.hid hCg
    have hc3 := HC.out.later hbg
    have hd3 := HD.out.later hbg
    have he3 := HE.out.later hbg
    have HC3 := Lib.hid hc3
    have HD3 := Lib.hid hd3
    have HE3 := Lib.hid he3
    have HGA := Lib.hid hCg.lt
    clear c0 c1 c2 d0 d1 d2 e0 e1 e2 hgle hCg hFg hbg hW0
    obtain ⟨c0, c1, c2⟩ := id hc3
    obtain ⟨d0, d1, d2⟩ := id hd3
    obtain ⟨e0, e1, e2⟩ := id he3
    go_wp2
    have HK := Lib.hid (fun (W : World) (hb : Below w3.heap.size w3 W) => (show W.cell? ⟨w.heap.size, 0, none⟩ = some (.int .i64 P) ∧ W.cell? ⟨w.heap.size, 1, none⟩ = some (.int .i64 A) ∧ W.cell? ⟨w.heap.size, 2, none⟩ = some (.int .i64 B) ∧ W.cell? ⟨w.heap.size + 1, 0, none⟩ = some (.int .i64 q.x) ∧ W.cell? ⟨w.heap.size + 1, 1, none⟩ = some (.int .i64 q.y) ∧ W.cell? ⟨w.heap.size + 1, 2, none⟩ = some (.bool q.f) ∧ BelF w3.heap.size w3 W from ⟨cell_later hc3.1 hb, cell_later hc3.2.1 hb, cell_later hc3.2.2 hb, cell_later hd3.1 hb, cell_later hd3.2.1 hb, cell_later hd3.2.2 hb, BelF.of hb⟩))
    have hB : Below w3.heap.size w3 w3.drew := drew_below w3
    refine share_rest (S := fun g W => w3.heap.size ≤ g ∧ C3 g (.int .i64 bv.x) (.int .i64 bv.y) (.bool bv.f) W ∧ F3 g W ∧ Below w3.heap.size w3 W) (G := ?Ggb) ?maingb ?restgb
    case maingb =>
      intro KK
      go_region_held3 (fun W => W.cell? ⟨w.heap.size, 0, none⟩ = some (.int .i64 P) ∧ W.cell? ⟨w.heap.size, 1, none⟩ = some (.int .i64 A) ∧ W.cell? ⟨w.heap.size, 2, none⟩ = some (.int .i64 B) ∧ W.cell? ⟨w.heap.size + 1, 0, none⟩ = some (.int .i64 q.x) ∧ W.cell? ⟨w.heap.size + 1, 1, none⟩ = some (.int .i64 q.y) ∧ W.cell? ⟨w.heap.size + 1, 2, none⟩ = some (.bool q.f) ∧ BelF w3.heap.size w3 W)
        (first | exact HK.out _ hB | exact HK.out _ (hB.alloc hB.size _) | exact HK.out _ (set3 hB (by first | assumption | exact Nat.le_refl _) _ _ _) | exact HK.out _ (Below.refl _ _))
        (((first
          | (go_at_call 18; refine (Of_any _ _ _ _).mono ?_; rintro e wx ⟨rfl, hbf⟩)
          | (go_at_call 20; refine (at_any _ _).mono ?_; rintro e wx ⟨rfl, hbf⟩)
          | (go_at_call 28; refine (HTm.out _ (by first | exact HF3.out.below hB | exact HF3.out.below (hB.alloc hB.size _))).mono ?_; rintro e wx ⟨rfl, hbf⟩)); have hzx := hB.size; have hB := (show Below w3.heap.size w3 wx from by first | exact hB.trans (hbf.mono hB.size) | exact (hB.alloc hB.size _).trans (hbf.mono (hB.alloc hB.size _).size)); (first | (have hzc : C3 w3.heap.size (.int .i64 0) (.int .i64 0) (.bool false) wx := (C3.new w3.drew (.int .i64 0) (.int .i64 0) (.bool false) 34).later hbf; have hzf : F3 w3.heap.size wx := (F3.new w3.drew (.int .i64 0) (.int .i64 0) (.bool false) 34).below (by simp) hbf; have hzl := hzc.lt; have hzd := hzc; have hze := hzf; obtain ⟨y0, y1, y2⟩ := hzd; obtain ⟨z0, z1, z2⟩ := hze) | (have hzc := (C3.new _ (.int .i64 0) (.int .i64 0) (.bool false) 34).later hbf; have hzf := (F3.new _ (.int .i64 0) (.int .i64 0) (.bool false) 34).below (by simp) hbf; have hzl := hzc.lt; have hzd := hzc; have hze := hzf; obtain ⟨y0, y1, y2⟩ := hzd; obtain ⟨z0, z1, z2⟩ := hze) | (have hzf := hzf.below hzl hbf; have hzc := hzc.later hbf; have hzl := hzc.lt; have hzd := hzc; have hze := hzf; obtain ⟨y0, y1, y2⟩ := hzd; obtain ⟨z0, z1, z2⟩ := hze) | skip)))
      all_goals try (
        have hS0 : C3 w3.heap.size (.int .i64 0) (.int .i64 0) (.bool false) wx := hzc
        have hS1 : F3 w3.heap.size wx := hzf
        have hSB := set3 hB (Nat.le_refl _) (.int .i64 bv.x) (.int .i64 bv.y) (.bool bv.f)
        have hSC := hS0.set (x := .int .i64 bv.x) (y := .int .i64 bv.y) (z := .bool bv.f)
        have hSF := hS1.set (g' := w3.heap.size) (.int .i64 bv.x) (.int .i64 bv.y) (.bool bv.f)
        obtain ⟨W', hW'⟩ : ∃ W', W' = (((wx.setCell ⟨w3.heap.size, 0, none⟩ (.int .i64 bv.x)).setCell ⟨w3.heap.size, 1, none⟩ (.int .i64 bv.y)).setCell ⟨w3.heap.size, 2, none⟩ (.bool bv.f)) := ⟨_, rfl⟩
        rw [← hW'] at hSB hSC hSF ⊢
        obtain ⟨g', hg'⟩ : ∃ g', g' = w3.heap.size := ⟨_, rfl⟩
        rw [← hg']
        exact KK g' W' (by rw [hg']; exact ⟨Nat.le_refl _, hSC, hSF, hSB⟩))
      all_goals first
        | exact KK _ _ ⟨by assumption, hzc.set, hzf.set _ _ _, set3 hB (by assumption) _ _ _⟩
        | exact KK _ _ ⟨hB.size, C3.new wx _ _ _ 34, F3.new wx _ _ _ 34, hB.alloc hB.size _⟩
    case restgb =>
      clear hB HK
      intro gb w4 hR
      obtain ⟨hgle, hCg, hFg, hbg⟩ := hR
      have HB4 := Lib.hid (HB3.out.trans (hbg.mono HB3.out.size))
      have HF4 := Lib.hid (HF3.out.below hbg)
      have HBV := Lib.hid hCg
      have HA4 := Lib.hid (HA3.out.later hbg)
      have hc4 := HC3.out.later hbg
      have hd4 := HD3.out.later hbg
      have HC4 := Lib.hid hc4
      have HD4 := Lib.hid hd4
      have HE4 := Lib.hid (HE3.out.later hbg)
      clear c0 c1 c2 d0 d1 d2 e0 e1 e2 hgle hCg hFg hbg
      obtain ⟨c0, c1, c2⟩ := id hc4
      obtain ⟨d0, d1, d2⟩ := id hd4
      go_wp2
      have HN4 := Lib.hid (fun (W1 W2 : World) (hb : Below W1.heap.size W1 W2) (h : W1.cell? ⟨w.heap.size, 0, none⟩ = some (.int .i64 P) ∧ W1.cell? ⟨w.heap.size, 1, none⟩ = some (.int .i64 A) ∧ W1.cell? ⟨w.heap.size, 2, none⟩ = some (.int .i64 B) ∧ W1.cell? ⟨w.heap.size + 1, 0, none⟩ = some (.int .i64 q.x) ∧ W1.cell? ⟨w.heap.size + 1, 1, none⟩ = some (.int .i64 q.y) ∧ W1.cell? ⟨w.heap.size + 1, 2, none⟩ = some (.bool q.f) ∧ BelF w4.heap.size w4 W1) => (show W2.cell? ⟨w.heap.size, 0, none⟩ = some (.int .i64 P) ∧ W2.cell? ⟨w.heap.size, 1, none⟩ = some (.int .i64 A) ∧ W2.cell? ⟨w.heap.size, 2, none⟩ = some (.int .i64 B) ∧ W2.cell? ⟨w.heap.size + 1, 0, none⟩ = some (.int .i64 q.x) ∧ W2.cell? ⟨w.heap.size + 1, 1, none⟩ = some (.int .i64 q.y) ∧ W2.cell? ⟨w.heap.size + 1, 2, none⟩ = some (.bool q.f) ∧ BelF w4.heap.size w4 W2 from ⟨cell_later h.1 hb, cell_later h.2.1 hb, cell_later h.2.2.1 hb, cell_later h.2.2.2.1 hb, cell_later h.2.2.2.2.1 hb, cell_later h.2.2.2.2.2.1 hb, h.2.2.2.2.2.2.next hb⟩))
      have HBS4 := Lib.hid (fun (W1 : World) (h : W1.cell? ⟨w.heap.size, 0, none⟩ = some (.int .i64 P) ∧ W1.cell? ⟨w.heap.size, 1, none⟩ = some (.int .i64 A) ∧ W1.cell? ⟨w.heap.size, 2, none⟩ = some (.int .i64 B) ∧ W1.cell? ⟨w.heap.size + 1, 0, none⟩ = some (.int .i64 q.x) ∧ W1.cell? ⟨w.heap.size + 1, 1, none⟩ = some (.int .i64 q.y) ∧ W1.cell? ⟨w.heap.size + 1, 2, none⟩ = some (.bool q.f) ∧ BelF w4.heap.size w4 W1) => (show Below w4.heap.size w4 W1 from h.2.2.2.2.2.2.to))
      have HS4 := Lib.hid (show w4.cell? ⟨w.heap.size, 0, none⟩ = some (.int .i64 P) ∧ w4.cell? ⟨w.heap.size, 1, none⟩ = some (.int .i64 A) ∧ w4.cell? ⟨w.heap.size, 2, none⟩ = some (.int .i64 B) ∧ w4.cell? ⟨w.heap.size + 1, 0, none⟩ = some (.int .i64 q.x) ∧ w4.cell? ⟨w.heap.size + 1, 1, none⟩ = some (.int .i64 q.y) ∧ w4.cell? ⟨w.heap.size + 1, 2, none⟩ = some (.bool q.f) ∧ BelF w4.heap.size w4 w4 from ⟨c0, c1, c2, d0, d1, d2, BelF.begin w4⟩)
      go_region_held3 (fun W => W.cell? ⟨w.heap.size, 0, none⟩ = some (.int .i64 P) ∧ W.cell? ⟨w.heap.size, 1, none⟩ = some (.int .i64 A) ∧ W.cell? ⟨w.heap.size, 2, none⟩ = some (.int .i64 B) ∧ W.cell? ⟨w.heap.size + 1, 0, none⟩ = some (.int .i64 q.x) ∧ W.cell? ⟨w.heap.size + 1, 1, none⟩ = some (.int .i64 q.y) ∧ W.cell? ⟨w.heap.size + 1, 2, none⟩ = some (.bool q.f) ∧ BelF w4.heap.size w4 W)
        (first | exact HS4.out | exact HN4.out _ _ hbf (by assumption) | exact HN4.out _ _ (drew_below _) (by assumption) | exact HN4.out _ _ (drew_below _) HS4.out)
        ((first
          | (go_at_call 18; refine (Of_any _ _ _ _).mono ?_; rintro e wx ⟨rfl, hbf⟩)
          | (go_at_call 20; refine (at_any _ _).mono ?_; rintro e wx ⟨rfl, hbf⟩)
          | (go_at_call 29; refine (HOr.out _ (HF4.out.below (HBS4.out _ (by assumption)))).mono ?_; rintro e wx ⟨rfl, hbf⟩)))
      all_goals
        refine at_world (S := fun W => W.cell? ⟨w.heap.size, 0, none⟩ = some (.int .i64 P) ∧ W.cell? ⟨w.heap.size, 1, none⟩ = some (.int .i64 A) ∧ W.cell? ⟨w.heap.size, 2, none⟩ = some (.int .i64 B) ∧ W.cell? ⟨w.heap.size + 1, 0, none⟩ = some (.int .i64 q.x) ∧ W.cell? ⟨w.heap.size + 1, 1, none⟩ = some (.int .i64 q.y) ∧ W.cell? ⟨w.heap.size + 1, 2, none⟩ = some (.bool q.f) ∧ BelF w4.heap.size w4 W) (G := fun W => Exit.then _ _ _ _ W) (by assumption) ?_
        intro w5 hS
        have hb5 := HBS4.out _ hS
        have HB5 := Lib.hid (HB4.out.trans (hb5.mono HB4.out.size))
        have HF5 := Lib.hid (HF4.out.below hb5)
        have HA5 := Lib.hid (HA4.out.later hb5)
        have HV5 := Lib.hid (HBV.out.later hb5)
        have HC5 := Lib.hid (HC4.out.later hb5)
        have HD5 := Lib.hid (HD4.out.later hb5)
        have HE5 := Lib.hid (HE4.out.later hb5)
        clear hS hb5 c0 c1 c2 d0 d1 d2
        obtain ⟨c0, c1, c2⟩ := HC5.out
        obtain ⟨d0, d1, d2⟩ := HD5.out
        have hbs := below1 w5 (.cells #[.int .i64 q.x, .int .i64 q.y, .bool q.f] 25)
        have HFQ := Lib.hid (HFI.out (some ⟨w5.heap.size, 0, none⟩) 1 1 _ (agp_one w5 q 25) (by omega))
        have HBs := Lib.hid (HB5.out.trans (hbs.mono HB5.out.size))
        have HFs := Lib.hid (HF5.out.below hbs)
        have HAs := Lib.hid (HA5.out.later hbs)
        have HVs := Lib.hid (HV5.out.later hbs)
        have HCs := Lib.hid (HC5.out.later hbs)
        have HDs := Lib.hid (HD5.out.later hbs)
        have HEs := Lib.hid (HE5.out.later hbs)
        clear hbs
        go_wp2_with fail
        refine HFQ.out.mono ?_
        rintro e w6 ⟨rfl, hb⟩
        have HB6 := Lib.hid (HBs.out.trans (hb.mono HBs.out.size))
        have HF6 := Lib.hid (HFs.out.below hb)
        have HA6 := Lib.hid (HAs.out.later hb)
        have HV6 := Lib.hid (HVs.out.later hb)
        have HC6 := Lib.hid (HCs.out.later hb)
        have HD6 := Lib.hid (HDs.out.later hb)
        have HE6 := Lib.hid (HEs.out.later hb)
        clear hb c0 c1 c2 d0 d1 d2
        obtain ⟨a0, a1, a2⟩ := HA6.out
        obtain ⟨v0, v1, v2⟩ := HV6.out
        obtain ⟨c0, c1, c2⟩ := HC6.out
        obtain ⟨d0, d1, d2⟩ := HD6.out
        have hne := fun W => HNE.out W
        have HN6 := Lib.hid (fun (W1 W2 : World) (hb : Below W1.heap.size W1 W2) (h : W1.cell? ⟨gb, 0, none⟩ = some (.int .i64 bv.x) ∧ W1.cell? ⟨gb, 1, none⟩ = some (.int .i64 bv.y) ∧ W1.cell? ⟨gb, 2, none⟩ = some (.bool bv.f) ∧ W1.cell? ⟨w.heap.size, 0, none⟩ = some (.int .i64 P) ∧ W1.cell? ⟨w.heap.size, 1, none⟩ = some (.int .i64 A) ∧ W1.cell? ⟨w.heap.size, 2, none⟩ = some (.int .i64 B) ∧ W1.cell? ⟨w.heap.size + 1, 0, none⟩ = some (.int .i64 q.x) ∧ W1.cell? ⟨w.heap.size + 1, 1, none⟩ = some (.int .i64 q.y) ∧ W1.cell? ⟨w.heap.size + 1, 2, none⟩ = some (.bool q.f) ∧ BelF w6.heap.size w6 W1) => (show W2.cell? ⟨gb, 0, none⟩ = some (.int .i64 bv.x) ∧ W2.cell? ⟨gb, 1, none⟩ = some (.int .i64 bv.y) ∧ W2.cell? ⟨gb, 2, none⟩ = some (.bool bv.f) ∧ W2.cell? ⟨w.heap.size, 0, none⟩ = some (.int .i64 P) ∧ W2.cell? ⟨w.heap.size, 1, none⟩ = some (.int .i64 A) ∧ W2.cell? ⟨w.heap.size, 2, none⟩ = some (.int .i64 B) ∧ W2.cell? ⟨w.heap.size + 1, 0, none⟩ = some (.int .i64 q.x) ∧ W2.cell? ⟨w.heap.size + 1, 1, none⟩ = some (.int .i64 q.y) ∧ W2.cell? ⟨w.heap.size + 1, 2, none⟩ = some (.bool q.f) ∧ BelF w6.heap.size w6 W2 from ⟨cell_later h.1 hb, cell_later h.2.1 hb, cell_later h.2.2.1 hb, cell_later h.2.2.2.1 hb, cell_later h.2.2.2.2.1 hb, cell_later h.2.2.2.2.2.1 hb, cell_later h.2.2.2.2.2.2.1 hb, cell_later h.2.2.2.2.2.2.2.1 hb, cell_later h.2.2.2.2.2.2.2.2.1 hb, h.2.2.2.2.2.2.2.2.2.next hb⟩))
        have HBS6 := Lib.hid (fun (W1 : World) (h : W1.cell? ⟨gb, 0, none⟩ = some (.int .i64 bv.x) ∧ W1.cell? ⟨gb, 1, none⟩ = some (.int .i64 bv.y) ∧ W1.cell? ⟨gb, 2, none⟩ = some (.bool bv.f) ∧ W1.cell? ⟨w.heap.size, 0, none⟩ = some (.int .i64 P) ∧ W1.cell? ⟨w.heap.size, 1, none⟩ = some (.int .i64 A) ∧ W1.cell? ⟨w.heap.size, 2, none⟩ = some (.int .i64 B) ∧ W1.cell? ⟨w.heap.size + 1, 0, none⟩ = some (.int .i64 q.x) ∧ W1.cell? ⟨w.heap.size + 1, 1, none⟩ = some (.int .i64 q.y) ∧ W1.cell? ⟨w.heap.size + 1, 2, none⟩ = some (.bool q.f) ∧ BelF w6.heap.size w6 W1) => (show Below w6.heap.size w6 W1 from h.2.2.2.2.2.2.2.2.2.to))
        have HS6 := Lib.hid (show w6.cell? ⟨gb, 0, none⟩ = some (.int .i64 bv.x) ∧ w6.cell? ⟨gb, 1, none⟩ = some (.int .i64 bv.y) ∧ w6.cell? ⟨gb, 2, none⟩ = some (.bool bv.f) ∧ w6.cell? ⟨w.heap.size, 0, none⟩ = some (.int .i64 P) ∧ w6.cell? ⟨w.heap.size, 1, none⟩ = some (.int .i64 A) ∧ w6.cell? ⟨w.heap.size, 2, none⟩ = some (.int .i64 B) ∧ w6.cell? ⟨w.heap.size + 1, 0, none⟩ = some (.int .i64 q.x) ∧ w6.cell? ⟨w.heap.size + 1, 1, none⟩ = some (.int .i64 q.y) ∧ w6.cell? ⟨w.heap.size + 1, 2, none⟩ = some (.bool q.f) ∧ BelF w6.heap.size w6 w6 from ⟨v0, v1, v2, c0, c1, c2, d0, d1, d2, BelF.begin w6⟩)
        go_wp2
        go_region_held3 (fun W => W.cell? ⟨gb, 0, none⟩ = some (.int .i64 bv.x) ∧ W.cell? ⟨gb, 1, none⟩ = some (.int .i64 bv.y) ∧ W.cell? ⟨gb, 2, none⟩ = some (.bool bv.f) ∧ W.cell? ⟨w.heap.size, 0, none⟩ = some (.int .i64 P) ∧ W.cell? ⟨w.heap.size, 1, none⟩ = some (.int .i64 A) ∧ W.cell? ⟨w.heap.size, 2, none⟩ = some (.int .i64 B) ∧ W.cell? ⟨w.heap.size + 1, 0, none⟩ = some (.int .i64 q.x) ∧ W.cell? ⟨w.heap.size + 1, 1, none⟩ = some (.int .i64 q.y) ∧ W.cell? ⟨w.heap.size + 1, 2, none⟩ = some (.bool q.f) ∧ BelF w6.heap.size w6 W)
          (first | exact HS6.out | exact HN6.out _ _ hbf (by assumption) | exact HN6.out _ _ (drew_below _) (by assumption) | exact HN6.out _ _ (drew_below _) HS6.out)
          ((first
            | (go_at_call 32; refine (own_any _ _).mono ?_; rintro e wx ⟨rfl, hbf⟩)
            | (go_at_call 33; refine (HTR.out _).mono ?_; rintro e wx ⟨rfl, hbf⟩)
            | (go_at_call 34; refine (HOR.out _).mono ?_; rintro e wx ⟨rfl, hbf⟩)
            | (go_at_call 22; refine (HAw.out _ (HF6.out.below (HBS6.out _ (by assumption)))).mono ?_; rintro e wx ⟨rfl, hbf⟩)))
        all_goals
          refine at_world (S := fun W => W.cell? ⟨gb, 0, none⟩ = some (.int .i64 bv.x) ∧ W.cell? ⟨gb, 1, none⟩ = some (.int .i64 bv.y) ∧ W.cell? ⟨gb, 2, none⟩ = some (.bool bv.f) ∧ W.cell? ⟨w.heap.size, 0, none⟩ = some (.int .i64 P) ∧ W.cell? ⟨w.heap.size, 1, none⟩ = some (.int .i64 A) ∧ W.cell? ⟨w.heap.size, 2, none⟩ = some (.int .i64 B) ∧ W.cell? ⟨w.heap.size + 1, 0, none⟩ = some (.int .i64 q.x) ∧ W.cell? ⟨w.heap.size + 1, 1, none⟩ = some (.int .i64 q.y) ∧ W.cell? ⟨w.heap.size + 1, 2, none⟩ = some (.bool q.f) ∧ BelF w6.heap.size w6 W) (G := fun W => Exit.then _ _ _ _ W) (by assumption) ?_
          intro w7 hS
          have hb7 := HBS6.out _ hS
          have HB7 := Lib.hid (HB6.out.trans (hb7.mono HB6.out.size))
          have HA7 := Lib.hid (HA6.out.later hb7)
          have HC7 := Lib.hid (HC6.out.later hb7)
          have HD7 := Lib.hid (HD6.out.later hb7)
          have HE7 := Lib.hid (HE6.out.later hb7)
          clear hS hb7 a0 a1 a2 v0 v1 v2 c0 c1 c2 d0 d1 d2
          obtain ⟨c0, c1, c2⟩ := HC7.out
          obtain ⟨e0, e1, e2⟩ := HE7.out
          go_wp2_with fail
          refine (HOn.out _).mono ?_
          rintro e w8 ⟨rfl, hb⟩
          have HB8 := Lib.hid (HB7.out.trans (hb.mono HB7.out.size))
          have HA8 := Lib.hid (HA7.out.later hb)
          have HC8 := Lib.hid (HC7.out.later hb)
          have HD8 := Lib.hid (HD7.out.later hb)
          have HE8 := Lib.hid (HE7.out.later hb)
          clear hb c0 c1 c2 e0 e1 e2
          obtain ⟨a0, a1, a2⟩ := HA8.out
          obtain ⟨c0, c1, c2⟩ := HC8.out
          obtain ⟨d0, d1, d2⟩ := HD8.out
          obtain ⟨e0, e1, e2⟩ := HE8.out
          have heq := fun W => HEQ.out W
          have HN8 := Lib.hid (fun (W1 W2 : World) (hb : Below W1.heap.size W1 W2) (h : W1.cell? ⟨ga, 0, none⟩ = some (.int .i64 av.x) ∧ W1.cell? ⟨ga, 1, none⟩ = some (.int .i64 av.y) ∧ W1.cell? ⟨ga, 2, none⟩ = some (.bool av.f) ∧ W1.cell? ⟨w.heap.size, 0, none⟩ = some (.int .i64 P) ∧ W1.cell? ⟨w.heap.size, 1, none⟩ = some (.int .i64 A) ∧ W1.cell? ⟨w.heap.size, 2, none⟩ = some (.int .i64 B) ∧ W1.cell? ⟨w.heap.size + 1, 0, none⟩ = some (.int .i64 q.x) ∧ W1.cell? ⟨w.heap.size + 1, 1, none⟩ = some (.int .i64 q.y) ∧ W1.cell? ⟨w.heap.size + 1, 2, none⟩ = some (.bool q.f) ∧ W1.cell? ⟨w.heap.size + 1 + 1, 0, none⟩ = some (.int .i64 r.x) ∧ W1.cell? ⟨w.heap.size + 1 + 1, 1, none⟩ = some (.int .i64 r.y) ∧ W1.cell? ⟨w.heap.size + 1 + 1, 2, none⟩ = some (.bool r.f) ∧ BelF w8.heap.size w8 W1) => (show W2.cell? ⟨ga, 0, none⟩ = some (.int .i64 av.x) ∧ W2.cell? ⟨ga, 1, none⟩ = some (.int .i64 av.y) ∧ W2.cell? ⟨ga, 2, none⟩ = some (.bool av.f) ∧ W2.cell? ⟨w.heap.size, 0, none⟩ = some (.int .i64 P) ∧ W2.cell? ⟨w.heap.size, 1, none⟩ = some (.int .i64 A) ∧ W2.cell? ⟨w.heap.size, 2, none⟩ = some (.int .i64 B) ∧ W2.cell? ⟨w.heap.size + 1, 0, none⟩ = some (.int .i64 q.x) ∧ W2.cell? ⟨w.heap.size + 1, 1, none⟩ = some (.int .i64 q.y) ∧ W2.cell? ⟨w.heap.size + 1, 2, none⟩ = some (.bool q.f) ∧ W2.cell? ⟨w.heap.size + 1 + 1, 0, none⟩ = some (.int .i64 r.x) ∧ W2.cell? ⟨w.heap.size + 1 + 1, 1, none⟩ = some (.int .i64 r.y) ∧ W2.cell? ⟨w.heap.size + 1 + 1, 2, none⟩ = some (.bool r.f) ∧ BelF w8.heap.size w8 W2 from ⟨cell_later h.1 hb, cell_later h.2.1 hb, cell_later h.2.2.1 hb, cell_later h.2.2.2.1 hb, cell_later h.2.2.2.2.1 hb, cell_later h.2.2.2.2.2.1 hb, cell_later h.2.2.2.2.2.2.1 hb, cell_later h.2.2.2.2.2.2.2.1 hb, cell_later h.2.2.2.2.2.2.2.2.1 hb, cell_later h.2.2.2.2.2.2.2.2.2.1 hb, cell_later h.2.2.2.2.2.2.2.2.2.2.1 hb, cell_later h.2.2.2.2.2.2.2.2.2.2.2.1 hb, h.2.2.2.2.2.2.2.2.2.2.2.2.next hb⟩))
          have HBS8 := Lib.hid (fun (W1 : World) (h : W1.cell? ⟨ga, 0, none⟩ = some (.int .i64 av.x) ∧ W1.cell? ⟨ga, 1, none⟩ = some (.int .i64 av.y) ∧ W1.cell? ⟨ga, 2, none⟩ = some (.bool av.f) ∧ W1.cell? ⟨w.heap.size, 0, none⟩ = some (.int .i64 P) ∧ W1.cell? ⟨w.heap.size, 1, none⟩ = some (.int .i64 A) ∧ W1.cell? ⟨w.heap.size, 2, none⟩ = some (.int .i64 B) ∧ W1.cell? ⟨w.heap.size + 1, 0, none⟩ = some (.int .i64 q.x) ∧ W1.cell? ⟨w.heap.size + 1, 1, none⟩ = some (.int .i64 q.y) ∧ W1.cell? ⟨w.heap.size + 1, 2, none⟩ = some (.bool q.f) ∧ W1.cell? ⟨w.heap.size + 1 + 1, 0, none⟩ = some (.int .i64 r.x) ∧ W1.cell? ⟨w.heap.size + 1 + 1, 1, none⟩ = some (.int .i64 r.y) ∧ W1.cell? ⟨w.heap.size + 1 + 1, 2, none⟩ = some (.bool r.f) ∧ BelF w8.heap.size w8 W1) => (show Below w8.heap.size w8 W1 from h.2.2.2.2.2.2.2.2.2.2.2.2.to))
          have HS8 := Lib.hid (show w8.cell? ⟨ga, 0, none⟩ = some (.int .i64 av.x) ∧ w8.cell? ⟨ga, 1, none⟩ = some (.int .i64 av.y) ∧ w8.cell? ⟨ga, 2, none⟩ = some (.bool av.f) ∧ w8.cell? ⟨w.heap.size, 0, none⟩ = some (.int .i64 P) ∧ w8.cell? ⟨w.heap.size, 1, none⟩ = some (.int .i64 A) ∧ w8.cell? ⟨w.heap.size, 2, none⟩ = some (.int .i64 B) ∧ w8.cell? ⟨w.heap.size + 1, 0, none⟩ = some (.int .i64 q.x) ∧ w8.cell? ⟨w.heap.size + 1, 1, none⟩ = some (.int .i64 q.y) ∧ w8.cell? ⟨w.heap.size + 1, 2, none⟩ = some (.bool q.f) ∧ w8.cell? ⟨w.heap.size + 1 + 1, 0, none⟩ = some (.int .i64 r.x) ∧ w8.cell? ⟨w.heap.size + 1 + 1, 1, none⟩ = some (.int .i64 r.y) ∧ w8.cell? ⟨w.heap.size + 1 + 1, 2, none⟩ = some (.bool r.f) ∧ BelF w8.heap.size w8 w8 from ⟨a0, a1, a2, c0, c1, c2, d0, d1, d2, e0, e1, e2, BelF.begin w8⟩)
          go_wp2
          go_region_held3 (fun W => W.cell? ⟨ga, 0, none⟩ = some (.int .i64 av.x) ∧ W.cell? ⟨ga, 1, none⟩ = some (.int .i64 av.y) ∧ W.cell? ⟨ga, 2, none⟩ = some (.bool av.f) ∧ W.cell? ⟨w.heap.size, 0, none⟩ = some (.int .i64 P) ∧ W.cell? ⟨w.heap.size, 1, none⟩ = some (.int .i64 A) ∧ W.cell? ⟨w.heap.size, 2, none⟩ = some (.int .i64 B) ∧ W.cell? ⟨w.heap.size + 1, 0, none⟩ = some (.int .i64 q.x) ∧ W.cell? ⟨w.heap.size + 1, 1, none⟩ = some (.int .i64 q.y) ∧ W.cell? ⟨w.heap.size + 1, 2, none⟩ = some (.bool q.f) ∧ W.cell? ⟨w.heap.size + 1 + 1, 0, none⟩ = some (.int .i64 r.x) ∧ W.cell? ⟨w.heap.size + 1 + 1, 1, none⟩ = some (.int .i64 r.y) ∧ W.cell? ⟨w.heap.size + 1 + 1, 2, none⟩ = some (.bool r.f) ∧ BelF w8.heap.size w8 W)
            (first | exact HS8.out | exact HN8.out _ _ hbf (by assumption) | exact HN8.out _ _ (drew_below _) (by assumption) | exact HN8.out _ _ (drew_below _) HS8.out)
            ((first
              | (go_at_call 32; refine (own_any _ _).mono ?_; rintro e wx ⟨rfl, hbf⟩)
              | (go_at_call 35; refine (HAR.out _).mono ?_; rintro e wx ⟨rfl, hbf⟩)))
          all_goals
            refine at_world (S := fun W => W.cell? ⟨ga, 0, none⟩ = some (.int .i64 av.x) ∧ W.cell? ⟨ga, 1, none⟩ = some (.int .i64 av.y) ∧ W.cell? ⟨ga, 2, none⟩ = some (.bool av.f) ∧ W.cell? ⟨w.heap.size, 0, none⟩ = some (.int .i64 P) ∧ W.cell? ⟨w.heap.size, 1, none⟩ = some (.int .i64 A) ∧ W.cell? ⟨w.heap.size, 2, none⟩ = some (.int .i64 B) ∧ W.cell? ⟨w.heap.size + 1, 0, none⟩ = some (.int .i64 q.x) ∧ W.cell? ⟨w.heap.size + 1, 1, none⟩ = some (.int .i64 q.y) ∧ W.cell? ⟨w.heap.size + 1, 2, none⟩ = some (.bool q.f) ∧ W.cell? ⟨w.heap.size + 1 + 1, 0, none⟩ = some (.int .i64 r.x) ∧ W.cell? ⟨w.heap.size + 1 + 1, 1, none⟩ = some (.int .i64 r.y) ∧ W.cell? ⟨w.heap.size + 1 + 1, 2, none⟩ = some (.bool r.f) ∧ BelF w8.heap.size w8 W) (G := fun W => Exit.then _ _ _ _ W) (by assumption) ?_
            intro w9 hS
            have HB9 := Lib.hid (HB8.out.trans ((HBS8.out _ hS).mono HB8.out.size))
            clear hS a0 a1 a2 c0 c1 c2 d0 d1 d2 e0 e1 e2
            go_wp2
            go_ret
            exact ⟨ret_bool (by simp), HB9.out⟩

theorem lawSums_any (P A B k : Int) (q r : Pt) (w : World) (hF : Far w) :
    Calls Tryd.prog 4 #[.agg #[.int .i64 P, .int .i64 A, .int .i64 B], .agg #[.int .i64 q.x, .int .i64 q.y, .bool q.f], .agg #[.int .i64 r.x, .int .i64 r.y, .bool r.f], .int .i64 k] w fun e w' => e = .returned (.bool true) ∧ Below w.heap.size w w' := by
  cases hv : (vB P A B && onB P A B q) with
  | false => exact lawSums_no P A B k q r hv w hF
  | true =>
    have h1 : vB P A B = true := by simp at hv; exact hv.1
    have h2 : onB P A B q = true := by simp at hv; exact hv.2
    cases hr : onB P A B r with
    | false => exact lawSums_off P A B k q r h1 h2 hr w hF
    | true => exact lawSums_yes P A B k q r h1 h2 hr w hF
end Go.Proofs.YtoepghlkjbpkfaaDoor
