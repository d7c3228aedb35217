/- The law CurvePoints: it returns true, whatever its arguments are. Condition: the far point lies in memory. -/
import Derived.Test.YtoepghlkjbpkfaaDoorAsk
namespace Go.Proofs.YtoepghlkjbpkfaaDoor
open Go.RowKit
attribute [local go_sem] Oper.semAt_some

set_option maxHeartbeats 8000000 in
set_option maxRecDepth 100000 in
theorem lawPoints_no (P A B : Int) (q : Pt) (hv : vB P A B = false) (w : World) (hF : Far w) :
    Calls Tryd.prog 3 #[.agg #[.int .i64 P, .int .i64 A, .int .i64 B], .agg #[.int .i64 q.x, .int .i64 q.y, .bool q.f]] w fun e w' => e = .returned (.bool true) ∧ Below w.heap.size w w' := by
  have HB := Lib.hid (below2 w (.cells #[.int .i64 P, .int .i64 A, .int .i64 B] 23) (.cells #[.int .i64 q.x, .int .i64 q.y, .bool q.f] 25))
  have hc := C3.new w (.int .i64 P) (.int .i64 A) (.int .i64 B) 23
  have HC := Lib.hid (hc.later (below1 (w.alloc (.cells #[.int .i64 P, .int .i64 A, .int .i64 B] 23)) (.cells #[.int .i64 q.x, .int .i64 q.y, .bool q.f] 25)))
  have hd := C3.new (w.alloc (.cells #[.int .i64 P, .int .i64 A, .int .i64 B] 23)) (.int .i64 q.x) (.int .i64 q.y) (.bool q.f) 25
  rw [show (w.alloc (.cells #[.int .i64 P, .int .i64 A, .int .i64 B] 23)).heap.size = w.heap.size + 1 by simp] at hd
  have HD := Lib.hid hd
  have HF0 := Lib.hid hF
  have HF1 := Lib.hid (hF.below HB.out)
  have HOf := Lib.hid (fun W => Of_any P A B W)
  have HAt := Lib.hid (fun W => at_any q W)
  have HAw := Lib.hid (fun W hF => awake_any W hF)
  have HVR := Lib.hid (fun W => validR_any P A B W)
  rw [hv] at HVR
  have HP := Lib.hid (fun W hF => Points_no P A B hv W hF)
  have HO := Lib.hid (fun W hF => On_no P A B q hv W hF)
  clear hv hc hd hF
  go_enter Tryd.func3, Tryd.ntmps3
  go_wp2_with fail
  refine (HOf.out _).mono ?_
  rintro e w1 ⟨rfl, hb⟩
  have HB1 := Lib.hid (HB.out.trans (hb.mono HB.out.size))
  have HF2 := Lib.hid (HF1.out.below hb)
  have HC1 := Lib.hid (HC.out.later hb)
  have HD1 := Lib.hid (HD.out.later hb)
  clear hb
  go_wp2_with fail
  refine (HP.out _ HF2.out).mono ?_
  rintro e w2 ⟨rfl, hb⟩
  have HB2 := Lib.hid (HB1.out.trans (hb.mono HB1.out.size))
  have HF3 := Lib.hid (HF2.out.below hb)
  have HC2 := Lib.hid (HC1.out.later hb)
  have HD2 := Lib.hid (HD1.out.later hb)
  clear hb
  have HN := Lib.hid (fun (W1 W2 : World) (hb : Below W1.heap.size W1 W2) (h : W1.cell? ⟨w.heap.size, 0, none⟩ = some (.int .i64 P) ∧ W1.cell? ⟨w.heap.size, 1, none⟩ = some (.int .i64 A) ∧ W1.cell? ⟨w.heap.size, 2, none⟩ = some (.int .i64 B) ∧ W1.cell? ⟨w.heap.size + 1, 0, none⟩ = some (.int .i64 q.x) ∧ W1.cell? ⟨w.heap.size + 1, 1, none⟩ = some (.int .i64 q.y) ∧ W1.cell? ⟨w.heap.size + 1, 2, none⟩ = some (.bool q.f) ∧ BelF w2.heap.size w2 W1) => (show W2.cell? ⟨w.heap.size, 0, none⟩ = some (.int .i64 P) ∧ W2.cell? ⟨w.heap.size, 1, none⟩ = some (.int .i64 A) ∧ W2.cell? ⟨w.heap.size, 2, none⟩ = some (.int .i64 B) ∧ W2.cell? ⟨w.heap.size + 1, 0, none⟩ = some (.int .i64 q.x) ∧ W2.cell? ⟨w.heap.size + 1, 1, none⟩ = some (.int .i64 q.y) ∧ W2.cell? ⟨w.heap.size + 1, 2, none⟩ = some (.bool q.f) ∧ BelF w2.heap.size w2 W2 from ⟨cell_later h.1 hb, cell_later h.2.1 hb, cell_later h.2.2.1 hb, cell_later h.2.2.2.1 hb, cell_later h.2.2.2.2.1 hb, cell_later h.2.2.2.2.2.1 hb, h.2.2.2.2.2.2.next hb⟩))
  have HBS := Lib.hid (fun (W1 : World) (h : W1.cell? ⟨w.heap.size, 0, none⟩ = some (.int .i64 P) ∧ W1.cell? ⟨w.heap.size, 1, none⟩ = some (.int .i64 A) ∧ W1.cell? ⟨w.heap.size, 2, none⟩ = some (.int .i64 B) ∧ W1.cell? ⟨w.heap.size + 1, 0, none⟩ = some (.int .i64 q.x) ∧ W1.cell? ⟨w.heap.size + 1, 1, none⟩ = some (.int .i64 q.y) ∧ W1.cell? ⟨w.heap.size + 1, 2, none⟩ = some (.bool q.f) ∧ BelF w2.heap.size w2 W1) => (show Below w2.heap.size w2 W1 from h.2.2.2.2.2.2.to))
  have HS0 := Lib.hid (show w2.cell? ⟨w.heap.size, 0, none⟩ = some (.int .i64 P) ∧ w2.cell? ⟨w.heap.size, 1, none⟩ = some (.int .i64 A) ∧ w2.cell? ⟨w.heap.size, 2, none⟩ = some (.int .i64 B) ∧ w2.cell? ⟨w.heap.size + 1, 0, none⟩ = some (.int .i64 q.x) ∧ w2.cell? ⟨w.heap.size + 1, 1, none⟩ = some (.int .i64 q.y) ∧ w2.cell? ⟨w.heap.size + 1, 2, none⟩ = some (.bool q.f) ∧ BelF w2.heap.size w2 w2 from ⟨HC2.out.1, HC2.out.2.1, HC2.out.2.2, HD2.out.1, HD2.out.2.1, HD2.out.2.2, BelF.begin w2⟩)
  obtain ⟨q0, q1, q2⟩ := HC2.out
  obtain ⟨r0, r1, r2⟩ := HD2.out
  go_wp2
  go_region_held3 (fun W => W.cell? ⟨w.heap.size, 0, none⟩ = some (.int .i64 P) ∧ W.cell? ⟨w.heap.size, 1, none⟩ = some (.int .i64 A) ∧ W.cell? ⟨w.heap.size, 2, none⟩ = some (.int .i64 B) ∧ W.cell? ⟨w.heap.size + 1, 0, none⟩ = some (.int .i64 q.x) ∧ W.cell? ⟨w.heap.size + 1, 1, none⟩ = some (.int .i64 q.y) ∧ W.cell? ⟨w.heap.size + 1, 2, none⟩ = some (.bool q.f) ∧ BelF w2.heap.size w2 W)
    (first | exact HS0.out | exact HN.out _ _ hbf (by assumption) | exact HN.out _ _ hbt (by assumption) | exact HN.out _ _ hbo (by assumption) | exact HN.out _ _ (drew_below _) (by assumption) | exact HN.out _ _ (drew_below _) HS0.out)
    ((first
      | (go_at_call 18; refine (HOf.out _).mono ?_; rintro e wx ⟨rfl, hbf⟩)
      | (go_at_call 20; refine (HAt.out _).mono ?_; rintro e wx ⟨rfl, hbt⟩)
      | (go_at_call 19; refine (HO.out _ (HF3.out.below (HBS.out _ (by assumption)))).mono ?_; rintro e wx ⟨rfl, hbo⟩)))
  all_goals
    refine at_world (S := fun W => W.cell? ⟨w.heap.size, 0, none⟩ = some (.int .i64 P) ∧ W.cell? ⟨w.heap.size, 1, none⟩ = some (.int .i64 A) ∧ W.cell? ⟨w.heap.size, 2, none⟩ = some (.int .i64 B) ∧ W.cell? ⟨w.heap.size + 1, 0, none⟩ = some (.int .i64 q.x) ∧ W.cell? ⟨w.heap.size + 1, 1, none⟩ = some (.int .i64 q.y) ∧ W.cell? ⟨w.heap.size + 1, 2, none⟩ = some (.bool q.f) ∧ BelF w2.heap.size w2 W) (G := fun W => Exit.then _ _ _ _ W) (by assumption) ?_
    intro w3 hS
    clear q0 q1 q2 r0 r1 r2
    obtain ⟨q0, q1, q2, r0, r1, r2, hs3⟩ := hS
    have hs4 := hs3.to
    have HB3 := Lib.hid (HB2.out.trans (hs4.mono HB2.out.size))
    have HF4 := Lib.hid (HF3.out.below hs4)
    have HC3 := Lib.hid (show C3 w.heap.size (.int .i64 P) (.int .i64 A) (.int .i64 B) w3 from ⟨q0, q1, q2⟩)
    have HD3 := Lib.hid (show C3 (w.heap.size + 1) (.int .i64 q.x) (.int .i64 q.y) (.bool q.f) w3 from ⟨r0, r1, r2⟩)
    clear hs3 hs4
    go_wp2_with fail
    refine (HVR.out _).mono ?_
    rintro e w4 ⟨rfl, hb⟩
    have HB4 := Lib.hid (HB3.out.trans (hb.mono HB3.out.size))
    have HF5 := Lib.hid (HF4.out.below hb)
    have HC4 := Lib.hid (HC3.out.later hb)
    have HD4 := Lib.hid (HD3.out.later hb)
    clear hb q0 q1 q2 r0 r1 r2
    go_wp2_with fail
    refine (HAw.out _ HF5.out).mono ?_
    rintro e w5 ⟨rfl, hb⟩
    have HB5 := Lib.hid (HB4.out.trans (hb.mono HB4.out.size))
    clear hb
    go_wp2
    go_ret
    exact ⟨rfl, HB5.out⟩

set_option maxHeartbeats 8000000 in
set_option maxRecDepth 100000 in
theorem lawPoints_yes (P A B : Int) (q : Pt) (hv : vB P A B = true) (w : World) (hF : Far w) :
    Calls Tryd.prog 3 #[.agg #[.int .i64 P, .int .i64 A, .int .i64 B], .agg #[.int .i64 q.x, .int .i64 q.y, .bool q.f]] w fun e w' => e = .returned (.bool true) ∧ Below w.heap.size w w' := by
  have HB := Lib.hid (below2 w (.cells #[.int .i64 P, .int .i64 A, .int .i64 B] 23) (.cells #[.int .i64 q.x, .int .i64 q.y, .bool q.f] 25))
  have hc := C3.new w (.int .i64 P) (.int .i64 A) (.int .i64 B) 23
  have HC := Lib.hid (hc.later (below1 (w.alloc (.cells #[.int .i64 P, .int .i64 A, .int .i64 B] 23)) (.cells #[.int .i64 q.x, .int .i64 q.y, .bool q.f] 25)))
  have hd := C3.new (w.alloc (.cells #[.int .i64 P, .int .i64 A, .int .i64 B] 23)) (.int .i64 q.x) (.int .i64 q.y) (.bool q.f) 25
  rw [show (w.alloc (.cells #[.int .i64 P, .int .i64 A, .int .i64 B] 23)).heap.size = w.heap.size + 1 by simp] at hd
  have HD := Lib.hid hd
  have HF0 := Lib.hid hF
  have HF1 := Lib.hid (hF.below HB.out)
  have HOf := Lib.hid (fun W => Of_any P A B W)
  have HAt := Lib.hid (fun W => at_any q W)
  have HAw := Lib.hid (fun W hF => awake_any W hF)
  have HVR := Lib.hid (fun W => validR_any P A B W)
  rw [hv] at HVR
  have HP := Lib.hid (fun W hF => Points_yes P A B hv W hF)
  have HO := Lib.hid (fun W hF => On_yes P A B q hv W hF)
  obtain ⟨h1, h2, h3⟩ := vB_le hv
  have HOR := Lib.hid (fun W => onR_any P A B q h1 h2 h3 W)
  obtain ⟨N, hN, k1, k2, k3⟩ := vB_nat hv
  have HPR := Lib.hid (fun W => by have := pointsR_any N A B k1 k2 k3 W; rwa [← hN] at this)
  have HEQ := Lib.hid (fun v1 v2 B1 B2 W (r1 : RowP 25 B1 v1 (ptsL P A B) W) (r2 : RowP 25 B2 v2 (ptsL P A B) W) => (show Calls Tryd.prog 23 #[v1, v2] W fun e w' => e = .returned (.bool true) ∧ Below W.heap.size W w' by
    obtain ⟨a1, c1, rfl, m1, m2, g1⟩ := AgP.of r1
    obtain ⟨a2, c2, rfl, m3, m4, g2⟩ := AgP.of r2
    unfold maxLen at m2
    have := ptsL_len hv
    exact equalR_any _ _ _ _ _ _ _ _ W g1 g2 (by omega) (by omega) true ⟨fun _ => rfl, fun _ => rfl⟩))
  have HLN := Lib.hid (ptsL_len hv)
  obtain ⟨v, hvv⟩ : ∃ v, onB P A B q = v := ⟨_, rfl⟩
  rw [hvv] at HO HOR
  obtain ⟨L, hL⟩ : ∃ L, ptsL P A B = L := ⟨_, rfl⟩
  rw [hL] at HP HPR HEQ HLN
  clear hvv hL h1 h2 h3 k1 k2 k3 hN
  clear hv hc hd hF
  go_enter Tryd.func3, Tryd.ntmps3
  go_wp2_with fail
  refine (HOf.out _).mono ?_
  rintro e w1 ⟨rfl, hb⟩
  have HB1 := Lib.hid (HB.out.trans (hb.mono HB.out.size))
  have HF2 := Lib.hid (HF1.out.below hb)
  have HC1 := Lib.hid (HC.out.later hb)
  have HD1 := Lib.hid (HD.out.later hb)
  clear hb
  go_wp2_with fail
  refine (HP.out _ HF2.out).mono ?_
  rintro e w2 ⟨⟨vl, rfl, hr⟩, hb⟩
  obtain ⟨al, cl, rfl, -, hm2, hag⟩ := AgP.of hr
  have HAG := Lib.hid hag
  have HCL := Lib.hid hm2
  clear hr hag hm2
  have HB2 := Lib.hid (HB1.out.trans (hb.mono HB1.out.size))
  have HF3 := Lib.hid (HF2.out.below hb)
  have HC2 := Lib.hid (HC1.out.later hb)
  have HD2 := Lib.hid (HD1.out.later hb)
  clear hb
  have HN := Lib.hid (fun (W1 W2 : World) (hb : Below W1.heap.size W1 W2) (h : W1.cell? ⟨w.heap.size, 0, none⟩ = some (.int .i64 P) ∧ W1.cell? ⟨w.heap.size, 1, none⟩ = some (.int .i64 A) ∧ W1.cell? ⟨w.heap.size, 2, none⟩ = some (.int .i64 B) ∧ W1.cell? ⟨w.heap.size + 1, 0, none⟩ = some (.int .i64 q.x) ∧ W1.cell? ⟨w.heap.size + 1, 1, none⟩ = some (.int .i64 q.y) ∧ W1.cell? ⟨w.heap.size + 1, 2, none⟩ = some (.bool q.f) ∧ BelF w2.heap.size w2 W1) => (show W2.cell? ⟨w.heap.size, 0, none⟩ = some (.int .i64 P) ∧ W2.cell? ⟨w.heap.size, 1, none⟩ = some (.int .i64 A) ∧ W2.cell? ⟨w.heap.size, 2, none⟩ = some (.int .i64 B) ∧ W2.cell? ⟨w.heap.size + 1, 0, none⟩ = some (.int .i64 q.x) ∧ W2.cell? ⟨w.heap.size + 1, 1, none⟩ = some (.int .i64 q.y) ∧ W2.cell? ⟨w.heap.size + 1, 2, none⟩ = some (.bool q.f) ∧ BelF w2.heap.size w2 W2 from ⟨cell_later h.1 hb, cell_later h.2.1 hb, cell_later h.2.2.1 hb, cell_later h.2.2.2.1 hb, cell_later h.2.2.2.2.1 hb, cell_later h.2.2.2.2.2.1 hb, h.2.2.2.2.2.2.next hb⟩))
  have HBS := Lib.hid (fun (W1 : World) (h : W1.cell? ⟨w.heap.size, 0, none⟩ = some (.int .i64 P) ∧ W1.cell? ⟨w.heap.size, 1, none⟩ = some (.int .i64 A) ∧ W1.cell? ⟨w.heap.size, 2, none⟩ = some (.int .i64 B) ∧ W1.cell? ⟨w.heap.size + 1, 0, none⟩ = some (.int .i64 q.x) ∧ W1.cell? ⟨w.heap.size + 1, 1, none⟩ = some (.int .i64 q.y) ∧ W1.cell? ⟨w.heap.size + 1, 2, none⟩ = some (.bool q.f) ∧ BelF w2.heap.size w2 W1) => (show Below w2.heap.size w2 W1 from h.2.2.2.2.2.2.to))
  have HS0 := Lib.hid (show w2.cell? ⟨w.heap.size, 0, none⟩ = some (.int .i64 P) ∧ w2.cell? ⟨w.heap.size, 1, none⟩ = some (.int .i64 A) ∧ w2.cell? ⟨w.heap.size, 2, none⟩ = some (.int .i64 B) ∧ w2.cell? ⟨w.heap.size + 1, 0, none⟩ = some (.int .i64 q.x) ∧ w2.cell? ⟨w.heap.size + 1, 1, none⟩ = some (.int .i64 q.y) ∧ w2.cell? ⟨w.heap.size + 1, 2, none⟩ = some (.bool q.f) ∧ BelF w2.heap.size w2 w2 from ⟨HC2.out.1, HC2.out.2.1, HC2.out.2.2, HD2.out.1, HD2.out.2.1, HD2.out.2.2, BelF.begin w2⟩)
  obtain ⟨q0, q1, q2⟩ := HC2.out
  obtain ⟨r0, r1, r2⟩ := HD2.out
  go_wp2
  go_region_held3 (fun W => W.cell? ⟨w.heap.size, 0, none⟩ = some (.int .i64 P) ∧ W.cell? ⟨w.heap.size, 1, none⟩ = some (.int .i64 A) ∧ W.cell? ⟨w.heap.size, 2, none⟩ = some (.int .i64 B) ∧ W.cell? ⟨w.heap.size + 1, 0, none⟩ = some (.int .i64 q.x) ∧ W.cell? ⟨w.heap.size + 1, 1, none⟩ = some (.int .i64 q.y) ∧ W.cell? ⟨w.heap.size + 1, 2, none⟩ = some (.bool q.f) ∧ BelF w2.heap.size w2 W)
    (first | exact HS0.out | exact HN.out _ _ hbf (by assumption) | exact HN.out _ _ hbt (by assumption) | exact HN.out _ _ hbo (by assumption) | exact HN.out _ _ (drew_below _) (by assumption) | exact HN.out _ _ (drew_below _) HS0.out)
    ((first
      | (go_at_call 18; refine (HOf.out _).mono ?_; rintro e wx ⟨rfl, hbf⟩)
      | (go_at_call 20; refine (HAt.out _).mono ?_; rintro e wx ⟨rfl, hbt⟩)
      | (go_at_call 19; refine (HO.out _ (HF3.out.below (HBS.out _ (by assumption)))).mono ?_; rintro e wx ⟨rfl, hbo⟩)))
  all_goals
    refine at_world (S := fun W => W.cell? ⟨w.heap.size, 0, none⟩ = some (.int .i64 P) ∧ W.cell? ⟨w.heap.size, 1, none⟩ = some (.int .i64 A) ∧ W.cell? ⟨w.heap.size, 2, none⟩ = some (.int .i64 B) ∧ W.cell? ⟨w.heap.size + 1, 0, none⟩ = some (.int .i64 q.x) ∧ W.cell? ⟨w.heap.size + 1, 1, none⟩ = some (.int .i64 q.y) ∧ W.cell? ⟨w.heap.size + 1, 2, none⟩ = some (.bool q.f) ∧ BelF w2.heap.size w2 W) (G := fun W => Exit.then _ _ _ _ W) (by assumption) ?_
    intro w3 hS
    clear q0 q1 q2 r0 r1 r2
    obtain ⟨q0, q1, q2, r0, r1, r2, hs3⟩ := hS
    have hs4 := hs3.to
    have HB3 := Lib.hid (HB2.out.trans (hs4.mono HB2.out.size))
    have HF4 := Lib.hid (HF3.out.below hs4)
    have HAG3 := Lib.hid (HAG.out.later hs4)
    have HC3 := Lib.hid (show C3 w.heap.size (.int .i64 P) (.int .i64 A) (.int .i64 B) w3 from ⟨q0, q1, q2⟩)
    have HD3 := Lib.hid (show C3 (w.heap.size + 1) (.int .i64 q.x) (.int .i64 q.y) (.bool q.f) w3 from ⟨r0, r1, r2⟩)
    clear hs3 hs4
    go_wp2_with fail
    refine (HVR.out _).mono ?_
    rintro e w4 ⟨rfl, hb⟩
    have HB4 := Lib.hid (HB3.out.trans (hb.mono HB3.out.size))
    have HF5 := Lib.hid (HF4.out.below hb)
    have HC4 := Lib.hid (HC3.out.later hb)
    have HD4 := Lib.hid (HD3.out.later hb)
    have HAG4 := Lib.hid (HAG3.out.later hb)
    clear hb q0 q1 q2 r0 r1 r2
    have HN2 := Lib.hid (fun (W1 W2 : World) (hb : Below W1.heap.size W1 W2) (h : W1.cell? ⟨w.heap.size, 0, none⟩ = some (.int .i64 P) ∧ W1.cell? ⟨w.heap.size, 1, none⟩ = some (.int .i64 A) ∧ W1.cell? ⟨w.heap.size, 2, none⟩ = some (.int .i64 B) ∧ W1.cell? ⟨w.heap.size + 1, 0, none⟩ = some (.int .i64 q.x) ∧ W1.cell? ⟨w.heap.size + 1, 1, none⟩ = some (.int .i64 q.y) ∧ W1.cell? ⟨w.heap.size + 1, 2, none⟩ = some (.bool q.f) ∧ BelF w4.heap.size w4 W1) => (show W2.cell? ⟨w.heap.size, 0, none⟩ = some (.int .i64 P) ∧ W2.cell? ⟨w.heap.size, 1, none⟩ = some (.int .i64 A) ∧ W2.cell? ⟨w.heap.size, 2, none⟩ = some (.int .i64 B) ∧ W2.cell? ⟨w.heap.size + 1, 0, none⟩ = some (.int .i64 q.x) ∧ W2.cell? ⟨w.heap.size + 1, 1, none⟩ = some (.int .i64 q.y) ∧ W2.cell? ⟨w.heap.size + 1, 2, none⟩ = some (.bool q.f) ∧ BelF w4.heap.size w4 W2 from ⟨cell_later h.1 hb, cell_later h.2.1 hb, cell_later h.2.2.1 hb, cell_later h.2.2.2.1 hb, cell_later h.2.2.2.2.1 hb, cell_later h.2.2.2.2.2.1 hb, h.2.2.2.2.2.2.next hb⟩))
    have HBS2 := Lib.hid (fun (W1 : World) (h : W1.cell? ⟨w.heap.size, 0, none⟩ = some (.int .i64 P) ∧ W1.cell? ⟨w.heap.size, 1, none⟩ = some (.int .i64 A) ∧ W1.cell? ⟨w.heap.size, 2, none⟩ = some (.int .i64 B) ∧ W1.cell? ⟨w.heap.size + 1, 0, none⟩ = some (.int .i64 q.x) ∧ W1.cell? ⟨w.heap.size + 1, 1, none⟩ = some (.int .i64 q.y) ∧ W1.cell? ⟨w.heap.size + 1, 2, none⟩ = some (.bool q.f) ∧ BelF w4.heap.size w4 W1) => (show Below w4.heap.size w4 W1 from h.2.2.2.2.2.2.to))
    have HS2 := Lib.hid (show w4.cell? ⟨w.heap.size, 0, none⟩ = some (.int .i64 P) ∧ w4.cell? ⟨w.heap.size, 1, none⟩ = some (.int .i64 A) ∧ w4.cell? ⟨w.heap.size, 2, none⟩ = some (.int .i64 B) ∧ w4.cell? ⟨w.heap.size + 1, 0, none⟩ = some (.int .i64 q.x) ∧ w4.cell? ⟨w.heap.size + 1, 1, none⟩ = some (.int .i64 q.y) ∧ w4.cell? ⟨w.heap.size + 1, 2, none⟩ = some (.bool q.f) ∧ BelF w4.heap.size w4 w4 from ⟨HC4.out.1, HC4.out.2.1, HC4.out.2.2, HD4.out.1, HD4.out.2.1, HD4.out.2.2, BelF.begin w4⟩)
    obtain ⟨q0, q1, q2⟩ := HC4.out
    obtain ⟨r0, r1, r2⟩ := HD4.out
    have HBK := Lib.hid (fun W h => back_any al L.length cl L W h (by have := HLN.out; omega))
    go_wp2
    go_region_held3 (fun W => W.cell? ⟨w.heap.size, 0, none⟩ = some (.int .i64 P) ∧ W.cell? ⟨w.heap.size, 1, none⟩ = some (.int .i64 A) ∧ W.cell? ⟨w.heap.size, 2, none⟩ = some (.int .i64 B) ∧ W.cell? ⟨w.heap.size + 1, 0, none⟩ = some (.int .i64 q.x) ∧ W.cell? ⟨w.heap.size + 1, 1, none⟩ = some (.int .i64 q.y) ∧ W.cell? ⟨w.heap.size + 1, 2, none⟩ = some (.bool q.f) ∧ BelF w4.heap.size w4 W)
      (first | exact HS2.out | exact HN2.out _ _ hbb (by assumption) | exact HN2.out _ _ hbp (by assumption) | exact HN2.out _ _ hbe (by assumption) | exact HN2.out _ _ hbo (by assumption) | exact HN2.out _ _ hba (by assumption) | exact HN2.out _ _ (drew_below _) (by assumption) | exact HN2.out _ _ (drew_below _) HS2.out)
      ((first
        | (go_at_call 24; refine (HBK.out _ (HAG4.out.later (HBS2.out _ (by assumption)))).mono ?_; rintro e wx ⟨⟨vb, rfl, hrb⟩, hbb⟩)
        | (go_at_call 25; refine (HPR.out _).mono ?_; rintro e wx ⟨⟨vp, rfl, hrp⟩, hbp⟩)
        | (go_at_call 23; refine (HEQ.out vb vp _ _ _ (hrb.later hbp) hrp).mono ?_; rintro e wx ⟨rfl, hbe⟩)
        | (go_at_call 23; refine (HEQ.out vb vp _ _ _ hrb (hrp.later hbb)).mono ?_; rintro e wx ⟨rfl, hbe⟩)
        | (go_at_call 26; refine (HOR.out _).mono ?_; rintro e wx ⟨rfl, hbo⟩)
        | (go_at_call 22; refine (HAw.out _ (HF5.out.below (HBS2.out _ (by assumption)))).mono ?_; rintro e wx ⟨rfl, hba⟩)))
    all_goals
      refine at_world (S := fun W => W.cell? ⟨w.heap.size, 0, none⟩ = some (.int .i64 P) ∧ W.cell? ⟨w.heap.size, 1, none⟩ = some (.int .i64 A) ∧ W.cell? ⟨w.heap.size, 2, none⟩ = some (.int .i64 B) ∧ W.cell? ⟨w.heap.size + 1, 0, none⟩ = some (.int .i64 q.x) ∧ W.cell? ⟨w.heap.size + 1, 1, none⟩ = some (.int .i64 q.y) ∧ W.cell? ⟨w.heap.size + 1, 2, none⟩ = some (.bool q.f) ∧ BelF w4.heap.size w4 W) (G := fun W => Exit.then _ _ _ _ W) (by assumption) ?_
      intro w5 hS
      have HB5 := Lib.hid (HB4.out.trans ((HBS2.out _ hS).mono HB4.out.size))
      clear hS
      go_wp2
      go_ret
      exact ⟨ret_bool (by simp), HB5.out⟩

theorem lawPoints_any (P A B : Int) (q : Pt) (w : World) (hF : Far w) :
    Calls Tryd.prog 3 #[.agg #[.int .i64 P, .int .i64 A, .int .i64 B], .agg #[.int .i64 q.x, .int .i64 q.y, .bool q.f]] w fun e w' => e = .returned (.bool true) ∧ Below w.heap.size w w' := by
  cases hv : vB P A B with
  | false => exact lawPoints_no P A B q hv w hF
  | true => exact lawPoints_yes P A B q hv w hF
end Go.Proofs.YtoepghlkjbpkfaaDoor
