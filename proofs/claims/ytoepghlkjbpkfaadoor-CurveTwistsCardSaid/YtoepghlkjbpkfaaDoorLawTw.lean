/- The law CurveTwists: it returns true, whatever its arguments are. Condition: the far point lies in memory. -/
import Derived.Test.YtoepghlkjbpkfaaDoorAlk
import Derived.Test.YtoepghlkjbpkfaaDoorRTw
import Derived.Test.YtoepghlkjbpkfaaDoorHsMath
namespace Go.Proofs.YtoepghlkjbpkfaaDoor
open Go.RowKit
attribute [local go_sem] Oper.semAt_some

set_option maxHeartbeats 8000000 in
set_option maxRecDepth 100000 in
theorem lawTwists_no (P A B P2 C D : Int) (hv : vB P A B = false) (w : World) (hF : Far w) :
    Calls Tryd.prog 7 #[.agg #[.int .i64 P, .int .i64 A, .int .i64 B], .agg #[.int .i64 P2, .int .i64 C, .int .i64 D]] w fun e w' => e = .returned (.bool true) ∧ Below w.heap.size w w' := by
  have HB := Lib.hid (below2 w (.cells #[.int .i64 P, .int .i64 A, .int .i64 B] 23) (.cells #[.int .i64 P2, .int .i64 C, .int .i64 D] 23))
  have hc := C3.new w (.int .i64 P) (.int .i64 A) (.int .i64 B) 23
  have HC := Lib.hid (hc.later (below1 (w.alloc (.cells #[.int .i64 P, .int .i64 A, .int .i64 B] 23)) (.cells #[.int .i64 P2, .int .i64 C, .int .i64 D] 23)))
  have hd := C3.new (w.alloc (.cells #[.int .i64 P, .int .i64 A, .int .i64 B] 23)) (.int .i64 P2) (.int .i64 C) (.int .i64 D) 23
  rw [show (w.alloc (.cells #[.int .i64 P, .int .i64 A, .int .i64 B] 23)).heap.size = w.heap.size + 1 by simp] at hd
  have HD := Lib.hid hd
  have HF1 := Lib.hid (hF.below HB.out)
  have HOf := Lib.hid (fun W => Of_any P A B W)
  have HOg := Lib.hid (fun W => Of_any P2 C D W)
  have HAw := Lib.hid (fun W hF => awake_any W hF)
  have HVR := Lib.hid (fun W => validR_any P A B W)
  have HVR2 := Lib.hid (fun W => validR_any P2 C D W)
  have HT := Lib.hid (fun W hF => Twist_no P A B hv W hF)
  have HAL := Lib.hid (fun W hF => Alike_any P A B P2 C D 0 2 (.inr ⟨fun e => (by rw [hv] at e; cases e.1), rfl, rfl⟩) W hF)
  rw [hv] at HVR
  have heq := fun W => eql30 W 0 0 0 0 0 0
  rw [show eqC 0 0 0 0 0 0 = true by decide] at heq
  clear hv
  clear hc hd hF
  go_enter Tryd.func7, Tryd.ntmps7
  go_wp2_with fail
  refine (HOf.out _).mono ?_
  rintro e w1 ⟨rfl, hb⟩
  have HB1 := Lib.hid (HB.out.trans (hb.mono HB.out.size))
  have HF2 := Lib.hid (HF1.out.below hb)
  have HC1 := Lib.hid (HC.out.later hb)
  have HD1 := Lib.hid (HD.out.later hb)
  clear hb
  go_wp2_with fail
  refine (HT.out _ HF2.out).mono ?_
  rintro e w2 ⟨rfl, hb⟩
  have hbx := below1 w2 (.cells #[.int .i64 0, .int .i64 0, .int .i64 0] 30)
  have HX3 := Lib.hid (C3.new w2 (.int .i64 0) (.int .i64 0) (.int .i64 0) 30)
  have HB3 := Lib.hid ((HB1.out.trans (hb.mono HB1.out.size)).trans (hbx.mono (Nat.le_trans HB1.out.size hb.size)))
  have HF3 := Lib.hid ((HF2.out.below hb).below hbx)
  have HC3 := Lib.hid ((HC1.out.later hb).later hbx)
  have HD3 := Lib.hid ((HD1.out.later hb).later hbx)
  obtain ⟨q0, q1, q2⟩ := HC3.out
  obtain ⟨r0, r1, r2⟩ := HD3.out
  clear hb hbx
  have HN := Lib.hid (fun (W1 W2 : World) (hb : Below W1.heap.size W1 W2) (h : W1.cell? ⟨w.heap.size, 0, none⟩ = some (.int .i64 P) ∧ W1.cell? ⟨w.heap.size, 1, none⟩ = some (.int .i64 A) ∧ W1.cell? ⟨w.heap.size, 2, none⟩ = some (.int .i64 B) ∧ W1.cell? ⟨w.heap.size + 1, 0, none⟩ = some (.int .i64 P2) ∧ W1.cell? ⟨w.heap.size + 1, 1, none⟩ = some (.int .i64 C) ∧ W1.cell? ⟨w.heap.size + 1, 2, none⟩ = some (.int .i64 D) ∧ BelF (w2.alloc (.cells #[.int .i64 0, .int .i64 0, .int .i64 0] 30)).heap.size (w2.alloc (.cells #[.int .i64 0, .int .i64 0, .int .i64 0] 30)) W1) => (show W2.cell? ⟨w.heap.size, 0, none⟩ = some (.int .i64 P) ∧ W2.cell? ⟨w.heap.size, 1, none⟩ = some (.int .i64 A) ∧ W2.cell? ⟨w.heap.size, 2, none⟩ = some (.int .i64 B) ∧ W2.cell? ⟨w.heap.size + 1, 0, none⟩ = some (.int .i64 P2) ∧ W2.cell? ⟨w.heap.size + 1, 1, none⟩ = some (.int .i64 C) ∧ W2.cell? ⟨w.heap.size + 1, 2, none⟩ = some (.int .i64 D) ∧ BelF (w2.alloc (.cells #[.int .i64 0, .int .i64 0, .int .i64 0] 30)).heap.size (w2.alloc (.cells #[.int .i64 0, .int .i64 0, .int .i64 0] 30)) W2 from ⟨cell_later h.1 hb, cell_later h.2.1 hb, cell_later h.2.2.1 hb, cell_later h.2.2.2.1 hb, cell_later h.2.2.2.2.1 hb, cell_later h.2.2.2.2.2.1 hb, h.2.2.2.2.2.2.next hb⟩))
  have HBS := Lib.hid (fun (W1 : World) (h : W1.cell? ⟨w.heap.size, 0, none⟩ = some (.int .i64 P) ∧ W1.cell? ⟨w.heap.size, 1, none⟩ = some (.int .i64 A) ∧ W1.cell? ⟨w.heap.size, 2, none⟩ = some (.int .i64 B) ∧ W1.cell? ⟨w.heap.size + 1, 0, none⟩ = some (.int .i64 P2) ∧ W1.cell? ⟨w.heap.size + 1, 1, none⟩ = some (.int .i64 C) ∧ W1.cell? ⟨w.heap.size + 1, 2, none⟩ = some (.int .i64 D) ∧ BelF (w2.alloc (.cells #[.int .i64 0, .int .i64 0, .int .i64 0] 30)).heap.size (w2.alloc (.cells #[.int .i64 0, .int .i64 0, .int .i64 0] 30)) W1) => (show Below (w2.alloc (.cells #[.int .i64 0, .int .i64 0, .int .i64 0] 30)).heap.size (w2.alloc (.cells #[.int .i64 0, .int .i64 0, .int .i64 0] 30)) W1 from h.2.2.2.2.2.2.to))
  have HS0 := Lib.hid (show (w2.alloc (.cells #[.int .i64 0, .int .i64 0, .int .i64 0] 30)).cell? ⟨w.heap.size, 0, none⟩ = some (.int .i64 P) ∧ (w2.alloc (.cells #[.int .i64 0, .int .i64 0, .int .i64 0] 30)).cell? ⟨w.heap.size, 1, none⟩ = some (.int .i64 A) ∧ (w2.alloc (.cells #[.int .i64 0, .int .i64 0, .int .i64 0] 30)).cell? ⟨w.heap.size, 2, none⟩ = some (.int .i64 B) ∧ (w2.alloc (.cells #[.int .i64 0, .int .i64 0, .int .i64 0] 30)).cell? ⟨w.heap.size + 1, 0, none⟩ = some (.int .i64 P2) ∧ (w2.alloc (.cells #[.int .i64 0, .int .i64 0, .int .i64 0] 30)).cell? ⟨w.heap.size + 1, 1, none⟩ = some (.int .i64 C) ∧ (w2.alloc (.cells #[.int .i64 0, .int .i64 0, .int .i64 0] 30)).cell? ⟨w.heap.size + 1, 2, none⟩ = some (.int .i64 D) ∧ BelF (w2.alloc (.cells #[.int .i64 0, .int .i64 0, .int .i64 0] 30)).heap.size (w2.alloc (.cells #[.int .i64 0, .int .i64 0, .int .i64 0] 30)) (w2.alloc (.cells #[.int .i64 0, .int .i64 0, .int .i64 0] 30)) from ⟨HC3.out.1, HC3.out.2.1, HC3.out.2.2, HD3.out.1, HD3.out.2.1, HD3.out.2.2, BelF.begin _⟩)
  go_wp2
  go_region_held3 (fun W => W.cell? ⟨w.heap.size, 0, none⟩ = some (.int .i64 P) ∧ W.cell? ⟨w.heap.size, 1, none⟩ = some (.int .i64 A) ∧ W.cell? ⟨w.heap.size, 2, none⟩ = some (.int .i64 B) ∧ W.cell? ⟨w.heap.size + 1, 0, none⟩ = some (.int .i64 P2) ∧ W.cell? ⟨w.heap.size + 1, 1, none⟩ = some (.int .i64 C) ∧ W.cell? ⟨w.heap.size + 1, 2, none⟩ = some (.int .i64 D) ∧ BelF (w2.alloc (.cells #[.int .i64 0, .int .i64 0, .int .i64 0] 30)).heap.size (w2.alloc (.cells #[.int .i64 0, .int .i64 0, .int .i64 0] 30)) W)
    (first | exact HS0.out | exact HN.out _ _ hbf (by assumption) | exact HN.out _ _ hba (by assumption) | exact HN.out _ _ (drew_below _) (by assumption) | exact HN.out _ _ (drew_below _) HS0.out)
    ((first
      | (go_at_call 18; refine (Of_any _ _ _ _).mono ?_; rintro e wx ⟨rfl, hbf⟩)
      | (go_at_call 45; refine (HAL.out _ (HF3.out.below (HBS.out _ (by assumption)))).mono ?_; rintro e wx ⟨rfl, hba⟩)))
  all_goals
    refine at_world (S := fun W => W.cell? ⟨w.heap.size, 0, none⟩ = some (.int .i64 P) ∧ W.cell? ⟨w.heap.size, 1, none⟩ = some (.int .i64 A) ∧ W.cell? ⟨w.heap.size, 2, none⟩ = some (.int .i64 B) ∧ W.cell? ⟨w.heap.size + 1, 0, none⟩ = some (.int .i64 P2) ∧ W.cell? ⟨w.heap.size + 1, 1, none⟩ = some (.int .i64 C) ∧ W.cell? ⟨w.heap.size + 1, 2, none⟩ = some (.int .i64 D) ∧ BelF (w2.alloc (.cells #[.int .i64 0, .int .i64 0, .int .i64 0] 30)).heap.size (w2.alloc (.cells #[.int .i64 0, .int .i64 0, .int .i64 0] 30)) W) (G := fun W => Exit.then _ _ _ _ W) (by assumption) ?_
    intro w4 hS
    clear q0 q1 q2 r0 r1 r2
    obtain ⟨q0, q1, q2, r0, r1, r2, hs4⟩ := hS
    have hs5 := hs4.to
    have HB4 := Lib.hid (HB3.out.trans (hs5.mono HB3.out.size))
    have HF4 := Lib.hid (HF3.out.below hs5)
    have HC4 := Lib.hid (show C3 w.heap.size (.int .i64 P) (.int .i64 A) (.int .i64 B) w4 from ⟨q0, q1, q2⟩)
    have HD4 := Lib.hid (show C3 (w.heap.size + 1) (.int .i64 P2) (.int .i64 C) (.int .i64 D) w4 from ⟨r0, r1, r2⟩)
    have HX4 := Lib.hid (HX3.out.later hs5)
    clear hs4 hs5
    go_wp2_with fail
    refine (HVR.out _).mono ?_
    rintro e w5 ⟨rfl, hb⟩
    have HB5 := Lib.hid (HB4.out.trans (hb.mono HB4.out.size))
    have HF5 := Lib.hid (HF4.out.below hb)
    have HC5 := Lib.hid (HC4.out.later hb)
    have HD5 := Lib.hid (HD4.out.later hb)
    have HX5 := Lib.hid (HX4.out.later hb)
    clear hb q0 q1 q2 r0 r1 r2
    obtain ⟨x0, x1, x2⟩ := HX5.out
    go_wp2_with fail
    refine (HAw.out _ HF5.out).mono ?_
    rintro e w6 ⟨rfl, hb⟩
    have HB6 := Lib.hid (HB5.out.trans (hb.mono HB5.out.size))
    clear hb
    go_wp2
    go_ret
    exact ⟨rfl, HB6.out⟩

set_option maxHeartbeats 8000000 in
set_option maxRecDepth 100000 in
theorem lawTwists_out (P : Nat) (A B P2 C D : Int) (hv : vB P A B = true) (hv2 : vB P2 C D = false) (w : World) (hF : Far w) :
    Calls Tryd.prog 7 #[.agg #[.int .i64 (P : Int), .int .i64 A, .int .i64 B], .agg #[.int .i64 P2, .int .i64 C, .int .i64 D]] w fun e w' => e = .returned (.bool true) ∧ Below w.heap.size w w' := by
  have HB := Lib.hid (below2 w (.cells #[.int .i64 (P : Int), .int .i64 A, .int .i64 B] 23) (.cells #[.int .i64 P2, .int .i64 C, .int .i64 D] 23))
  have hc := C3.new w (.int .i64 (P : Int)) (.int .i64 A) (.int .i64 B) 23
  have HC := Lib.hid (hc.later (below1 (w.alloc (.cells #[.int .i64 (P : Int), .int .i64 A, .int .i64 B] 23)) (.cells #[.int .i64 P2, .int .i64 C, .int .i64 D] 23)))
  have hd := C3.new (w.alloc (.cells #[.int .i64 (P : Int), .int .i64 A, .int .i64 B] 23)) (.int .i64 P2) (.int .i64 C) (.int .i64 D) 23
  rw [show (w.alloc (.cells #[.int .i64 (P : Int), .int .i64 A, .int .i64 B] 23)).heap.size = w.heap.size + 1 by simp] at hd
  have HD := Lib.hid hd
  have HF1 := Lib.hid (hF.below HB.out)
  have HOf := Lib.hid (fun W => Of_any (P : Int) A B W)
  have HOg := Lib.hid (fun W => Of_any P2 C D W)
  have HAw := Lib.hid (fun W hF => awake_any W hF)
  have HVR := Lib.hid (fun W => validR_any (P : Int) A B W)
  have HVR2 := Lib.hid (fun W => validR_any P2 C D W)
  have HAL := Lib.hid (fun W hF => Alike_any P A B P2 C D 0 2 (.inr ⟨fun e => (by rw [hv2] at e; cases e.2.1), rfl, rfl⟩) W hF)
  have HT := Lib.hid (fun W hF => Twist_yes P A B hv W hF)
  have HTR := Lib.hid (fun W => twistR_any P A B hv W)
  have HNE := Lib.hid (fun W => neq30 W P (twA P A) (twB P B) P (twA P A) (twB P B))
  rw [show eqC P (twA P A) (twB P B) P (twA P A) (twB P B) = true by simp [eqC]] at HNE
  rw [hv] at HVR
  rw [hv2] at HVR2
  have hvt := (hasse hv).1
  have HOt := Lib.hid (fun W => Of_any P (twA P A) (twB P B) W)
  obtain ⟨TA, hTA⟩ : ∃ x, twA P A = x := ⟨_, rfl⟩
  obtain ⟨TB, hTB⟩ : ∃ x, twB P B = x := ⟨_, rfl⟩
  rw [hTA, hTB] at HT HTR HNE HOt
  clear hv hv2 hvt hTA hTB
  clear hc hd hF
  go_enter Tryd.func7, Tryd.ntmps7
  go_wp2_with fail
  refine (HOf.out _).mono ?_
  rintro e w1 ⟨rfl, hb⟩
  have HB1 := Lib.hid (HB.out.trans (hb.mono HB.out.size))
  have HF2 := Lib.hid (HF1.out.below hb)
  have HC1 := Lib.hid (HC.out.later hb)
  have HD1 := Lib.hid (HD.out.later hb)
  clear hb
  go_wp2_with fail
  refine (HT.out _ HF2.out).mono ?_
  rintro e w2 ⟨rfl, hb⟩
  have hbx := below1 w2 (.cells #[.int .i64 (P : Int), .int .i64 TA, .int .i64 TB] 30)
  have HX3 := Lib.hid (C3.new w2 (.int .i64 (P : Int)) (.int .i64 TA) (.int .i64 TB) 30)
  have HB3 := Lib.hid ((HB1.out.trans (hb.mono HB1.out.size)).trans (hbx.mono (Nat.le_trans HB1.out.size hb.size)))
  have HF3 := Lib.hid ((HF2.out.below hb).below hbx)
  have HC3 := Lib.hid ((HC1.out.later hb).later hbx)
  have HD3 := Lib.hid ((HD1.out.later hb).later hbx)
  obtain ⟨q0, q1, q2⟩ := HC3.out
  obtain ⟨r0, r1, r2⟩ := HD3.out
  clear hb hbx
  have HN := Lib.hid (fun (W1 W2 : World) (hb : Below W1.heap.size W1 W2) (h : W1.cell? ⟨w.heap.size, 0, none⟩ = some (.int .i64 (P : Int)) ∧ W1.cell? ⟨w.heap.size, 1, none⟩ = some (.int .i64 A) ∧ W1.cell? ⟨w.heap.size, 2, none⟩ = some (.int .i64 B) ∧ W1.cell? ⟨w.heap.size + 1, 0, none⟩ = some (.int .i64 P2) ∧ W1.cell? ⟨w.heap.size + 1, 1, none⟩ = some (.int .i64 C) ∧ W1.cell? ⟨w.heap.size + 1, 2, none⟩ = some (.int .i64 D) ∧ BelF (w2.alloc (.cells #[.int .i64 (P : Int), .int .i64 TA, .int .i64 TB] 30)).heap.size (w2.alloc (.cells #[.int .i64 (P : Int), .int .i64 TA, .int .i64 TB] 30)) W1) => (show W2.cell? ⟨w.heap.size, 0, none⟩ = some (.int .i64 (P : Int)) ∧ W2.cell? ⟨w.heap.size, 1, none⟩ = some (.int .i64 A) ∧ W2.cell? ⟨w.heap.size, 2, none⟩ = some (.int .i64 B) ∧ W2.cell? ⟨w.heap.size + 1, 0, none⟩ = some (.int .i64 P2) ∧ W2.cell? ⟨w.heap.size + 1, 1, none⟩ = some (.int .i64 C) ∧ W2.cell? ⟨w.heap.size + 1, 2, none⟩ = some (.int .i64 D) ∧ BelF (w2.alloc (.cells #[.int .i64 (P : Int), .int .i64 TA, .int .i64 TB] 30)).heap.size (w2.alloc (.cells #[.int .i64 (P : Int), .int .i64 TA, .int .i64 TB] 30)) W2 from ⟨cell_later h.1 hb, cell_later h.2.1 hb, cell_later h.2.2.1 hb, cell_later h.2.2.2.1 hb, cell_later h.2.2.2.2.1 hb, cell_later h.2.2.2.2.2.1 hb, h.2.2.2.2.2.2.next hb⟩))
  have HBS := Lib.hid (fun (W1 : World) (h : W1.cell? ⟨w.heap.size, 0, none⟩ = some (.int .i64 (P : Int)) ∧ W1.cell? ⟨w.heap.size, 1, none⟩ = some (.int .i64 A) ∧ W1.cell? ⟨w.heap.size, 2, none⟩ = some (.int .i64 B) ∧ W1.cell? ⟨w.heap.size + 1, 0, none⟩ = some (.int .i64 P2) ∧ W1.cell? ⟨w.heap.size + 1, 1, none⟩ = some (.int .i64 C) ∧ W1.cell? ⟨w.heap.size + 1, 2, none⟩ = some (.int .i64 D) ∧ BelF (w2.alloc (.cells #[.int .i64 (P : Int), .int .i64 TA, .int .i64 TB] 30)).heap.size (w2.alloc (.cells #[.int .i64 (P : Int), .int .i64 TA, .int .i64 TB] 30)) W1) => (show Below (w2.alloc (.cells #[.int .i64 (P : Int), .int .i64 TA, .int .i64 TB] 30)).heap.size (w2.alloc (.cells #[.int .i64 (P : Int), .int .i64 TA, .int .i64 TB] 30)) W1 from h.2.2.2.2.2.2.to))
  have HS0 := Lib.hid (show (w2.alloc (.cells #[.int .i64 (P : Int), .int .i64 TA, .int .i64 TB] 30)).cell? ⟨w.heap.size, 0, none⟩ = some (.int .i64 (P : Int)) ∧ (w2.alloc (.cells #[.int .i64 (P : Int), .int .i64 TA, .int .i64 TB] 30)).cell? ⟨w.heap.size, 1, none⟩ = some (.int .i64 A) ∧ (w2.alloc (.cells #[.int .i64 (P : Int), .int .i64 TA, .int .i64 TB] 30)).cell? ⟨w.heap.size, 2, none⟩ = some (.int .i64 B) ∧ (w2.alloc (.cells #[.int .i64 (P : Int), .int .i64 TA, .int .i64 TB] 30)).cell? ⟨w.heap.size + 1, 0, none⟩ = some (.int .i64 P2) ∧ (w2.alloc (.cells #[.int .i64 (P : Int), .int .i64 TA, .int .i64 TB] 30)).cell? ⟨w.heap.size + 1, 1, none⟩ = some (.int .i64 C) ∧ (w2.alloc (.cells #[.int .i64 (P : Int), .int .i64 TA, .int .i64 TB] 30)).cell? ⟨w.heap.size + 1, 2, none⟩ = some (.int .i64 D) ∧ BelF (w2.alloc (.cells #[.int .i64 (P : Int), .int .i64 TA, .int .i64 TB] 30)).heap.size (w2.alloc (.cells #[.int .i64 (P : Int), .int .i64 TA, .int .i64 TB] 30)) (w2.alloc (.cells #[.int .i64 (P : Int), .int .i64 TA, .int .i64 TB] 30)) from ⟨HC3.out.1, HC3.out.2.1, HC3.out.2.2, HD3.out.1, HD3.out.2.1, HD3.out.2.2, BelF.begin _⟩)
  go_wp2
  go_region_held3 (fun W => W.cell? ⟨w.heap.size, 0, none⟩ = some (.int .i64 (P : Int)) ∧ W.cell? ⟨w.heap.size, 1, none⟩ = some (.int .i64 A) ∧ W.cell? ⟨w.heap.size, 2, none⟩ = some (.int .i64 B) ∧ W.cell? ⟨w.heap.size + 1, 0, none⟩ = some (.int .i64 P2) ∧ W.cell? ⟨w.heap.size + 1, 1, none⟩ = some (.int .i64 C) ∧ W.cell? ⟨w.heap.size + 1, 2, none⟩ = some (.int .i64 D) ∧ BelF (w2.alloc (.cells #[.int .i64 (P : Int), .int .i64 TA, .int .i64 TB] 30)).heap.size (w2.alloc (.cells #[.int .i64 (P : Int), .int .i64 TA, .int .i64 TB] 30)) W)
    (first | exact HS0.out | exact HN.out _ _ hbf (by assumption) | exact HN.out _ _ hba (by assumption) | exact HN.out _ _ (drew_below _) (by assumption) | exact HN.out _ _ (drew_below _) HS0.out)
    ((first
      | (go_at_call 18; refine (Of_any _ _ _ _).mono ?_; rintro e wx ⟨rfl, hbf⟩)
      | (go_at_call 45; refine (HAL.out _ (HF3.out.below (HBS.out _ (by assumption)))).mono ?_; rintro e wx ⟨rfl, hba⟩)))
  all_goals
    refine at_world (S := fun W => W.cell? ⟨w.heap.size, 0, none⟩ = some (.int .i64 (P : Int)) ∧ W.cell? ⟨w.heap.size, 1, none⟩ = some (.int .i64 A) ∧ W.cell? ⟨w.heap.size, 2, none⟩ = some (.int .i64 B) ∧ W.cell? ⟨w.heap.size + 1, 0, none⟩ = some (.int .i64 P2) ∧ W.cell? ⟨w.heap.size + 1, 1, none⟩ = some (.int .i64 C) ∧ W.cell? ⟨w.heap.size + 1, 2, none⟩ = some (.int .i64 D) ∧ BelF (w2.alloc (.cells #[.int .i64 (P : Int), .int .i64 TA, .int .i64 TB] 30)).heap.size (w2.alloc (.cells #[.int .i64 (P : Int), .int .i64 TA, .int .i64 TB] 30)) W) (G := fun W => Exit.then _ _ _ _ W) (by assumption) ?_
    intro w4 hS
    clear q0 q1 q2 r0 r1 r2
    obtain ⟨q0, q1, q2, r0, r1, r2, hs4⟩ := hS
    have hs5 := hs4.to
    have HB4 := Lib.hid (HB3.out.trans (hs5.mono HB3.out.size))
    have HF4 := Lib.hid (HF3.out.below hs5)
    have HC4 := Lib.hid (show C3 w.heap.size (.int .i64 (P : Int)) (.int .i64 A) (.int .i64 B) w4 from ⟨q0, q1, q2⟩)
    have HD4 := Lib.hid (show C3 (w.heap.size + 1) (.int .i64 P2) (.int .i64 C) (.int .i64 D) w4 from ⟨r0, r1, r2⟩)
    have HX4 := Lib.hid (HX3.out.later hs5)
    clear hs4 hs5
    go_wp2_with fail
    refine (HVR.out _).mono ?_
    rintro e w5 ⟨rfl, hb⟩
    have HB5 := Lib.hid (HB4.out.trans (hb.mono HB4.out.size))
    have HF5 := Lib.hid (HF4.out.below hb)
    have HC5 := Lib.hid (HC4.out.later hb)
    have HD5 := Lib.hid (HD4.out.later hb)
    have HX5 := Lib.hid (HX4.out.later hb)
    clear hb q0 q1 q2 r0 r1 r2
    obtain ⟨x0, x1, x2⟩ := HX5.out
    have HN5 := Lib.hid (fun (W1 W2 : World) (hb : Below W1.heap.size W1 W2) (h : W1.cell? ⟨w2.heap.size, 0, none⟩ = some (.int .i64 (P : Int)) ∧ W1.cell? ⟨w2.heap.size, 1, none⟩ = some (.int .i64 TA) ∧ W1.cell? ⟨w2.heap.size, 2, none⟩ = some (.int .i64 TB) ∧ W1.cell? ⟨w.heap.size, 0, none⟩ = some (.int .i64 (P : Int)) ∧ W1.cell? ⟨w.heap.size, 1, none⟩ = some (.int .i64 A) ∧ W1.cell? ⟨w.heap.size, 2, none⟩ = some (.int .i64 B) ∧ W1.cell? ⟨w.heap.size + 1, 0, none⟩ = some (.int .i64 P2) ∧ W1.cell? ⟨w.heap.size + 1, 1, none⟩ = some (.int .i64 C) ∧ W1.cell? ⟨w.heap.size + 1, 2, none⟩ = some (.int .i64 D) ∧ BelF w5.heap.size w5 W1) => (show W2.cell? ⟨w2.heap.size, 0, none⟩ = some (.int .i64 (P : Int)) ∧ W2.cell? ⟨w2.heap.size, 1, none⟩ = some (.int .i64 TA) ∧ W2.cell? ⟨w2.heap.size, 2, none⟩ = some (.int .i64 TB) ∧ W2.cell? ⟨w.heap.size, 0, none⟩ = some (.int .i64 (P : Int)) ∧ W2.cell? ⟨w.heap.size, 1, none⟩ = some (.int .i64 A) ∧ W2.cell? ⟨w.heap.size, 2, none⟩ = some (.int .i64 B) ∧ W2.cell? ⟨w.heap.size + 1, 0, none⟩ = some (.int .i64 P2) ∧ W2.cell? ⟨w.heap.size + 1, 1, none⟩ = some (.int .i64 C) ∧ W2.cell? ⟨w.heap.size + 1, 2, none⟩ = some (.int .i64 D) ∧ BelF w5.heap.size w5 W2 from ⟨cell_later h.1 hb, cell_later h.2.1 hb, cell_later h.2.2.1 hb, cell_later h.2.2.2.1 hb, cell_later h.2.2.2.2.1 hb, cell_later h.2.2.2.2.2.1 hb, cell_later h.2.2.2.2.2.2.1 hb, cell_later h.2.2.2.2.2.2.2.1 hb, cell_later h.2.2.2.2.2.2.2.2.1 hb, h.2.2.2.2.2.2.2.2.2.next hb⟩))
    have HBS5 := Lib.hid (fun (W1 : World) (h : W1.cell? ⟨w2.heap.size, 0, none⟩ = some (.int .i64 (P : Int)) ∧ W1.cell? ⟨w2.heap.size, 1, none⟩ = some (.int .i64 TA) ∧ W1.cell? ⟨w2.heap.size, 2, none⟩ = some (.int .i64 TB) ∧ W1.cell? ⟨w.heap.size, 0, none⟩ = some (.int .i64 (P : Int)) ∧ W1.cell? ⟨w.heap.size, 1, none⟩ = some (.int .i64 A) ∧ W1.cell? ⟨w.heap.size, 2, none⟩ = some (.int .i64 B) ∧ W1.cell? ⟨w.heap.size + 1, 0, none⟩ = some (.int .i64 P2) ∧ W1.cell? ⟨w.heap.size + 1, 1, none⟩ = some (.int .i64 C) ∧ W1.cell? ⟨w.heap.size + 1, 2, none⟩ = some (.int .i64 D) ∧ BelF w5.heap.size w5 W1) => (show Below w5.heap.size w5 W1 from h.2.2.2.2.2.2.2.2.2.to))
    have HS5 := Lib.hid (show w5.cell? ⟨w2.heap.size, 0, none⟩ = some (.int .i64 (P : Int)) ∧ w5.cell? ⟨w2.heap.size, 1, none⟩ = some (.int .i64 TA) ∧ w5.cell? ⟨w2.heap.size, 2, none⟩ = some (.int .i64 TB) ∧ w5.cell? ⟨w.heap.size, 0, none⟩ = some (.int .i64 (P : Int)) ∧ w5.cell? ⟨w.heap.size, 1, none⟩ = some (.int .i64 A) ∧ w5.cell? ⟨w.heap.size, 2, none⟩ = some (.int .i64 B) ∧ w5.cell? ⟨w.heap.size + 1, 0, none⟩ = some (.int .i64 P2) ∧ w5.cell? ⟨w.heap.size + 1, 1, none⟩ = some (.int .i64 C) ∧ w5.cell? ⟨w.heap.size + 1, 2, none⟩ = some (.int .i64 D) ∧ BelF w5.heap.size w5 w5 from ⟨HX5.out.1, HX5.out.2.1, HX5.out.2.2, HC5.out.1, HC5.out.2.1, HC5.out.2.2, HD5.out.1, HD5.out.2.1, HD5.out.2.2, BelF.begin w5⟩)
    obtain ⟨q0, q1, q2⟩ := HC5.out
    obtain ⟨r0, r1, r2⟩ := HD5.out
    have hne5 := fun W => HNE.out W
    go_wp2
    go_region_held3 (fun W => W.cell? ⟨w2.heap.size, 0, none⟩ = some (.int .i64 (P : Int)) ∧ W.cell? ⟨w2.heap.size, 1, none⟩ = some (.int .i64 TA) ∧ W.cell? ⟨w2.heap.size, 2, none⟩ = some (.int .i64 TB) ∧ W.cell? ⟨w.heap.size, 0, none⟩ = some (.int .i64 (P : Int)) ∧ W.cell? ⟨w.heap.size, 1, none⟩ = some (.int .i64 A) ∧ W.cell? ⟨w.heap.size, 2, none⟩ = some (.int .i64 B) ∧ W.cell? ⟨w.heap.size + 1, 0, none⟩ = some (.int .i64 P2) ∧ W.cell? ⟨w.heap.size + 1, 1, none⟩ = some (.int .i64 C) ∧ W.cell? ⟨w.heap.size + 1, 2, none⟩ = some (.int .i64 D) ∧ BelF w5.heap.size w5 W)
      (first | exact HS5.out | exact HN5.out _ _ hbt (by assumption) | exact HN5.out _ _ hbo (by assumption) | exact HN5.out _ _ hbw (by assumption) | exact HN5.out _ _ (drew_below _) (by assumption) | exact HN5.out _ _ (drew_below _) HS5.out)
      ((first
        | (go_at_call 46; refine (HTR.out _).mono ?_; rintro e wx ⟨rfl, hbt⟩)
        | (go_at_call 18; refine (HOt.out _).mono ?_; rintro e wx ⟨rfl, hbo⟩)
        | (go_at_call 22; refine (HAw.out _ (HF5.out.below (HBS5.out _ (by assumption)))).mono ?_; rintro e wx ⟨rfl, hbw⟩)))
    all_goals
      refine at_world (S := fun W => W.cell? ⟨w2.heap.size, 0, none⟩ = some (.int .i64 (P : Int)) ∧ W.cell? ⟨w2.heap.size, 1, none⟩ = some (.int .i64 TA) ∧ W.cell? ⟨w2.heap.size, 2, none⟩ = some (.int .i64 TB) ∧ W.cell? ⟨w.heap.size, 0, none⟩ = some (.int .i64 (P : Int)) ∧ W.cell? ⟨w.heap.size, 1, none⟩ = some (.int .i64 A) ∧ W.cell? ⟨w.heap.size, 2, none⟩ = some (.int .i64 B) ∧ W.cell? ⟨w.heap.size + 1, 0, none⟩ = some (.int .i64 P2) ∧ W.cell? ⟨w.heap.size + 1, 1, none⟩ = some (.int .i64 C) ∧ W.cell? ⟨w.heap.size + 1, 2, none⟩ = some (.int .i64 D) ∧ BelF w5.heap.size w5 W) (G := fun W => Exit.then _ _ _ _ W) (by assumption) ?_
      intro w6 hS
      clear q0 q1 q2 r0 r1 r2 x0 x1 x2
      obtain ⟨x0, x1, x2, q0, q1, q2, r0, r1, r2, hs6⟩ := hS
      have hs7 := hs6.to
      have HB6 := Lib.hid (HB5.out.trans (hs7.mono HB5.out.size))
      have HC6 := Lib.hid (HC5.out.later hs7)
      have HD6 := Lib.hid (HD5.out.later hs7)
      clear hs6 hs7
      go_wp2_with fail
      refine (HVR2.out _).mono ?_
      rintro e w7 ⟨rfl, hb⟩
      have HB7 := Lib.hid (HB6.out.trans (hb.mono HB6.out.size))
      clear x0 x1 x2 q0 q1 q2 r0 r1 r2
      obtain ⟨q0, q1, q2⟩ := HC6.out.later hb
      obtain ⟨r0, r1, r2⟩ := HD6.out.later hb
      clear hb
      go_wp2
      go_ret
      exact ⟨ret_bool (by simp), HB7.out⟩

set_option maxHeartbeats 8000000 in
set_option maxRecDepth 100000 in
theorem lawTwists_other (P : Nat) (A B P2 C D : Int) (hv : vB P A B = true) (hv2 : vB P2 C D = true) (hne : ¬ (P : Int) = P2) (w : World) (hF : Far w) :
    Calls Tryd.prog 7 #[.agg #[.int .i64 (P : Int), .int .i64 A, .int .i64 B], .agg #[.int .i64 P2, .int .i64 C, .int .i64 D]] w fun e w' => e = .returned (.bool true) ∧ Below w.heap.size w w' := by
  have HB := Lib.hid (below2 w (.cells #[.int .i64 (P : Int), .int .i64 A, .int .i64 B] 23) (.cells #[.int .i64 P2, .int .i64 C, .int .i64 D] 23))
  have hc := C3.new w (.int .i64 (P : Int)) (.int .i64 A) (.int .i64 B) 23
  have HC := Lib.hid (hc.later (below1 (w.alloc (.cells #[.int .i64 (P : Int), .int .i64 A, .int .i64 B] 23)) (.cells #[.int .i64 P2, .int .i64 C, .int .i64 D] 23)))
  have hd := C3.new (w.alloc (.cells #[.int .i64 (P : Int), .int .i64 A, .int .i64 B] 23)) (.int .i64 P2) (.int .i64 C) (.int .i64 D) 23
  rw [show (w.alloc (.cells #[.int .i64 (P : Int), .int .i64 A, .int .i64 B] 23)).heap.size = w.heap.size + 1 by simp] at hd
  have HD := Lib.hid hd
  have HF1 := Lib.hid (hF.below HB.out)
  have HOf := Lib.hid (fun W => Of_any (P : Int) A B W)
  have HOg := Lib.hid (fun W => Of_any P2 C D W)
  have HAw := Lib.hid (fun W hF => awake_any W hF)
  have HVR := Lib.hid (fun W => validR_any (P : Int) A B W)
  have HVR2 := Lib.hid (fun W => validR_any P2 C D W)
  have HAL := Lib.hid (fun W hF => Alike_any P A B P2 C D 0 2 (.inr ⟨fun e => hne e.2.2, rfl, rfl⟩) W hF)
  have HT := Lib.hid (fun W hF => Twist_yes P A B hv W hF)
  have HTR := Lib.hid (fun W => twistR_any P A B hv W)
  have HNE := Lib.hid (fun W => neq30 W P (twA P A) (twB P B) P (twA P A) (twB P B))
  rw [show eqC P (twA P A) (twB P B) P (twA P A) (twB P B) = true by simp [eqC]] at HNE
  rw [hv] at HVR
  rw [hv2] at HVR2
  have hvt := (hasse hv).1
  have HOt := Lib.hid (fun W => Of_any P (twA P A) (twB P B) W)
  obtain ⟨TA, hTA⟩ : ∃ x, twA P A = x := ⟨_, rfl⟩
  obtain ⟨TB, hTB⟩ : ∃ x, twB P B = x := ⟨_, rfl⟩
  rw [hTA, hTB] at HT HTR HNE HOt
  have hnb : ((P : Int) != P2) = true := by simpa using hne
  clear hv hv2 hvt hTA hTB
  clear hc hd hF
  go_enter Tryd.func7, Tryd.ntmps7
  go_wp2_with fail
  refine (HOf.out _).mono ?_
  rintro e w1 ⟨rfl, hb⟩
  have HB1 := Lib.hid (HB.out.trans (hb.mono HB.out.size))
  have HF2 := Lib.hid (HF1.out.below hb)
  have HC1 := Lib.hid (HC.out.later hb)
  have HD1 := Lib.hid (HD.out.later hb)
  clear hb
  go_wp2_with fail
  refine (HT.out _ HF2.out).mono ?_
  rintro e w2 ⟨rfl, hb⟩
  have hbx := below1 w2 (.cells #[.int .i64 (P : Int), .int .i64 TA, .int .i64 TB] 30)
  have HX3 := Lib.hid (C3.new w2 (.int .i64 (P : Int)) (.int .i64 TA) (.int .i64 TB) 30)
  have HB3 := Lib.hid ((HB1.out.trans (hb.mono HB1.out.size)).trans (hbx.mono (Nat.le_trans HB1.out.size hb.size)))
  have HF3 := Lib.hid ((HF2.out.below hb).below hbx)
  have HC3 := Lib.hid ((HC1.out.later hb).later hbx)
  have HD3 := Lib.hid ((HD1.out.later hb).later hbx)
  obtain ⟨q0, q1, q2⟩ := HC3.out
  obtain ⟨r0, r1, r2⟩ := HD3.out
  clear hb hbx
  have HN := Lib.hid (fun (W1 W2 : World) (hb : Below W1.heap.size W1 W2) (h : W1.cell? ⟨w.heap.size, 0, none⟩ = some (.int .i64 (P : Int)) ∧ W1.cell? ⟨w.heap.size, 1, none⟩ = some (.int .i64 A) ∧ W1.cell? ⟨w.heap.size, 2, none⟩ = some (.int .i64 B) ∧ W1.cell? ⟨w.heap.size + 1, 0, none⟩ = some (.int .i64 P2) ∧ W1.cell? ⟨w.heap.size + 1, 1, none⟩ = some (.int .i64 C) ∧ W1.cell? ⟨w.heap.size + 1, 2, none⟩ = some (.int .i64 D) ∧ BelF (w2.alloc (.cells #[.int .i64 (P : Int), .int .i64 TA, .int .i64 TB] 30)).heap.size (w2.alloc (.cells #[.int .i64 (P : Int), .int .i64 TA, .int .i64 TB] 30)) W1) => (show W2.cell? ⟨w.heap.size, 0, none⟩ = some (.int .i64 (P : Int)) ∧ W2.cell? ⟨w.heap.size, 1, none⟩ = some (.int .i64 A) ∧ W2.cell? ⟨w.heap.size, 2, none⟩ = some (.int .i64 B) ∧ W2.cell? ⟨w.heap.size + 1, 0, none⟩ = some (.int .i64 P2) ∧ W2.cell? ⟨w.heap.size + 1, 1, none⟩ = some (.int .i64 C) ∧ W2.cell? ⟨w.heap.size + 1, 2, none⟩ = some (.int .i64 D) ∧ BelF (w2.alloc (.cells #[.int .i64 (P : Int), .int .i64 TA, .int .i64 TB] 30)).heap.size (w2.alloc (.cells #[.int .i64 (P : Int), .int .i64 TA, .int .i64 TB] 30)) W2 from ⟨cell_later h.1 hb, cell_later h.2.1 hb, cell_later h.2.2.1 hb, cell_later h.2.2.2.1 hb, cell_later h.2.2.2.2.1 hb, cell_later h.2.2.2.2.2.1 hb, h.2.2.2.2.2.2.next hb⟩))
  have HBS := Lib.hid (fun (W1 : World) (h : W1.cell? ⟨w.heap.size, 0, none⟩ = some (.int .i64 (P : Int)) ∧ W1.cell? ⟨w.heap.size, 1, none⟩ = some (.int .i64 A) ∧ W1.cell? ⟨w.heap.size, 2, none⟩ = some (.int .i64 B) ∧ W1.cell? ⟨w.heap.size + 1, 0, none⟩ = some (.int .i64 P2) ∧ W1.cell? ⟨w.heap.size + 1, 1, none⟩ = some (.int .i64 C) ∧ W1.cell? ⟨w.heap.size + 1, 2, none⟩ = some (.int .i64 D) ∧ BelF (w2.alloc (.cells #[.int .i64 (P : Int), .int .i64 TA, .int .i64 TB] 30)).heap.size (w2.alloc (.cells #[.int .i64 (P : Int), .int .i64 TA, .int .i64 TB] 30)) W1) => (show Below (w2.alloc (.cells #[.int .i64 (P : Int), .int .i64 TA, .int .i64 TB] 30)).heap.size (w2.alloc (.cells #[.int .i64 (P : Int), .int .i64 TA, .int .i64 TB] 30)) W1 from h.2.2.2.2.2.2.to))
  have HS0 := Lib.hid (show (w2.alloc (.cells #[.int .i64 (P : Int), .int .i64 TA, .int .i64 TB] 30)).cell? ⟨w.heap.size, 0, none⟩ = some (.int .i64 (P : Int)) ∧ (w2.alloc (.cells #[.int .i64 (P : Int), .int .i64 TA, .int .i64 TB] 30)).cell? ⟨w.heap.size, 1, none⟩ = some (.int .i64 A) ∧ (w2.alloc (.cells #[.int .i64 (P : Int), .int .i64 TA, .int .i64 TB] 30)).cell? ⟨w.heap.size, 2, none⟩ = some (.int .i64 B) ∧ (w2.alloc (.cells #[.int .i64 (P : Int), .int .i64 TA, .int .i64 TB] 30)).cell? ⟨w.heap.size + 1, 0, none⟩ = some (.int .i64 P2) ∧ (w2.alloc (.cells #[.int .i64 (P : Int), .int .i64 TA, .int .i64 TB] 30)).cell? ⟨w.heap.size + 1, 1, none⟩ = some (.int .i64 C) ∧ (w2.alloc (.cells #[.int .i64 (P : Int), .int .i64 TA, .int .i64 TB] 30)).cell? ⟨w.heap.size + 1, 2, none⟩ = some (.int .i64 D) ∧ BelF (w2.alloc (.cells #[.int .i64 (P : Int), .int .i64 TA, .int .i64 TB] 30)).heap.size (w2.alloc (.cells #[.int .i64 (P : Int), .int .i64 TA, .int .i64 TB] 30)) (w2.alloc (.cells #[.int .i64 (P : Int), .int .i64 TA, .int .i64 TB] 30)) from ⟨HC3.out.1, HC3.out.2.1, HC3.out.2.2, HD3.out.1, HD3.out.2.1, HD3.out.2.2, BelF.begin _⟩)
  go_wp2
  go_region_held3 (fun W => W.cell? ⟨w.heap.size, 0, none⟩ = some (.int .i64 (P : Int)) ∧ W.cell? ⟨w.heap.size, 1, none⟩ = some (.int .i64 A) ∧ W.cell? ⟨w.heap.size, 2, none⟩ = some (.int .i64 B) ∧ W.cell? ⟨w.heap.size + 1, 0, none⟩ = some (.int .i64 P2) ∧ W.cell? ⟨w.heap.size + 1, 1, none⟩ = some (.int .i64 C) ∧ W.cell? ⟨w.heap.size + 1, 2, none⟩ = some (.int .i64 D) ∧ BelF (w2.alloc (.cells #[.int .i64 (P : Int), .int .i64 TA, .int .i64 TB] 30)).heap.size (w2.alloc (.cells #[.int .i64 (P : Int), .int .i64 TA, .int .i64 TB] 30)) W)
    (first | exact HS0.out | exact HN.out _ _ hbf (by assumption) | exact HN.out _ _ hba (by assumption) | exact HN.out _ _ (drew_below _) (by assumption) | exact HN.out _ _ (drew_below _) HS0.out)
    ((first
      | (go_at_call 18; refine (Of_any _ _ _ _).mono ?_; rintro e wx ⟨rfl, hbf⟩)
      | (go_at_call 45; refine (HAL.out _ (HF3.out.below (HBS.out _ (by assumption)))).mono ?_; rintro e wx ⟨rfl, hba⟩)))
  all_goals
    refine at_world (S := fun W => W.cell? ⟨w.heap.size, 0, none⟩ = some (.int .i64 (P : Int)) ∧ W.cell? ⟨w.heap.size, 1, none⟩ = some (.int .i64 A) ∧ W.cell? ⟨w.heap.size, 2, none⟩ = some (.int .i64 B) ∧ W.cell? ⟨w.heap.size + 1, 0, none⟩ = some (.int .i64 P2) ∧ W.cell? ⟨w.heap.size + 1, 1, none⟩ = some (.int .i64 C) ∧ W.cell? ⟨w.heap.size + 1, 2, none⟩ = some (.int .i64 D) ∧ BelF (w2.alloc (.cells #[.int .i64 (P : Int), .int .i64 TA, .int .i64 TB] 30)).heap.size (w2.alloc (.cells #[.int .i64 (P : Int), .int .i64 TA, .int .i64 TB] 30)) W) (G := fun W => Exit.then _ _ _ _ W) (by assumption) ?_
    intro w4 hS
    clear q0 q1 q2 r0 r1 r2
    obtain ⟨q0, q1, q2, r0, r1, r2, hs4⟩ := hS
    have hs5 := hs4.to
    have HB4 := Lib.hid (HB3.out.trans (hs5.mono HB3.out.size))
    have HF4 := Lib.hid (HF3.out.below hs5)
    have HC4 := Lib.hid (show C3 w.heap.size (.int .i64 (P : Int)) (.int .i64 A) (.int .i64 B) w4 from ⟨q0, q1, q2⟩)
    have HD4 := Lib.hid (show C3 (w.heap.size + 1) (.int .i64 P2) (.int .i64 C) (.int .i64 D) w4 from ⟨r0, r1, r2⟩)
    have HX4 := Lib.hid (HX3.out.later hs5)
    clear hs4 hs5
    go_wp2_with fail
    refine (HVR.out _).mono ?_
    rintro e w5 ⟨rfl, hb⟩
    have HB5 := Lib.hid (HB4.out.trans (hb.mono HB4.out.size))
    have HF5 := Lib.hid (HF4.out.below hb)
    have HC5 := Lib.hid (HC4.out.later hb)
    have HD5 := Lib.hid (HD4.out.later hb)
    have HX5 := Lib.hid (HX4.out.later hb)
    clear hb q0 q1 q2 r0 r1 r2
    obtain ⟨x0, x1, x2⟩ := HX5.out
    have HN5 := Lib.hid (fun (W1 W2 : World) (hb : Below W1.heap.size W1 W2) (h : W1.cell? ⟨w2.heap.size, 0, none⟩ = some (.int .i64 (P : Int)) ∧ W1.cell? ⟨w2.heap.size, 1, none⟩ = some (.int .i64 TA) ∧ W1.cell? ⟨w2.heap.size, 2, none⟩ = some (.int .i64 TB) ∧ W1.cell? ⟨w.heap.size, 0, none⟩ = some (.int .i64 (P : Int)) ∧ W1.cell? ⟨w.heap.size, 1, none⟩ = some (.int .i64 A) ∧ W1.cell? ⟨w.heap.size, 2, none⟩ = some (.int .i64 B) ∧ W1.cell? ⟨w.heap.size + 1, 0, none⟩ = some (.int .i64 P2) ∧ W1.cell? ⟨w.heap.size + 1, 1, none⟩ = some (.int .i64 C) ∧ W1.cell? ⟨w.heap.size + 1, 2, none⟩ = some (.int .i64 D) ∧ BelF w5.heap.size w5 W1) => (show W2.cell? ⟨w2.heap.size, 0, none⟩ = some (.int .i64 (P : Int)) ∧ W2.cell? ⟨w2.heap.size, 1, none⟩ = some (.int .i64 TA) ∧ W2.cell? ⟨w2.heap.size, 2, none⟩ = some (.int .i64 TB) ∧ W2.cell? ⟨w.heap.size, 0, none⟩ = some (.int .i64 (P : Int)) ∧ W2.cell? ⟨w.heap.size, 1, none⟩ = some (.int .i64 A) ∧ W2.cell? ⟨w.heap.size, 2, none⟩ = some (.int .i64 B) ∧ W2.cell? ⟨w.heap.size + 1, 0, none⟩ = some (.int .i64 P2) ∧ W2.cell? ⟨w.heap.size + 1, 1, none⟩ = some (.int .i64 C) ∧ W2.cell? ⟨w.heap.size + 1, 2, none⟩ = some (.int .i64 D) ∧ BelF w5.heap.size w5 W2 from ⟨cell_later h.1 hb, cell_later h.2.1 hb, cell_later h.2.2.1 hb, cell_later h.2.2.2.1 hb, cell_later h.2.2.2.2.1 hb, cell_later h.2.2.2.2.2.1 hb, cell_later h.2.2.2.2.2.2.1 hb, cell_later h.2.2.2.2.2.2.2.1 hb, cell_later h.2.2.2.2.2.2.2.2.1 hb, h.2.2.2.2.2.2.2.2.2.next hb⟩))
    have HBS5 := Lib.hid (fun (W1 : World) (h : W1.cell? ⟨w2.heap.size, 0, none⟩ = some (.int .i64 (P : Int)) ∧ W1.cell? ⟨w2.heap.size, 1, none⟩ = some (.int .i64 TA) ∧ W1.cell? ⟨w2.heap.size, 2, none⟩ = some (.int .i64 TB) ∧ W1.cell? ⟨w.heap.size, 0, none⟩ = some (.int .i64 (P : Int)) ∧ W1.cell? ⟨w.heap.size, 1, none⟩ = some (.int .i64 A) ∧ W1.cell? ⟨w.heap.size, 2, none⟩ = some (.int .i64 B) ∧ W1.cell? ⟨w.heap.size + 1, 0, none⟩ = some (.int .i64 P2) ∧ W1.cell? ⟨w.heap.size + 1, 1, none⟩ = some (.int .i64 C) ∧ W1.cell? ⟨w.heap.size + 1, 2, none⟩ = some (.int .i64 D) ∧ BelF w5.heap.size w5 W1) => (show Below w5.heap.size w5 W1 from h.2.2.2.2.2.2.2.2.2.to))
    have HS5 := Lib.hid (show w5.cell? ⟨w2.heap.size, 0, none⟩ = some (.int .i64 (P : Int)) ∧ w5.cell? ⟨w2.heap.size, 1, none⟩ = some (.int .i64 TA) ∧ w5.cell? ⟨w2.heap.size, 2, none⟩ = some (.int .i64 TB) ∧ w5.cell? ⟨w.heap.size, 0, none⟩ = some (.int .i64 (P : Int)) ∧ w5.cell? ⟨w.heap.size, 1, none⟩ = some (.int .i64 A) ∧ w5.cell? ⟨w.heap.size, 2, none⟩ = some (.int .i64 B) ∧ w5.cell? ⟨w.heap.size + 1, 0, none⟩ = some (.int .i64 P2) ∧ w5.cell? ⟨w.heap.size + 1, 1, none⟩ = some (.int .i64 C) ∧ w5.cell? ⟨w.heap.size + 1, 2, none⟩ = some (.int .i64 D) ∧ BelF w5.heap.size w5 w5 from ⟨HX5.out.1, HX5.out.2.1, HX5.out.2.2, HC5.out.1, HC5.out.2.1, HC5.out.2.2, HD5.out.1, HD5.out.2.1, HD5.out.2.2, BelF.begin w5⟩)
    obtain ⟨q0, q1, q2⟩ := HC5.out
    obtain ⟨r0, r1, r2⟩ := HD5.out
    have hne5 := fun W => HNE.out W
    go_wp2
    go_region_held3 (fun W => W.cell? ⟨w2.heap.size, 0, none⟩ = some (.int .i64 (P : Int)) ∧ W.cell? ⟨w2.heap.size, 1, none⟩ = some (.int .i64 TA) ∧ W.cell? ⟨w2.heap.size, 2, none⟩ = some (.int .i64 TB) ∧ W.cell? ⟨w.heap.size, 0, none⟩ = some (.int .i64 (P : Int)) ∧ W.cell? ⟨w.heap.size, 1, none⟩ = some (.int .i64 A) ∧ W.cell? ⟨w.heap.size, 2, none⟩ = some (.int .i64 B) ∧ W.cell? ⟨w.heap.size + 1, 0, none⟩ = some (.int .i64 P2) ∧ W.cell? ⟨w.heap.size + 1, 1, none⟩ = some (.int .i64 C) ∧ W.cell? ⟨w.heap.size + 1, 2, none⟩ = some (.int .i64 D) ∧ BelF w5.heap.size w5 W)
      (first | exact HS5.out | exact HN5.out _ _ hbt (by assumption) | exact HN5.out _ _ hbo (by assumption) | exact HN5.out _ _ hbw (by assumption) | exact HN5.out _ _ (drew_below _) (by assumption) | exact HN5.out _ _ (drew_below _) HS5.out)
      ((first
        | (go_at_call 46; refine (HTR.out _).mono ?_; rintro e wx ⟨rfl, hbt⟩)
        | (go_at_call 18; refine (HOt.out _).mono ?_; rintro e wx ⟨rfl, hbo⟩)
        | (go_at_call 22; refine (HAw.out _ (HF5.out.below (HBS5.out _ (by assumption)))).mono ?_; rintro e wx ⟨rfl, hbw⟩)))
    all_goals
      refine at_world (S := fun W => W.cell? ⟨w2.heap.size, 0, none⟩ = some (.int .i64 (P : Int)) ∧ W.cell? ⟨w2.heap.size, 1, none⟩ = some (.int .i64 TA) ∧ W.cell? ⟨w2.heap.size, 2, none⟩ = some (.int .i64 TB) ∧ W.cell? ⟨w.heap.size, 0, none⟩ = some (.int .i64 (P : Int)) ∧ W.cell? ⟨w.heap.size, 1, none⟩ = some (.int .i64 A) ∧ W.cell? ⟨w.heap.size, 2, none⟩ = some (.int .i64 B) ∧ W.cell? ⟨w.heap.size + 1, 0, none⟩ = some (.int .i64 P2) ∧ W.cell? ⟨w.heap.size + 1, 1, none⟩ = some (.int .i64 C) ∧ W.cell? ⟨w.heap.size + 1, 2, none⟩ = some (.int .i64 D) ∧ BelF w5.heap.size w5 W) (G := fun W => Exit.then _ _ _ _ W) (by assumption) ?_
      intro w6 hS
      clear q0 q1 q2 r0 r1 r2 x0 x1 x2
      obtain ⟨x0, x1, x2, q0, q1, q2, r0, r1, r2, hs6⟩ := hS
      have hs7 := hs6.to
      have HB6 := Lib.hid (HB5.out.trans (hs7.mono HB5.out.size))
      have HC6 := Lib.hid (HC5.out.later hs7)
      have HD6 := Lib.hid (HD5.out.later hs7)
      clear hs6 hs7
      go_wp2_with fail
      refine (HVR2.out _).mono ?_
      rintro e w7 ⟨rfl, hb⟩
      have HB7 := Lib.hid (HB6.out.trans (hb.mono HB6.out.size))
      clear x0 x1 x2 q0 q1 q2 r0 r1 r2
      obtain ⟨q0, q1, q2⟩ := HC6.out.later hb
      obtain ⟨r0, r1, r2⟩ := HD6.out.later hb
      clear hb
      go_wp2
      go_ret
      exact ⟨ret_bool (by simp), HB7.out⟩

set_option maxHeartbeats 8000000 in
set_option maxRecDepth 100000 in
theorem lawTwists_same (P : Nat) (A B C D : Int) (hv : vB P A B = true) (hv2 : vB P C D = true) (w : World) (hF : Far w) :
    Calls Tryd.prog 7 #[.agg #[.int .i64 (P : Int), .int .i64 A, .int .i64 B], .agg #[.int .i64 (P : Int), .int .i64 C, .int .i64 D]] w fun e w' => e = .returned (.bool true) ∧ Below w.heap.size w w' := by
  have HB := Lib.hid (below2 w (.cells #[.int .i64 (P : Int), .int .i64 A, .int .i64 B] 23) (.cells #[.int .i64 (P : Int), .int .i64 C, .int .i64 D] 23))
  have hc := C3.new w (.int .i64 (P : Int)) (.int .i64 A) (.int .i64 B) 23
  have HC := Lib.hid (hc.later (below1 (w.alloc (.cells #[.int .i64 (P : Int), .int .i64 A, .int .i64 B] 23)) (.cells #[.int .i64 (P : Int), .int .i64 C, .int .i64 D] 23)))
  have hd := C3.new (w.alloc (.cells #[.int .i64 (P : Int), .int .i64 A, .int .i64 B] 23)) (.int .i64 (P : Int)) (.int .i64 C) (.int .i64 D) 23
  rw [show (w.alloc (.cells #[.int .i64 (P : Int), .int .i64 A, .int .i64 B] 23)).heap.size = w.heap.size + 1 by simp] at hd
  have HD := Lib.hid hd
  have HF1 := Lib.hid (hF.below HB.out)
  have HOf := Lib.hid (fun W => Of_any (P : Int) A B W)
  have HOg := Lib.hid (fun W => Of_any (P : Int) C D W)
  have HAw := Lib.hid (fun W hF => awake_any W hF)
  have HVR := Lib.hid (fun W => validR_any (P : Int) A B W)
  have HVR2 := Lib.hid (fun W => validR_any (P : Int) C D W)
  obtain ⟨v, hV⟩ := fst_ex (alk P A B C D) P
  obtain ⟨E, hE⟩ : ∃ E : Int, (v = 0 → E = 4) ∧ (v ≠ 0 → E = 0) := by
    by_cases h0 : v = 0
    · exact ⟨4, fun _ => rfl, fun e => absurd h0 e⟩
    · exact ⟨0, fun e => absurd e h0, fun _ => rfl⟩
  have hbb := vB_le hv
  have hb2 := vB_iff.1 hv2
  have HAL := Lib.hid (fun W hF => Alike_any P A B P C D v E (.inl ⟨hv, hv2, rfl, v, rfl, by rw [Int.toNat_natCast]; exact hV, hE⟩) W hF)
  have HAR := Lib.hid (fun W => alikeR_any P A B C D (by omega) hbb.2.1 hbb.2.2 hb2.2.1 hb2.2.2.1 v hV E hE W)
  obtain ⟨V, hVV⟩ : ∃ V : Int, (v : Int) = V := ⟨_, rfl⟩
  rw [hVV] at HAL HAR
  clear hV hE hbb hb2 hVV
  have HT := Lib.hid (fun W hF => Twist_yes P A B hv W hF)
  have HTR := Lib.hid (fun W => twistR_any P A B hv W)
  have HNE := Lib.hid (fun W => neq30 W P (twA P A) (twB P B) P (twA P A) (twB P B))
  rw [show eqC P (twA P A) (twB P B) P (twA P A) (twB P B) = true by simp [eqC]] at HNE
  rw [hv] at HVR
  rw [hv2] at HVR2
  have hvt := (hasse hv).1
  have HOt := Lib.hid (fun W => Of_any P (twA P A) (twB P B) W)
  obtain ⟨TA, hTA⟩ : ∃ x, twA P A = x := ⟨_, rfl⟩
  obtain ⟨TB, hTB⟩ : ∃ x, twB P B = x := ⟨_, rfl⟩
  rw [hTA, hTB] at HT HTR HNE HOt
  clear hv hv2 hvt hTA hTB
  clear hc hd hF
  go_enter Tryd.func7, Tryd.ntmps7
  go_wp2_with fail
  refine (HOf.out _).mono ?_
  rintro e w1 ⟨rfl, hb⟩
  have HB1 := Lib.hid (HB.out.trans (hb.mono HB.out.size))
  have HF2 := Lib.hid (HF1.out.below hb)
  have HC1 := Lib.hid (HC.out.later hb)
  have HD1 := Lib.hid (HD.out.later hb)
  clear hb
  go_wp2_with fail
  refine (HT.out _ HF2.out).mono ?_
  rintro e w2 ⟨rfl, hb⟩
  have hbx := below1 w2 (.cells #[.int .i64 (P : Int), .int .i64 TA, .int .i64 TB] 30)
  have HX3 := Lib.hid (C3.new w2 (.int .i64 (P : Int)) (.int .i64 TA) (.int .i64 TB) 30)
  have HB3 := Lib.hid ((HB1.out.trans (hb.mono HB1.out.size)).trans (hbx.mono (Nat.le_trans HB1.out.size hb.size)))
  have HF3 := Lib.hid ((HF2.out.below hb).below hbx)
  have HC3 := Lib.hid ((HC1.out.later hb).later hbx)
  have HD3 := Lib.hid ((HD1.out.later hb).later hbx)
  obtain ⟨q0, q1, q2⟩ := HC3.out
  obtain ⟨r0, r1, r2⟩ := HD3.out
  clear hb hbx
  have HN := Lib.hid (fun (W1 W2 : World) (hb : Below W1.heap.size W1 W2) (h : W1.cell? ⟨w.heap.size, 0, none⟩ = some (.int .i64 (P : Int)) ∧ W1.cell? ⟨w.heap.size, 1, none⟩ = some (.int .i64 A) ∧ W1.cell? ⟨w.heap.size, 2, none⟩ = some (.int .i64 B) ∧ W1.cell? ⟨w.heap.size + 1, 0, none⟩ = some (.int .i64 (P : Int)) ∧ W1.cell? ⟨w.heap.size + 1, 1, none⟩ = some (.int .i64 C) ∧ W1.cell? ⟨w.heap.size + 1, 2, none⟩ = some (.int .i64 D) ∧ BelF (w2.alloc (.cells #[.int .i64 (P : Int), .int .i64 TA, .int .i64 TB] 30)).heap.size (w2.alloc (.cells #[.int .i64 (P : Int), .int .i64 TA, .int .i64 TB] 30)) W1) => (show W2.cell? ⟨w.heap.size, 0, none⟩ = some (.int .i64 (P : Int)) ∧ W2.cell? ⟨w.heap.size, 1, none⟩ = some (.int .i64 A) ∧ W2.cell? ⟨w.heap.size, 2, none⟩ = some (.int .i64 B) ∧ W2.cell? ⟨w.heap.size + 1, 0, none⟩ = some (.int .i64 (P : Int)) ∧ W2.cell? ⟨w.heap.size + 1, 1, none⟩ = some (.int .i64 C) ∧ W2.cell? ⟨w.heap.size + 1, 2, none⟩ = some (.int .i64 D) ∧ BelF (w2.alloc (.cells #[.int .i64 (P : Int), .int .i64 TA, .int .i64 TB] 30)).heap.size (w2.alloc (.cells #[.int .i64 (P : Int), .int .i64 TA, .int .i64 TB] 30)) W2 from ⟨cell_later h.1 hb, cell_later h.2.1 hb, cell_later h.2.2.1 hb, cell_later h.2.2.2.1 hb, cell_later h.2.2.2.2.1 hb, cell_later h.2.2.2.2.2.1 hb, h.2.2.2.2.2.2.next hb⟩))
  have HBS := Lib.hid (fun (W1 : World) (h : W1.cell? ⟨w.heap.size, 0, none⟩ = some (.int .i64 (P : Int)) ∧ W1.cell? ⟨w.heap.size, 1, none⟩ = some (.int .i64 A) ∧ W1.cell? ⟨w.heap.size, 2, none⟩ = some (.int .i64 B) ∧ W1.cell? ⟨w.heap.size + 1, 0, none⟩ = some (.int .i64 (P : Int)) ∧ W1.cell? ⟨w.heap.size + 1, 1, none⟩ = some (.int .i64 C) ∧ W1.cell? ⟨w.heap.size + 1, 2, none⟩ = some (.int .i64 D) ∧ BelF (w2.alloc (.cells #[.int .i64 (P : Int), .int .i64 TA, .int .i64 TB] 30)).heap.size (w2.alloc (.cells #[.int .i64 (P : Int), .int .i64 TA, .int .i64 TB] 30)) W1) => (show Below (w2.alloc (.cells #[.int .i64 (P : Int), .int .i64 TA, .int .i64 TB] 30)).heap.size (w2.alloc (.cells #[.int .i64 (P : Int), .int .i64 TA, .int .i64 TB] 30)) W1 from h.2.2.2.2.2.2.to))
  have HS0 := Lib.hid (show (w2.alloc (.cells #[.int .i64 (P : Int), .int .i64 TA, .int .i64 TB] 30)).cell? ⟨w.heap.size, 0, none⟩ = some (.int .i64 (P : Int)) ∧ (w2.alloc (.cells #[.int .i64 (P : Int), .int .i64 TA, .int .i64 TB] 30)).cell? ⟨w.heap.size, 1, none⟩ = some (.int .i64 A) ∧ (w2.alloc (.cells #[.int .i64 (P : Int), .int .i64 TA, .int .i64 TB] 30)).cell? ⟨w.heap.size, 2, none⟩ = some (.int .i64 B) ∧ (w2.alloc (.cells #[.int .i64 (P : Int), .int .i64 TA, .int .i64 TB] 30)).cell? ⟨w.heap.size + 1, 0, none⟩ = some (.int .i64 (P : Int)) ∧ (w2.alloc (.cells #[.int .i64 (P : Int), .int .i64 TA, .int .i64 TB] 30)).cell? ⟨w.heap.size + 1, 1, none⟩ = some (.int .i64 C) ∧ (w2.alloc (.cells #[.int .i64 (P : Int), .int .i64 TA, .int .i64 TB] 30)).cell? ⟨w.heap.size + 1, 2, none⟩ = some (.int .i64 D) ∧ BelF (w2.alloc (.cells #[.int .i64 (P : Int), .int .i64 TA, .int .i64 TB] 30)).heap.size (w2.alloc (.cells #[.int .i64 (P : Int), .int .i64 TA, .int .i64 TB] 30)) (w2.alloc (.cells #[.int .i64 (P : Int), .int .i64 TA, .int .i64 TB] 30)) from ⟨HC3.out.1, HC3.out.2.1, HC3.out.2.2, HD3.out.1, HD3.out.2.1, HD3.out.2.2, BelF.begin _⟩)
  go_wp2
  go_region_held3 (fun W => W.cell? ⟨w.heap.size, 0, none⟩ = some (.int .i64 (P : Int)) ∧ W.cell? ⟨w.heap.size, 1, none⟩ = some (.int .i64 A) ∧ W.cell? ⟨w.heap.size, 2, none⟩ = some (.int .i64 B) ∧ W.cell? ⟨w.heap.size + 1, 0, none⟩ = some (.int .i64 (P : Int)) ∧ W.cell? ⟨w.heap.size + 1, 1, none⟩ = some (.int .i64 C) ∧ W.cell? ⟨w.heap.size + 1, 2, none⟩ = some (.int .i64 D) ∧ BelF (w2.alloc (.cells #[.int .i64 (P : Int), .int .i64 TA, .int .i64 TB] 30)).heap.size (w2.alloc (.cells #[.int .i64 (P : Int), .int .i64 TA, .int .i64 TB] 30)) W)
    (first | exact HS0.out | exact HN.out _ _ hbf (by assumption) | exact HN.out _ _ hba (by assumption) | exact HN.out _ _ (drew_below _) (by assumption) | exact HN.out _ _ (drew_below _) HS0.out)
    ((first
      | (go_at_call 18; refine (Of_any _ _ _ _).mono ?_; rintro e wx ⟨rfl, hbf⟩)
      | (go_at_call 45; refine (HAL.out _ (HF3.out.below (HBS.out _ (by assumption)))).mono ?_; rintro e wx ⟨rfl, hba⟩)))
  all_goals
    refine at_world (S := fun W => W.cell? ⟨w.heap.size, 0, none⟩ = some (.int .i64 (P : Int)) ∧ W.cell? ⟨w.heap.size, 1, none⟩ = some (.int .i64 A) ∧ W.cell? ⟨w.heap.size, 2, none⟩ = some (.int .i64 B) ∧ W.cell? ⟨w.heap.size + 1, 0, none⟩ = some (.int .i64 (P : Int)) ∧ W.cell? ⟨w.heap.size + 1, 1, none⟩ = some (.int .i64 C) ∧ W.cell? ⟨w.heap.size + 1, 2, none⟩ = some (.int .i64 D) ∧ BelF (w2.alloc (.cells #[.int .i64 (P : Int), .int .i64 TA, .int .i64 TB] 30)).heap.size (w2.alloc (.cells #[.int .i64 (P : Int), .int .i64 TA, .int .i64 TB] 30)) W) (G := fun W => Exit.then _ _ _ _ W) (by assumption) ?_
    intro w4 hS
    clear q0 q1 q2 r0 r1 r2
    obtain ⟨q0, q1, q2, r0, r1, r2, hs4⟩ := hS
    have hs5 := hs4.to
    have HB4 := Lib.hid (HB3.out.trans (hs5.mono HB3.out.size))
    have HF4 := Lib.hid (HF3.out.below hs5)
    have HC4 := Lib.hid (show C3 w.heap.size (.int .i64 (P : Int)) (.int .i64 A) (.int .i64 B) w4 from ⟨q0, q1, q2⟩)
    have HD4 := Lib.hid (show C3 (w.heap.size + 1) (.int .i64 (P : Int)) (.int .i64 C) (.int .i64 D) w4 from ⟨r0, r1, r2⟩)
    have HX4 := Lib.hid (HX3.out.later hs5)
    clear hs4 hs5
    go_wp2_with fail
    refine (HVR.out _).mono ?_
    rintro e w5 ⟨rfl, hb⟩
    have HB5 := Lib.hid (HB4.out.trans (hb.mono HB4.out.size))
    have HF5 := Lib.hid (HF4.out.below hb)
    have HC5 := Lib.hid (HC4.out.later hb)
    have HD5 := Lib.hid (HD4.out.later hb)
    have HX5 := Lib.hid (HX4.out.later hb)
    clear hb q0 q1 q2 r0 r1 r2
    obtain ⟨x0, x1, x2⟩ := HX5.out
    have HN5 := Lib.hid (fun (W1 W2 : World) (hb : Below W1.heap.size W1 W2) (h : W1.cell? ⟨w2.heap.size, 0, none⟩ = some (.int .i64 (P : Int)) ∧ W1.cell? ⟨w2.heap.size, 1, none⟩ = some (.int .i64 TA) ∧ W1.cell? ⟨w2.heap.size, 2, none⟩ = some (.int .i64 TB) ∧ W1.cell? ⟨w.heap.size, 0, none⟩ = some (.int .i64 (P : Int)) ∧ W1.cell? ⟨w.heap.size, 1, none⟩ = some (.int .i64 A) ∧ W1.cell? ⟨w.heap.size, 2, none⟩ = some (.int .i64 B) ∧ W1.cell? ⟨w.heap.size + 1, 0, none⟩ = some (.int .i64 (P : Int)) ∧ W1.cell? ⟨w.heap.size + 1, 1, none⟩ = some (.int .i64 C) ∧ W1.cell? ⟨w.heap.size + 1, 2, none⟩ = some (.int .i64 D) ∧ BelF w5.heap.size w5 W1) => (show W2.cell? ⟨w2.heap.size, 0, none⟩ = some (.int .i64 (P : Int)) ∧ W2.cell? ⟨w2.heap.size, 1, none⟩ = some (.int .i64 TA) ∧ W2.cell? ⟨w2.heap.size, 2, none⟩ = some (.int .i64 TB) ∧ W2.cell? ⟨w.heap.size, 0, none⟩ = some (.int .i64 (P : Int)) ∧ W2.cell? ⟨w.heap.size, 1, none⟩ = some (.int .i64 A) ∧ W2.cell? ⟨w.heap.size, 2, none⟩ = some (.int .i64 B) ∧ W2.cell? ⟨w.heap.size + 1, 0, none⟩ = some (.int .i64 (P : Int)) ∧ W2.cell? ⟨w.heap.size + 1, 1, none⟩ = some (.int .i64 C) ∧ W2.cell? ⟨w.heap.size + 1, 2, none⟩ = some (.int .i64 D) ∧ BelF w5.heap.size w5 W2 from ⟨cell_later h.1 hb, cell_later h.2.1 hb, cell_later h.2.2.1 hb, cell_later h.2.2.2.1 hb, cell_later h.2.2.2.2.1 hb, cell_later h.2.2.2.2.2.1 hb, cell_later h.2.2.2.2.2.2.1 hb, cell_later h.2.2.2.2.2.2.2.1 hb, cell_later h.2.2.2.2.2.2.2.2.1 hb, h.2.2.2.2.2.2.2.2.2.next hb⟩))
    have HBS5 := Lib.hid (fun (W1 : World) (h : W1.cell? ⟨w2.heap.size, 0, none⟩ = some (.int .i64 (P : Int)) ∧ W1.cell? ⟨w2.heap.size, 1, none⟩ = some (.int .i64 TA) ∧ W1.cell? ⟨w2.heap.size, 2, none⟩ = some (.int .i64 TB) ∧ W1.cell? ⟨w.heap.size, 0, none⟩ = some (.int .i64 (P : Int)) ∧ W1.cell? ⟨w.heap.size, 1, none⟩ = some (.int .i64 A) ∧ W1.cell? ⟨w.heap.size, 2, none⟩ = some (.int .i64 B) ∧ W1.cell? ⟨w.heap.size + 1, 0, none⟩ = some (.int .i64 (P : Int)) ∧ W1.cell? ⟨w.heap.size + 1, 1, none⟩ = some (.int .i64 C) ∧ W1.cell? ⟨w.heap.size + 1, 2, none⟩ = some (.int .i64 D) ∧ BelF w5.heap.size w5 W1) => (show Below w5.heap.size w5 W1 from h.2.2.2.2.2.2.2.2.2.to))
    have HS5 := Lib.hid (show w5.cell? ⟨w2.heap.size, 0, none⟩ = some (.int .i64 (P : Int)) ∧ w5.cell? ⟨w2.heap.size, 1, none⟩ = some (.int .i64 TA) ∧ w5.cell? ⟨w2.heap.size, 2, none⟩ = some (.int .i64 TB) ∧ w5.cell? ⟨w.heap.size, 0, none⟩ = some (.int .i64 (P : Int)) ∧ w5.cell? ⟨w.heap.size, 1, none⟩ = some (.int .i64 A) ∧ w5.cell? ⟨w.heap.size, 2, none⟩ = some (.int .i64 B) ∧ w5.cell? ⟨w.heap.size + 1, 0, none⟩ = some (.int .i64 (P : Int)) ∧ w5.cell? ⟨w.heap.size + 1, 1, none⟩ = some (.int .i64 C) ∧ w5.cell? ⟨w.heap.size + 1, 2, none⟩ = some (.int .i64 D) ∧ BelF w5.heap.size w5 w5 from ⟨HX5.out.1, HX5.out.2.1, HX5.out.2.2, HC5.out.1, HC5.out.2.1, HC5.out.2.2, HD5.out.1, HD5.out.2.1, HD5.out.2.2, BelF.begin w5⟩)
    obtain ⟨q0, q1, q2⟩ := HC5.out
    obtain ⟨r0, r1, r2⟩ := HD5.out
    have hne5 := fun W => HNE.out W
    go_wp2
    go_region_held3 (fun W => W.cell? ⟨w2.heap.size, 0, none⟩ = some (.int .i64 (P : Int)) ∧ W.cell? ⟨w2.heap.size, 1, none⟩ = some (.int .i64 TA) ∧ W.cell? ⟨w2.heap.size, 2, none⟩ = some (.int .i64 TB) ∧ W.cell? ⟨w.heap.size, 0, none⟩ = some (.int .i64 (P : Int)) ∧ W.cell? ⟨w.heap.size, 1, none⟩ = some (.int .i64 A) ∧ W.cell? ⟨w.heap.size, 2, none⟩ = some (.int .i64 B) ∧ W.cell? ⟨w.heap.size + 1, 0, none⟩ = some (.int .i64 (P : Int)) ∧ W.cell? ⟨w.heap.size + 1, 1, none⟩ = some (.int .i64 C) ∧ W.cell? ⟨w.heap.size + 1, 2, none⟩ = some (.int .i64 D) ∧ BelF w5.heap.size w5 W)
      (first | exact HS5.out | exact HN5.out _ _ hbt (by assumption) | exact HN5.out _ _ hbo (by assumption) | exact HN5.out _ _ hbw (by assumption) | exact HN5.out _ _ (drew_below _) (by assumption) | exact HN5.out _ _ (drew_below _) HS5.out)
      ((first
        | (go_at_call 46; refine (HTR.out _).mono ?_; rintro e wx ⟨rfl, hbt⟩)
        | (go_at_call 18; refine (HOt.out _).mono ?_; rintro e wx ⟨rfl, hbo⟩)
        | (go_at_call 22; refine (HAw.out _ (HF5.out.below (HBS5.out _ (by assumption)))).mono ?_; rintro e wx ⟨rfl, hbw⟩)))
    all_goals
      refine at_world (S := fun W => W.cell? ⟨w2.heap.size, 0, none⟩ = some (.int .i64 (P : Int)) ∧ W.cell? ⟨w2.heap.size, 1, none⟩ = some (.int .i64 TA) ∧ W.cell? ⟨w2.heap.size, 2, none⟩ = some (.int .i64 TB) ∧ W.cell? ⟨w.heap.size, 0, none⟩ = some (.int .i64 (P : Int)) ∧ W.cell? ⟨w.heap.size, 1, none⟩ = some (.int .i64 A) ∧ W.cell? ⟨w.heap.size, 2, none⟩ = some (.int .i64 B) ∧ W.cell? ⟨w.heap.size + 1, 0, none⟩ = some (.int .i64 (P : Int)) ∧ W.cell? ⟨w.heap.size + 1, 1, none⟩ = some (.int .i64 C) ∧ W.cell? ⟨w.heap.size + 1, 2, none⟩ = some (.int .i64 D) ∧ BelF w5.heap.size w5 W) (G := fun W => Exit.then _ _ _ _ W) (by assumption) ?_
      intro w6 hS
      clear q0 q1 q2 r0 r1 r2 x0 x1 x2
      obtain ⟨x0, x1, x2, q0, q1, q2, r0, r1, r2, hs6⟩ := hS
      have hs7 := hs6.to
      have HB6 := Lib.hid (HB5.out.trans (hs7.mono HB5.out.size))
      have HC6 := Lib.hid (HC5.out.later hs7)
      have HD6 := Lib.hid (HD5.out.later hs7)
      clear hs6 hs7
      go_wp2_with fail
      refine (HVR2.out _).mono ?_
      rintro e w7 ⟨rfl, hb⟩
      have HB7 := Lib.hid (HB6.out.trans (hb.mono HB6.out.size))
      clear x0 x1 x2 q0 q1 q2 r0 r1 r2
      obtain ⟨q0, q1, q2⟩ := HC6.out.later hb
      obtain ⟨r0, r1, r2⟩ := HD6.out.later hb
      clear hb
      go_wp2_with fail
      refine (HAR.out _).mono ?_
      rintro e w8 ⟨rfl, hb⟩
      have HB8 := Lib.hid (HB7.out.trans (hb.mono HB7.out.size))
      clear hb q0 q1 q2 r0 r1 r2
      go_wp2
      go_ret
      exact ⟨ret_bool (by simp), HB8.out⟩

theorem lawTwists_any (P A B P2 C D : Int) (w : World) (hF : Far w) :
    Calls Tryd.prog 7 #[.agg #[.int .i64 P, .int .i64 A, .int .i64 B], .agg #[.int .i64 P2, .int .i64 C, .int .i64 D]] w fun e w' => e = .returned (.bool true) ∧ Below w.heap.size w w' := by
  cases hv : vB P A B with
  | false => exact lawTwists_no P A B P2 C D hv w hF
  | true =>
    obtain ⟨N, rfl, -, -, -⟩ := vB_nat hv
    cases hv2 : vB P2 C D with
    | false => exact lawTwists_out N A B P2 C D hv hv2 w hF
    | true =>
      by_cases he : (N : Int) = P2
      · subst he
        exact lawTwists_same N A B C D hv hv2 w hF
      · exact lawTwists_other N A B P2 C D hv hv2 he w hF
end Go.Proofs.YtoepghlkjbpkfaaDoor
