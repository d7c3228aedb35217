/- The law CurveLogs: it returns true, whatever its arguments are. Condition: the far point lies in memory. -/
import Derived.Test.YtoepghlkjbpkfaaDoorTor
namespace Go.Proofs.YtoepghlkjbpkfaaDoor
open Go.RowKit
attribute [local go_sem] Oper.semAt_some

set_option maxHeartbeats 8000000 in
set_option maxRecDepth 100000 in
theorem Torsion_no0 (P A B k : Int) (hv : vB P A B = false) (w : World) (hF : Far w) :
    Calls Tryd.prog 41 #[.agg #[.int .i64 P, .int .i64 A, .int .i64 B], .int .i64 k] w fun e w' => e = .returned (.tuple #[.slice none 0 0, .int .i64 2]) ∧ Below w.heap.size w w' := by
  have HB := Lib.hid (below1 w (.cells #[.int .i64 P, .int .i64 A, .int .i64 B] 30))
  have HC := Lib.hid (C3.new w (.int .i64 P) (.int .i64 A) (.int .i64 B) 30)
  have HV := Lib.hid (fun W hF => valid_any P A B none 0 0 [] W (AgP.nil _ _) (by omega) hF)
  have HF1 := Lib.hid (hF.below HB.out)
  rw [hv] at HV
  clear hv hF
  go_enter Tryd.func41, Tryd.ntmps41
  go_wp2_with fail
  refine (HV.out _ HF1.out).mono ?_
  rintro e w1 ⟨rfl, hb⟩
  have HB1 := Lib.hid (HB.out.trans (hb.mono HB.out.size))
  clear hb
  go_wp2
  go_ret2
  exact ⟨rfl, HB1.out⟩

set_option maxHeartbeats 8000000 in
set_option maxRecDepth 100000 in
theorem Torsion_no1 (P A B k : Int) (hv : vB P A B = true) (hk : k < 1) (w : World) (hF : Far w) :
    Calls Tryd.prog 41 #[.agg #[.int .i64 P, .int .i64 A, .int .i64 B], .int .i64 k] w fun e w' => e = .returned (.tuple #[.slice none 0 0, .int .i64 2]) ∧ Below w.heap.size w w' := by
  have HB := Lib.hid (below1 w (.cells #[.int .i64 P, .int .i64 A, .int .i64 B] 30))
  have HC := Lib.hid (C3.new w (.int .i64 P) (.int .i64 A) (.int .i64 B) 30)
  have HV := Lib.hid (fun W hF => valid_any P A B none 0 0 [] W (AgP.nil _ _) (by omega) hF)
  have HF1 := Lib.hid (hF.below HB.out)
  rw [hv] at HV
  have g1 : decide (k < 1) = true := decide_eq_true hk
  clear hv hF
  go_enter Tryd.func41, Tryd.ntmps41
  go_wp2_with fail
  refine (HV.out _ HF1.out).mono ?_
  rintro e w1 ⟨rfl, hb⟩
  have HB1 := Lib.hid (HB.out.trans (hb.mono HB.out.size))
  clear hb
  go_wp2
  go_ret2
  exact ⟨rfl, HB1.out⟩

set_option maxHeartbeats 8000000 in
set_option maxRecDepth 100000 in
theorem Torsion_no2 (P A B k : Int) (hv : vB P A B = true) (hk : ¬ k < 1) (hk2 : 50 < k) (w : World) (hF : Far w) :
    Calls Tryd.prog 41 #[.agg #[.int .i64 P, .int .i64 A, .int .i64 B], .int .i64 k] w fun e w' => e = .returned (.tuple #[.slice none 0 0, .int .i64 2]) ∧ Below w.heap.size w w' := by
  have HB := Lib.hid (below1 w (.cells #[.int .i64 P, .int .i64 A, .int .i64 B] 30))
  have HC := Lib.hid (C3.new w (.int .i64 P) (.int .i64 A) (.int .i64 B) 30)
  have HV := Lib.hid (fun W hF => valid_any P A B none 0 0 [] W (AgP.nil _ _) (by omega) hF)
  have HF1 := Lib.hid (hF.below HB.out)
  rw [hv] at HV
  have g1 : decide (k < 1) = false := decide_eq_false hk
  have g2 : decide (50 < k) = true := decide_eq_true hk2
  clear hv hF
  go_enter Tryd.func41, Tryd.ntmps41
  go_wp2_with fail
  refine (HV.out _ HF1.out).mono ?_
  rintro e w1 ⟨rfl, hb⟩
  have HB1 := Lib.hid (HB.out.trans (hb.mono HB.out.size))
  clear hb
  go_wp2
  go_ret2
  exact ⟨rfl, HB1.out⟩

set_option maxHeartbeats 8000000 in
set_option maxRecDepth 100000 in
theorem Torsion_yes (N : Nat) (A B k : Int) (K : Nat) (hkK : k = K) (hv : vB N A B = true) (hk : ¬ k < 1) (hk2 : ¬ 50 < k) (w : World) (hF : Far w) :
    Calls Tryd.prog 41 #[.agg #[.int .i64 (N : Int), .int .i64 A, .int .i64 B], .int .i64 k] w fun e w' => (∃ v', e = .returned (.tuple #[v', .int .i64 0]) ∧ RowP 34 w.heap.size v' ((ptsL N A B).filter (torB N A K)) w') ∧ Below w.heap.size w w' := by
  have HB := Lib.hid (below1 w (.cells #[.int .i64 (N : Int), .int .i64 A, .int .i64 B] 30))
  have HC := Lib.hid (C3.new w (.int .i64 (N : Int)) (.int .i64 A) (.int .i64 B) 30)
  have HV := Lib.hid (fun W hF => valid_any (N : Int) A B none 0 0 [] W (AgP.nil _ _) (by omega) hF)
  have HF1 := Lib.hid (hF.below HB.out)
  have HT := Lib.hid (fun W hF => torsion_any N A B K hv (by omega) W hF)
  rw [← hkK] at HT
  rw [hv] at HV
  have g1 : decide (k < 1) = false := decide_eq_false hk
  have g2 : decide (50 < k) = false := decide_eq_false hk2
  clear hv hF hkK
  go_enter Tryd.func41, Tryd.ntmps41
  go_wp2_with fail
  refine (HV.out _ HF1.out).mono ?_
  rintro e w1 ⟨rfl, hb⟩
  have HB1 := Lib.hid (HB.out.trans (hb.mono (by simp)))
  have HF2 := Lib.hid (HF1.out.below hb)
  obtain ⟨q0, q1, q2⟩ := HC.out.later hb
  clear hb
  go_wp2_with fail
  refine (HT.out _ HF2.out).mono ?_
  rintro e w2 ⟨⟨v', rfl, hr⟩, hb⟩
  have HB2 := Lib.hid (HB1.out.trans (hb.mono HB1.out.size))
  have HR := Lib.hid (hr.mono HB1.out.size)
  clear hb hr
  go_wp2
  go_ret2
  exact ⟨⟨_, rfl, HR.out⟩, HB2.out⟩

set_option maxHeartbeats 8000000 in
set_option maxRecDepth 100000 in
theorem lawLogs_v0 (P A B k : Int) (q r : Pt) (hv : vB P A B = false) (w : World) (hF : Far w) :
    Calls Tryd.prog 6 #[.agg #[.int .i64 P, .int .i64 A, .int .i64 B], .agg #[.int .i64 q.x, .int .i64 q.y, .bool q.f], .agg #[.int .i64 r.x, .int .i64 r.y, .bool r.f], .int .i64 k] w fun e w' => e = .returned (.bool true) ∧ Below w.heap.size w w' := by
  have hb3 := below3 w (.cells #[.int .i64 P, .int .i64 A, .int .i64 B] 23) (.cells #[.int .i64 q.x, .int .i64 q.y, .bool q.f] 25) (.cells #[.int .i64 r.x, .int .i64 r.y, .bool r.f] 25)
  obtain ⟨W0, hW0⟩ : ∃ W0, ((w.alloc (.cells #[.int .i64 P, .int .i64 A, .int .i64 B] 23)).alloc (.cells #[.int .i64 q.x, .int .i64 q.y, .bool q.f] 25)).alloc (.cells #[.int .i64 r.x, .int .i64 r.y, .bool r.f] 25) = W0 := ⟨_, rfl⟩
  obtain ⟨hc, hd, he, -, hsz⟩ := blocks3 w _ _ _ _ _ _ _ _ _ _ _ _ W0 hW0.symm
  rw [hW0] at hb3
  have HB := Lib.hid hb3
  have HFa := Lib.hid (hF.below hb3)
  have HAw := Lib.hid (fun W hF => awake_any W hF)
  have HVR := Lib.hid (fun W => validR_any P A B W)
  have HFI := Lib.hid (fun a n c W h hn => fine_any P A B a n c [q, r] W h hn)
  have hfi : (vB P A B && [q, r].all (onB P A B)) = false := by rw [hv]; rfl
  have HLog := Lib.hid (fun W hF => Log_no P A B q r (by rw [hv]; rfl) W hF)
  have HTor := Lib.hid (fun W hF => Torsion_no0 P A B k hv W hF)
  rw [hfi] at HFI
  rw [hv] at HVR
  have HN := Lib.hid (fun (W1 W2 : World) (hb : Below W1.heap.size W1 W2) (h : W1.cell? ⟨w.heap.size, 0, none⟩ = some (.int .i64 P) ∧ W1.cell? ⟨w.heap.size, 1, none⟩ = some (.int .i64 A) ∧ W1.cell? ⟨w.heap.size, 2, none⟩ = some (.int .i64 B) ∧ W1.cell? ⟨w.heap.size + 1, 0, none⟩ = some (.int .i64 q.x) ∧ W1.cell? ⟨w.heap.size + 1, 1, none⟩ = some (.int .i64 q.y) ∧ W1.cell? ⟨w.heap.size + 1, 2, none⟩ = some (.bool q.f) ∧ W1.cell? ⟨w.heap.size + 1 + 1, 0, none⟩ = some (.int .i64 r.x) ∧ W1.cell? ⟨w.heap.size + 1 + 1, 1, none⟩ = some (.int .i64 r.y) ∧ W1.cell? ⟨w.heap.size + 1 + 1, 2, none⟩ = some (.bool r.f) ∧ BelF W0.heap.size W0 W1) => (show W2.cell? ⟨w.heap.size, 0, none⟩ = some (.int .i64 P) ∧ W2.cell? ⟨w.heap.size, 1, none⟩ = some (.int .i64 A) ∧ W2.cell? ⟨w.heap.size, 2, none⟩ = some (.int .i64 B) ∧ W2.cell? ⟨w.heap.size + 1, 0, none⟩ = some (.int .i64 q.x) ∧ W2.cell? ⟨w.heap.size + 1, 1, none⟩ = some (.int .i64 q.y) ∧ W2.cell? ⟨w.heap.size + 1, 2, none⟩ = some (.bool q.f) ∧ W2.cell? ⟨w.heap.size + 1 + 1, 0, none⟩ = some (.int .i64 r.x) ∧ W2.cell? ⟨w.heap.size + 1 + 1, 1, none⟩ = some (.int .i64 r.y) ∧ W2.cell? ⟨w.heap.size + 1 + 1, 2, none⟩ = some (.bool r.f) ∧ BelF W0.heap.size W0 W2 from ⟨cell_later h.1 hb, cell_later h.2.1 hb, cell_later h.2.2.1 hb, cell_later h.2.2.2.1 hb, cell_later h.2.2.2.2.1 hb, cell_later h.2.2.2.2.2.1 hb, cell_later h.2.2.2.2.2.2.1 hb, cell_later h.2.2.2.2.2.2.2.1 hb, cell_later h.2.2.2.2.2.2.2.2.1 hb, h.2.2.2.2.2.2.2.2.2.next hb⟩))
  have HBS := Lib.hid (fun (W1 : World) (h : W1.cell? ⟨w.heap.size, 0, none⟩ = some (.int .i64 P) ∧ W1.cell? ⟨w.heap.size, 1, none⟩ = some (.int .i64 A) ∧ W1.cell? ⟨w.heap.size, 2, none⟩ = some (.int .i64 B) ∧ W1.cell? ⟨w.heap.size + 1, 0, none⟩ = some (.int .i64 q.x) ∧ W1.cell? ⟨w.heap.size + 1, 1, none⟩ = some (.int .i64 q.y) ∧ W1.cell? ⟨w.heap.size + 1, 2, none⟩ = some (.bool q.f) ∧ W1.cell? ⟨w.heap.size + 1 + 1, 0, none⟩ = some (.int .i64 r.x) ∧ W1.cell? ⟨w.heap.size + 1 + 1, 1, none⟩ = some (.int .i64 r.y) ∧ W1.cell? ⟨w.heap.size + 1 + 1, 2, none⟩ = some (.bool r.f) ∧ BelF W0.heap.size W0 W1) => (show Below W0.heap.size W0 W1 from h.2.2.2.2.2.2.2.2.2.to))
  have HS0 := Lib.hid (show W0.cell? ⟨w.heap.size, 0, none⟩ = some (.int .i64 P) ∧ W0.cell? ⟨w.heap.size, 1, none⟩ = some (.int .i64 A) ∧ W0.cell? ⟨w.heap.size, 2, none⟩ = some (.int .i64 B) ∧ W0.cell? ⟨w.heap.size + 1, 0, none⟩ = some (.int .i64 q.x) ∧ W0.cell? ⟨w.heap.size + 1, 1, none⟩ = some (.int .i64 q.y) ∧ W0.cell? ⟨w.heap.size + 1, 2, none⟩ = some (.bool q.f) ∧ W0.cell? ⟨w.heap.size + 1 + 1, 0, none⟩ = some (.int .i64 r.x) ∧ W0.cell? ⟨w.heap.size + 1 + 1, 1, none⟩ = some (.int .i64 r.y) ∧ W0.cell? ⟨w.heap.size + 1 + 1, 2, none⟩ = some (.bool r.f) ∧ BelF W0.heap.size W0 W0 from ⟨hc.1, hc.2.1, hc.2.2, hd.1, hd.2.1, hd.2.2, he.1, he.2.1, he.2.2, BelF.begin W0⟩)
  obtain ⟨c0, c1, c2⟩ := hc
  obtain ⟨d0, d1, d2⟩ := hd
  obtain ⟨e0, e1, e2⟩ := he
  clear hv hF hb3 hsz hfi
  go_enter Tryd.func6, Tryd.ntmps6
  go_wp2
  go_region_held3 (fun W => W.cell? ⟨w.heap.size, 0, none⟩ = some (.int .i64 P) ∧ W.cell? ⟨w.heap.size, 1, none⟩ = some (.int .i64 A) ∧ W.cell? ⟨w.heap.size, 2, none⟩ = some (.int .i64 B) ∧ W.cell? ⟨w.heap.size + 1, 0, none⟩ = some (.int .i64 q.x) ∧ W.cell? ⟨w.heap.size + 1, 1, none⟩ = some (.int .i64 q.y) ∧ W.cell? ⟨w.heap.size + 1, 2, none⟩ = some (.bool q.f) ∧ W.cell? ⟨w.heap.size + 1 + 1, 0, none⟩ = some (.int .i64 r.x) ∧ W.cell? ⟨w.heap.size + 1 + 1, 1, none⟩ = some (.int .i64 r.y) ∧ W.cell? ⟨w.heap.size + 1 + 1, 2, none⟩ = some (.bool r.f) ∧ BelF W0.heap.size W0 W)
    (first | exact HS0.out | exact HN.out _ _ hbf (by assumption) | exact HN.out _ _ (drew_below _) (by assumption) | exact HN.out _ _ (drew_below _) HS0.out)
    ((first
      | (go_at_call 18; refine (Of_any _ _ _ _).mono ?_; rintro e wx ⟨rfl, hbf⟩)
      | (go_at_call 20; refine (at_any _ _).mono ?_; rintro e wx ⟨rfl, hbf⟩)
      | (go_at_call 40; refine (HLog.out _ (HFa.out.below (HBS.out _ (by assumption)))).mono ?_; rintro e wx ⟨rfl, hbf⟩)))
  all_goals
    refine at_world (S := fun W => W.cell? ⟨w.heap.size, 0, none⟩ = some (.int .i64 P) ∧ W.cell? ⟨w.heap.size, 1, none⟩ = some (.int .i64 A) ∧ W.cell? ⟨w.heap.size, 2, none⟩ = some (.int .i64 B) ∧ W.cell? ⟨w.heap.size + 1, 0, none⟩ = some (.int .i64 q.x) ∧ W.cell? ⟨w.heap.size + 1, 1, none⟩ = some (.int .i64 q.y) ∧ W.cell? ⟨w.heap.size + 1, 2, none⟩ = some (.bool q.f) ∧ W.cell? ⟨w.heap.size + 1 + 1, 0, none⟩ = some (.int .i64 r.x) ∧ W.cell? ⟨w.heap.size + 1 + 1, 1, none⟩ = some (.int .i64 r.y) ∧ W.cell? ⟨w.heap.size + 1 + 1, 2, none⟩ = some (.bool r.f) ∧ BelF W0.heap.size W0 W) (G := fun W => Exit.then _ _ _ _ W) (by assumption) ?_
    intro w3 hS
    clear c0 c1 c2 d0 d1 d2 e0 e1 e2
    obtain ⟨c0, c1, c2, d0, d1, d2, e0, e1, e2, hs3⟩ := hS
    have hb3 := hs3.to
    have HB3 := Lib.hid (HB.out.trans (hb3.mono HB.out.size))
    have HF3 := Lib.hid (HFa.out.below hb3)
    have HC3 := Lib.hid (show C3 w.heap.size (.int .i64 P) (.int .i64 A) (.int .i64 B) w3 from ⟨c0, c1, c2⟩)
    have HD3 := Lib.hid (show C3 (w.heap.size + 1) (.int .i64 q.x) (.int .i64 q.y) (.bool q.f) w3 from ⟨d0, d1, d2⟩)
    have HE3 := Lib.hid (show C3 (w.heap.size + 1 + 1) (.int .i64 r.x) (.int .i64 r.y) (.bool r.f) w3 from ⟨e0, e1, e2⟩)
    clear hs3 hb3 hW0
    go_wp2_with fail
    refine (Of_any _ _ _ _).mono ?_
    rintro e w4 ⟨rfl, hb⟩
    have HB4 := Lib.hid (HB3.out.trans (hb.mono HB3.out.size))
    have HF4 := Lib.hid (HF3.out.below hb)
    have HC4 := Lib.hid (HC3.out.later hb)
    have HD4 := Lib.hid (HD3.out.later hb)
    have HE4 := Lib.hid (HE3.out.later hb)
    clear hb
    go_wp2_with fail
    refine (HTor.out _ HF4.out).mono ?_
    rintro e w5 ⟨rfl, hb⟩
    have HB5 := Lib.hid (HB4.out.trans (hb.mono HB4.out.size))
    have HF5 := Lib.hid (HF4.out.below hb)
    have HC5 := Lib.hid (HC4.out.later hb)
    have HD5 := Lib.hid (HD4.out.later hb)
    have HE5 := Lib.hid (HE4.out.later hb)
    clear hb c0 c1 c2 d0 d1 d2 e0 e1 e2
    obtain ⟨c0, c1, c2⟩ := HC5.out
    go_wp2_with fail
    refine (HVR.out _).mono ?_
    rintro e w6 ⟨rfl, hb⟩
    have HB6 := Lib.hid (HB5.out.trans (hb.mono HB5.out.size))
    have HF6 := Lib.hid (HF5.out.below hb)
    have HC6 := Lib.hid (HC5.out.later hb)
    have HD6 := Lib.hid (HD5.out.later hb)
    have HE6 := Lib.hid (HE5.out.later hb)
    clear hb c0 c1 c2
    obtain ⟨c0, c1, c2⟩ := HC6.out
    obtain ⟨d0, d1, d2⟩ := HD6.out
    obtain ⟨e0, e1, e2⟩ := HE6.out
    have hbs := below1 w6 (.cells #[.int .i64 q.x, .int .i64 q.y, .bool q.f, .int .i64 r.x, .int .i64 r.y, .bool r.f] 25)
    have HFQ := Lib.hid (HFI.out (some ⟨w6.heap.size, 0, none⟩) 2 2 _ (agp_two w6 q r 25) (by omega))
    have HBs := Lib.hid (HB6.out.trans (hbs.mono HB6.out.size))
    have HFs := Lib.hid (HF6.out.below hbs)
    have HCs := Lib.hid (HC6.out.later hbs)
    have HDs := Lib.hid (HD6.out.later hbs)
    have HEs := Lib.hid (HE6.out.later hbs)
    clear hbs
    go_wp2_with fail
    refine HFQ.out.mono ?_
    rintro e w8 ⟨rfl, hb⟩
    have HB8 := Lib.hid (HBs.out.trans (hb.mono HBs.out.size))
    have HF8 := Lib.hid (HFs.out.below hb)
    clear hb c0 c1 c2 d0 d1 d2 e0 e1 e2
    go_wp2_with fail
    refine (HAw.out _ HF8.out).mono ?_
    rintro e w9 ⟨rfl, hb⟩
    have HB9 := Lib.hid (HB8.out.trans (hb.mono HB8.out.size))
    clear hb
    go_wp2
    go_ret
    exact ⟨ret_bool (by simp), HB9.out⟩

set_option maxHeartbeats 8000000 in
set_option maxRecDepth 100000 in
theorem lawLogs_a0 (N : Nat) (A B k : Int) (q r : Pt) (hv : vB N A B = true) (hk : k < 1) (hfin : (onB (N : Int) A B q && onB (N : Int) A B r) = false) (w : World) (hF : Far w) :
    Calls Tryd.prog 6 #[.agg #[.int .i64 (N : Int), .int .i64 A, .int .i64 B], .agg #[.int .i64 q.x, .int .i64 q.y, .bool q.f], .agg #[.int .i64 r.x, .int .i64 r.y, .bool r.f], .int .i64 k] w fun e w' => e = .returned (.bool true) ∧ Below w.heap.size w w' := by
  have hb3 := below3 w (.cells #[.int .i64 (N : Int), .int .i64 A, .int .i64 B] 23) (.cells #[.int .i64 q.x, .int .i64 q.y, .bool q.f] 25) (.cells #[.int .i64 r.x, .int .i64 r.y, .bool r.f] 25)
  obtain ⟨W0, hW0⟩ : ∃ W0, ((w.alloc (.cells #[.int .i64 (N : Int), .int .i64 A, .int .i64 B] 23)).alloc (.cells #[.int .i64 q.x, .int .i64 q.y, .bool q.f] 25)).alloc (.cells #[.int .i64 r.x, .int .i64 r.y, .bool r.f] 25) = W0 := ⟨_, rfl⟩
  obtain ⟨hc, hd, he, -, hsz⟩ := blocks3 w _ _ _ _ _ _ _ _ _ _ _ _ W0 hW0.symm
  rw [hW0] at hb3
  have HB := Lib.hid hb3
  have HFa := Lib.hid (hF.below hb3)
  have HAw := Lib.hid (fun W hF => awake_any W hF)
  have HVR := Lib.hid (fun W => validR_any (N : Int) A B W)
  have HFI := Lib.hid (fun a n c W h hn => fine_any (N : Int) A B a n c [q, r] W h hn)
  have hfi : (vB (N : Int) A B && [q, r].all (onB (N : Int) A B)) = false := by rw [hv]; simpa using hfin
  have HLog := Lib.hid (fun W hF => Log_no (N : Int) A B q r (by rw [hv]; simpa using hfin) W hF)
  have HTor := Lib.hid (fun W hF => Torsion_no1 (N : Int) A B k hv hk W hF)
  have g1 : decide (k < 1) = true := decide_eq_true hk
  rw [hfi] at HFI
  rw [hv] at HVR
  have HN := Lib.hid (fun (W1 W2 : World) (hb : Below W1.heap.size W1 W2) (h : W1.cell? ⟨w.heap.size, 0, none⟩ = some (.int .i64 (N : Int)) ∧ W1.cell? ⟨w.heap.size, 1, none⟩ = some (.int .i64 A) ∧ W1.cell? ⟨w.heap.size, 2, none⟩ = some (.int .i64 B) ∧ W1.cell? ⟨w.heap.size + 1, 0, none⟩ = some (.int .i64 q.x) ∧ W1.cell? ⟨w.heap.size + 1, 1, none⟩ = some (.int .i64 q.y) ∧ W1.cell? ⟨w.heap.size + 1, 2, none⟩ = some (.bool q.f) ∧ W1.cell? ⟨w.heap.size + 1 + 1, 0, none⟩ = some (.int .i64 r.x) ∧ W1.cell? ⟨w.heap.size + 1 + 1, 1, none⟩ = some (.int .i64 r.y) ∧ W1.cell? ⟨w.heap.size + 1 + 1, 2, none⟩ = some (.bool r.f) ∧ BelF W0.heap.size W0 W1) => (show W2.cell? ⟨w.heap.size, 0, none⟩ = some (.int .i64 (N : Int)) ∧ W2.cell? ⟨w.heap.size, 1, none⟩ = some (.int .i64 A) ∧ W2.cell? ⟨w.heap.size, 2, none⟩ = some (.int .i64 B) ∧ W2.cell? ⟨w.heap.size + 1, 0, none⟩ = some (.int .i64 q.x) ∧ W2.cell? ⟨w.heap.size + 1, 1, none⟩ = some (.int .i64 q.y) ∧ W2.cell? ⟨w.heap.size + 1, 2, none⟩ = some (.bool q.f) ∧ W2.cell? ⟨w.heap.size + 1 + 1, 0, none⟩ = some (.int .i64 r.x) ∧ W2.cell? ⟨w.heap.size + 1 + 1, 1, none⟩ = some (.int .i64 r.y) ∧ W2.cell? ⟨w.heap.size + 1 + 1, 2, none⟩ = some (.bool r.f) ∧ BelF W0.heap.size W0 W2 from ⟨cell_later h.1 hb, cell_later h.2.1 hb, cell_later h.2.2.1 hb, cell_later h.2.2.2.1 hb, cell_later h.2.2.2.2.1 hb, cell_later h.2.2.2.2.2.1 hb, cell_later h.2.2.2.2.2.2.1 hb, cell_later h.2.2.2.2.2.2.2.1 hb, cell_later h.2.2.2.2.2.2.2.2.1 hb, h.2.2.2.2.2.2.2.2.2.next hb⟩))
  have HBS := Lib.hid (fun (W1 : World) (h : W1.cell? ⟨w.heap.size, 0, none⟩ = some (.int .i64 (N : Int)) ∧ W1.cell? ⟨w.heap.size, 1, none⟩ = some (.int .i64 A) ∧ W1.cell? ⟨w.heap.size, 2, none⟩ = some (.int .i64 B) ∧ W1.cell? ⟨w.heap.size + 1, 0, none⟩ = some (.int .i64 q.x) ∧ W1.cell? ⟨w.heap.size + 1, 1, none⟩ = some (.int .i64 q.y) ∧ W1.cell? ⟨w.heap.size + 1, 2, none⟩ = some (.bool q.f) ∧ W1.cell? ⟨w.heap.size + 1 + 1, 0, none⟩ = some (.int .i64 r.x) ∧ W1.cell? ⟨w.heap.size + 1 + 1, 1, none⟩ = some (.int .i64 r.y) ∧ W1.cell? ⟨w.heap.size + 1 + 1, 2, none⟩ = some (.bool r.f) ∧ BelF W0.heap.size W0 W1) => (show Below W0.heap.size W0 W1 from h.2.2.2.2.2.2.2.2.2.to))
  have HS0 := Lib.hid (show W0.cell? ⟨w.heap.size, 0, none⟩ = some (.int .i64 (N : Int)) ∧ W0.cell? ⟨w.heap.size, 1, none⟩ = some (.int .i64 A) ∧ W0.cell? ⟨w.heap.size, 2, none⟩ = some (.int .i64 B) ∧ W0.cell? ⟨w.heap.size + 1, 0, none⟩ = some (.int .i64 q.x) ∧ W0.cell? ⟨w.heap.size + 1, 1, none⟩ = some (.int .i64 q.y) ∧ W0.cell? ⟨w.heap.size + 1, 2, none⟩ = some (.bool q.f) ∧ W0.cell? ⟨w.heap.size + 1 + 1, 0, none⟩ = some (.int .i64 r.x) ∧ W0.cell? ⟨w.heap.size + 1 + 1, 1, none⟩ = some (.int .i64 r.y) ∧ W0.cell? ⟨w.heap.size + 1 + 1, 2, none⟩ = some (.bool r.f) ∧ BelF W0.heap.size W0 W0 from ⟨hc.1, hc.2.1, hc.2.2, hd.1, hd.2.1, hd.2.2, he.1, he.2.1, he.2.2, BelF.begin W0⟩)
  obtain ⟨c0, c1, c2⟩ := hc
  obtain ⟨d0, d1, d2⟩ := hd
  obtain ⟨e0, e1, e2⟩ := he
  clear hv hF hb3 hsz hfi hfin
  go_enter Tryd.func6, Tryd.ntmps6
  go_wp2
  go_region_held3 (fun W => W.cell? ⟨w.heap.size, 0, none⟩ = some (.int .i64 (N : Int)) ∧ W.cell? ⟨w.heap.size, 1, none⟩ = some (.int .i64 A) ∧ W.cell? ⟨w.heap.size, 2, none⟩ = some (.int .i64 B) ∧ W.cell? ⟨w.heap.size + 1, 0, none⟩ = some (.int .i64 q.x) ∧ W.cell? ⟨w.heap.size + 1, 1, none⟩ = some (.int .i64 q.y) ∧ W.cell? ⟨w.heap.size + 1, 2, none⟩ = some (.bool q.f) ∧ W.cell? ⟨w.heap.size + 1 + 1, 0, none⟩ = some (.int .i64 r.x) ∧ W.cell? ⟨w.heap.size + 1 + 1, 1, none⟩ = some (.int .i64 r.y) ∧ W.cell? ⟨w.heap.size + 1 + 1, 2, none⟩ = some (.bool r.f) ∧ BelF W0.heap.size W0 W)
    (first | exact HS0.out | exact HN.out _ _ hbf (by assumption) | exact HN.out _ _ (drew_below _) (by assumption) | exact HN.out _ _ (drew_below _) HS0.out)
    ((first
      | (go_at_call 18; refine (Of_any _ _ _ _).mono ?_; rintro e wx ⟨rfl, hbf⟩)
      | (go_at_call 20; refine (at_any _ _).mono ?_; rintro e wx ⟨rfl, hbf⟩)
      | (go_at_call 40; refine (HLog.out _ (HFa.out.below (HBS.out _ (by assumption)))).mono ?_; rintro e wx ⟨rfl, hbf⟩)))
  all_goals
    refine at_world (S := fun W => W.cell? ⟨w.heap.size, 0, none⟩ = some (.int .i64 (N : Int)) ∧ W.cell? ⟨w.heap.size, 1, none⟩ = some (.int .i64 A) ∧ W.cell? ⟨w.heap.size, 2, none⟩ = some (.int .i64 B) ∧ W.cell? ⟨w.heap.size + 1, 0, none⟩ = some (.int .i64 q.x) ∧ W.cell? ⟨w.heap.size + 1, 1, none⟩ = some (.int .i64 q.y) ∧ W.cell? ⟨w.heap.size + 1, 2, none⟩ = some (.bool q.f) ∧ W.cell? ⟨w.heap.size + 1 + 1, 0, none⟩ = some (.int .i64 r.x) ∧ W.cell? ⟨w.heap.size + 1 + 1, 1, none⟩ = some (.int .i64 r.y) ∧ W.cell? ⟨w.heap.size + 1 + 1, 2, none⟩ = some (.bool r.f) ∧ BelF W0.heap.size W0 W) (G := fun W => Exit.then _ _ _ _ W) (by assumption) ?_
    intro w3 hS
    clear c0 c1 c2 d0 d1 d2 e0 e1 e2
    obtain ⟨c0, c1, c2, d0, d1, d2, e0, e1, e2, hs3⟩ := hS
    have hb3 := hs3.to
    have HB3 := Lib.hid (HB.out.trans (hb3.mono HB.out.size))
    have HF3 := Lib.hid (HFa.out.below hb3)
    have HC3 := Lib.hid (show C3 w.heap.size (.int .i64 (N : Int)) (.int .i64 A) (.int .i64 B) w3 from ⟨c0, c1, c2⟩)
    have HD3 := Lib.hid (show C3 (w.heap.size + 1) (.int .i64 q.x) (.int .i64 q.y) (.bool q.f) w3 from ⟨d0, d1, d2⟩)
    have HE3 := Lib.hid (show C3 (w.heap.size + 1 + 1) (.int .i64 r.x) (.int .i64 r.y) (.bool r.f) w3 from ⟨e0, e1, e2⟩)
    clear hs3 hb3 hW0
    go_wp2_with fail
    refine (Of_any _ _ _ _).mono ?_
    rintro e w4 ⟨rfl, hb⟩
    have HB4 := Lib.hid (HB3.out.trans (hb.mono HB3.out.size))
    have HF4 := Lib.hid (HF3.out.below hb)
    have HC4 := Lib.hid (HC3.out.later hb)
    have HD4 := Lib.hid (HD3.out.later hb)
    have HE4 := Lib.hid (HE3.out.later hb)
    clear hb
    go_wp2_with fail
    refine (HTor.out _ HF4.out).mono ?_
    rintro e w5 ⟨rfl, hb⟩
    have HB5 := Lib.hid (HB4.out.trans (hb.mono HB4.out.size))
    have HF5 := Lib.hid (HF4.out.below hb)
    have HC5 := Lib.hid (HC4.out.later hb)
    have HD5 := Lib.hid (HD4.out.later hb)
    have HE5 := Lib.hid (HE4.out.later hb)
    clear hb c0 c1 c2 d0 d1 d2 e0 e1 e2
    obtain ⟨c0, c1, c2⟩ := HC5.out
    go_wp2_with fail
    refine (HVR.out _).mono ?_
    rintro e w6 ⟨rfl, hb⟩
    have HB6 := Lib.hid (HB5.out.trans (hb.mono HB5.out.size))
    have HF6 := Lib.hid (HF5.out.below hb)
    have HC6 := Lib.hid (HC5.out.later hb)
    have HD6 := Lib.hid (HD5.out.later hb)
    have HE6 := Lib.hid (HE5.out.later hb)
    clear hb c0 c1 c2
    obtain ⟨c0, c1, c2⟩ := HC6.out
    obtain ⟨d0, d1, d2⟩ := HD6.out
    obtain ⟨e0, e1, e2⟩ := HE6.out
    have hbs := below1 w6 (.cells #[.int .i64 q.x, .int .i64 q.y, .bool q.f, .int .i64 r.x, .int .i64 r.y, .bool r.f] 25)
    have HFQ := Lib.hid (HFI.out (some ⟨w6.heap.size, 0, none⟩) 2 2 _ (agp_two w6 q r 25) (by omega))
    have HBs := Lib.hid (HB6.out.trans (hbs.mono HB6.out.size))
    have HFs := Lib.hid (HF6.out.below hbs)
    have HCs := Lib.hid (HC6.out.later hbs)
    have HDs := Lib.hid (HD6.out.later hbs)
    have HEs := Lib.hid (HE6.out.later hbs)
    clear hbs
    go_wp2_with fail
    refine HFQ.out.mono ?_
    rintro e w8 ⟨rfl, hb⟩
    have HB8 := Lib.hid (HBs.out.trans (hb.mono HBs.out.size))
    have HF8 := Lib.hid (HFs.out.below hb)
    clear hb c0 c1 c2 d0 d1 d2 e0 e1 e2
    go_wp2_with fail
    refine (HAw.out _ HF8.out).mono ?_
    rintro e w9 ⟨rfl, hb⟩
    have HB9 := Lib.hid (HB8.out.trans (hb.mono HB8.out.size))
    clear hb
    go_wp2
    go_ret
    exact ⟨ret_bool (by simp), HB9.out⟩

set_option maxHeartbeats 8000000 in
set_option maxRecDepth 100000 in
theorem lawLogs_a1 (N : Nat) (A B k : Int) (q r : Pt) (hv : vB N A B = true) (hk : k < 1) (hfin : (onB (N : Int) A B q && onB (N : Int) A B r) = true) (w : World) (hF : Far w) :
    Calls Tryd.prog 6 #[.agg #[.int .i64 (N : Int), .int .i64 A, .int .i64 B], .agg #[.int .i64 q.x, .int .i64 q.y, .bool q.f], .agg #[.int .i64 r.x, .int .i64 r.y, .bool r.f], .int .i64 k] w fun e w' => e = .returned (.bool true) ∧ Below w.heap.size w w' := by
  have hb3 := below3 w (.cells #[.int .i64 (N : Int), .int .i64 A, .int .i64 B] 23) (.cells #[.int .i64 q.x, .int .i64 q.y, .bool q.f] 25) (.cells #[.int .i64 r.x, .int .i64 r.y, .bool r.f] 25)
  obtain ⟨W0, hW0⟩ : ∃ W0, ((w.alloc (.cells #[.int .i64 (N : Int), .int .i64 A, .int .i64 B] 23)).alloc (.cells #[.int .i64 q.x, .int .i64 q.y, .bool q.f] 25)).alloc (.cells #[.int .i64 r.x, .int .i64 r.y, .bool r.f] 25) = W0 := ⟨_, rfl⟩
  obtain ⟨hc, hd, he, -, hsz⟩ := blocks3 w _ _ _ _ _ _ _ _ _ _ _ _ W0 hW0.symm
  rw [hW0] at hb3
  have HB := Lib.hid hb3
  have HFa := Lib.hid (hF.below hb3)
  have HAw := Lib.hid (fun W hF => awake_any W hF)
  have HVR := Lib.hid (fun W => validR_any (N : Int) A B W)
  have HFI := Lib.hid (fun a n c W h hn => fine_any (N : Int) A B a n c [q, r] W h hn)
  have hfi : (vB (N : Int) A B && [q, r].all (onB (N : Int) A B)) = true := by rw [hv]; simpa using hfin
  have hq : onB (N : Int) A B q = true := by simp at hfin; exact hfin.1
  have hr : onB (N : Int) A B r = true := by simp at hfin; exact hfin.2
  obtain ⟨n, ho, hn⟩ := ord_ex (vB_iff.1 hv).1 (vB_iff.1 hv).2.2.2 hq
  obtain ⟨v, hl⟩ := idx_ex (mulL (N : Int) A q n) r
  obtain ⟨m, E, hm⟩ : ∃ m E : Int, (v = -1 ∧ m = 0 ∧ E = 4) ∨ (0 ≤ v ∧ m = v ∧ E = 0) := by
    rcases hl with ⟨i, rfl, -⟩ | ⟨rfl, -⟩
    · exact ⟨_, 0, .inr ⟨by omega, rfl, rfl⟩⟩
    · exact ⟨0, 4, .inl ⟨rfl, rfl, rfl⟩⟩
  have HLog := Lib.hid (fun W hF => Log_yes (N : Int) A B q r n v m E hv hq hr ho hn hl hm W hF)
  have HLogR := Lib.hid (fun W => logR_any (N : Int) A B q r n v m E hv hq ho hn hl hm W)
  have HTor := Lib.hid (fun W hF => Torsion_no1 (N : Int) A B k hv hk W hF)
  have g1 : decide (k < 1) = true := decide_eq_true hk
  rw [hfi] at HFI
  rw [hv] at HVR
  have HN := Lib.hid (fun (W1 W2 : World) (hb : Below W1.heap.size W1 W2) (h : W1.cell? ⟨w.heap.size, 0, none⟩ = some (.int .i64 (N : Int)) ∧ W1.cell? ⟨w.heap.size, 1, none⟩ = some (.int .i64 A) ∧ W1.cell? ⟨w.heap.size, 2, none⟩ = some (.int .i64 B) ∧ W1.cell? ⟨w.heap.size + 1, 0, none⟩ = some (.int .i64 q.x) ∧ W1.cell? ⟨w.heap.size + 1, 1, none⟩ = some (.int .i64 q.y) ∧ W1.cell? ⟨w.heap.size + 1, 2, none⟩ = some (.bool q.f) ∧ W1.cell? ⟨w.heap.size + 1 + 1, 0, none⟩ = some (.int .i64 r.x) ∧ W1.cell? ⟨w.heap.size + 1 + 1, 1, none⟩ = some (.int .i64 r.y) ∧ W1.cell? ⟨w.heap.size + 1 + 1, 2, none⟩ = some (.bool r.f) ∧ BelF W0.heap.size W0 W1) => (show W2.cell? ⟨w.heap.size, 0, none⟩ = some (.int .i64 (N : Int)) ∧ W2.cell? ⟨w.heap.size, 1, none⟩ = some (.int .i64 A) ∧ W2.cell? ⟨w.heap.size, 2, none⟩ = some (.int .i64 B) ∧ W2.cell? ⟨w.heap.size + 1, 0, none⟩ = some (.int .i64 q.x) ∧ W2.cell? ⟨w.heap.size + 1, 1, none⟩ = some (.int .i64 q.y) ∧ W2.cell? ⟨w.heap.size + 1, 2, none⟩ = some (.bool q.f) ∧ W2.cell? ⟨w.heap.size + 1 + 1, 0, none⟩ = some (.int .i64 r.x) ∧ W2.cell? ⟨w.heap.size + 1 + 1, 1, none⟩ = some (.int .i64 r.y) ∧ W2.cell? ⟨w.heap.size + 1 + 1, 2, none⟩ = some (.bool r.f) ∧ BelF W0.heap.size W0 W2 from ⟨cell_later h.1 hb, cell_later h.2.1 hb, cell_later h.2.2.1 hb, cell_later h.2.2.2.1 hb, cell_later h.2.2.2.2.1 hb, cell_later h.2.2.2.2.2.1 hb, cell_later h.2.2.2.2.2.2.1 hb, cell_later h.2.2.2.2.2.2.2.1 hb, cell_later h.2.2.2.2.2.2.2.2.1 hb, h.2.2.2.2.2.2.2.2.2.next hb⟩))
  have HBS := Lib.hid (fun (W1 : World) (h : W1.cell? ⟨w.heap.size, 0, none⟩ = some (.int .i64 (N : Int)) ∧ W1.cell? ⟨w.heap.size, 1, none⟩ = some (.int .i64 A) ∧ W1.cell? ⟨w.heap.size, 2, none⟩ = some (.int .i64 B) ∧ W1.cell? ⟨w.heap.size + 1, 0, none⟩ = some (.int .i64 q.x) ∧ W1.cell? ⟨w.heap.size + 1, 1, none⟩ = some (.int .i64 q.y) ∧ W1.cell? ⟨w.heap.size + 1, 2, none⟩ = some (.bool q.f) ∧ W1.cell? ⟨w.heap.size + 1 + 1, 0, none⟩ = some (.int .i64 r.x) ∧ W1.cell? ⟨w.heap.size + 1 + 1, 1, none⟩ = some (.int .i64 r.y) ∧ W1.cell? ⟨w.heap.size + 1 + 1, 2, none⟩ = some (.bool r.f) ∧ BelF W0.heap.size W0 W1) => (show Below W0.heap.size W0 W1 from h.2.2.2.2.2.2.2.2.2.to))
  have HS0 := Lib.hid (show W0.cell? ⟨w.heap.size, 0, none⟩ = some (.int .i64 (N : Int)) ∧ W0.cell? ⟨w.heap.size, 1, none⟩ = some (.int .i64 A) ∧ W0.cell? ⟨w.heap.size, 2, none⟩ = some (.int .i64 B) ∧ W0.cell? ⟨w.heap.size + 1, 0, none⟩ = some (.int .i64 q.x) ∧ W0.cell? ⟨w.heap.size + 1, 1, none⟩ = some (.int .i64 q.y) ∧ W0.cell? ⟨w.heap.size + 1, 2, none⟩ = some (.bool q.f) ∧ W0.cell? ⟨w.heap.size + 1 + 1, 0, none⟩ = some (.int .i64 r.x) ∧ W0.cell? ⟨w.heap.size + 1 + 1, 1, none⟩ = some (.int .i64 r.y) ∧ W0.cell? ⟨w.heap.size + 1 + 1, 2, none⟩ = some (.bool r.f) ∧ BelF W0.heap.size W0 W0 from ⟨hc.1, hc.2.1, hc.2.2, hd.1, hd.2.1, hd.2.2, he.1, he.2.1, he.2.2, BelF.begin W0⟩)
  obtain ⟨c0, c1, c2⟩ := hc
  obtain ⟨d0, d1, d2⟩ := hd
  obtain ⟨e0, e1, e2⟩ := he
  clear hv hF hb3 hsz hfi hfin hq hr ho hn hl hm
  go_enter Tryd.func6, Tryd.ntmps6
  go_wp2
  go_region_held3 (fun W => W.cell? ⟨w.heap.size, 0, none⟩ = some (.int .i64 (N : Int)) ∧ W.cell? ⟨w.heap.size, 1, none⟩ = some (.int .i64 A) ∧ W.cell? ⟨w.heap.size, 2, none⟩ = some (.int .i64 B) ∧ W.cell? ⟨w.heap.size + 1, 0, none⟩ = some (.int .i64 q.x) ∧ W.cell? ⟨w.heap.size + 1, 1, none⟩ = some (.int .i64 q.y) ∧ W.cell? ⟨w.heap.size + 1, 2, none⟩ = some (.bool q.f) ∧ W.cell? ⟨w.heap.size + 1 + 1, 0, none⟩ = some (.int .i64 r.x) ∧ W.cell? ⟨w.heap.size + 1 + 1, 1, none⟩ = some (.int .i64 r.y) ∧ W.cell? ⟨w.heap.size + 1 + 1, 2, none⟩ = some (.bool r.f) ∧ BelF W0.heap.size W0 W)
    (first | exact HS0.out | exact HN.out _ _ hbf (by assumption) | exact HN.out _ _ (drew_below _) (by assumption) | exact HN.out _ _ (drew_below _) HS0.out)
    ((first
      | (go_at_call 18; refine (Of_any _ _ _ _).mono ?_; rintro e wx ⟨rfl, hbf⟩)
      | (go_at_call 20; refine (at_any _ _).mono ?_; rintro e wx ⟨rfl, hbf⟩)
      | (go_at_call 40; refine (HLog.out _ (HFa.out.below (HBS.out _ (by assumption)))).mono ?_; rintro e wx ⟨rfl, hbf⟩)))
  all_goals
    refine at_world (S := fun W => W.cell? ⟨w.heap.size, 0, none⟩ = some (.int .i64 (N : Int)) ∧ W.cell? ⟨w.heap.size, 1, none⟩ = some (.int .i64 A) ∧ W.cell? ⟨w.heap.size, 2, none⟩ = some (.int .i64 B) ∧ W.cell? ⟨w.heap.size + 1, 0, none⟩ = some (.int .i64 q.x) ∧ W.cell? ⟨w.heap.size + 1, 1, none⟩ = some (.int .i64 q.y) ∧ W.cell? ⟨w.heap.size + 1, 2, none⟩ = some (.bool q.f) ∧ W.cell? ⟨w.heap.size + 1 + 1, 0, none⟩ = some (.int .i64 r.x) ∧ W.cell? ⟨w.heap.size + 1 + 1, 1, none⟩ = some (.int .i64 r.y) ∧ W.cell? ⟨w.heap.size + 1 + 1, 2, none⟩ = some (.bool r.f) ∧ BelF W0.heap.size W0 W) (G := fun W => Exit.then _ _ _ _ W) (by assumption) ?_
    intro w3 hS
    clear c0 c1 c2 d0 d1 d2 e0 e1 e2
    obtain ⟨c0, c1, c2, d0, d1, d2, e0, e1, e2, hs3⟩ := hS
    have hb3 := hs3.to
    have HB3 := Lib.hid (HB.out.trans (hb3.mono HB.out.size))
    have HF3 := Lib.hid (HFa.out.below hb3)
    have HC3 := Lib.hid (show C3 w.heap.size (.int .i64 (N : Int)) (.int .i64 A) (.int .i64 B) w3 from ⟨c0, c1, c2⟩)
    have HD3 := Lib.hid (show C3 (w.heap.size + 1) (.int .i64 q.x) (.int .i64 q.y) (.bool q.f) w3 from ⟨d0, d1, d2⟩)
    have HE3 := Lib.hid (show C3 (w.heap.size + 1 + 1) (.int .i64 r.x) (.int .i64 r.y) (.bool r.f) w3 from ⟨e0, e1, e2⟩)
    clear hs3 hb3 hW0
    go_wp2_with fail
    refine (Of_any _ _ _ _).mono ?_
    rintro e w4 ⟨rfl, hb⟩
    have HB4 := Lib.hid (HB3.out.trans (hb.mono HB3.out.size))
    have HF4 := Lib.hid (HF3.out.below hb)
    have HC4 := Lib.hid (HC3.out.later hb)
    have HD4 := Lib.hid (HD3.out.later hb)
    have HE4 := Lib.hid (HE3.out.later hb)
    clear hb
    go_wp2_with fail
    refine (HTor.out _ HF4.out).mono ?_
    rintro e w5 ⟨rfl, hb⟩
    have HB5 := Lib.hid (HB4.out.trans (hb.mono HB4.out.size))
    have HF5 := Lib.hid (HF4.out.below hb)
    have HC5 := Lib.hid (HC4.out.later hb)
    have HD5 := Lib.hid (HD4.out.later hb)
    have HE5 := Lib.hid (HE4.out.later hb)
    clear hb c0 c1 c2 d0 d1 d2 e0 e1 e2
    obtain ⟨c0, c1, c2⟩ := HC5.out
    go_wp2_with fail
    refine (HVR.out _).mono ?_
    rintro e w6 ⟨rfl, hb⟩
    have HB6 := Lib.hid (HB5.out.trans (hb.mono HB5.out.size))
    have HF6 := Lib.hid (HF5.out.below hb)
    have HC6 := Lib.hid (HC5.out.later hb)
    have HD6 := Lib.hid (HD5.out.later hb)
    have HE6 := Lib.hid (HE5.out.later hb)
    clear hb c0 c1 c2
    obtain ⟨c0, c1, c2⟩ := HC6.out
    obtain ⟨d0, d1, d2⟩ := HD6.out
    obtain ⟨e0, e1, e2⟩ := HE6.out
    have hbs := below1 w6 (.cells #[.int .i64 q.x, .int .i64 q.y, .bool q.f, .int .i64 r.x, .int .i64 r.y, .bool r.f] 25)
    have HFQ := Lib.hid (HFI.out (some ⟨w6.heap.size, 0, none⟩) 2 2 _ (agp_two w6 q r 25) (by omega))
    have HBs := Lib.hid (HB6.out.trans (hbs.mono HB6.out.size))
    have HFs := Lib.hid (HF6.out.below hbs)
    have HCs := Lib.hid (HC6.out.later hbs)
    have HDs := Lib.hid (HD6.out.later hbs)
    have HEs := Lib.hid (HE6.out.later hbs)
    clear hbs
    go_wp2_with fail
    refine HFQ.out.mono ?_
    rintro e w8 ⟨rfl, hb⟩
    have HB8 := Lib.hid (HBs.out.trans (hb.mono HBs.out.size))
    have HF8 := Lib.hid (HFs.out.below hb)
    clear c0 c1 c2 d0 d1 d2 e0 e1 e2
    obtain ⟨c0, c1, c2⟩ := HCs.out.later hb
    obtain ⟨d0, d1, d2⟩ := HDs.out.later hb
    obtain ⟨e0, e1, e2⟩ := HEs.out.later hb
    clear hb
    go_wp2_with fail
    refine (HLogR.out _).mono ?_
    rintro e w9 ⟨rfl, hb⟩
    have HB9 := Lib.hid (HB8.out.trans (hb.mono HB8.out.size))
    have HF9 := Lib.hid (HF8.out.below hb)
    clear hb c0 c1 c2 d0 d1 d2 e0 e1 e2
    go_wp2_with fail
    refine (HAw.out _ HF9.out).mono ?_
    rintro e w10 ⟨rfl, hb⟩
    have HB10 := Lib.hid (HB9.out.trans (hb.mono HB9.out.size))
    clear hb
    go_wp2
    go_ret
    exact ⟨ret_bool (by simp), HB10.out⟩

set_option maxHeartbeats 8000000 in
set_option maxRecDepth 100000 in
theorem lawLogs_b0 (N : Nat) (A B k : Int) (q r : Pt) (hv : vB N A B = true) (hk : ¬ k < 1) (hk2 : 50 < k) (hfin : (onB (N : Int) A B q && onB (N : Int) A B r) = false) (w : World) (hF : Far w) :
    Calls Tryd.prog 6 #[.agg #[.int .i64 (N : Int), .int .i64 A, .int .i64 B], .agg #[.int .i64 q.x, .int .i64 q.y, .bool q.f], .agg #[.int .i64 r.x, .int .i64 r.y, .bool r.f], .int .i64 k] w fun e w' => e = .returned (.bool true) ∧ Below w.heap.size w w' := by
  have hb3 := below3 w (.cells #[.int .i64 (N : Int), .int .i64 A, .int .i64 B] 23) (.cells #[.int .i64 q.x, .int .i64 q.y, .bool q.f] 25) (.cells #[.int .i64 r.x, .int .i64 r.y, .bool r.f] 25)
  obtain ⟨W0, hW0⟩ : ∃ W0, ((w.alloc (.cells #[.int .i64 (N : Int), .int .i64 A, .int .i64 B] 23)).alloc (.cells #[.int .i64 q.x, .int .i64 q.y, .bool q.f] 25)).alloc (.cells #[.int .i64 r.x, .int .i64 r.y, .bool r.f] 25) = W0 := ⟨_, rfl⟩
  obtain ⟨hc, hd, he, -, hsz⟩ := blocks3 w _ _ _ _ _ _ _ _ _ _ _ _ W0 hW0.symm
  rw [hW0] at hb3
  have HB := Lib.hid hb3
  have HFa := Lib.hid (hF.below hb3)
  have HAw := Lib.hid (fun W hF => awake_any W hF)
  have HVR := Lib.hid (fun W => validR_any (N : Int) A B W)
  have HFI := Lib.hid (fun a n c W h hn => fine_any (N : Int) A B a n c [q, r] W h hn)
  have hfi : (vB (N : Int) A B && [q, r].all (onB (N : Int) A B)) = false := by rw [hv]; simpa using hfin
  have HLog := Lib.hid (fun W hF => Log_no (N : Int) A B q r (by rw [hv]; simpa using hfin) W hF)
  have HTor := Lib.hid (fun W hF => Torsion_no2 (N : Int) A B k hv hk hk2 W hF)
  have g1 : decide (k < 1) = false := decide_eq_false hk
  have g2 : decide (50 < k) = true := decide_eq_true hk2
  rw [hfi] at HFI
  rw [hv] at HVR
  have HN := Lib.hid (fun (W1 W2 : World) (hb : Below W1.heap.size W1 W2) (h : W1.cell? ⟨w.heap.size, 0, none⟩ = some (.int .i64 (N : Int)) ∧ W1.cell? ⟨w.heap.size, 1, none⟩ = some (.int .i64 A) ∧ W1.cell? ⟨w.heap.size, 2, none⟩ = some (.int .i64 B) ∧ W1.cell? ⟨w.heap.size + 1, 0, none⟩ = some (.int .i64 q.x) ∧ W1.cell? ⟨w.heap.size + 1, 1, none⟩ = some (.int .i64 q.y) ∧ W1.cell? ⟨w.heap.size + 1, 2, none⟩ = some (.bool q.f) ∧ W1.cell? ⟨w.heap.size + 1 + 1, 0, none⟩ = some (.int .i64 r.x) ∧ W1.cell? ⟨w.heap.size + 1 + 1, 1, none⟩ = some (.int .i64 r.y) ∧ W1.cell? ⟨w.heap.size + 1 + 1, 2, none⟩ = some (.bool r.f) ∧ BelF W0.heap.size W0 W1) => (show W2.cell? ⟨w.heap.size, 0, none⟩ = some (.int .i64 (N : Int)) ∧ W2.cell? ⟨w.heap.size, 1, none⟩ = some (.int .i64 A) ∧ W2.cell? ⟨w.heap.size, 2, none⟩ = some (.int .i64 B) ∧ W2.cell? ⟨w.heap.size + 1, 0, none⟩ = some (.int .i64 q.x) ∧ W2.cell? ⟨w.heap.size + 1, 1, none⟩ = some (.int .i64 q.y) ∧ W2.cell? ⟨w.heap.size + 1, 2, none⟩ = some (.bool q.f) ∧ W2.cell? ⟨w.heap.size + 1 + 1, 0, none⟩ = some (.int .i64 r.x) ∧ W2.cell? ⟨w.heap.size + 1 + 1, 1, none⟩ = some (.int .i64 r.y) ∧ W2.cell? ⟨w.heap.size + 1 + 1, 2, none⟩ = some (.bool r.f) ∧ BelF W0.heap.size W0 W2 from ⟨cell_later h.1 hb, cell_later h.2.1 hb, cell_later h.2.2.1 hb, cell_later h.2.2.2.1 hb, cell_later h.2.2.2.2.1 hb, cell_later h.2.2.2.2.2.1 hb, cell_later h.2.2.2.2.2.2.1 hb, cell_later h.2.2.2.2.2.2.2.1 hb, cell_later h.2.2.2.2.2.2.2.2.1 hb, h.2.2.2.2.2.2.2.2.2.next hb⟩))
  have HBS := Lib.hid (fun (W1 : World) (h : W1.cell? ⟨w.heap.size, 0, none⟩ = some (.int .i64 (N : Int)) ∧ W1.cell? ⟨w.heap.size, 1, none⟩ = some (.int .i64 A) ∧ W1.cell? ⟨w.heap.size, 2, none⟩ = some (.int .i64 B) ∧ W1.cell? ⟨w.heap.size + 1, 0, none⟩ = some (.int .i64 q.x) ∧ W1.cell? ⟨w.heap.size + 1, 1, none⟩ = some (.int .i64 q.y) ∧ W1.cell? ⟨w.heap.size + 1, 2, none⟩ = some (.bool q.f) ∧ W1.cell? ⟨w.heap.size + 1 + 1, 0, none⟩ = some (.int .i64 r.x) ∧ W1.cell? ⟨w.heap.size + 1 + 1, 1, none⟩ = some (.int .i64 r.y) ∧ W1.cell? ⟨w.heap.size + 1 + 1, 2, none⟩ = some (.bool r.f) ∧ BelF W0.heap.size W0 W1) => (show Below W0.heap.size W0 W1 from h.2.2.2.2.2.2.2.2.2.to))
  have HS0 := Lib.hid (show W0.cell? ⟨w.heap.size, 0, none⟩ = some (.int .i64 (N : Int)) ∧ W0.cell? ⟨w.heap.size, 1, none⟩ = some (.int .i64 A) ∧ W0.cell? ⟨w.heap.size, 2, none⟩ = some (.int .i64 B) ∧ W0.cell? ⟨w.heap.size + 1, 0, none⟩ = some (.int .i64 q.x) ∧ W0.cell? ⟨w.heap.size + 1, 1, none⟩ = some (.int .i64 q.y) ∧ W0.cell? ⟨w.heap.size + 1, 2, none⟩ = some (.bool q.f) ∧ W0.cell? ⟨w.heap.size + 1 + 1, 0, none⟩ = some (.int .i64 r.x) ∧ W0.cell? ⟨w.heap.size + 1 + 1, 1, none⟩ = some (.int .i64 r.y) ∧ W0.cell? ⟨w.heap.size + 1 + 1, 2, none⟩ = some (.bool r.f) ∧ BelF W0.heap.size W0 W0 from ⟨hc.1, hc.2.1, hc.2.2, hd.1, hd.2.1, hd.2.2, he.1, he.2.1, he.2.2, BelF.begin W0⟩)
  obtain ⟨c0, c1, c2⟩ := hc
  obtain ⟨d0, d1, d2⟩ := hd
  obtain ⟨e0, e1, e2⟩ := he
  clear hv hF hb3 hsz hfi hfin
  go_enter Tryd.func6, Tryd.ntmps6
  go_wp2
  go_region_held3 (fun W => W.cell? ⟨w.heap.size, 0, none⟩ = some (.int .i64 (N : Int)) ∧ W.cell? ⟨w.heap.size, 1, none⟩ = some (.int .i64 A) ∧ W.cell? ⟨w.heap.size, 2, none⟩ = some (.int .i64 B) ∧ W.cell? ⟨w.heap.size + 1, 0, none⟩ = some (.int .i64 q.x) ∧ W.cell? ⟨w.heap.size + 1, 1, none⟩ = some (.int .i64 q.y) ∧ W.cell? ⟨w.heap.size + 1, 2, none⟩ = some (.bool q.f) ∧ W.cell? ⟨w.heap.size + 1 + 1, 0, none⟩ = some (.int .i64 r.x) ∧ W.cell? ⟨w.heap.size + 1 + 1, 1, none⟩ = some (.int .i64 r.y) ∧ W.cell? ⟨w.heap.size + 1 + 1, 2, none⟩ = some (.bool r.f) ∧ BelF W0.heap.size W0 W)
    (first | exact HS0.out | exact HN.out _ _ hbf (by assumption) | exact HN.out _ _ (drew_below _) (by assumption) | exact HN.out _ _ (drew_below _) HS0.out)
    ((first
      | (go_at_call 18; refine (Of_any _ _ _ _).mono ?_; rintro e wx ⟨rfl, hbf⟩)
      | (go_at_call 20; refine (at_any _ _).mono ?_; rintro e wx ⟨rfl, hbf⟩)
      | (go_at_call 40; refine (HLog.out _ (HFa.out.below (HBS.out _ (by assumption)))).mono ?_; rintro e wx ⟨rfl, hbf⟩)))
  all_goals
    refine at_world (S := fun W => W.cell? ⟨w.heap.size, 0, none⟩ = some (.int .i64 (N : Int)) ∧ W.cell? ⟨w.heap.size, 1, none⟩ = some (.int .i64 A) ∧ W.cell? ⟨w.heap.size, 2, none⟩ = some (.int .i64 B) ∧ W.cell? ⟨w.heap.size + 1, 0, none⟩ = some (.int .i64 q.x) ∧ W.cell? ⟨w.heap.size + 1, 1, none⟩ = some (.int .i64 q.y) ∧ W.cell? ⟨w.heap.size + 1, 2, none⟩ = some (.bool q.f) ∧ W.cell? ⟨w.heap.size + 1 + 1, 0, none⟩ = some (.int .i64 r.x) ∧ W.cell? ⟨w.heap.size + 1 + 1, 1, none⟩ = some (.int .i64 r.y) ∧ W.cell? ⟨w.heap.size + 1 + 1, 2, none⟩ = some (.bool r.f) ∧ BelF W0.heap.size W0 W) (G := fun W => Exit.then _ _ _ _ W) (by assumption) ?_
    intro w3 hS
    clear c0 c1 c2 d0 d1 d2 e0 e1 e2
    obtain ⟨c0, c1, c2, d0, d1, d2, e0, e1, e2, hs3⟩ := hS
    have hb3 := hs3.to
    have HB3 := Lib.hid (HB.out.trans (hb3.mono HB.out.size))
    have HF3 := Lib.hid (HFa.out.below hb3)
    have HC3 := Lib.hid (show C3 w.heap.size (.int .i64 (N : Int)) (.int .i64 A) (.int .i64 B) w3 from ⟨c0, c1, c2⟩)
    have HD3 := Lib.hid (show C3 (w.heap.size + 1) (.int .i64 q.x) (.int .i64 q.y) (.bool q.f) w3 from ⟨d0, d1, d2⟩)
    have HE3 := Lib.hid (show C3 (w.heap.size + 1 + 1) (.int .i64 r.x) (.int .i64 r.y) (.bool r.f) w3 from ⟨e0, e1, e2⟩)
    clear hs3 hb3 hW0
    go_wp2_with fail
    refine (Of_any _ _ _ _).mono ?_
    rintro e w4 ⟨rfl, hb⟩
    have HB4 := Lib.hid (HB3.out.trans (hb.mono HB3.out.size))
    have HF4 := Lib.hid (HF3.out.below hb)
    have HC4 := Lib.hid (HC3.out.later hb)
    have HD4 := Lib.hid (HD3.out.later hb)
    have HE4 := Lib.hid (HE3.out.later hb)
    clear hb
    go_wp2_with fail
    refine (HTor.out _ HF4.out).mono ?_
    rintro e w5 ⟨rfl, hb⟩
    have HB5 := Lib.hid (HB4.out.trans (hb.mono HB4.out.size))
    have HF5 := Lib.hid (HF4.out.below hb)
    have HC5 := Lib.hid (HC4.out.later hb)
    have HD5 := Lib.hid (HD4.out.later hb)
    have HE5 := Lib.hid (HE4.out.later hb)
    clear hb c0 c1 c2 d0 d1 d2 e0 e1 e2
    obtain ⟨c0, c1, c2⟩ := HC5.out
    go_wp2_with fail
    refine (HVR.out _).mono ?_
    rintro e w6 ⟨rfl, hb⟩
    have HB6 := Lib.hid (HB5.out.trans (hb.mono HB5.out.size))
    have HF6 := Lib.hid (HF5.out.below hb)
    have HC6 := Lib.hid (HC5.out.later hb)
    have HD6 := Lib.hid (HD5.out.later hb)
    have HE6 := Lib.hid (HE5.out.later hb)
    clear hb c0 c1 c2
    obtain ⟨c0, c1, c2⟩ := HC6.out
    obtain ⟨d0, d1, d2⟩ := HD6.out
    obtain ⟨e0, e1, e2⟩ := HE6.out
    have hbs := below1 w6 (.cells #[.int .i64 q.x, .int .i64 q.y, .bool q.f, .int .i64 r.x, .int .i64 r.y, .bool r.f] 25)
    have HFQ := Lib.hid (HFI.out (some ⟨w6.heap.size, 0, none⟩) 2 2 _ (agp_two w6 q r 25) (by omega))
    have HBs := Lib.hid (HB6.out.trans (hbs.mono HB6.out.size))
    have HFs := Lib.hid (HF6.out.below hbs)
    have HCs := Lib.hid (HC6.out.later hbs)
    have HDs := Lib.hid (HD6.out.later hbs)
    have HEs := Lib.hid (HE6.out.later hbs)
    clear hbs
    go_wp2_with fail
    refine HFQ.out.mono ?_
    rintro e w8 ⟨rfl, hb⟩
    have HB8 := Lib.hid (HBs.out.trans (hb.mono HBs.out.size))
    have HF8 := Lib.hid (HFs.out.below hb)
    clear hb c0 c1 c2 d0 d1 d2 e0 e1 e2
    go_wp2_with fail
    refine (HAw.out _ HF8.out).mono ?_
    rintro e w9 ⟨rfl, hb⟩
    have HB9 := Lib.hid (HB8.out.trans (hb.mono HB8.out.size))
    clear hb
    go_wp2
    go_ret
    exact ⟨ret_bool (by simp), HB9.out⟩

set_option maxHeartbeats 8000000 in
set_option maxRecDepth 100000 in
theorem lawLogs_b1 (N : Nat) (A B k : Int) (q r : Pt) (hv : vB N A B = true) (hk : ¬ k < 1) (hk2 : 50 < k) (hfin : (onB (N : Int) A B q && onB (N : Int) A B r) = true) (w : World) (hF : Far w) :
    Calls Tryd.prog 6 #[.agg #[.int .i64 (N : Int), .int .i64 A, .int .i64 B], .agg #[.int .i64 q.x, .int .i64 q.y, .bool q.f], .agg #[.int .i64 r.x, .int .i64 r.y, .bool r.f], .int .i64 k] w fun e w' => e = .returned (.bool true) ∧ Below w.heap.size w w' := by
  have hb3 := below3 w (.cells #[.int .i64 (N : Int), .int .i64 A, .int .i64 B] 23) (.cells #[.int .i64 q.x, .int .i64 q.y, .bool q.f] 25) (.cells #[.int .i64 r.x, .int .i64 r.y, .bool r.f] 25)
  obtain ⟨W0, hW0⟩ : ∃ W0, ((w.alloc (.cells #[.int .i64 (N : Int), .int .i64 A, .int .i64 B] 23)).alloc (.cells #[.int .i64 q.x, .int .i64 q.y, .bool q.f] 25)).alloc (.cells #[.int .i64 r.x, .int .i64 r.y, .bool r.f] 25) = W0 := ⟨_, rfl⟩
  obtain ⟨hc, hd, he, -, hsz⟩ := blocks3 w _ _ _ _ _ _ _ _ _ _ _ _ W0 hW0.symm
  rw [hW0] at hb3
  have HB := Lib.hid hb3
  have HFa := Lib.hid (hF.below hb3)
  have HAw := Lib.hid (fun W hF => awake_any W hF)
  have HVR := Lib.hid (fun W => validR_any (N : Int) A B W)
  have HFI := Lib.hid (fun a n c W h hn => fine_any (N : Int) A B a n c [q, r] W h hn)
  have hfi : (vB (N : Int) A B && [q, r].all (onB (N : Int) A B)) = true := by rw [hv]; simpa using hfin
  have hq : onB (N : Int) A B q = true := by simp at hfin; exact hfin.1
  have hr : onB (N : Int) A B r = true := by simp at hfin; exact hfin.2
  obtain ⟨n, ho, hn⟩ := ord_ex (vB_iff.1 hv).1 (vB_iff.1 hv).2.2.2 hq
  obtain ⟨v, hl⟩ := idx_ex (mulL (N : Int) A q n) r
  obtain ⟨m, E, hm⟩ : ∃ m E : Int, (v = -1 ∧ m = 0 ∧ E = 4) ∨ (0 ≤ v ∧ m = v ∧ E = 0) := by
    rcases hl with ⟨i, rfl, -⟩ | ⟨rfl, -⟩
    · exact ⟨_, 0, .inr ⟨by omega, rfl, rfl⟩⟩
    · exact ⟨0, 4, .inl ⟨rfl, rfl, rfl⟩⟩
  have HLog := Lib.hid (fun W hF => Log_yes (N : Int) A B q r n v m E hv hq hr ho hn hl hm W hF)
  have HLogR := Lib.hid (fun W => logR_any (N : Int) A B q r n v m E hv hq ho hn hl hm W)
  have HTor := Lib.hid (fun W hF => Torsion_no2 (N : Int) A B k hv hk hk2 W hF)
  have g1 : decide (k < 1) = false := decide_eq_false hk
  have g2 : decide (50 < k) = true := decide_eq_true hk2
  rw [hfi] at HFI
  rw [hv] at HVR
  have HN := Lib.hid (fun (W1 W2 : World) (hb : Below W1.heap.size W1 W2) (h : W1.cell? ⟨w.heap.size, 0, none⟩ = some (.int .i64 (N : Int)) ∧ W1.cell? ⟨w.heap.size, 1, none⟩ = some (.int .i64 A) ∧ W1.cell? ⟨w.heap.size, 2, none⟩ = some (.int .i64 B) ∧ W1.cell? ⟨w.heap.size + 1, 0, none⟩ = some (.int .i64 q.x) ∧ W1.cell? ⟨w.heap.size + 1, 1, none⟩ = some (.int .i64 q.y) ∧ W1.cell? ⟨w.heap.size + 1, 2, none⟩ = some (.bool q.f) ∧ W1.cell? ⟨w.heap.size + 1 + 1, 0, none⟩ = some (.int .i64 r.x) ∧ W1.cell? ⟨w.heap.size + 1 + 1, 1, none⟩ = some (.int .i64 r.y) ∧ W1.cell? ⟨w.heap.size + 1 + 1, 2, none⟩ = some (.bool r.f) ∧ BelF W0.heap.size W0 W1) => (show W2.cell? ⟨w.heap.size, 0, none⟩ = some (.int .i64 (N : Int)) ∧ W2.cell? ⟨w.heap.size, 1, none⟩ = some (.int .i64 A) ∧ W2.cell? ⟨w.heap.size, 2, none⟩ = some (.int .i64 B) ∧ W2.cell? ⟨w.heap.size + 1, 0, none⟩ = some (.int .i64 q.x) ∧ W2.cell? ⟨w.heap.size + 1, 1, none⟩ = some (.int .i64 q.y) ∧ W2.cell? ⟨w.heap.size + 1, 2, none⟩ = some (.bool q.f) ∧ W2.cell? ⟨w.heap.size + 1 + 1, 0, none⟩ = some (.int .i64 r.x) ∧ W2.cell? ⟨w.heap.size + 1 + 1, 1, none⟩ = some (.int .i64 r.y) ∧ W2.cell? ⟨w.heap.size + 1 + 1, 2, none⟩ = some (.bool r.f) ∧ BelF W0.heap.size W0 W2 from ⟨cell_later h.1 hb, cell_later h.2.1 hb, cell_later h.2.2.1 hb, cell_later h.2.2.2.1 hb, cell_later h.2.2.2.2.1 hb, cell_later h.2.2.2.2.2.1 hb, cell_later h.2.2.2.2.2.2.1 hb, cell_later h.2.2.2.2.2.2.2.1 hb, cell_later h.2.2.2.2.2.2.2.2.1 hb, h.2.2.2.2.2.2.2.2.2.next hb⟩))
  have HBS := Lib.hid (fun (W1 : World) (h : W1.cell? ⟨w.heap.size, 0, none⟩ = some (.int .i64 (N : Int)) ∧ W1.cell? ⟨w.heap.size, 1, none⟩ = some (.int .i64 A) ∧ W1.cell? ⟨w.heap.size, 2, none⟩ = some (.int .i64 B) ∧ W1.cell? ⟨w.heap.size + 1, 0, none⟩ = some (.int .i64 q.x) ∧ W1.cell? ⟨w.heap.size + 1, 1, none⟩ = some (.int .i64 q.y) ∧ W1.cell? ⟨w.heap.size + 1, 2, none⟩ = some (.bool q.f) ∧ W1.cell? ⟨w.heap.size + 1 + 1, 0, none⟩ = some (.int .i64 r.x) ∧ W1.cell? ⟨w.heap.size + 1 + 1, 1, none⟩ = some (.int .i64 r.y) ∧ W1.cell? ⟨w.heap.size + 1 + 1, 2, none⟩ = some (.bool r.f) ∧ BelF W0.heap.size W0 W1) => (show Below W0.heap.size W0 W1 from h.2.2.2.2.2.2.2.2.2.to))
  have HS0 := Lib.hid (show W0.cell? ⟨w.heap.size, 0, none⟩ = some (.int .i64 (N : Int)) ∧ W0.cell? ⟨w.heap.size, 1, none⟩ = some (.int .i64 A) ∧ W0.cell? ⟨w.heap.size, 2, none⟩ = some (.int .i64 B) ∧ W0.cell? ⟨w.heap.size + 1, 0, none⟩ = some (.int .i64 q.x) ∧ W0.cell? ⟨w.heap.size + 1, 1, none⟩ = some (.int .i64 q.y) ∧ W0.cell? ⟨w.heap.size + 1, 2, none⟩ = some (.bool q.f) ∧ W0.cell? ⟨w.heap.size + 1 + 1, 0, none⟩ = some (.int .i64 r.x) ∧ W0.cell? ⟨w.heap.size + 1 + 1, 1, none⟩ = some (.int .i64 r.y) ∧ W0.cell? ⟨w.heap.size + 1 + 1, 2, none⟩ = some (.bool r.f) ∧ BelF W0.heap.size W0 W0 from ⟨hc.1, hc.2.1, hc.2.2, hd.1, hd.2.1, hd.2.2, he.1, he.2.1, he.2.2, BelF.begin W0⟩)
  obtain ⟨c0, c1, c2⟩ := hc
  obtain ⟨d0, d1, d2⟩ := hd
  obtain ⟨e0, e1, e2⟩ := he
  clear hv hF hb3 hsz hfi hfin hq hr ho hn hl hm
  go_enter Tryd.func6, Tryd.ntmps6
  go_wp2
  go_region_held3 (fun W => W.cell? ⟨w.heap.size, 0, none⟩ = some (.int .i64 (N : Int)) ∧ W.cell? ⟨w.heap.size, 1, none⟩ = some (.int .i64 A) ∧ W.cell? ⟨w.heap.size, 2, none⟩ = some (.int .i64 B) ∧ W.cell? ⟨w.heap.size + 1, 0, none⟩ = some (.int .i64 q.x) ∧ W.cell? ⟨w.heap.size + 1, 1, none⟩ = some (.int .i64 q.y) ∧ W.cell? ⟨w.heap.size + 1, 2, none⟩ = some (.bool q.f) ∧ W.cell? ⟨w.heap.size + 1 + 1, 0, none⟩ = some (.int .i64 r.x) ∧ W.cell? ⟨w.heap.size + 1 + 1, 1, none⟩ = some (.int .i64 r.y) ∧ W.cell? ⟨w.heap.size + 1 + 1, 2, none⟩ = some (.bool r.f) ∧ BelF W0.heap.size W0 W)
    (first | exact HS0.out | exact HN.out _ _ hbf (by assumption) | exact HN.out _ _ (drew_below _) (by assumption) | exact HN.out _ _ (drew_below _) HS0.out)
    ((first
      | (go_at_call 18; refine (Of_any _ _ _ _).mono ?_; rintro e wx ⟨rfl, hbf⟩)
      | (go_at_call 20; refine (at_any _ _).mono ?_; rintro e wx ⟨rfl, hbf⟩)
      | (go_at_call 40; refine (HLog.out _ (HFa.out.below (HBS.out _ (by assumption)))).mono ?_; rintro e wx ⟨rfl, hbf⟩)))
  all_goals
    refine at_world (S := fun W => W.cell? ⟨w.heap.size, 0, none⟩ = some (.int .i64 (N : Int)) ∧ W.cell? ⟨w.heap.size, 1, none⟩ = some (.int .i64 A) ∧ W.cell? ⟨w.heap.size, 2, none⟩ = some (.int .i64 B) ∧ W.cell? ⟨w.heap.size + 1, 0, none⟩ = some (.int .i64 q.x) ∧ W.cell? ⟨w.heap.size + 1, 1, none⟩ = some (.int .i64 q.y) ∧ W.cell? ⟨w.heap.size + 1, 2, none⟩ = some (.bool q.f) ∧ W.cell? ⟨w.heap.size + 1 + 1, 0, none⟩ = some (.int .i64 r.x) ∧ W.cell? ⟨w.heap.size + 1 + 1, 1, none⟩ = some (.int .i64 r.y) ∧ W.cell? ⟨w.heap.size + 1 + 1, 2, none⟩ = some (.bool r.f) ∧ BelF W0.heap.size W0 W) (G := fun W => Exit.then _ _ _ _ W) (by assumption) ?_
    intro w3 hS
    clear c0 c1 c2 d0 d1 d2 e0 e1 e2
    obtain ⟨c0, c1, c2, d0, d1, d2, e0, e1, e2, hs3⟩ := hS
    have hb3 := hs3.to
    have HB3 := Lib.hid (HB.out.trans (hb3.mono HB.out.size))
    have HF3 := Lib.hid (HFa.out.below hb3)
    have HC3 := Lib.hid (show C3 w.heap.size (.int .i64 (N : Int)) (.int .i64 A) (.int .i64 B) w3 from ⟨c0, c1, c2⟩)
    have HD3 := Lib.hid (show C3 (w.heap.size + 1) (.int .i64 q.x) (.int .i64 q.y) (.bool q.f) w3 from ⟨d0, d1, d2⟩)
    have HE3 := Lib.hid (show C3 (w.heap.size + 1 + 1) (.int .i64 r.x) (.int .i64 r.y) (.bool r.f) w3 from ⟨e0, e1, e2⟩)
    clear hs3 hb3 hW0
    go_wp2_with fail
    refine (Of_any _ _ _ _).mono ?_
    rintro e w4 ⟨rfl, hb⟩
    have HB4 := Lib.hid (HB3.out.trans (hb.mono HB3.out.size))
    have HF4 := Lib.hid (HF3.out.below hb)
    have HC4 := Lib.hid (HC3.out.later hb)
    have HD4 := Lib.hid (HD3.out.later hb)
    have HE4 := Lib.hid (HE3.out.later hb)
    clear hb
    go_wp2_with fail
    refine (HTor.out _ HF4.out).mono ?_
    rintro e w5 ⟨rfl, hb⟩
    have HB5 := Lib.hid (HB4.out.trans (hb.mono HB4.out.size))
    have HF5 := Lib.hid (HF4.out.below hb)
    have HC5 := Lib.hid (HC4.out.later hb)
    have HD5 := Lib.hid (HD4.out.later hb)
    have HE5 := Lib.hid (HE4.out.later hb)
    clear hb c0 c1 c2 d0 d1 d2 e0 e1 e2
    obtain ⟨c0, c1, c2⟩ := HC5.out
    go_wp2_with fail
    refine (HVR.out _).mono ?_
    rintro e w6 ⟨rfl, hb⟩
    have HB6 := Lib.hid (HB5.out.trans (hb.mono HB5.out.size))
    have HF6 := Lib.hid (HF5.out.below hb)
    have HC6 := Lib.hid (HC5.out.later hb)
    have HD6 := Lib.hid (HD5.out.later hb)
    have HE6 := Lib.hid (HE5.out.later hb)
    clear hb c0 c1 c2
    obtain ⟨c0, c1, c2⟩ := HC6.out
    obtain ⟨d0, d1, d2⟩ := HD6.out
    obtain ⟨e0, e1, e2⟩ := HE6.out
    have hbs := below1 w6 (.cells #[.int .i64 q.x, .int .i64 q.y, .bool q.f, .int .i64 r.x, .int .i64 r.y, .bool r.f] 25)
    have HFQ := Lib.hid (HFI.out (some ⟨w6.heap.size, 0, none⟩) 2 2 _ (agp_two w6 q r 25) (by omega))
    have HBs := Lib.hid (HB6.out.trans (hbs.mono HB6.out.size))
    have HFs := Lib.hid (HF6.out.below hbs)
    have HCs := Lib.hid (HC6.out.later hbs)
    have HDs := Lib.hid (HD6.out.later hbs)
    have HEs := Lib.hid (HE6.out.later hbs)
    clear hbs
    go_wp2_with fail
    refine HFQ.out.mono ?_
    rintro e w8 ⟨rfl, hb⟩
    have HB8 := Lib.hid (HBs.out.trans (hb.mono HBs.out.size))
    have HF8 := Lib.hid (HFs.out.below hb)
    clear c0 c1 c2 d0 d1 d2 e0 e1 e2
    obtain ⟨c0, c1, c2⟩ := HCs.out.later hb
    obtain ⟨d0, d1, d2⟩ := HDs.out.later hb
    obtain ⟨e0, e1, e2⟩ := HEs.out.later hb
    clear hb
    go_wp2_with fail
    refine (HLogR.out _).mono ?_
    rintro e w9 ⟨rfl, hb⟩
    have HB9 := Lib.hid (HB8.out.trans (hb.mono HB8.out.size))
    have HF9 := Lib.hid (HF8.out.below hb)
    clear hb c0 c1 c2 d0 d1 d2 e0 e1 e2
    go_wp2_with fail
    refine (HAw.out _ HF9.out).mono ?_
    rintro e w10 ⟨rfl, hb⟩
    have HB10 := Lib.hid (HB9.out.trans (hb.mono HB9.out.size))
    clear hb
    go_wp2
    go_ret
    exact ⟨ret_bool (by simp), HB10.out⟩

set_option maxHeartbeats 8000000 in
set_option maxRecDepth 100000 in
theorem lawLogs_c0 (N : Nat) (A B k : Int) (q r : Pt) (hv : vB N A B = true) (hk : ¬ k < 1) (hk2 : ¬ 50 < k) (hfin : (onB (N : Int) A B q && onB (N : Int) A B r) = false) (w : World) (hF : Far w) :
    Calls Tryd.prog 6 #[.agg #[.int .i64 (N : Int), .int .i64 A, .int .i64 B], .agg #[.int .i64 q.x, .int .i64 q.y, .bool q.f], .agg #[.int .i64 r.x, .int .i64 r.y, .bool r.f], .int .i64 k] w fun e w' => e = .returned (.bool true) ∧ Below w.heap.size w w' := by
  have hb3 := below3 w (.cells #[.int .i64 (N : Int), .int .i64 A, .int .i64 B] 23) (.cells #[.int .i64 q.x, .int .i64 q.y, .bool q.f] 25) (.cells #[.int .i64 r.x, .int .i64 r.y, .bool r.f] 25)
  obtain ⟨W0, hW0⟩ : ∃ W0, ((w.alloc (.cells #[.int .i64 (N : Int), .int .i64 A, .int .i64 B] 23)).alloc (.cells #[.int .i64 q.x, .int .i64 q.y, .bool q.f] 25)).alloc (.cells #[.int .i64 r.x, .int .i64 r.y, .bool r.f] 25) = W0 := ⟨_, rfl⟩
  obtain ⟨hc, hd, he, -, hsz⟩ := blocks3 w _ _ _ _ _ _ _ _ _ _ _ _ W0 hW0.symm
  rw [hW0] at hb3
  have HB := Lib.hid hb3
  have HFa := Lib.hid (hF.below hb3)
  have HAw := Lib.hid (fun W hF => awake_any W hF)
  have HVR := Lib.hid (fun W => validR_any (N : Int) A B W)
  have HFI := Lib.hid (fun a n c W h hn => fine_any (N : Int) A B a n c [q, r] W h hn)
  have hfi : (vB (N : Int) A B && [q, r].all (onB (N : Int) A B)) = false := by rw [hv]; simpa using hfin
  have HLog := Lib.hid (fun W hF => Log_no (N : Int) A B q r (by rw [hv]; simpa using hfin) W hF)
  obtain ⟨K, hkK⟩ := Int.eq_ofNat_of_zero_le (show 0 ≤ k by omega)
  have HTor := Lib.hid (fun W hF => Torsion_yes N A B k K hkK hv hk hk2 W hF)
  have HTorR := Lib.hid (fun W => torsionR_any N A B K hv (by omega) W)
  rw [← hkK] at HTorR
  have g1 : decide (k < 1) = false := decide_eq_false hk
  have g2 : decide (50 < k) = false := decide_eq_false hk2
  have hln := filter_le (ptsL N A B) (ptsL N A B).length (torB N A K)
  rw [List.take_length] at hln
  have hln2 := ptsL_len hv
  obtain ⟨L, hL⟩ : ∃ L, (ptsL (N : Int) A B).filter (torB N A K) = L := ⟨_, rfl⟩
  rw [hL] at HTor HTorR hln
  have HLN := Lib.hid (show L.length ≤ 962 by omega)
  have HEQ := Lib.hid (fun v1 v2 B1 B2 W (r1 : RowP 25 B1 v1 L W) (r2 : RowP 25 B2 v2 L W) => (show Calls Tryd.prog 23 #[v1, v2] W fun e w' => e = .returned (.bool true) ∧ Below W.heap.size W w' by
    obtain ⟨a1, c1, rfl, m1, m2, g1⟩ := AgP.of r1
    obtain ⟨a2, c2, rfl, m3, m4, g2⟩ := AgP.of r2
    have := HLN.out
    exact equalR_any _ _ _ _ _ _ _ _ W g1 g2 (by omega) (by omega) true ⟨fun _ => rfl, fun _ => rfl⟩))
  rw [hfi] at HFI
  rw [hv] at HVR
  have HN := Lib.hid (fun (W1 W2 : World) (hb : Below W1.heap.size W1 W2) (h : W1.cell? ⟨w.heap.size, 0, none⟩ = some (.int .i64 (N : Int)) ∧ W1.cell? ⟨w.heap.size, 1, none⟩ = some (.int .i64 A) ∧ W1.cell? ⟨w.heap.size, 2, none⟩ = some (.int .i64 B) ∧ W1.cell? ⟨w.heap.size + 1, 0, none⟩ = some (.int .i64 q.x) ∧ W1.cell? ⟨w.heap.size + 1, 1, none⟩ = some (.int .i64 q.y) ∧ W1.cell? ⟨w.heap.size + 1, 2, none⟩ = some (.bool q.f) ∧ W1.cell? ⟨w.heap.size + 1 + 1, 0, none⟩ = some (.int .i64 r.x) ∧ W1.cell? ⟨w.heap.size + 1 + 1, 1, none⟩ = some (.int .i64 r.y) ∧ W1.cell? ⟨w.heap.size + 1 + 1, 2, none⟩ = some (.bool r.f) ∧ BelF W0.heap.size W0 W1) => (show W2.cell? ⟨w.heap.size, 0, none⟩ = some (.int .i64 (N : Int)) ∧ W2.cell? ⟨w.heap.size, 1, none⟩ = some (.int .i64 A) ∧ W2.cell? ⟨w.heap.size, 2, none⟩ = some (.int .i64 B) ∧ W2.cell? ⟨w.heap.size + 1, 0, none⟩ = some (.int .i64 q.x) ∧ W2.cell? ⟨w.heap.size + 1, 1, none⟩ = some (.int .i64 q.y) ∧ W2.cell? ⟨w.heap.size + 1, 2, none⟩ = some (.bool q.f) ∧ W2.cell? ⟨w.heap.size + 1 + 1, 0, none⟩ = some (.int .i64 r.x) ∧ W2.cell? ⟨w.heap.size + 1 + 1, 1, none⟩ = some (.int .i64 r.y) ∧ W2.cell? ⟨w.heap.size + 1 + 1, 2, none⟩ = some (.bool r.f) ∧ BelF W0.heap.size W0 W2 from ⟨cell_later h.1 hb, cell_later h.2.1 hb, cell_later h.2.2.1 hb, cell_later h.2.2.2.1 hb, cell_later h.2.2.2.2.1 hb, cell_later h.2.2.2.2.2.1 hb, cell_later h.2.2.2.2.2.2.1 hb, cell_later h.2.2.2.2.2.2.2.1 hb, cell_later h.2.2.2.2.2.2.2.2.1 hb, h.2.2.2.2.2.2.2.2.2.next hb⟩))
  have HBS := Lib.hid (fun (W1 : World) (h : W1.cell? ⟨w.heap.size, 0, none⟩ = some (.int .i64 (N : Int)) ∧ W1.cell? ⟨w.heap.size, 1, none⟩ = some (.int .i64 A) ∧ W1.cell? ⟨w.heap.size, 2, none⟩ = some (.int .i64 B) ∧ W1.cell? ⟨w.heap.size + 1, 0, none⟩ = some (.int .i64 q.x) ∧ W1.cell? ⟨w.heap.size + 1, 1, none⟩ = some (.int .i64 q.y) ∧ W1.cell? ⟨w.heap.size + 1, 2, none⟩ = some (.bool q.f) ∧ W1.cell? ⟨w.heap.size + 1 + 1, 0, none⟩ = some (.int .i64 r.x) ∧ W1.cell? ⟨w.heap.size + 1 + 1, 1, none⟩ = some (.int .i64 r.y) ∧ W1.cell? ⟨w.heap.size + 1 + 1, 2, none⟩ = some (.bool r.f) ∧ BelF W0.heap.size W0 W1) => (show Below W0.heap.size W0 W1 from h.2.2.2.2.2.2.2.2.2.to))
  have HS0 := Lib.hid (show W0.cell? ⟨w.heap.size, 0, none⟩ = some (.int .i64 (N : Int)) ∧ W0.cell? ⟨w.heap.size, 1, none⟩ = some (.int .i64 A) ∧ W0.cell? ⟨w.heap.size, 2, none⟩ = some (.int .i64 B) ∧ W0.cell? ⟨w.heap.size + 1, 0, none⟩ = some (.int .i64 q.x) ∧ W0.cell? ⟨w.heap.size + 1, 1, none⟩ = some (.int .i64 q.y) ∧ W0.cell? ⟨w.heap.size + 1, 2, none⟩ = some (.bool q.f) ∧ W0.cell? ⟨w.heap.size + 1 + 1, 0, none⟩ = some (.int .i64 r.x) ∧ W0.cell? ⟨w.heap.size + 1 + 1, 1, none⟩ = some (.int .i64 r.y) ∧ W0.cell? ⟨w.heap.size + 1 + 1, 2, none⟩ = some (.bool r.f) ∧ BelF W0.heap.size W0 W0 from ⟨hc.1, hc.2.1, hc.2.2, hd.1, hd.2.1, hd.2.2, he.1, he.2.1, he.2.2, BelF.begin W0⟩)
  obtain ⟨c0, c1, c2⟩ := hc
  obtain ⟨d0, d1, d2⟩ := hd
  obtain ⟨e0, e1, e2⟩ := he
  clear hv hF hb3 hsz hfi hfin hkK hln hln2 hL
  go_enter Tryd.func6, Tryd.ntmps6
  go_wp2
  go_region_held3 (fun W => W.cell? ⟨w.heap.size, 0, none⟩ = some (.int .i64 (N : Int)) ∧ W.cell? ⟨w.heap.size, 1, none⟩ = some (.int .i64 A) ∧ W.cell? ⟨w.heap.size, 2, none⟩ = some (.int .i64 B) ∧ W.cell? ⟨w.heap.size + 1, 0, none⟩ = some (.int .i64 q.x) ∧ W.cell? ⟨w.heap.size + 1, 1, none⟩ = some (.int .i64 q.y) ∧ W.cell? ⟨w.heap.size + 1, 2, none⟩ = some (.bool q.f) ∧ W.cell? ⟨w.heap.size + 1 + 1, 0, none⟩ = some (.int .i64 r.x) ∧ W.cell? ⟨w.heap.size + 1 + 1, 1, none⟩ = some (.int .i64 r.y) ∧ W.cell? ⟨w.heap.size + 1 + 1, 2, none⟩ = some (.bool r.f) ∧ BelF W0.heap.size W0 W)
    (first | exact HS0.out | exact HN.out _ _ hbf (by assumption) | exact HN.out _ _ (drew_below _) (by assumption) | exact HN.out _ _ (drew_below _) HS0.out)
    ((first
      | (go_at_call 18; refine (Of_any _ _ _ _).mono ?_; rintro e wx ⟨rfl, hbf⟩)
      | (go_at_call 20; refine (at_any _ _).mono ?_; rintro e wx ⟨rfl, hbf⟩)
      | (go_at_call 40; refine (HLog.out _ (HFa.out.below (HBS.out _ (by assumption)))).mono ?_; rintro e wx ⟨rfl, hbf⟩)))
  all_goals
    refine at_world (S := fun W => W.cell? ⟨w.heap.size, 0, none⟩ = some (.int .i64 (N : Int)) ∧ W.cell? ⟨w.heap.size, 1, none⟩ = some (.int .i64 A) ∧ W.cell? ⟨w.heap.size, 2, none⟩ = some (.int .i64 B) ∧ W.cell? ⟨w.heap.size + 1, 0, none⟩ = some (.int .i64 q.x) ∧ W.cell? ⟨w.heap.size + 1, 1, none⟩ = some (.int .i64 q.y) ∧ W.cell? ⟨w.heap.size + 1, 2, none⟩ = some (.bool q.f) ∧ W.cell? ⟨w.heap.size + 1 + 1, 0, none⟩ = some (.int .i64 r.x) ∧ W.cell? ⟨w.heap.size + 1 + 1, 1, none⟩ = some (.int .i64 r.y) ∧ W.cell? ⟨w.heap.size + 1 + 1, 2, none⟩ = some (.bool r.f) ∧ BelF W0.heap.size W0 W) (G := fun W => Exit.then _ _ _ _ W) (by assumption) ?_
    intro w3 hS
    clear c0 c1 c2 d0 d1 d2 e0 e1 e2
    obtain ⟨c0, c1, c2, d0, d1, d2, e0, e1, e2, hs3⟩ := hS
    have hb3 := hs3.to
    have HB3 := Lib.hid (HB.out.trans (hb3.mono HB.out.size))
    have HF3 := Lib.hid (HFa.out.below hb3)
    have HC3 := Lib.hid (show C3 w.heap.size (.int .i64 (N : Int)) (.int .i64 A) (.int .i64 B) w3 from ⟨c0, c1, c2⟩)
    have HD3 := Lib.hid (show C3 (w.heap.size + 1) (.int .i64 q.x) (.int .i64 q.y) (.bool q.f) w3 from ⟨d0, d1, d2⟩)
    have HE3 := Lib.hid (show C3 (w.heap.size + 1 + 1) (.int .i64 r.x) (.int .i64 r.y) (.bool r.f) w3 from ⟨e0, e1, e2⟩)
    clear hs3 hb3 hW0
    go_wp2_with fail
    refine (Of_any _ _ _ _).mono ?_
    rintro e w4 ⟨rfl, hb⟩
    have HB4 := Lib.hid (HB3.out.trans (hb.mono HB3.out.size))
    have HF4 := Lib.hid (HF3.out.below hb)
    have HC4 := Lib.hid (HC3.out.later hb)
    have HD4 := Lib.hid (HD3.out.later hb)
    have HE4 := Lib.hid (HE3.out.later hb)
    clear hb
    go_wp2_with fail
    refine (HTor.out _ HF4.out).mono ?_
    rintro e w5 ⟨⟨vl, rfl, hr⟩, hb⟩
    obtain ⟨al, cl, rfl, -, hm2, hag⟩ := AgP.of hr
    have HAG := Lib.hid hag
    clear hr hag hm2
    have HB5 := Lib.hid (HB4.out.trans (hb.mono HB4.out.size))
    have HF5 := Lib.hid (HF4.out.below hb)
    have HC5 := Lib.hid (HC4.out.later hb)
    have HD5 := Lib.hid (HD4.out.later hb)
    have HE5 := Lib.hid (HE4.out.later hb)
    clear hb c0 c1 c2 d0 d1 d2 e0 e1 e2
    obtain ⟨c0, c1, c2⟩ := HC5.out
    go_wp2_with fail
    refine (HVR.out _).mono ?_
    rintro e w6 ⟨rfl, hb⟩
    have HB6 := Lib.hid (HB5.out.trans (hb.mono HB5.out.size))
    have HF6 := Lib.hid (HF5.out.below hb)
    have HC6 := Lib.hid (HC5.out.later hb)
    have HD6 := Lib.hid (HD5.out.later hb)
    have HE6 := Lib.hid (HE5.out.later hb)
    have HAG6 := Lib.hid (HAG.out.later hb)
    clear hb c0 c1 c2
    obtain ⟨c0, c1, c2⟩ := HC6.out
    obtain ⟨d0, d1, d2⟩ := HD6.out
    obtain ⟨e0, e1, e2⟩ := HE6.out
    have HN6 := Lib.hid (fun (W1 W2 : World) (hb : Below W1.heap.size W1 W2) (h : W1.cell? ⟨w.heap.size, 0, none⟩ = some (.int .i64 (N : Int)) ∧ W1.cell? ⟨w.heap.size, 1, none⟩ = some (.int .i64 A) ∧ W1.cell? ⟨w.heap.size, 2, none⟩ = some (.int .i64 B) ∧ W1.cell? ⟨w.heap.size + 1, 0, none⟩ = some (.int .i64 q.x) ∧ W1.cell? ⟨w.heap.size + 1, 1, none⟩ = some (.int .i64 q.y) ∧ W1.cell? ⟨w.heap.size + 1, 2, none⟩ = some (.bool q.f) ∧ W1.cell? ⟨w.heap.size + 1 + 1, 0, none⟩ = some (.int .i64 r.x) ∧ W1.cell? ⟨w.heap.size + 1 + 1, 1, none⟩ = some (.int .i64 r.y) ∧ W1.cell? ⟨w.heap.size + 1 + 1, 2, none⟩ = some (.bool r.f) ∧ BelF w6.heap.size w6 W1) => (show W2.cell? ⟨w.heap.size, 0, none⟩ = some (.int .i64 (N : Int)) ∧ W2.cell? ⟨w.heap.size, 1, none⟩ = some (.int .i64 A) ∧ W2.cell? ⟨w.heap.size, 2, none⟩ = some (.int .i64 B) ∧ W2.cell? ⟨w.heap.size + 1, 0, none⟩ = some (.int .i64 q.x) ∧ W2.cell? ⟨w.heap.size + 1, 1, none⟩ = some (.int .i64 q.y) ∧ W2.cell? ⟨w.heap.size + 1, 2, none⟩ = some (.bool q.f) ∧ W2.cell? ⟨w.heap.size + 1 + 1, 0, none⟩ = some (.int .i64 r.x) ∧ W2.cell? ⟨w.heap.size + 1 + 1, 1, none⟩ = some (.int .i64 r.y) ∧ W2.cell? ⟨w.heap.size + 1 + 1, 2, none⟩ = some (.bool r.f) ∧ BelF w6.heap.size w6 W2 from ⟨cell_later h.1 hb, cell_later h.2.1 hb, cell_later h.2.2.1 hb, cell_later h.2.2.2.1 hb, cell_later h.2.2.2.2.1 hb, cell_later h.2.2.2.2.2.1 hb, cell_later h.2.2.2.2.2.2.1 hb, cell_later h.2.2.2.2.2.2.2.1 hb, cell_later h.2.2.2.2.2.2.2.2.1 hb, h.2.2.2.2.2.2.2.2.2.next hb⟩))
    have HBS6 := Lib.hid (fun (W1 : World) (h : W1.cell? ⟨w.heap.size, 0, none⟩ = some (.int .i64 (N : Int)) ∧ W1.cell? ⟨w.heap.size, 1, none⟩ = some (.int .i64 A) ∧ W1.cell? ⟨w.heap.size, 2, none⟩ = some (.int .i64 B) ∧ W1.cell? ⟨w.heap.size + 1, 0, none⟩ = some (.int .i64 q.x) ∧ W1.cell? ⟨w.heap.size + 1, 1, none⟩ = some (.int .i64 q.y) ∧ W1.cell? ⟨w.heap.size + 1, 2, none⟩ = some (.bool q.f) ∧ W1.cell? ⟨w.heap.size + 1 + 1, 0, none⟩ = some (.int .i64 r.x) ∧ W1.cell? ⟨w.heap.size + 1 + 1, 1, none⟩ = some (.int .i64 r.y) ∧ W1.cell? ⟨w.heap.size + 1 + 1, 2, none⟩ = some (.bool r.f) ∧ BelF w6.heap.size w6 W1) => (show Below w6.heap.size w6 W1 from h.2.2.2.2.2.2.2.2.2.to))
    have HS6 := Lib.hid (show w6.cell? ⟨w.heap.size, 0, none⟩ = some (.int .i64 (N : Int)) ∧ w6.cell? ⟨w.heap.size, 1, none⟩ = some (.int .i64 A) ∧ w6.cell? ⟨w.heap.size, 2, none⟩ = some (.int .i64 B) ∧ w6.cell? ⟨w.heap.size + 1, 0, none⟩ = some (.int .i64 q.x) ∧ w6.cell? ⟨w.heap.size + 1, 1, none⟩ = some (.int .i64 q.y) ∧ w6.cell? ⟨w.heap.size + 1, 2, none⟩ = some (.bool q.f) ∧ w6.cell? ⟨w.heap.size + 1 + 1, 0, none⟩ = some (.int .i64 r.x) ∧ w6.cell? ⟨w.heap.size + 1 + 1, 1, none⟩ = some (.int .i64 r.y) ∧ w6.cell? ⟨w.heap.size + 1 + 1, 2, none⟩ = some (.bool r.f) ∧ BelF w6.heap.size w6 w6 from ⟨c0, c1, c2, d0, d1, d2, e0, e1, e2, BelF.begin w6⟩)
    have HBK := Lib.hid (fun W h => back_any al L.length cl L W h (by have := HLN.out; omega))
    go_wp2
    go_region_held3 (fun W => W.cell? ⟨w.heap.size, 0, none⟩ = some (.int .i64 (N : Int)) ∧ W.cell? ⟨w.heap.size, 1, none⟩ = some (.int .i64 A) ∧ W.cell? ⟨w.heap.size, 2, none⟩ = some (.int .i64 B) ∧ W.cell? ⟨w.heap.size + 1, 0, none⟩ = some (.int .i64 q.x) ∧ W.cell? ⟨w.heap.size + 1, 1, none⟩ = some (.int .i64 q.y) ∧ W.cell? ⟨w.heap.size + 1, 2, none⟩ = some (.bool q.f) ∧ W.cell? ⟨w.heap.size + 1 + 1, 0, none⟩ = some (.int .i64 r.x) ∧ W.cell? ⟨w.heap.size + 1 + 1, 1, none⟩ = some (.int .i64 r.y) ∧ W.cell? ⟨w.heap.size + 1 + 1, 2, none⟩ = some (.bool r.f) ∧ BelF w6.heap.size w6 W)
      (first | exact HS6.out | exact HN6.out _ _ hbb (by assumption) | exact HN6.out _ _ hbp (by assumption) | exact HN6.out _ _ hbe (by assumption) | exact HN6.out _ _ (drew_below _) (by assumption) | exact HN6.out _ _ (drew_below _) HS6.out)
      ((first
        | (go_at_call 24; refine (HBK.out _ (HAG6.out.later (HBS6.out _ (by assumption)))).mono ?_; rintro e wx ⟨⟨vb, rfl, hrb⟩, hbb⟩)
        | (go_at_call 42; refine (HTorR.out _).mono ?_; rintro e wx ⟨⟨vp, rfl, hrp⟩, hbp⟩)
        | (go_at_call 23; refine (HEQ.out vb vp _ _ _ (hrb.later hbp) hrp).mono ?_; rintro e wx ⟨rfl, hbe⟩)
        | (go_at_call 23; refine (HEQ.out vb vp _ _ _ hrb (hrp.later hbb)).mono ?_; rintro e wx ⟨rfl, hbe⟩)))
    all_goals
      refine at_world (S := fun W => W.cell? ⟨w.heap.size, 0, none⟩ = some (.int .i64 (N : Int)) ∧ W.cell? ⟨w.heap.size, 1, none⟩ = some (.int .i64 A) ∧ W.cell? ⟨w.heap.size, 2, none⟩ = some (.int .i64 B) ∧ W.cell? ⟨w.heap.size + 1, 0, none⟩ = some (.int .i64 q.x) ∧ W.cell? ⟨w.heap.size + 1, 1, none⟩ = some (.int .i64 q.y) ∧ W.cell? ⟨w.heap.size + 1, 2, none⟩ = some (.bool q.f) ∧ W.cell? ⟨w.heap.size + 1 + 1, 0, none⟩ = some (.int .i64 r.x) ∧ W.cell? ⟨w.heap.size + 1 + 1, 1, none⟩ = some (.int .i64 r.y) ∧ W.cell? ⟨w.heap.size + 1 + 1, 2, none⟩ = some (.bool r.f) ∧ BelF w6.heap.size w6 W) (G := fun W => Exit.then _ _ _ _ W) (by assumption) ?_
      intro w7 hS
      clear c0 c1 c2 d0 d1 d2 e0 e1 e2
      obtain ⟨c0, c1, c2, d0, d1, d2, e0, e1, e2, hs7⟩ := hS
      have hb7 := hs7.to
      have HB7 := Lib.hid (HB6.out.trans (hb7.mono HB6.out.size))
      have HF7 := Lib.hid (HF6.out.below hb7)
      have HC7 := Lib.hid (HC6.out.later hb7)
      have HD7 := Lib.hid (HD6.out.later hb7)
      have HE7 := Lib.hid (HE6.out.later hb7)
      clear hs7 hb7
      have hbs := below1 w7 (.cells #[.int .i64 q.x, .int .i64 q.y, .bool q.f, .int .i64 r.x, .int .i64 r.y, .bool r.f] 25)
      have HFQ := Lib.hid (HFI.out (some ⟨w7.heap.size, 0, none⟩) 2 2 _ (agp_two w7 q r 25) (by omega))
      have HBs := Lib.hid (HB7.out.trans (hbs.mono HB7.out.size))
      have HFs := Lib.hid (HF7.out.below hbs)
      have HCs := Lib.hid (HC7.out.later hbs)
      have HDs := Lib.hid (HD7.out.later hbs)
      have HEs := Lib.hid (HE7.out.later hbs)
      clear hbs
      go_wp2_with fail
      refine HFQ.out.mono ?_
      rintro e w8 ⟨rfl, hb⟩
      have HB8 := Lib.hid (HBs.out.trans (hb.mono HBs.out.size))
      have HF8 := Lib.hid (HFs.out.below hb)
      clear hb c0 c1 c2 d0 d1 d2 e0 e1 e2
      go_wp2_with fail
      refine (HAw.out _ HF8.out).mono ?_
      rintro e w9 ⟨rfl, hb⟩
      have HB9 := Lib.hid (HB8.out.trans (hb.mono HB8.out.size))
      clear hb
      go_wp2
      go_ret
      exact ⟨ret_bool (by simp), HB9.out⟩

set_option maxHeartbeats 8000000 in
set_option maxRecDepth 100000 in
theorem lawLogs_c1 (N : Nat) (A B k : Int) (q r : Pt) (hv : vB N A B = true) (hk : ¬ k < 1) (hk2 : ¬ 50 < k) (hfin : (onB (N : Int) A B q && onB (N : Int) A B r) = true) (w : World) (hF : Far w) :
    Calls Tryd.prog 6 #[.agg #[.int .i64 (N : Int), .int .i64 A, .int .i64 B], .agg #[.int .i64 q.x, .int .i64 q.y, .bool q.f], .agg #[.int .i64 r.x, .int .i64 r.y, .bool r.f], .int .i64 k] w fun e w' => e = .returned (.bool true) ∧ Below w.heap.size w w' := by
  have hb3 := below3 w (.cells #[.int .i64 (N : Int), .int .i64 A, .int .i64 B] 23) (.cells #[.int .i64 q.x, .int .i64 q.y, .bool q.f] 25) (.cells #[.int .i64 r.x, .int .i64 r.y, .bool r.f] 25)
  obtain ⟨W0, hW0⟩ : ∃ W0, ((w.alloc (.cells #[.int .i64 (N : Int), .int .i64 A, .int .i64 B] 23)).alloc (.cells #[.int .i64 q.x, .int .i64 q.y, .bool q.f] 25)).alloc (.cells #[.int .i64 r.x, .int .i64 r.y, .bool r.f] 25) = W0 := ⟨_, rfl⟩
  obtain ⟨hc, hd, he, -, hsz⟩ := blocks3 w _ _ _ _ _ _ _ _ _ _ _ _ W0 hW0.symm
  rw [hW0] at hb3
  have HB := Lib.hid hb3
  have HFa := Lib.hid (hF.below hb3)
  have HAw := Lib.hid (fun W hF => awake_any W hF)
  have HVR := Lib.hid (fun W => validR_any (N : Int) A B W)
  have HFI := Lib.hid (fun a n c W h hn => fine_any (N : Int) A B a n c [q, r] W h hn)
  have hfi : (vB (N : Int) A B && [q, r].all (onB (N : Int) A B)) = true := by rw [hv]; simpa using hfin
  have hq : onB (N : Int) A B q = true := by simp at hfin; exact hfin.1
  have hr : onB (N : Int) A B r = true := by simp at hfin; exact hfin.2
  obtain ⟨n, ho, hn⟩ := ord_ex (vB_iff.1 hv).1 (vB_iff.1 hv).2.2.2 hq
  obtain ⟨v, hl⟩ := idx_ex (mulL (N : Int) A q n) r
  obtain ⟨m, E, hm⟩ : ∃ m E : Int, (v = -1 ∧ m = 0 ∧ E = 4) ∨ (0 ≤ v ∧ m = v ∧ E = 0) := by
    rcases hl with ⟨i, rfl, -⟩ | ⟨rfl, -⟩
    · exact ⟨_, 0, .inr ⟨by omega, rfl, rfl⟩⟩
    · exact ⟨0, 4, .inl ⟨rfl, rfl, rfl⟩⟩
  have HLog := Lib.hid (fun W hF => Log_yes (N : Int) A B q r n v m E hv hq hr ho hn hl hm W hF)
  have HLogR := Lib.hid (fun W => logR_any (N : Int) A B q r n v m E hv hq ho hn hl hm W)
  obtain ⟨K, hkK⟩ := Int.eq_ofNat_of_zero_le (show 0 ≤ k by omega)
  have HTor := Lib.hid (fun W hF => Torsion_yes N A B k K hkK hv hk hk2 W hF)
  have HTorR := Lib.hid (fun W => torsionR_any N A B K hv (by omega) W)
  rw [← hkK] at HTorR
  have g1 : decide (k < 1) = false := decide_eq_false hk
  have g2 : decide (50 < k) = false := decide_eq_false hk2
  have hln := filter_le (ptsL N A B) (ptsL N A B).length (torB N A K)
  rw [List.take_length] at hln
  have hln2 := ptsL_len hv
  obtain ⟨L, hL⟩ : ∃ L, (ptsL (N : Int) A B).filter (torB N A K) = L := ⟨_, rfl⟩
  rw [hL] at HTor HTorR hln
  have HLN := Lib.hid (show L.length ≤ 962 by omega)
  have HEQ := Lib.hid (fun v1 v2 B1 B2 W (r1 : RowP 25 B1 v1 L W) (r2 : RowP 25 B2 v2 L W) => (show Calls Tryd.prog 23 #[v1, v2] W fun e w' => e = .returned (.bool true) ∧ Below W.heap.size W w' by
    obtain ⟨a1, c1, rfl, m1, m2, g1⟩ := AgP.of r1
    obtain ⟨a2, c2, rfl, m3, m4, g2⟩ := AgP.of r2
    have := HLN.out
    exact equalR_any _ _ _ _ _ _ _ _ W g1 g2 (by omega) (by omega) true ⟨fun _ => rfl, fun _ => rfl⟩))
  rw [hfi] at HFI
  rw [hv] at HVR
  have HN := Lib.hid (fun (W1 W2 : World) (hb : Below W1.heap.size W1 W2) (h : W1.cell? ⟨w.heap.size, 0, none⟩ = some (.int .i64 (N : Int)) ∧ W1.cell? ⟨w.heap.size, 1, none⟩ = some (.int .i64 A) ∧ W1.cell? ⟨w.heap.size, 2, none⟩ = some (.int .i64 B) ∧ W1.cell? ⟨w.heap.size + 1, 0, none⟩ = some (.int .i64 q.x) ∧ W1.cell? ⟨w.heap.size + 1, 1, none⟩ = some (.int .i64 q.y) ∧ W1.cell? ⟨w.heap.size + 1, 2, none⟩ = some (.bool q.f) ∧ W1.cell? ⟨w.heap.size + 1 + 1, 0, none⟩ = some (.int .i64 r.x) ∧ W1.cell? ⟨w.heap.size + 1 + 1, 1, none⟩ = some (.int .i64 r.y) ∧ W1.cell? ⟨w.heap.size + 1 + 1, 2, none⟩ = some (.bool r.f) ∧ BelF W0.heap.size W0 W1) => (show W2.cell? ⟨w.heap.size, 0, none⟩ = some (.int .i64 (N : Int)) ∧ W2.cell? ⟨w.heap.size, 1, none⟩ = some (.int .i64 A) ∧ W2.cell? ⟨w.heap.size, 2, none⟩ = some (.int .i64 B) ∧ W2.cell? ⟨w.heap.size + 1, 0, none⟩ = some (.int .i64 q.x) ∧ W2.cell? ⟨w.heap.size + 1, 1, none⟩ = some (.int .i64 q.y) ∧ W2.cell? ⟨w.heap.size + 1, 2, none⟩ = some (.bool q.f) ∧ W2.cell? ⟨w.heap.size + 1 + 1, 0, none⟩ = some (.int .i64 r.x) ∧ W2.cell? ⟨w.heap.size + 1 + 1, 1, none⟩ = some (.int .i64 r.y) ∧ W2.cell? ⟨w.heap.size + 1 + 1, 2, none⟩ = some (.bool r.f) ∧ BelF W0.heap.size W0 W2 from ⟨cell_later h.1 hb, cell_later h.2.1 hb, cell_later h.2.2.1 hb, cell_later h.2.2.2.1 hb, cell_later h.2.2.2.2.1 hb, cell_later h.2.2.2.2.2.1 hb, cell_later h.2.2.2.2.2.2.1 hb, cell_later h.2.2.2.2.2.2.2.1 hb, cell_later h.2.2.2.2.2.2.2.2.1 hb, h.2.2.2.2.2.2.2.2.2.next hb⟩))
  have HBS := Lib.hid (fun (W1 : World) (h : W1.cell? ⟨w.heap.size, 0, none⟩ = some (.int .i64 (N : Int)) ∧ W1.cell? ⟨w.heap.size, 1, none⟩ = some (.int .i64 A) ∧ W1.cell? ⟨w.heap.size, 2, none⟩ = some (.int .i64 B) ∧ W1.cell? ⟨w.heap.size + 1, 0, none⟩ = some (.int .i64 q.x) ∧ W1.cell? ⟨w.heap.size + 1, 1, none⟩ = some (.int .i64 q.y) ∧ W1.cell? ⟨w.heap.size + 1, 2, none⟩ = some (.bool q.f) ∧ W1.cell? ⟨w.heap.size + 1 + 1, 0, none⟩ = some (.int .i64 r.x) ∧ W1.cell? ⟨w.heap.size + 1 + 1, 1, none⟩ = some (.int .i64 r.y) ∧ W1.cell? ⟨w.heap.size + 1 + 1, 2, none⟩ = some (.bool r.f) ∧ BelF W0.heap.size W0 W1) => (show Below W0.heap.size W0 W1 from h.2.2.2.2.2.2.2.2.2.to))
  have HS0 := Lib.hid (show W0.cell? ⟨w.heap.size, 0, none⟩ = some (.int .i64 (N : Int)) ∧ W0.cell? ⟨w.heap.size, 1, none⟩ = some (.int .i64 A) ∧ W0.cell? ⟨w.heap.size, 2, none⟩ = some (.int .i64 B) ∧ W0.cell? ⟨w.heap.size + 1, 0, none⟩ = some (.int .i64 q.x) ∧ W0.cell? ⟨w.heap.size + 1, 1, none⟩ = some (.int .i64 q.y) ∧ W0.cell? ⟨w.heap.size + 1, 2, none⟩ = some (.bool q.f) ∧ W0.cell? ⟨w.heap.size + 1 + 1, 0, none⟩ = some (.int .i64 r.x) ∧ W0.cell? ⟨w.heap.size + 1 + 1, 1, none⟩ = some (.int .i64 r.y) ∧ W0.cell? ⟨w.heap.size + 1 + 1, 2, none⟩ = some (.bool r.f) ∧ BelF W0.heap.size W0 W0 from ⟨hc.1, hc.2.1, hc.2.2, hd.1, hd.2.1, hd.2.2, he.1, he.2.1, he.2.2, BelF.begin W0⟩)
  obtain ⟨c0, c1, c2⟩ := hc
  obtain ⟨d0, d1, d2⟩ := hd
  obtain ⟨e0, e1, e2⟩ := he
  clear hv hF hb3 hsz hfi hfin hq hr ho hn hl hm hkK hln hln2 hL
  go_enter Tryd.func6, Tryd.ntmps6
  go_wp2
  go_region_held3 (fun W => W.cell? ⟨w.heap.size, 0, none⟩ = some (.int .i64 (N : Int)) ∧ W.cell? ⟨w.heap.size, 1, none⟩ = some (.int .i64 A) ∧ W.cell? ⟨w.heap.size, 2, none⟩ = some (.int .i64 B) ∧ W.cell? ⟨w.heap.size + 1, 0, none⟩ = some (.int .i64 q.x) ∧ W.cell? ⟨w.heap.size + 1, 1, none⟩ = some (.int .i64 q.y) ∧ W.cell? ⟨w.heap.size + 1, 2, none⟩ = some (.bool q.f) ∧ W.cell? ⟨w.heap.size + 1 + 1, 0, none⟩ = some (.int .i64 r.x) ∧ W.cell? ⟨w.heap.size + 1 + 1, 1, none⟩ = some (.int .i64 r.y) ∧ W.cell? ⟨w.heap.size + 1 + 1, 2, none⟩ = some (.bool r.f) ∧ BelF W0.heap.size W0 W)
    (first | exact HS0.out | exact HN.out _ _ hbf (by assumption) | exact HN.out _ _ (drew_below _) (by assumption) | exact HN.out _ _ (drew_below _) HS0.out)
    ((first
      | (go_at_call 18; refine (Of_any _ _ _ _).mono ?_; rintro e wx ⟨rfl, hbf⟩)
      | (go_at_call 20; refine (at_any _ _).mono ?_; rintro e wx ⟨rfl, hbf⟩)
      | (go_at_call 40; refine (HLog.out _ (HFa.out.below (HBS.out _ (by assumption)))).mono ?_; rintro e wx ⟨rfl, hbf⟩)))
  all_goals
    refine at_world (S := fun W => W.cell? ⟨w.heap.size, 0, none⟩ = some (.int .i64 (N : Int)) ∧ W.cell? ⟨w.heap.size, 1, none⟩ = some (.int .i64 A) ∧ W.cell? ⟨w.heap.size, 2, none⟩ = some (.int .i64 B) ∧ W.cell? ⟨w.heap.size + 1, 0, none⟩ = some (.int .i64 q.x) ∧ W.cell? ⟨w.heap.size + 1, 1, none⟩ = some (.int .i64 q.y) ∧ W.cell? ⟨w.heap.size + 1, 2, none⟩ = some (.bool q.f) ∧ W.cell? ⟨w.heap.size + 1 + 1, 0, none⟩ = some (.int .i64 r.x) ∧ W.cell? ⟨w.heap.size + 1 + 1, 1, none⟩ = some (.int .i64 r.y) ∧ W.cell? ⟨w.heap.size + 1 + 1, 2, none⟩ = some (.bool r.f) ∧ BelF W0.heap.size W0 W) (G := fun W => Exit.then _ _ _ _ W) (by assumption) ?_
    intro w3 hS
    clear c0 c1 c2 d0 d1 d2 e0 e1 e2
    obtain ⟨c0, c1, c2, d0, d1, d2, e0, e1, e2, hs3⟩ := hS
    have hb3 := hs3.to
    have HB3 := Lib.hid (HB.out.trans (hb3.mono HB.out.size))
    have HF3 := Lib.hid (HFa.out.below hb3)
    have HC3 := Lib.hid (show C3 w.heap.size (.int .i64 (N : Int)) (.int .i64 A) (.int .i64 B) w3 from ⟨c0, c1, c2⟩)
    have HD3 := Lib.hid (show C3 (w.heap.size + 1) (.int .i64 q.x) (.int .i64 q.y) (.bool q.f) w3 from ⟨d0, d1, d2⟩)
    have HE3 := Lib.hid (show C3 (w.heap.size + 1 + 1) (.int .i64 r.x) (.int .i64 r.y) (.bool r.f) w3 from ⟨e0, e1, e2⟩)
    clear hs3 hb3 hW0
    go_wp2_with fail
    refine (Of_any _ _ _ _).mono ?_
    rintro e w4 ⟨rfl, hb⟩
    have HB4 := Lib.hid (HB3.out.trans (hb.mono HB3.out.size))
    have HF4 := Lib.hid (HF3.out.below hb)
    have HC4 := Lib.hid (HC3.out.later hb)
    have HD4 := Lib.hid (HD3.out.later hb)
    have HE4 := Lib.hid (HE3.out.later hb)
    clear hb
    go_wp2_with fail
    refine (HTor.out _ HF4.out).mono ?_
    rintro e w5 ⟨⟨vl, rfl, hr⟩, hb⟩
    obtain ⟨al, cl, rfl, -, hm2, hag⟩ := AgP.of hr
    have HAG := Lib.hid hag
    clear hr hag hm2
    have HB5 := Lib.hid (HB4.out.trans (hb.mono HB4.out.size))
    have HF5 := Lib.hid (HF4.out.below hb)
    have HC5 := Lib.hid (HC4.out.later hb)
    have HD5 := Lib.hid (HD4.out.later hb)
    have HE5 := Lib.hid (HE4.out.later hb)
    clear hb c0 c1 c2 d0 d1 d2 e0 e1 e2
    obtain ⟨c0, c1, c2⟩ := HC5.out
    go_wp2_with fail
    refine (HVR.out _).mono ?_
    rintro e w6 ⟨rfl, hb⟩
    have HB6 := Lib.hid (HB5.out.trans (hb.mono HB5.out.size))
    have HF6 := Lib.hid (HF5.out.below hb)
    have HC6 := Lib.hid (HC5.out.later hb)
    have HD6 := Lib.hid (HD5.out.later hb)
    have HE6 := Lib.hid (HE5.out.later hb)
    have HAG6 := Lib.hid (HAG.out.later hb)
    clear hb c0 c1 c2
    obtain ⟨c0, c1, c2⟩ := HC6.out
    obtain ⟨d0, d1, d2⟩ := HD6.out
    obtain ⟨e0, e1, e2⟩ := HE6.out
    have HN6 := Lib.hid (fun (W1 W2 : World) (hb : Below W1.heap.size W1 W2) (h : W1.cell? ⟨w.heap.size, 0, none⟩ = some (.int .i64 (N : Int)) ∧ W1.cell? ⟨w.heap.size, 1, none⟩ = some (.int .i64 A) ∧ W1.cell? ⟨w.heap.size, 2, none⟩ = some (.int .i64 B) ∧ W1.cell? ⟨w.heap.size + 1, 0, none⟩ = some (.int .i64 q.x) ∧ W1.cell? ⟨w.heap.size + 1, 1, none⟩ = some (.int .i64 q.y) ∧ W1.cell? ⟨w.heap.size + 1, 2, none⟩ = some (.bool q.f) ∧ W1.cell? ⟨w.heap.size + 1 + 1, 0, none⟩ = some (.int .i64 r.x) ∧ W1.cell? ⟨w.heap.size + 1 + 1, 1, none⟩ = some (.int .i64 r.y) ∧ W1.cell? ⟨w.heap.size + 1 + 1, 2, none⟩ = some (.bool r.f) ∧ BelF w6.heap.size w6 W1) => (show W2.cell? ⟨w.heap.size, 0, none⟩ = some (.int .i64 (N : Int)) ∧ W2.cell? ⟨w.heap.size, 1, none⟩ = some (.int .i64 A) ∧ W2.cell? ⟨w.heap.size, 2, none⟩ = some (.int .i64 B) ∧ W2.cell? ⟨w.heap.size + 1, 0, none⟩ = some (.int .i64 q.x) ∧ W2.cell? ⟨w.heap.size + 1, 1, none⟩ = some (.int .i64 q.y) ∧ W2.cell? ⟨w.heap.size + 1, 2, none⟩ = some (.bool q.f) ∧ W2.cell? ⟨w.heap.size + 1 + 1, 0, none⟩ = some (.int .i64 r.x) ∧ W2.cell? ⟨w.heap.size + 1 + 1, 1, none⟩ = some (.int .i64 r.y) ∧ W2.cell? ⟨w.heap.size + 1 + 1, 2, none⟩ = some (.bool r.f) ∧ BelF w6.heap.size w6 W2 from ⟨cell_later h.1 hb, cell_later h.2.1 hb, cell_later h.2.2.1 hb, cell_later h.2.2.2.1 hb, cell_later h.2.2.2.2.1 hb, cell_later h.2.2.2.2.2.1 hb, cell_later h.2.2.2.2.2.2.1 hb, cell_later h.2.2.2.2.2.2.2.1 hb, cell_later h.2.2.2.2.2.2.2.2.1 hb, h.2.2.2.2.2.2.2.2.2.next hb⟩))
    have HBS6 := Lib.hid (fun (W1 : World) (h : W1.cell? ⟨w.heap.size, 0, none⟩ = some (.int .i64 (N : Int)) ∧ W1.cell? ⟨w.heap.size, 1, none⟩ = some (.int .i64 A) ∧ W1.cell? ⟨w.heap.size, 2, none⟩ = some (.int .i64 B) ∧ W1.cell? ⟨w.heap.size + 1, 0, none⟩ = some (.int .i64 q.x) ∧ W1.cell? ⟨w.heap.size + 1, 1, none⟩ = some (.int .i64 q.y) ∧ W1.cell? ⟨w.heap.size + 1, 2, none⟩ = some (.bool q.f) ∧ W1.cell? ⟨w.heap.size + 1 + 1, 0, none⟩ = some (.int .i64 r.x) ∧ W1.cell? ⟨w.heap.size + 1 + 1, 1, none⟩ = some (.int .i64 r.y) ∧ W1.cell? ⟨w.heap.size + 1 + 1, 2, none⟩ = some (.bool r.f) ∧ BelF w6.heap.size w6 W1) => (show Below w6.heap.size w6 W1 from h.2.2.2.2.2.2.2.2.2.to))
    have HS6 := Lib.hid (show w6.cell? ⟨w.heap.size, 0, none⟩ = some (.int .i64 (N : Int)) ∧ w6.cell? ⟨w.heap.size, 1, none⟩ = some (.int .i64 A) ∧ w6.cell? ⟨w.heap.size, 2, none⟩ = some (.int .i64 B) ∧ w6.cell? ⟨w.heap.size + 1, 0, none⟩ = some (.int .i64 q.x) ∧ w6.cell? ⟨w.heap.size + 1, 1, none⟩ = some (.int .i64 q.y) ∧ w6.cell? ⟨w.heap.size + 1, 2, none⟩ = some (.bool q.f) ∧ w6.cell? ⟨w.heap.size + 1 + 1, 0, none⟩ = some (.int .i64 r.x) ∧ w6.cell? ⟨w.heap.size + 1 + 1, 1, none⟩ = some (.int .i64 r.y) ∧ w6.cell? ⟨w.heap.size + 1 + 1, 2, none⟩ = some (.bool r.f) ∧ BelF w6.heap.size w6 w6 from ⟨c0, c1, c2, d0, d1, d2, e0, e1, e2, BelF.begin w6⟩)
    have HBK := Lib.hid (fun W h => back_any al L.length cl L W h (by have := HLN.out; omega))
    go_wp2
    go_region_held3 (fun W => W.cell? ⟨w.heap.size, 0, none⟩ = some (.int .i64 (N : Int)) ∧ W.cell? ⟨w.heap.size, 1, none⟩ = some (.int .i64 A) ∧ W.cell? ⟨w.heap.size, 2, none⟩ = some (.int .i64 B) ∧ W.cell? ⟨w.heap.size + 1, 0, none⟩ = some (.int .i64 q.x) ∧ W.cell? ⟨w.heap.size + 1, 1, none⟩ = some (.int .i64 q.y) ∧ W.cell? ⟨w.heap.size + 1, 2, none⟩ = some (.bool q.f) ∧ W.cell? ⟨w.heap.size + 1 + 1, 0, none⟩ = some (.int .i64 r.x) ∧ W.cell? ⟨w.heap.size + 1 + 1, 1, none⟩ = some (.int .i64 r.y) ∧ W.cell? ⟨w.heap.size + 1 + 1, 2, none⟩ = some (.bool r.f) ∧ BelF w6.heap.size w6 W)
      (first | exact HS6.out | exact HN6.out _ _ hbb (by assumption) | exact HN6.out _ _ hbp (by assumption) | exact HN6.out _ _ hbe (by assumption) | exact HN6.out _ _ (drew_below _) (by assumption) | exact HN6.out _ _ (drew_below _) HS6.out)
      ((first
        | (go_at_call 24; refine (HBK.out _ (HAG6.out.later (HBS6.out _ (by assumption)))).mono ?_; rintro e wx ⟨⟨vb, rfl, hrb⟩, hbb⟩)
        | (go_at_call 42; refine (HTorR.out _).mono ?_; rintro e wx ⟨⟨vp, rfl, hrp⟩, hbp⟩)
        | (go_at_call 23; refine (HEQ.out vb vp _ _ _ (hrb.later hbp) hrp).mono ?_; rintro e wx ⟨rfl, hbe⟩)
        | (go_at_call 23; refine (HEQ.out vb vp _ _ _ hrb (hrp.later hbb)).mono ?_; rintro e wx ⟨rfl, hbe⟩)))
    all_goals
      refine at_world (S := fun W => W.cell? ⟨w.heap.size, 0, none⟩ = some (.int .i64 (N : Int)) ∧ W.cell? ⟨w.heap.size, 1, none⟩ = some (.int .i64 A) ∧ W.cell? ⟨w.heap.size, 2, none⟩ = some (.int .i64 B) ∧ W.cell? ⟨w.heap.size + 1, 0, none⟩ = some (.int .i64 q.x) ∧ W.cell? ⟨w.heap.size + 1, 1, none⟩ = some (.int .i64 q.y) ∧ W.cell? ⟨w.heap.size + 1, 2, none⟩ = some (.bool q.f) ∧ W.cell? ⟨w.heap.size + 1 + 1, 0, none⟩ = some (.int .i64 r.x) ∧ W.cell? ⟨w.heap.size + 1 + 1, 1, none⟩ = some (.int .i64 r.y) ∧ W.cell? ⟨w.heap.size + 1 + 1, 2, none⟩ = some (.bool r.f) ∧ BelF w6.heap.size w6 W) (G := fun W => Exit.then _ _ _ _ W) (by assumption) ?_
      intro w7 hS
      clear c0 c1 c2 d0 d1 d2 e0 e1 e2
      obtain ⟨c0, c1, c2, d0, d1, d2, e0, e1, e2, hs7⟩ := hS
      have hb7 := hs7.to
      have HB7 := Lib.hid (HB6.out.trans (hb7.mono HB6.out.size))
      have HF7 := Lib.hid (HF6.out.below hb7)
      have HC7 := Lib.hid (HC6.out.later hb7)
      have HD7 := Lib.hid (HD6.out.later hb7)
      have HE7 := Lib.hid (HE6.out.later hb7)
      clear hs7 hb7
      have hbs := below1 w7 (.cells #[.int .i64 q.x, .int .i64 q.y, .bool q.f, .int .i64 r.x, .int .i64 r.y, .bool r.f] 25)
      have HFQ := Lib.hid (HFI.out (some ⟨w7.heap.size, 0, none⟩) 2 2 _ (agp_two w7 q r 25) (by omega))
      have HBs := Lib.hid (HB7.out.trans (hbs.mono HB7.out.size))
      have HFs := Lib.hid (HF7.out.below hbs)
      have HCs := Lib.hid (HC7.out.later hbs)
      have HDs := Lib.hid (HD7.out.later hbs)
      have HEs := Lib.hid (HE7.out.later hbs)
      clear hbs
      go_wp2_with fail
      refine HFQ.out.mono ?_
      rintro e w8 ⟨rfl, hb⟩
      have HB8 := Lib.hid (HBs.out.trans (hb.mono HBs.out.size))
      have HF8 := Lib.hid (HFs.out.below hb)
      clear c0 c1 c2 d0 d1 d2 e0 e1 e2
      obtain ⟨c0, c1, c2⟩ := HCs.out.later hb
      obtain ⟨d0, d1, d2⟩ := HDs.out.later hb
      obtain ⟨e0, e1, e2⟩ := HEs.out.later hb
      clear hb
      go_wp2_with fail
      refine (HLogR.out _).mono ?_
      rintro e w9 ⟨rfl, hb⟩
      have HB9 := Lib.hid (HB8.out.trans (hb.mono HB8.out.size))
      have HF9 := Lib.hid (HF8.out.below hb)
      clear hb c0 c1 c2 d0 d1 d2 e0 e1 e2
      go_wp2_with fail
      refine (HAw.out _ HF9.out).mono ?_
      rintro e w10 ⟨rfl, hb⟩
      have HB10 := Lib.hid (HB9.out.trans (hb.mono HB9.out.size))
      clear hb
      go_wp2
      go_ret
      exact ⟨ret_bool (by simp), HB10.out⟩

theorem lawLogs_any (P A B k : Int) (q r : Pt) (w : World) (hF : Far w) :
    Calls Tryd.prog 6 #[.agg #[.int .i64 P, .int .i64 A, .int .i64 B], .agg #[.int .i64 q.x, .int .i64 q.y, .bool q.f], .agg #[.int .i64 r.x, .int .i64 r.y, .bool r.f], .int .i64 k] w fun e w' => e = .returned (.bool true) ∧ Below w.heap.size w w' := by
  cases hv : vB P A B with
  | false => exact lawLogs_v0 P A B k q r hv w hF
  | true =>
    obtain ⟨N, rfl, -, -, -⟩ := vB_nat hv
    cases hf : (onB (N : Int) A B q && onB (N : Int) A B r) with
    | false =>
      by_cases h1 : k < 1
      · exact lawLogs_a0 N A B k q r hv h1 hf w hF
      · by_cases h2 : 50 < k
        · exact lawLogs_b0 N A B k q r hv h1 h2 hf w hF
        · exact lawLogs_c0 N A B k q r hv h1 h2 hf w hF
    | true =>
      by_cases h1 : k < 1
      · exact lawLogs_a1 N A B k q r hv h1 hf w hF
      · by_cases h2 : 50 < k
        · exact lawLogs_b1 N A B k q r hv h1 h2 hf w hF
        · exact lawLogs_c1 N A B k q r hv h1 h2 hf w hF
end Go.Proofs.YtoepghlkjbpkfaaDoor
