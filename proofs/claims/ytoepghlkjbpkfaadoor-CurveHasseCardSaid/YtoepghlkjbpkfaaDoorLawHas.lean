/- The law CurveHasse: it returns true, whatever its argument is. Condition: the far point lies in memory. -/
import Derived.Test.YtoepghlkjbpkfaaDoorHsMath
namespace Go.Proofs.YtoepghlkjbpkfaaDoor
open Go.RowKit
attribute [local go_sem] Oper.semAt_some

set_option maxHeartbeats 8000000 in
set_option maxRecDepth 100000 in
theorem lawHasse_no (P A B : Int) (hv : vB P A B = false) (w : World) (hF : Far w) :
    Calls Tryd.prog 11 #[.agg #[.int .i64 P, .int .i64 A, .int .i64 B]] w fun e w' => e = .returned (.bool true) ∧ Below w.heap.size w w' := by
  have HB := Lib.hid (below1 w (.cells #[.int .i64 P, .int .i64 A, .int .i64 B] 23))
  have HC := Lib.hid (C3.new w (.int .i64 P) (.int .i64 A) (.int .i64 B) 23)
  have HF1 := Lib.hid (hF.below HB.out)
  have HOf := Lib.hid (fun W => Of_any P A B W)
  have HAw := Lib.hid (fun W hF => awake_any W hF)
  have HP := Lib.hid (fun W hF => Points_no P A B hv W hF)
  have HT := Lib.hid (fun W hF => Twist_no P A B hv W hF)
  clear hv hF
  go_enter Tryd.func11, Tryd.ntmps11
  go_wp2_with fail
  refine (HOf.out _).mono ?_
  rintro e w1 ⟨rfl, hb⟩
  have HB1 := Lib.hid (HB.out.trans (hb.mono HB.out.size))
  have HF2 := Lib.hid (HF1.out.below hb)
  have HC1 := Lib.hid (HC.out.later hb)
  clear hb
  go_wp2_with fail
  refine (HP.out _ HF2.out).mono ?_
  rintro e w2 ⟨rfl, hb⟩
  have HB2 := Lib.hid (HB1.out.trans (hb.mono HB1.out.size))
  have HF3 := Lib.hid (HF2.out.below hb)
  obtain ⟨q0, q1, q2⟩ := HC1.out.later hb
  clear hb
  go_wp2_with fail
  refine (HOf.out _).mono ?_
  rintro e w3 ⟨rfl, hb⟩
  have HB3 := Lib.hid (HB2.out.trans (hb.mono HB2.out.size))
  have HF4 := Lib.hid (HF3.out.below hb)
  clear hb
  go_wp2_with fail
  refine (HT.out _ HF4.out).mono ?_
  rintro e w4 ⟨rfl, hb⟩
  have HB4 := Lib.hid ((HB3.out.trans (hb.mono HB3.out.size)).alloc (Nat.le_trans HB3.out.size hb.size) (.cells #[.int .i64 0, .int .i64 0, .int .i64 0] 30))
  have HF5 := Lib.hid ((HF4.out.below hb).below (below1 w4 (.cells #[.int .i64 0, .int .i64 0, .int .i64 0] 30)))
  clear hb
  go_wp2_with fail
  refine (HAw.out _ HF5.out).mono ?_
  rintro e w5 ⟨rfl, hb⟩
  have HB5 := Lib.hid (HB4.out.trans (hb.mono HB4.out.size))
  clear hb
  go_wp2
  go_ret
  exact ⟨rfl, HB5.out⟩

set_option maxHeartbeats 8000000 in
set_option maxRecDepth 100000 in
theorem lawHasse_yes (P : Nat) (A B : Int) (hv : vB P A B = true) (w : World) (hF : Far w) :
    Calls Tryd.prog 11 #[.agg #[.int .i64 (P : Int), .int .i64 A, .int .i64 B]] w fun e w' => e = .returned (.bool true) ∧ Below w.heap.size w w' := by
  obtain ⟨hv2, hs, hh⟩ := hasse hv
  have h31 := (vB_le hv).1
  have HB := Lib.hid (below1 w (.cells #[.int .i64 (P : Int), .int .i64 A, .int .i64 B] 23))
  have HC := Lib.hid (C3.new w (.int .i64 (P : Int)) (.int .i64 A) (.int .i64 B) 23)
  have HF1 := Lib.hid (hF.below HB.out)
  have HOf := Lib.hid (fun W => Of_any P A B W)
  have HAw := Lib.hid (fun W hF => awake_any W hF)
  have HP := Lib.hid (fun W hF => Points_yes P A B hv W hF)
  have HT := Lib.hid (fun W hF => Twist_yes P A B hv W hF)
  have HP2 := Lib.hid (fun W hF => Points_yes P (twA P A) (twB P B) hv2 W hF)
  have HVR := Lib.hid (fun W => validR_any (P : Int) A B W)
  rw [hv] at HVR
  have hl1 := ptsL_len hv
  have hl2 := ptsL_len hv2
  obtain ⟨TA, hTA⟩ : ∃ x, twA P A = x := ⟨_, rfl⟩
  obtain ⟨TB, hTB⟩ : ∃ x, twB P B = x := ⟨_, rfl⟩
  rw [hTA, hTB] at HT HP2 hs hl2
  obtain ⟨L, hL⟩ : ∃ x, ptsL P A B = x := ⟨_, rfl⟩
  obtain ⟨M, hM⟩ : ∃ x, ptsL P TA TB = x := ⟨_, rfl⟩
  rw [hL] at HP hs hh hl1
  rw [hM] at HP2 hs hl2
  have HN := Lib.hid (show ∀ a b : Nat, L.length = a → M.length = b → a ≤ 962 ∧ b ≤ 962 ∧ ((a : Int) + (b : Int) = 2 * (P : Int) + 2) ∧ (((a : Int) - (P : Int) - 1) * ((a : Int) - (P : Int) - 1) ≤ 4 * (P : Int)) from fun a b ha hb => by
    subst ha hb
    refine ⟨hl1, hl2, by omega, ?_⟩
    have e : ((L.length : Int) - (P : Int) - 1) * ((L.length : Int) - (P : Int) - 1) = (L.length : Int) * L.length + ((P : Int) + 1) * (P + 1) - 2 * L.length * (P + 1) := by grind
    rw [e]
    omega)
  clear hv hv2 hF hs hh hl1 hl2 hTA hTB hL hM
  go_enter Tryd.func11, Tryd.ntmps11
  go_wp2_with fail
  refine (HOf.out _).mono ?_
  rintro e w1 ⟨rfl, hb⟩
  have HB1 := Lib.hid (HB.out.trans (hb.mono HB.out.size))
  have HF2 := Lib.hid (HF1.out.below hb)
  have HC1 := Lib.hid (HC.out.later hb)
  clear hb
  go_wp2_with fail
  refine (HP.out _ HF2.out).mono ?_
  rintro e w2 ⟨⟨vl, rfl, hr⟩, hb⟩
  obtain ⟨al, cl, rfl, hm1, hm2, -⟩ := AgP.of hr
  have HB2 := Lib.hid (HB1.out.trans (hb.mono HB1.out.size))
  have HF3 := Lib.hid (HF2.out.below hb)
  have HC2 := Lib.hid (HC1.out.later hb)
  obtain ⟨q0, q1, q2⟩ := HC2.out
  obtain ⟨a, ha⟩ : ∃ a, L.length = a := ⟨_, rfl⟩
  rw [ha] at hm1 ⊢
  have HA := Lib.hid ha
  clear hb hr ha hm1 hm2
  go_wp2_with fail
  refine (HOf.out _).mono ?_
  rintro e w3 ⟨rfl, hb⟩
  have HB3 := Lib.hid (HB2.out.trans (hb.mono HB2.out.size))
  have HF4 := Lib.hid (HF3.out.below hb)
  have HC3 := Lib.hid (HC2.out.later hb)
  clear hb
  go_wp2_with fail
  refine (HT.out _ HF4.out).mono ?_
  rintro e w4 ⟨rfl, hb⟩
  have hbx := below1 w4 (.cells #[.int .i64 (P : Int), .int .i64 TA, .int .i64 TB] 30)
  have HB4 := Lib.hid ((HB3.out.trans (hb.mono HB3.out.size)).trans (hbx.mono (Nat.le_trans HB3.out.size hb.size)))
  have HF5 := Lib.hid ((HF4.out.below hb).below hbx)
  have HC4 := Lib.hid ((HC3.out.later hb).later hbx)
  have HD4 := Lib.hid (C3.new w4 (.int .i64 (P : Int)) (.int .i64 TA) (.int .i64 TB) 30)
  clear q0 q1 q2
  obtain ⟨q0, q1, q2⟩ := HC4.out
  clear hb hbx
  go_wp2_with fail
  refine (HVR.out _).mono ?_
  rintro e w5 ⟨rfl, hb⟩
  have HB5 := Lib.hid (HB4.out.trans (hb.mono HB4.out.size))
  have HF6 := Lib.hid (HF5.out.below hb)
  have HC5 := Lib.hid (HC4.out.later hb)
  have HD5 := Lib.hid (HD4.out.later hb)
  clear hb q0 q1 q2
  obtain ⟨r0, r1, r2⟩ := HD5.out
  go_wp2_with fail
  refine (HP2.out _ HF6.out).mono ?_
  rintro e w6 ⟨⟨vm, rfl, hr⟩, hb⟩
  obtain ⟨am, cm, rfl, hm1, hm2, -⟩ := AgP.of hr
  have HB6 := Lib.hid (HB5.out.trans (hb.mono HB5.out.size))
  have HF7 := Lib.hid (HF6.out.below hb)
  obtain ⟨q0, q1, q2⟩ := HC5.out.later hb
  obtain ⟨b, hbb⟩ : ∃ b, M.length = b := ⟨_, rfl⟩
  rw [hbb] at hm1 ⊢
  obtain ⟨n1, n2, n3, n4⟩ := HN.out a b HA.out hbb
  have n5 : 0 ≤ ((a : Int) - (P : Int) - 1) * ((a : Int) - (P : Int) - 1) := by
    rcases Int.le_total 0 ((a : Int) - (P : Int) - 1) with h | h
    · exact Int.mul_nonneg h h
    · exact Int.mul_nonneg_of_nonpos_of_nonpos h h
  clear hb hr hbb hm1 hm2
  go_wp2_with fail
  refine (HAw.out _ HF7.out).mono ?_
  rintro e w7 ⟨rfl, hb⟩
  have HB7 := Lib.hid (HB6.out.trans (hb.mono HB6.out.size))
  clear hb
  go_wp2
  go_ret
  exact ⟨ret_bool (by simp), HB7.out⟩

theorem lawHasse_any (P A B : Int) (w : World) (hF : Far w) :
    Calls Tryd.prog 11 #[.agg #[.int .i64 P, .int .i64 A, .int .i64 B]] w fun e w' => e = .returned (.bool true) ∧ Below w.heap.size w w' := by
  cases hv : vB P A B with
  | false => exact lawHasse_no P A B hv w hF
  | true =>
    obtain ⟨N, rfl, -, -, -⟩ := vB_nat hv
    exact lawHasse_yes N A B hv w hF
end Go.Proofs.YtoepghlkjbpkfaaDoor
