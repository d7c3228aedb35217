/- The walk of Shape at a valid curve. Condition: the far point lies in memory. -/
import Derived.Test.YtoepghlkjbpkfaaDoorShp
import Derived.Test.YtoepghlkjbpkfaaDoorIsoShp
import Derived.Test.YtoepghlkjbpkfaaDoorAbk
namespace Go.Proofs.YtoepghlkjbpkfaaDoor
open Go.RowKit
attribute [local go_sem] Oper.semAt_some

set_option maxHeartbeats 4000000 in
theorem Shape_yes (P A B : Int) (m n : Nat) (hv : vB P A B = true) (hm : (ptsL P A B).length / shN P A B = m) (hn : shN P A B = n) (w : World) (hF : Far w) :
    Calls Tryd.prog 36 #[.agg #[.int .i64 P, .int .i64 A, .int .i64 B]] w fun e w' => e = .returned (.tuple #[.int .i64 (m : Int), .int .i64 (n : Int), .int .i64 0]) ∧ Below w.heap.size w w' := by
  obtain ⟨N, rfl, h1, h2, h3⟩ := vB_nat hv
  have HB := Lib.hid (below1 w (.cells #[.int .i64 (N : Int), .int .i64 A, .int .i64 B] 30))
  have HC := Lib.hid (C3.new w (.int .i64 (N : Int)) (.int .i64 A) (.int .i64 B) 30)
  have HV := Lib.hid (fun W hF => valid_any (N : Int) A B none 0 0 [] W (AgP.nil _ _) (by omega) hF)
  rw [hv] at HV
  have HP := Lib.hid (fun W hF => shape_any N A B hv W hF)
  rw [hm, hn] at HP
  have HF1 := Lib.hid (hF.below HB.out)
  clear hv hF h1 h2 h3 hm hn
  go_enter Tryd.func36, Tryd.ntmps36
  go_wp2_with fail
  refine (HV.out _ HF1.out).mono ?_
  rintro e w1 ⟨rfl, hb⟩
  have HB1 := Lib.hid (HB.out.trans (hb.mono (by simp)))
  have HF2 := Lib.hid (HF1.out.below hb)
  obtain ⟨q0, q1, q2⟩ := HC.out.later hb
  clear hb
  go_wp2_with fail
  refine (HP.out _ HF2.out).mono ?_
  rintro e w2 ⟨rfl, hb⟩
  have HB2 := Lib.hid (HB1.out.trans (hb.mono HB1.out.size))
  clear hb
  go_wp2
  go_ret3
  exact ⟨rfl, HB2.out⟩
end Go.Proofs.YtoepghlkjbpkfaaDoor
