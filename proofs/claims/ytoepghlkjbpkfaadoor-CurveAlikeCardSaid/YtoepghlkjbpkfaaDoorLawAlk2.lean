/- The law CurveAlike, whatever its arguments are. Condition: the far point lies in memory. -/
import Derived.Test.YtoepghlkjbpkfaaDoorLawAlk
namespace Go.Proofs.YtoepghlkjbpkfaaDoor
open Go.RowKit
attribute [local go_sem] Oper.semAt_some

set_option maxHeartbeats 8000000 in
set_option maxRecDepth 100000 in
theorem lawAlike_no (P A B k x y : Int) (f : Bool) (hv : (vB P A B && onB P A B ⟨x, y, f⟩) = false) (w : World) (hF : Far w) :
    Calls Tryd.prog 12 #[.agg #[.int .i64 P, .int .i64 A, .int .i64 B], .int .i64 k, .agg #[.int .i64 x, .int .i64 y, .bool f]] w fun e w' => e = .returned (.bool true) ∧ Below w.heap.size w w' := by
  have HFI := Lib.hid (fun a n c W h hn => fine_any P A B a n c [⟨x, y, f⟩] W h hn)
  have hfi : (vB P A B && [(⟨x, y, f⟩ : Pt)].all (onB P A B)) = false := by simpa using hv
  rw [hfi] at HFI
  clear hfi hv
  have HB := Lib.hid (below2 w (.cells #[.int .i64 P, .int .i64 A, .int .i64 B] 23) (.cells #[.int .i64 x, .int .i64 y, .bool f] 25))
  have hc := C3.new w (.int .i64 P) (.int .i64 A) (.int .i64 B) 23
  have HC := Lib.hid (hc.later (below1 (w.alloc (.cells #[.int .i64 P, .int .i64 A, .int .i64 B] 23)) (.cells #[.int .i64 x, .int .i64 y, .bool f] 25)))
  have hd := C3.new (w.alloc (.cells #[.int .i64 P, .int .i64 A, .int .i64 B] 23)) (.int .i64 x) (.int .i64 y) (.bool f) 25
  rw [show (w.alloc (.cells #[.int .i64 P, .int .i64 A, .int .i64 B] 23)).heap.size = w.heap.size + 1 by simp] at hd
  have HD := Lib.hid hd
  have HFa := Lib.hid (hF.below HB.out)
  obtain ⟨W0, hW0⟩ : ∃ W, (w.alloc (.cells #[.int .i64 P, .int .i64 A, .int .i64 B] 23)).alloc (.cells #[.int .i64 x, .int .i64 y, .bool f] 25) = W := ⟨_, rfl⟩
  rw [hW0] at HB HC HD HFa
  obtain ⟨c0, c1, c2⟩ := HC.out
  obtain ⟨d0, d1, d2⟩ := HD.out
  clear hc hd hF
  go_enter Tryd.func12, Tryd.ntmps12
  have hbs := below1 W0 (.cells #[.int .i64 x, .int .i64 y, .bool f] 25)
  have HFQ := Lib.hid (HFI.out (some ⟨W0.heap.size, 0, none⟩) 1 1 _ (agp_one W0 ⟨x, y, f⟩ 25) (by omega))
  have HB1 := Lib.hid (HB.out.trans (hbs.mono HB.out.size))
  have HF1 := Lib.hid (HFa.out.below hbs)
  clear hbs
  go_wp2_with fail
  refine HFQ.out.mono ?_
  rintro e w1 ⟨rfl, hb⟩
  have HB2 := Lib.hid (HB1.out.trans (hb.mono HB1.out.size))
  have HF2 := Lib.hid (HF1.out.below hb)
  clear hb c0 c1 c2 d0 d1 d2 hW0
  go_wp2_with fail
  refine (awake_any _ HF2.out).mono ?_
  rintro e w2 ⟨rfl, hb⟩
  have HB3 := Lib.hid (HB2.out.trans (hb.mono HB2.out.size))
  clear hb
  go_wp2
  go_ret
  exact ⟨ret_bool rfl, HB3.out⟩
theorem lawAlike_any (P A B k : Int) (q : Pt) (w : World) (hF : Far w) :
    Calls Tryd.prog 12 #[.agg #[.int .i64 P, .int .i64 A, .int .i64 B], .int .i64 k, .agg #[.int .i64 q.x, .int .i64 q.y, .bool q.f]] w fun e w' => e = .returned (.bool true) ∧ Below w.heap.size w w' := by
  obtain ⟨x, y, f⟩ := q
  cases hv : (vB P A B && onB P A B ⟨x, y, f⟩) with
  | false => exact lawAlike_no P A B k x y f hv w hF
  | true =>
    rw [Bool.and_eq_true] at hv
    exact lawAlike_yes P A B k x y f hv.1 hv.2 w hF
end Go.Proofs.YtoepghlkjbpkfaaDoor
