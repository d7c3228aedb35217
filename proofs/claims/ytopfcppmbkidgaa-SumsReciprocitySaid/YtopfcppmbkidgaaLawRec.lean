/- The law SumsReciprocity: it returns true, whatever its arguments are. -/
import Derived.Test.YtopfcppmbkidgaaRcPZ
import Derived.Test.YtopfcppmbkidgaaRcPP
import Derived.Test.YtopfcppmbkidgaaRcNZ
import Derived.Test.YtopfcppmbkidgaaRcNP
import Derived.Test.YtopfcppmbkidgaaRcOZ
import Derived.Test.YtopfcppmbkidgaaRcOP
namespace Go.Proofs.Ytopfcppmbkidgaa
open Go.RowKit
attribute [local go_sem] Oper.semAt_some

set_option maxRecDepth 100000 in
set_option maxHeartbeats 4000000 in
theorem rec_no (a m n : Int) (h : ¬ isSym a n) (w : World) :
    Calls Try.prog 13 #[.int .i64 a, .int .i64 m, .int .i64 n] w fun e w' => e = .returned (.bool true) ∧ Below w.heap.size w w' := by
  have HC := Lib.hid (fun W => Chain_no a n h W)
  have HJ := Lib.hid (fun W => Jacobi_no a n h W)
  have HA := Lib.hid (fun W => awake_any W)
  clear h
  go_enter Try.func13, Try.ntmps13
  go_wp2_with fail
  refine (HC.out _).mono ?_
  rintro e v1 ⟨rfl, hb⟩
  have KP := Lib.hid hb
  clear hb
  go_wp2_with fail
  refine (HJ.out _).mono ?_
  rintro e v2 ⟨rfl, hb⟩
  have KQ := Lib.hid (KP.out.trans (hb.mono KP.out.size))
  clear hb KP
  go_wp2_with fail
  refine (HA.out _).mono ?_
  rintro e v3 ⟨rfl, hb⟩
  have KP := Lib.hid (KQ.out.trans (hb.mono KQ.out.size))
  clear hb KQ
  go_wp2
  go_ret
  exact ⟨rfl, KP.out⟩

theorem rec_any (a m n : Int) (w : World) : Calls Try.prog 13 #[.int .i64 a, .int .i64 m, .int .i64 n] w fun e w' => e = .returned (.bool true) ∧ Below w.heap.size w w' := by
  by_cases h : isSym a n
  · obtain ⟨k, rfl⟩ := Int.eq_ofNat_of_zero_le (show 0 ≤ n by have := h.2.2.1; omega)
    obtain ⟨N, hN⟩ := len_ex h
    rcases Nat.eq_zero_or_pos N with h0 | h0
    · rcases (by omega : 0 < a ∨ a < 0 ∨ a = 0) with ha | ha | ha
      · exact rec_pz a m k h ha N 0 hN h0 w
      · exact rec_nz a m k h ha N 0 hN h0 w
      · exact rec_oz a m k h ha N 0 hN h0 w
    · have h1 : N = (N - 1) + 1 := by omega
      rcases (by omega : 0 < a ∨ a < 0 ∨ a = 0) with ha | ha | ha
      · exact rec_pp a m k h ha N (N - 1) hN h1 w
      · exact rec_np a m k h ha N (N - 1) hN h1 w
      · exact rec_op a m k h ha N (N - 1) hN h1 w
  · exact rec_no a m n h w
end Go.Proofs.Ytopfcppmbkidgaa
