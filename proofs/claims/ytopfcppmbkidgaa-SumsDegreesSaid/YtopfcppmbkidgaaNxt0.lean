/- The walk of next. Condition: the step is one of a chain. -/
import Derived.Test.YtopfcppmbkidgaaStp
namespace Go.Proofs.Ytopfcppmbkidgaa
open Go.RowKit Go.Shelf
attribute [local go_sem] Oper.semAt_some

set_option maxHeartbeats 1000000 in
theorem next0_any (k a n s : Int) (h : Good ⟨k, a, n, s⟩) (hk : a < 0 ∨ n ≤ a) (w : World) : Calls Try.prog 91 #[stV ⟨k, a, n, s⟩] w fun e w' => e = .returned (stV ⟨0, a % n, n, s⟩) ∧ Below w.heap.size w w' := by
  obtain ⟨a0, a1, n0, n1, od, hs⟩ := h
  simp only at a0 a1 n0 n1 od hs
  have HB := Lib.hid (fun x y z u x' y' z' u' => show Below w.heap.size w ((w.alloc (.cells #[x, y, z, u] 66)).alloc (.cells #[x', y', z', u'] 66)) from ((Below.refl _ _).alloc (Nat.le_refl _) _).alloc (by simp) _)
  have HR := Lib.hid (show a.tmod n % n = a % n by have := tmod_res2 (n := a) (m := n) (by omega); rwa [Int.add_emod_right] at this)
  have b1 := Int.tmod_lt_of_pos a (show 0 < n by omega)
  have b2 := Int.lt_tmod_of_pos a (show 0 < n by omega)
  have hne : ¬ n = 0 := by omega
  clear hs
  unfold stV
  by_cases hneg : a < 0
  · go_enter Try.func91, Try.ntmps91
    go_wp2
    go_region
    all_goals
      go_wp2
      exact bodyPost_ret (v := .agg #[.int .i64 0, .int .i64 (a % n), .int .i64 n, .int .i64 s]) (by simp [results, Try.results91, go_sem, HR.out]) rfl ⟨rfl, by first | exact (HB.out _ _ _ _ _ _ _ _).drew | exact HB.out _ _ _ _ _ _ _ _⟩
  · have hge : n ≤ a := by omega
    have h0 : 0 ≤ a := by omega
    have r0 : 0 ≤ a % n := Int.emod_nonneg a hne
    have r1 : a % n < n := Int.emod_lt_of_pos a (by omega)
    have HM := Lib.hid (show (a % n + n).tmod n = a % n by rw [Int.tmod_eq_emod_of_nonneg (by omega), Int.add_emod_right, Int.emod_emod])
    have hw : wrap64 (a % n + n) = a % n + n := IntWalk.wrap64_in _ (by omega)
    clear hk b1 b2
    go_enter Try.func91, Try.ntmps91
    go_wp2
    go_region
    all_goals
      go_wp2
      exact bodyPost_ret (v := .agg #[.int .i64 0, .int .i64 (a % n), .int .i64 n, .int .i64 s]) (by simp [results, Try.results91, go_sem, HR.out, HM.out, hw]) rfl ⟨rfl, by first | exact (HB.out _ _ _ _ _ _ _ _).drew | exact HB.out _ _ _ _ _ _ _ _⟩

end Go.Proofs.Ytopfcppmbkidgaa
