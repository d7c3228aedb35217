/- The walks of numeral.coldPair, Pair and Cold: the cold pair of a difference. Condition: the difference is at most a million. -/
import Derived.Test.YtbdabpmpfciibaaCircLaw
import Derived.ChangeKeysEq
import Derived.Laws.StructEq
import Derived.Deep.RegionHeld3
namespace Go.Proofs.Ytbdabpmpfciibaa
open Go.RowKit
attribute [local go_sem] Oper.semAt_some

/-- The lesser heap of the cold pair with the difference n. -/
def coldA (n : Int) : Int := if n = 0 then 0 else shN (n - 1) + 1
def cpA (d : Int) : Int := if d < 0 then coldA (-d) - d else coldA d
def cpB (d : Int) : Int := if d < 0 then coldA (-d) else coldA d + d
theorem coldA_0 : coldA 0 = 0 := rfl
theorem coldA_near {n : Int} (h1 : 1 ≤ n) (h2 : n ≤ 1000000000) : 2880067194370816120 * coldA n < 4660046610375530309 * n ∧ 4660046610375530309 * n < 2880067194370816120 * coldA n + 2880067194370816120 := by
  have := near_num (isNum_mk (n := n - 1) (by omega) (by omega))
  unfold coldA
  rw [if_neg (by omega)]
  omega
theorem coldA_bd {n : Int} (h0 : 0 ≤ n) (h2 : n ≤ 1000000000) : 0 ≤ coldA n ∧ coldA n ≤ 2 * n := by
  by_cases h : n = 0
  · subst h; rw [coldA_0]; omega
  · have := coldA_near (by omega) h2
    omega
theorem shN_small {n : Int} (h0 : 0 ≤ n) (h2 : n ≤ 1000000000) : szV (shN n) = shN n ∧ 0 ≤ shN n ∧ shN n ≤ 2000000000 := by
  have h := near_num (isNum_mk h0 (show n ≤ 1000000000000 by omega))
  have hb := shN_bd (isNum_mk h0 (show n ≤ 1000000000000 by omega))
  refine ⟨?_, hb.1, by omega⟩
  unfold szV; rw [if_neg (by omega)]

theorem info72 : (Try.prog.info? 72).map (·.size) = some 2 := by kernel_rfl
theorem info46 : (Try.prog.info? 46).map (·.size) = some 2 := by kernel_rfl
/-- A box of two cells, laid at the start. -/
structure PW (w : World) (W : World) : Prop where
  b : Below w.heap.size w W
  h : W.heap[w.heap.size]? = some (.cells #[.int .i64 0, .int .i64 0] 72 (0, 0))
theorem PW.start (w : World) : PW w (w.alloc (.cells #[.int .i64 0, .int .i64 0] 72)) := ⟨(Below.refl _ _).alloc (Nat.le_refl _) _, heap_alloc_last w _⟩
theorem PW.later {w W W' : World} (h : PW w W) (hb : Below W.heap.size W W') : PW w W' :=
  ⟨h.b.trans (hb.mono h.b.size), (hb.block _ (Array.getElem?_eq_some_iff.1 h.h).1).trans h.h⟩
theorem one_pair (x y : Int) : (#[Value.int .i64 x, Value.int .i64 y] : Array Value).all (·.oneCell') = true := by simp [Value.oneCell']
theorem ret_pair {k : IntKind} {a b c d : Int} (h : a = b) (h2 : c = d) : Ending.returned (.agg #[.int k a, .int k c]) = .returned (.agg #[.int k b, .int k d]) := by rw [h, h2]

set_option maxHeartbeats 4000000 in
set_option maxRecDepth 100000 in
theorem coldPair_any (d : Int) (w : World) (h0 : -1000000 ≤ d) (h1 : d ≤ 1000000) :
    Calls Try.prog 77 #[.int .i64 d] w fun e w' => e = .returned (.agg #[.int .i64 (cpA d), .int .i64 (cpB d)]) ∧ Below w.heap.size w w' := by
  rcases Int.lt_trichotomy d 0 with hd | hd | hd
  · obtain ⟨n, rfl⟩ : ∃ n, d = -n := ⟨-d, by omega⟩
    have hs := shN_small (n := n - 1) (by omega) (by omega)
    have hE := shifted_any (n - 1) 1
    have hn := isNum_mk (n := n - 1) (by omega) (by omega)
    have hA : cpA (-n) = shN (n - 1) + 1 + n := by unfold cpA coldA; rw [if_pos hd, Int.neg_neg, if_neg (by omega)]; omega
    have hB : cpB (-n) = shN (n - 1) + 1 := by unfold cpB coldA; rw [if_pos hd, Int.neg_neg, if_neg (by omega)]
    have hE2 := fun w => hE w hn (by omega) (by omega) (two_up hn (by omega))
    rw [show sumF 1 (enc (n - 1)) = shN (n - 1) from rfl, hs.1] at hE2
    obtain ⟨S, hS⟩ : ∃ S, shN (n - 1) = S := ⟨_, rfl⟩
    obtain ⟨F, hF⟩ : ∃ F, szE (shN (n - 1)) = F := ⟨_, rfl⟩
    rw [hF] at hE2
    rw [hS] at hE2 hs hA hB
    rw [hA, hB]
    obtain ⟨-, s0, s1⟩ := hs
    have HE := Lib.hid hE2
    have n1 : 1 ≤ n := by omega
    have n2 : n ≤ 1000000 := by omega
    have hm : max (-n) n = n := by omega
    have hz : ¬ n = 0 := by omega
    have hneg : - -n = n := by omega
    have hlt : -n < 0 := by omega
    have hlt2 : 0 < n := by omega
    clear hE hE2 hS hF hA hB hn hd h0 h1
    go_enter Try.func77, Try.ntmps77
    go_wp2_with fail
    refine (HE.out _).mono ?_
    rintro e w1 ⟨rfl, hb⟩
    have HP := Lib.hid (PW.later (PW.start w) hb)
    clear hb
    go_wp2_with (refine wpList_store_row rfl 72 (.tmp 2) (.tmp 28) rfl w.heap.size #[.int .i64 (S + 1 + n), .int .i64 (S + 1)] #[.int .i64 0, .int .i64 0] rfl rfl HP.out.h info72 rfl (one_pair _ _) ?_)
    refine bodyPost_ret (v := .agg #[.int .i64 (S + 1 + n), .int .i64 (S + 1)]) ?_ rfl ⟨rfl, below_setRow HP.out.b (Nat.le_refl _) _⟩
    rw [results_cell_one (fn := Try.f77) (p := 2) (ty := 72) Try.results77]
    exact run_loadVar_row _ _ 72 72 _ (0, 0) _ (setRow_heap w1 w.heap.size _ _ 72 (0, 0) HP.out.h) Try.underlying72 rfl info72
  · subst hd
    go_enter Try.func77, Try.ntmps77
    go_wp2
    refine bodyPost_ret (v := .agg #[.int .i64 0, .int .i64 0]) ?_ rfl ⟨rfl, (PW.start w).b⟩
    rw [results_cell_one (fn := Try.f77) (p := 2) (ty := 72) Try.results77]
    exact run_loadVar_row _ _ 72 72 _ (0, 0) _ (PW.start w).h Try.underlying72 rfl info72
  · have hs := shN_small (n := d - 1) (by omega) (by omega)
    have hE := shifted_any (d - 1) 1
    have hn := isNum_mk (n := d - 1) (by omega) (by omega)
    have hA : cpA d = shN (d - 1) + 1 := by unfold cpA coldA; rw [if_neg (by omega), if_neg (by omega)]
    have hB : cpB d = shN (d - 1) + 1 + d := by unfold cpB coldA; rw [if_neg (by omega), if_neg (by omega)]
    have hE2 := fun w => hE w hn (by omega) (by omega) (two_up hn (by omega))
    rw [show sumF 1 (enc (d - 1)) = shN (d - 1) from rfl, hs.1] at hE2
    obtain ⟨S, hS⟩ : ∃ S, shN (d - 1) = S := ⟨_, rfl⟩
    obtain ⟨F, hF⟩ : ∃ F, szE (shN (d - 1)) = F := ⟨_, rfl⟩
    rw [hF] at hE2
    rw [hS] at hE2 hs hA hB
    rw [hA, hB]
    obtain ⟨-, s0, s1⟩ := hs
    have HE := Lib.hid hE2
    have hm : max d (-d) = d := by omega
    have hz : ¬ d = 0 := by omega
    have hlt : ¬ d < 0 := by omega
    clear hE hE2 hS hF hA hB hn h0
    go_enter Try.func77, Try.ntmps77
    go_wp2_with fail
    refine (HE.out _).mono ?_
    rintro e w1 ⟨rfl, hb⟩
    have HP := Lib.hid (PW.later (PW.start w) hb)
    clear hb
    go_wp2_with (refine wpList_store_row rfl 72 (.tmp 2) (.tmp 33) rfl w.heap.size #[.int .i64 (S + 1), .int .i64 (S + 1 + d)] #[.int .i64 0, .int .i64 0] rfl rfl HP.out.h info72 rfl (one_pair _ _) ?_)
    refine bodyPost_ret (v := .agg #[.int .i64 (S + 1), .int .i64 (S + 1 + d)]) ?_ rfl ⟨rfl, below_setRow HP.out.b (Nat.le_refl _) _⟩
    rw [results_cell_one (fn := Try.f77) (p := 2) (ty := 72) Try.results77]
    exact run_loadVar_row _ _ 72 72 _ (0, 0) _ (setRow_heap w1 w.heap.size _ _ 72 (0, 0) HP.out.h) Try.underlying72 rfl info72
end Go.Proofs.Ytbdabpmpfciibaa
