/- The walk of refined. Condition: the pair is one of a system, r from 2 to 5. -/
import Derived.Test.YtanhjgneaaenpaaAsk
namespace Go.Proofs.Ytanhjgneaaenpaa
open Go.RowKit
attribute [local go_sem] Oper.semAt_some

theorem cell_two_new (W : World) (x y : Value) (t : TypeId) : ∀ (j : Nat) (u : Value), [x, y][j]? = some u → (W.alloc (.cells #[x, y] t)).cell? ((⟨W.heap.size, 0, none⟩ : Addr).add j) = some u := by
  intro j u h
  have hn : (W.alloc (.cells #[x, y] t)).heap[W.heap.size]? = some (.cells #[x, y] t (0, 0)) := heap_alloc_last W _
  unfold World.cell?
  rw [show ((⟨W.heap.size, 0, none⟩ : Addr).add j).block = W.heap.size by unfold Addr.add; split <;> rfl, hn]
  match j, h with
  | 0, h => simpa [Addr.add] using h
  | 1, h => simpa [Addr.add] using h
  | j + 2, h => simp at h
theorem refL_len (p : Int × Int) (r : Int) (k : Nat) : (refL p r k).length = k := by simp [refL]

set_option maxRecDepth 100000 in
set_option maxHeartbeats 4000000 in
theorem refined_any (x y : Int) (r : Nat) (w : World) (hx : 0 ≤ x ∧ x < y) (hy : 1 ≤ y ∧ y ≤ 60) (hr : r ≤ 5) :
    Calls Try.prog 67 #[.agg #[.int .i64 x, .int .i64 y], .int .i64 (r : Int)] w fun e w' => ∃ v', e = .returned v' ∧ Row2 w.heap.size v' (refL (x, y) (r : Int) r) w' ∧ Below w.heap.size w w' := by
  obtain ⟨i0, hi, hz0, hz1, hz2⟩ := info_parts info44
  have HI := Lib.hid (And.intro hi (And.intro hz0 (And.intro hz1 hz2)))
  clear hi hz0 hz1 hz2
  obtain ⟨x0, x1⟩ := hx
  obtain ⟨y0, y1⟩ := hy
  go_enter Try.func67, Try.ntmps67
  go_wp2
  go_quiet (fail)
  go_wp2
  have hB0 : Below w.heap.size w ((w.alloc (.cells #[.int .i64 x, .int .i64 y] 44)).drewN nq) := below_drewN ((Below.refl _ _).alloc (Nat.le_refl _) _) _
  obtain ⟨W0, hW0⟩ : ∃ W0, ((w.alloc (.cells #[.int .i64 x, .int .i64 y] 44)).drewN nq) = W0 := ⟨_, rfl⟩
  rw [hW0] at hB0 ⊢
  have HB0 := Lib.hid hB0
  clear hW0 hB0
  go_loopg [7, 8, 14] r (fun gk s7 s8 s14 wr => ∃ (k : Nat), k + gk = r ∧ s14 = .int .i64 (k : Int) ∧ Row2 w.heap.size s7 (refL (x, y) (r : Int) k) wr ∧ Below w.heap.size w wr)
  case atStart => exact ⟨0, by omega, rfl, World.ownsRow_nil _ _ _ _, HB0.out⟩
  case round =>
    obtain ⟨k, hk, rfl, ho, hb⟩ := hrel
    have HK := Lib.hid hk
    have HO := Lib.hid ho
    have HB := Lib.hid hb
    clear ho hb
    by_cases hkr : k = r
    · have hge : ¬ (k : Int) < (r : Int) := by omega
      have hge2 : ¬ k < r := by omega
      have hf := HO.out
      rw [hkr] at hf
      have HF := Lib.hid hf
      clear hkr hk HO hf
      go_wp2
      go_ret
      exact ⟨_, rfl, HF.out, HB.out⟩
    · have hlt : (k : Int) < (r : Int) := by omega
      have hlt2 : k < r := by omega
      have k5 : (k : Int) ≤ 5 := by omega
      have r5 : (r : Int) ≤ 5 := by omega
      have k0 : (0 : Int) ≤ (k : Int) := by omega
      have q1 : 0 ≤ (k : Int) * y := Int.mul_nonneg k0 (by omega)
      have q2 : (k : Int) * y ≤ 5 * y := Int.mul_le_mul_of_nonneg_right k5 (by omega)
      have q3 : 0 ≤ y * (r : Int) := Int.mul_nonneg (by omega) (by omega)
      have q4 : y * (r : Int) ≤ y * 5 := Int.mul_le_mul_of_nonneg_left r5 (by omega)
      have q2' : (k : Int) * y ≤ 300 := by omega
      have q4' : y * (r : Int) ≤ 300 := by omega
      have ho := HO.out
      unfold Row2 at ho
      have hl : (refL (x, y) (r : Int) k).length = k := refL_len _ _ _
      rw [hl] at ho
      have hsz := HB.out.size
      have HS := Lib.hid (refL_succ (x, y) (r : Int) k)
      obtain ⟨hi, hz0, hz1, hz2⟩ := HI.out
      clear hkr hk q2 q4
      go_wp2_with (at_builtin; refine wpList_append_own _ rfl _ _ 58 rfl w.heap.size 44 i0 (.agg #[.int .i64 0, .int .i64 0]) 2 16 Try.underlying58 hi hz0 hz1 hz2 rfl (by decide) _ _ _ rfl (ho.alloc _) ⟨wr.heap.size, 0, none⟩ 1 1 [.int .i64 (x + (k : Int) * y), .int .i64 (y * (r : Int))] rfl rfl (cell_two_new _ _ _ _) (by simp [Value.oneCell']) (by unfold maxLen; omega) (by omega) (by simp; omega) ?_; intro v' w1 hown' hgrow _)
      have hb1 : Below w.heap.size w w1 := (HB.out.alloc hsz _).grown hgrow (by simp; omega) (fun j e => (ho.lt j e).1)
      have HB1 := Lib.hid hb1
      have hown2 : Row2 w.heap.size v' (refL (x, y) (r : Int) (k + 1)) w1 := by
        unfold Row2
        rw [HS.out, List.length_append, hl, fl_app]
        exact hown'
      go_roundg (r - k - 1)
      case rel => exact ⟨k + 1, by have := HK.out; omega, by go_num, hown2, HB1.out⟩
      case measure => have := HK.out; omega
end Go.Proofs.Ytanhjgneaaenpaa
