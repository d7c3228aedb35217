/- The walks of roots, and of the reference's Roots. Condition: the slice lies in memory, the numbers are in range. -/
import Derived.Test.YtjlaclbgfidiiaaAt
namespace Go.Proofs.Ytjlaclbgfidiiaa
open Go.RowKit
attribute [local go_sem] Oper.semAt_some

/-- The residues below k at which m divides the value. -/
def rtsP (f : List Int) (m k : Nat) : List Int := ((List.range k).map fun (i : Nat) => (i : Int)).filter fun x => decide (ev f x % (m : Int) = 0)
theorem rtsP_yes {xs : List Int} {m k : Nat} (h : ev xs (k : Int) % (m : Int) = 0) : rtsP xs m (k + 1) = rtsP xs m k ++ [(k : Int)] := by
  unfold rtsP
  rw [List.range_succ, List.map_append, List.filter_append]
  simp [h]
theorem rtsP_no {xs : List Int} {m k : Nat} (h : ¬ ev xs (k : Int) % (m : Int) = 0) : rtsP xs m (k + 1) = rtsP xs m k := by
  unfold rtsP
  rw [List.range_succ, List.map_append, List.filter_append]
  simp [h]
theorem rtsP_len (xs : List Int) (m k : Nat) : (rtsP xs m k).length ≤ k := by
  unfold rtsP
  exact Nat.le_trans (List.length_filter_le _ _) (by simp)
theorem rts_len (xs : List Int) (m : Nat) : (rts xs m).length ≤ m := rtsP_len xs m m
theorem Row.drew {B : Nat} {v : Value} {xs : List Int} {W : World} (h : Row B v xs W) (q : Nat) : Row B v xs (W.drewN q) := own_same h (fun _ _ _ => rfl)

set_option maxHeartbeats 4000000 in
set_option maxRecDepth 100000 in
theorem roots_any (a : Option Addr) (n c : Nat) (xs : List Int) (m : Nat) (w : World) (h : Ints w a n xs) (hn : n ≤ 20) (hx : ∀ j, j < n → -100000 ≤ xs.getD j 0 ∧ xs.getD j 0 ≤ 100000) (m1 : m ≤ 20000) :
    Calls Try.prog 55 #[.slice a n c, .int .i64 (m : Int)] w fun e w' => (∃ v, e = .returned v ∧ Row w.heap.size v (rts xs m) w') ∧ Below w.heap.size w w' := by
  have hA := fun (wr : World) (k : Nat) (hk : k < m) (hb : Below w.heap.size w wr) => at_any a n c xs (k : Int) (m : Int) wr (h.below hb) hn hx (by omega) (by omega) (by omega)
  have HA := Lib.hid hA
  clear hA h hx
  go_enter Try.func55, Try.ntmps55
  go_wp2
  go_loopg [5, 8] m (fun gk v s8 wr => ∃ k : Nat, k + gk = m ∧ s8 = .int .i64 (k : Int) ∧ Row w.heap.size v (rtsP xs m k) wr ∧ Below w.heap.size w wr)
  case atStart => exact ⟨0, by omega, rfl, Row.nil _ _, Below.refl _ _⟩
  case round =>
    obtain ⟨k, hk, rfl, hr0, hb⟩ := hrel
    have HR := Lib.hid hr0
    have HB := Lib.hid hb
    have HK := Lib.hid hk
    clear hr0 hb
    by_cases hkm : k < m
    · have l1 : (k : Int) < (m : Int) := by omega
      have hC := HA.out wr k hkm HB.out
      obtain ⟨Z, hZ⟩ : ∃ Z, ev xs (k : Int) % (m : Int) = Z := ⟨_, rfl⟩
      rw [hZ] at hC
      have hlen := rtsP_len xs m k
      by_cases hz : Z = 0
      · subst hz
        have hst := rtsP_yes hZ
        have HST := Lib.hid hst
        have HC := Lib.hid hC
        clear hst hC hZ hk
        go_wp2_with fail
        refine HC.out.mono ?_
        rintro e w1 ⟨rfl, rfl⟩

        obtain ⟨i0, hi, hz0, hz1, hz2⟩ := info_parts info3
        have hr := HR.out
        unfold Row at hr
        have hsz := HB.out.size
        obtain ⟨L, hL⟩ : ∃ L, (rtsP xs m k).length = L := ⟨_, rfl⟩
        rw [hL] at hr hlen
        have HL := Lib.hid hL
        clear hL
        go_wp2_with (at_builtin; refine wpList_append_own _ rfl _ _ 22 rfl (w.heap.size) 3 i0 (.int .i64 0) 1 8 Try.underlying22 hi hz0 hz1 hz2 rfl (by decide) _ _ _ rfl (hr.alloc _) ⟨wr.heap.size, 0, none⟩ 1 1 [.int .i64 (k : Int)] rfl rfl (cell_one_new _ _ _) (by simp [Value.oneCell']) (by unfold maxLen; omega) (by omega) (by simp; omega) ?_; intro v' w3 hown' hgrow _; have hb3 : Below w.heap.size w w3 := (HB.out.alloc hsz _).grown hgrow (by simp; omega) (fun j e => (hr.lt j e).1))
        have hrow : Row w.heap.size v' (rtsP xs m (k + 1)) w3 := by
          unfold Row
          rw [HST.out, List.length_append, HL.out, List.map_append]
          exact hown'
        have HF := Lib.hid (And.intro hrow hb3)
        clear hown' hgrow hr hrow hb3
        go_wp2
        go_roundg (gk - 1)
        case rel => exact ⟨k + 1, by have := HK.out; omega, by go_num, HF.out.1, HF.out.2⟩
        case measure => have := HK.out; omega
      · have hst := rtsP_no (xs := xs) (m := m) (k := k) (by rw [hZ]; exact hz)
        have HST := Lib.hid hst
        have HC := Lib.hid hC
        clear hst hC hZ hk
        go_wp2_with fail
        refine HC.out.mono ?_
        rintro e w1 ⟨rfl, rfl⟩

        go_wp2
        go_roundg (gk - 1)
        case rel => exact ⟨k + 1, by have := HK.out; omega, by go_num, by rw [HST.out]; exact HR.out, HB.out⟩
        case measure => have := HK.out; omega
    · have l1 : ¬ (k : Int) < (m : Int) := by omega
      have hkm2 : k = m := by have := HK.out; omega
      have HF := Lib.hid (show Row w.heap.size u5 (rts xs m) wr by have := HR.out; rw [hkm2] at this; exact this)
      clear hk hkm2
      go_wp2
      go_ret
      exact ⟨⟨_, rfl, HF.out⟩, HB.out⟩

set_option maxHeartbeats 4000000 in
set_option maxRecDepth 100000 in
theorem rootsR_any (a : Option Addr) (n c : Nat) (xs : List Int) (m : Nat) (w : World) (h : Ints w a n xs) (hn : n ≤ 20) (hx : ∀ j, j < n → -100000 ≤ xs.getD j 0 ∧ xs.getD j 0 ≤ 100000) (m1 : m ≤ 20000) :
    Calls Try.prog 23 #[.slice a n c, .int .i64 (m : Int)] w fun e w' => (∃ v, e = .returned v ∧ Row w.heap.size v (rts xs m) w') ∧ Below w.heap.size w w' := by
  have hA := fun (wr : World) (k : Nat) (hk : k < m) (hb : Below w.heap.size w wr) => atR_any a n c xs (k : Int) (m : Int) wr (h.below hb) hn hx (by omega) (by omega) (by omega)
  have HA := Lib.hid hA
  clear hA h hx
  go_enter Try.func23, Try.ntmps23
  go_wp2
  go_loopg [5, 8] m (fun gk v s8 wr => ∃ k : Nat, k + gk = m ∧ s8 = .int .i64 (k : Int) ∧ Row w.heap.size v (rtsP xs m k) wr ∧ Below w.heap.size w wr)
  case atStart => exact ⟨0, by omega, rfl, Row.nil _ _, Below.refl _ _⟩
  case round =>
    obtain ⟨k, hk, rfl, hr0, hb⟩ := hrel
    have HR := Lib.hid hr0
    have HB := Lib.hid hb
    have HK := Lib.hid hk
    clear hr0 hb
    by_cases hkm : k < m
    · have l1 : (k : Int) < (m : Int) := by omega
      have hC := HA.out wr k hkm HB.out
      obtain ⟨Z, hZ⟩ : ∃ Z, ev xs (k : Int) % (m : Int) = Z := ⟨_, rfl⟩
      rw [hZ] at hC
      have hlen := rtsP_len xs m k
      by_cases hz : Z = 0
      · subst hz
        have hst := rtsP_yes hZ
        have HST := Lib.hid hst
        have HC := Lib.hid hC
        clear hst hC hZ hk
        go_wp2_with fail
        refine HC.out.mono ?_
        rintro e w1 ⟨rfl, q, hw1⟩
        have HB1 := Lib.hid (show Below w.heap.size w w1 by rw [hw1]; exact below_drewN HB.out q)
        have HR1 := Lib.hid (show Row w.heap.size u5 (rtsP xs m k) w1 by rw [hw1]; exact HR.out.drew q)
        clear hw1
        obtain ⟨i0, hi, hz0, hz1, hz2⟩ := info_parts info3
        have hr := HR1.out
        unfold Row at hr
        have hsz := HB1.out.size
        obtain ⟨L, hL⟩ : ∃ L, (rtsP xs m k).length = L := ⟨_, rfl⟩
        rw [hL] at hr hlen
        have HL := Lib.hid hL
        clear hL
        go_wp2_with (at_builtin; refine wpList_append_own _ rfl _ _ 22 rfl (w.heap.size) 3 i0 (.int .i64 0) 1 8 Try.underlying22 hi hz0 hz1 hz2 rfl (by decide) _ _ _ rfl (hr.alloc _) ⟨w1.heap.size, 0, none⟩ 1 1 [.int .i64 (k : Int)] rfl rfl (cell_one_new _ _ _) (by simp [Value.oneCell']) (by unfold maxLen; omega) (by omega) (by simp; omega) ?_; intro v' w3 hown' hgrow _; have hb3 : Below w.heap.size w w3 := (HB1.out.alloc hsz _).grown hgrow (by simp; omega) (fun j e => (hr.lt j e).1))
        have hrow : Row w.heap.size v' (rtsP xs m (k + 1)) w3 := by
          unfold Row
          rw [HST.out, List.length_append, HL.out, List.map_append]
          exact hown'
        have HF := Lib.hid (And.intro hrow hb3)
        clear hown' hgrow hr hrow hb3
        go_wp2
        go_roundg (gk - 1)
        case rel => exact ⟨k + 1, by have := HK.out; omega, by go_num, HF.out.1, HF.out.2⟩
        case measure => have := HK.out; omega
      · have hst := rtsP_no (xs := xs) (m := m) (k := k) (by rw [hZ]; exact hz)
        have HST := Lib.hid hst
        have HC := Lib.hid hC
        clear hst hC hZ hk
        go_wp2_with fail
        refine HC.out.mono ?_
        rintro e w1 ⟨rfl, q, hw1⟩
        have HB1 := Lib.hid (show Below w.heap.size w w1 by rw [hw1]; exact below_drewN HB.out q)
        have HR1 := Lib.hid (show Row w.heap.size u5 (rtsP xs m k) w1 by rw [hw1]; exact HR.out.drew q)
        clear hw1
        go_wp2
        go_roundg (gk - 1)
        case rel => exact ⟨k + 1, by have := HK.out; omega, by go_num, by rw [HST.out]; exact HR1.out, HB1.out⟩
        case measure => have := HK.out; omega
    · have l1 : ¬ (k : Int) < (m : Int) := by omega
      have hkm2 : k = m := by have := HK.out; omega
      have HF := Lib.hid (show Row w.heap.size u5 (rts xs m) wr by have := HR.out; rw [hkm2] at this; exact this)
      clear hk hkm2
      go_wp2
      go_ret
      exact ⟨⟨_, rfl, HF.out⟩, HB.out⟩
end Go.Proofs.Ytjlaclbgfidiiaa
