/- The walks of numeral.partner, of the closure of best, of byTaken and cmp.Or. Condition: heaps are at most a million; the numbers are small. -/
import Derived.Test.YtbdabpmpfciibaaGameMath
import Derived.Test.YtbdabpmpfciibaaWord
import Derived.Test.YtbdabpmpfciibaaBools
import Derived.Deep.MidRow
namespace Go.Proofs.Ytbdabpmpfciibaa
open Go.RowKit
attribute [local go_sem] Oper.semAt_some

set_option maxHeartbeats 2000000 in
theorem partner_any (h : Int) (w : World) (h0 : 0 ≤ h) (h1 : h ≤ 1000000) :
    Calls Try.prog 97 #[.int .i64 h] w fun e w' => e = .returned (.int .i64 (pt h)) ∧ Below w.heap.size w w' := by
  by_cases e : h = 0
  · subst e
    have hp : pt 0 = 0 := by unfold pt; rw [if_pos rfl]
    rw [hp]
    clear hp
    go_enter Try.func97, Try.ntmps97
    go_wp2
    go_ret
    exact ⟨rfl, Below.refl _ _⟩
  · have hn := isNum_mk (n := h) h0 (by omega)
    have HL := Lib.hid (last_any h w (by omega) (by omega))
    have hb := (pt_cold h0 h1).2.2
    have eb : (h == 0) = false := by simp [e]
    by_cases o : lastF (enc h) % 2 = 1
    · have hp : pt h = sumF (-1) (enc h) := by unfold pt; rw [if_neg e, if_pos o]
      obtain ⟨c0, c1, c2, c3, c4⟩ := cold_odd (n := h) (by omega) (by omega) o
      have hS := fun w => shifted_any h (-1) w hn (by omega) (by omega) (isN_two c0)
      have hz : szV (sumF (-1) (enc h)) = sumF (-1) (enc h) := by unfold szV; rw [if_neg (by omega)]
      rw [hz] at hS
      rw [hp]
      obtain ⟨P, hP⟩ : ∃ P, sumF (-1) (enc h) = P := ⟨_, rfl⟩
      rw [hP] at hS ⊢
      obtain ⟨F, hF⟩ : ∃ F, szE P = F := ⟨_, rfl⟩
      rw [hF] at hS
      have HS := Lib.hid hS
      have l2 := lastF_two (enc h) 60 (enc_isN h0 (by omega)) (enc_ne hn (by omega))
      obtain ⟨y, hy⟩ : ∃ y, lastF (enc h) = y := ⟨_, rfl⟩
      rw [hy] at HL o l2
      have ot : y.tmod 2 = 1 := by rw [Int.tmod_eq_emod_of_nonneg (by omega)]; exact o
      clear hp c0 c1 c2 c3 c4 hS hz hP hF hb hy o hn
      go_enter Try.func97, Try.ntmps97
      go_wp2_with fail
      refine HL.out.mono ?_
      rintro e w1 ⟨rfl, hb⟩
      have HB := Lib.hid hb
      clear hb
      go_wp2_with fail
      refine (HS.out _).mono ?_
      rintro e w2 ⟨rfl, hb⟩
      have HB2 := Lib.hid (HB.out.trans (hb.mono HB.out.size))
      clear hb
      go_wp2
      go_ret
      exact ⟨rfl, HB2.out⟩
    · have hp : pt h = shN h := by unfold pt; rw [if_neg e, if_neg o]
      obtain ⟨c1, c2, c3⟩ := cold_even (n := h) (by omega) (by omega) (by omega)
      have hS := fun w => shifted_any h 1 w hn (by omega) (by omega) (two_up hn (by omega))
      rw [show sumF 1 (enc h) = shN h from rfl] at hS
      have hz : szV (shN h) = shN h := by unfold szV; rw [if_neg (by omega)]
      rw [hz] at hS
      rw [hp]
      obtain ⟨P, hP⟩ : ∃ P, shN h = P := ⟨_, rfl⟩
      rw [hP] at hS ⊢
      obtain ⟨F, hF⟩ : ∃ F, szE P = F := ⟨_, rfl⟩
      rw [hF] at hS
      have HS := Lib.hid hS
      have l2 := lastF_two (enc h) 60 (enc_isN h0 (by omega)) (enc_ne hn (by omega))
      obtain ⟨y, hy⟩ : ∃ y, lastF (enc h) = y := ⟨_, rfl⟩
      rw [hy] at HL o l2
      have ot : y.tmod 2 = 0 := by rw [Int.tmod_eq_emod_of_nonneg (by omega)]; omega
      clear hp c1 c2 c3 hS hz hP hF hb hy o hn
      go_enter Try.func97, Try.ntmps97
      go_wp2_with fail
      refine HL.out.mono ?_
      rintro e w1 ⟨rfl, hb⟩
      have HB := Lib.hid hb
      clear hb
      go_wp2_with fail
      refine (HS.out _).mono ?_
      rintro e w2 ⟨rfl, hb⟩
      have HB2 := Lib.hid (HB.out.trans (hb.mono HB.out.size))
      clear hb
      go_wp2
      go_ret
      exact ⟨rfl, HB2.out⟩

set_option maxHeartbeats 2000000 in
theorem closure98_any (b : Nat) (a c x y : Int) (w : World) (c0 : w.cell? ⟨b, 0, none⟩ = some (.int .i64 a)) (c1 : w.cell? ⟨b, 1, none⟩ = some (.int .i64 c)) :
    Calls Try.prog 98 #[.agg #[.int .i64 x, .int .i64 y], .pointer (some ⟨b, 0, none⟩)] w fun e w' => e = .returned (.bool (decide (a < x) || decide (c < y))) ∧ Below w.heap.size w w' := by
  have e0 := Lib.cell?_alloc_some (.cells #[.int .i64 x, .int .i64 y] 72) c0
  have e1 := Lib.cell?_alloc_some (.cells #[.int .i64 x, .int .i64 y] 72) c1
  have HB := Lib.hid ((Below.refl w.heap.size w).alloc (Nat.le_refl _) (.cells #[.int .i64 x, .int .i64 y] 72))
  clear c0 c1
  by_cases h : a < x
  · rw [decide_eq_true h, Bool.true_or]
    go_enter Try.func98, Try.ntmps98
    go_wp2
    go_ret
    exact ⟨rfl, HB.out⟩
  · rw [decide_eq_false h, Bool.false_or]
    go_enter Try.func98, Try.ntmps98
    go_wp2
    go_ret
    exact ⟨rfl, HB.out⟩

def orF (u v : Int) : Int := if u = 0 then v else u
/-- What byTaken says of two pairs. -/
def bt (x m : Int × Int) : Int := orF (Lib.compareInt (m.1 + m.2) (x.1 + x.2)) (Lib.compareInt x.1 m.1)
theorem bt_neg (x m : Int × Int) : bt x m < 0 ↔ (m.1 + m.2 < x.1 + x.2 ∨ (m.1 + m.2 = x.1 + x.2 ∧ x.1 < m.1)) := by
  unfold bt orF Lib.compareInt
  repeat' split
  all_goals omega

/-- cmp.Or of two numbers of a slice of the call's own. -/
theorem or_any (g c : Nat) (u v : Int) (w : World) (c0 : w.cell? ⟨g, 0, none⟩ = some (.int .i64 u)) (c1 : w.cell? ⟨g, 1, none⟩ = some (.int .i64 v)) :
    Calls Try.prog 114 #[.slice (some ⟨g, 0, none⟩) 2 c] w fun e w' => e = .returned (.int .i64 (orF u v)) ∧ w' = w := by
  unfold orF
  by_cases h : u = 0
  · subst h
    rw [if_pos rfl]
    by_cases h2 : v = 0
    · subst h2
      go_enter Try.func114, Try.ntmps114
      go_wp2
      refine wp_loop_rounds 3 ?_
      rw [rounds_succ]
      go_wp2
      rw [rounds_succ]
      go_wp2
      rw [rounds_succ]
      go_wp2
      go_ret
      exact ⟨rfl, rfl⟩
    · have hb : (v == 0) = false := by simp [h2]
      go_enter Try.func114, Try.ntmps114
      go_wp2
      refine wp_loop_rounds 3 ?_
      rw [rounds_succ]
      go_wp2
      rw [rounds_succ]
      go_wp2
      go_ret
      exact ⟨rfl, rfl⟩
  · rw [if_neg h]
    have hb : (u == 0) = false := by simp [h]
    go_enter Try.func114, Try.ntmps114
    go_wp2
    refine wp_loop_rounds 3 ?_
    rw [rounds_succ]
    go_wp2
    go_ret
    exact ⟨rfl, rfl⟩
end Go.Proofs.Ytbdabpmpfciibaa
