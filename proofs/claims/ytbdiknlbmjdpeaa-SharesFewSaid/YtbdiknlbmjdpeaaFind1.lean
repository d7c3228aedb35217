/- The walk of the closure that finder returns. Conditions: the numbers are in range, what it captures lies in memory. -/
import Derived.Test.YtbdiknlbmjdpeaaAwake
import Derived.Deep.RegionHeld3
namespace Go.Proofs.Ytbdiknlbmjdpeaa
open Go.RowKit
attribute [local go_sem] Oper.semAt_some


/-- What a search hands back: nil, or a slice of the call's own that is not nil. -/
def Fnd (R : Option (List Nat)) (B : Nat) (e : Ending) (w' : World) : Prop :=
  match R with
  | some L => ∃ g c, e = .returned (.slice (some ⟨g, 0, none⟩) L.length c) ∧ Row B (.slice (some ⟨g, 0, none⟩) L.length c) (nats L) w'
  | none => e = .returned (.slice none 0 0)
theorem row_lit (W : World) (x : Int) : (W.alloc (.cells #[.int .i64 x] 3)).ownsRow W.heap.size 3 1 (.slice (some ⟨W.heap.size, 0, none⟩) 1 1) 1 [.int .i64 x] :=
  ⟨by simp, .inr ⟨W.heap.size, 1, #[.int .i64 x], rfl, Nat.le_refl _, heap_alloc_last W _, Nat.le_refl _, by unfold maxLen; omega, by simp, by simp⟩⟩

set_option maxHeartbeats 4000000 in
set_option maxRecDepth 100000 in
theorem find_one (gap most num den least gm : Nat) (pf pg : Value) (w : World) (hn : 0 < num) (h1 : num ≤ 4000000000000000000) (h2 : den ≤ 4000000000000000000) (h3 : least ≤ 4000000000000000000) (hc : w.cell? ⟨gm, 0, none⟩ = some (.int .i64 (most : Int))) :
    Calls Try.prog 56 #[.agg #[.int .i64 (num : Int), .int .i64 (den : Int)], .int .i64 1, .int .i64 (least : Int), .pointer (some ⟨gm, 0, none⟩), pf, pg] w fun e w' => Fnd (fnd gap most 0 num den least) w.heap.size e w' ∧ Below w.heap.size w w' := by
  have hb0 : Below w.heap.size w (w.alloc (.cells #[.int .i64 (num : Int), .int .i64 (den : Int)] 49)) := (Below.refl _ _).alloc (Nat.le_refl _) _
  have hc1 := cell_later hc hb0
  obtain ⟨p0, p1⟩ := cell_pair w (.int .i64 (num : Int)) (.int .i64 (den : Int)) 49
  have u1 : ((den : Int) / (num : Int)) = ((den / num : Nat) : Int) := by rw [Int.natCast_ediv]
  have u2 : ((den : Int) % (num : Int)) = ((den % num : Nat) : Int) := by rw [Int.natCast_emod]
  have hle := Nat.div_le_self den num
  have hle2 := Nat.mod_lt den hn
  obtain ⟨R, hR⟩ : ∃ R, fnd gap most 0 num den least = R := ⟨_, rfl⟩
  rw [hR]
  unfold fnd at hR
  obtain ⟨D, hD⟩ : ∃ D, den / num = D := ⟨_, rfl⟩
  obtain ⟨M, hM⟩ : ∃ M, den % num = M := ⟨_, rfl⟩
  rw [hD] at u1 hR hle
  rw [hM] at u2 hR hle2
  have u3 : (D : Int) ≤ 4000000000000000000 := by omega
  have u4 : (M : Int) ≤ 4000000000000000000 := by omega
  have n0 : (0 : Int) < (num : Int) := by omega
  have n1 : ¬ (num : Int) = 0 := by omega
  have HB0 := Lib.hid hb0
  have HRR := Lib.hid hR
  clear hR hb0 hc hD hM hle hle2
  by_cases k1 : M = 0
  · by_cases k2 : least ≤ D
    · by_cases k3 : D ≤ most
      · have hr := HRR.out
        rw [if_pos ⟨k1, k2, k3⟩] at hr
        have HR2 := Lib.hid hr
        have b1 : ((M : Int) != 0) = false := by simp; omega
        have b2 : ¬ (D : Int) < (least : Int) := by omega
        have b3 : ¬ (most : Int) < (D : Int) := by omega
        have hl := row_lit (w.alloc (.cells #[.int .i64 (num : Int), .int .i64 (den : Int)] 49)) (D : Int)
        rw [show (w.alloc (.cells #[.int .i64 (num : Int), .int .i64 (den : Int)] 49)).heap.size = w.heap.size + 1 by simp] at hl
        have HL := Lib.hid (own_mono hl (Nat.le_succ w.heap.size))
        clear hl
        clear k1 k2 k3 hr
        go_enter Try.func56, Try.ntmps56
        go_wp2
        go_ret
        refine ⟨?_, HB0.out.alloc HB0.out.size _⟩
        rw [← HR2.out]
        exact ⟨_, _, rfl, HL.out⟩
      · have hr := HRR.out
        rw [if_neg (by omega)] at hr
        have HR2 := Lib.hid hr
        have b1 : ((M : Int) != 0) = false := by simp; omega
        have b2 : ¬ (D : Int) < (least : Int) := by omega
        have b3 : (most : Int) < (D : Int) := by omega
        clear k1 k2 k3 hr
        go_enter Try.func56, Try.ntmps56
        go_wp2
        go_ret
        refine ⟨?_, HB0.out⟩
        rw [← HR2.out]
        exact rfl
    · have hr := HRR.out
      rw [if_neg (by omega)] at hr
      have HR2 := Lib.hid hr
      have b1 : ((M : Int) != 0) = false := by simp; omega
      have b2 : (D : Int) < (least : Int) := by omega
      clear k1 k2 hr
      go_enter Try.func56, Try.ntmps56
      go_wp2
      go_ret
      refine ⟨?_, HB0.out⟩
      rw [← HR2.out]
      exact rfl
  · have hr := HRR.out
    rw [if_neg (by omega)] at hr
    have HR2 := Lib.hid hr
    have b1 : ((M : Int) != 0) = true := by simp; omega
    clear k1 hr
    go_enter Try.func56, Try.ntmps56
    go_wp2
    go_ret
    refine ⟨?_, HB0.out⟩
    rw [← HR2.out]
    exact rfl
end Go.Proofs.Ytbdiknlbmjdpeaa
