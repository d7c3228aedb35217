/- The walk of Check. Condition: the slice lies in memory. -/
import Derived.Test.YtbdiknlbmjdpeaaCheck
import Derived.Test.YtbdiknlbmjdpeaaSmall
namespace Go.Proofs.Ytbdiknlbmjdpeaa
open Go.RowKit
attribute [local go_sem] Oper.semAt_some


/-- Whether a slice is a sum that Check accepts. -/
def chkB (a b : Int) (l : List Int) : Bool := accI l && decide (numF a b l = 0)
theorem Check_no (a b : Int) (h : isSh a b = false) (v : Value) (w : World) :
    Calls Try.prog 24 #[.int .i64 a, .int .i64 b, v] w fun e w' => e = .returned (.tuple #[.bool false, .int .i64 2]) ∧ w = w' := by
  have hV := fun w => valid_any a b w
  rw [h] at hV
  have HV := Lib.hid hV
  clear h hV
  go_enter Try.func24, Try.ntmps24
  go_wp2_with fail
  refine (HV.out _).mono ?_
  rintro e w1 ⟨rfl, rfl⟩
  go_wp2
  go_ret2
  exact ⟨rfl, rfl⟩
theorem Check_yes (a b : Int) (hs : isSh a b = true) (ad : Option Addr) (n c : Nat) (xs : List Int) (w : World) (h : Ints w ad n xs) (hn : n ≤ 4611686018427387904) :
    Calls Try.prog 24 #[.int .i64 a, .int .i64 b, .slice ad n c] w fun e w' => e = .returned (.tuple #[.bool (chkB a b xs), .int .i64 0]) ∧ Below w.heap.size w w' := by
  have hV := fun w => valid_any a b w
  rw [hs] at hV
  obtain ⟨g1, g2, g3⟩ := isSh_spec.1 hs
  have hA := acceptable_any ad n c xs w h hn
  have hE := fun hac => equals_any a b (by omega) (by omega) (by omega) (by omega) ad n c xs w h hac
  unfold chkB
  have HV := Lib.hid hV
  obtain ⟨A, hAA⟩ : ∃ A, accI xs = A := ⟨_, rfl⟩
  rw [hAA] at hA hE ⊢
  obtain ⟨E, hEE⟩ : ∃ E, decide (numF a b xs = 0) = E := ⟨_, rfl⟩
  rw [hEE] at hE ⊢
  have HA := Lib.hid hA
  have HE := Lib.hid hE
  clear hs hV g1 g2 g3 hA hE hAA hEE h
  cases A with
  | false =>
    rw [Bool.false_and]
    go_enter Try.func24, Try.ntmps24
    go_wp2_with fail
    refine (HV.out _).mono ?_
    rintro e w1 ⟨rfl, rfl⟩
    go_wp2_with fail
    refine HA.out.mono ?_
    rintro e w1 ⟨rfl, rfl⟩
    go_wp2
    go_ret2
    exact ⟨rfl, Below.refl _ _⟩
  | true =>
    rw [Bool.true_and]
    have HE2 := Lib.hid (HE.out rfl)
    clear HE
    go_enter Try.func24, Try.ntmps24
    go_wp2_with fail
    refine (HV.out _).mono ?_
    rintro e w1 ⟨rfl, rfl⟩
    go_wp2_with fail
    refine HA.out.mono ?_
    rintro e w1 ⟨rfl, rfl⟩
    go_wp2_with fail
    refine HE2.out.mono ?_
    rintro e w2 ⟨rfl, hb⟩
    have HB := Lib.hid hb
    clear hb
    go_wp2
    go_ret2
    exact ⟨rfl, HB.out⟩
end Go.Proofs.Ytbdiknlbmjdpeaa
