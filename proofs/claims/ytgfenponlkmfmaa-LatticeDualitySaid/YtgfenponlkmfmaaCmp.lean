/- The walks of cmp.Compare and slices.Compare at whole numbers. Condition: the slices lie in memory, of the same length. -/
import Derived.Test.YtgfenponlkmfmaaShare
namespace Go.Proofs.Ytgfenponlkmfmaa
open Go.RowKit
attribute [local go_sem] Oper.semAt_some

def cmpI (x y : Int) : Int := if x < y then -1 else if y < x then 1 else 0
/-- Lists of the same length, compared from the front. -/
def cmpL : List Int → List Int → Int
  | x :: xs, y :: ys => if cmpI x y = 0 then cmpL xs ys else cmpI x y
  | _, _ => 0

set_option maxRecDepth 100000 in
theorem cmp_any (x y : Int) (w : World) : Calls Try.prog 123 #[.int .i64 x, .int .i64 y] w fun e w' => e = .returned (.int .i64 (cmpI x y)) ∧ w' = w := by
  by_cases h1 : x < y
  · have e : cmpI x y = -1 := by simp [cmpI, h1]
    rw [e]
    clear e
    go_enter Try.func123, Try.ntmps123
    go_wp2
    go_ret
    exact ⟨rfl, rfl⟩
  · by_cases h2 : y < x
    · have e : cmpI x y = 1 := by simp [cmpI, h1, h2]
      rw [e]
      clear e
      go_enter Try.func123, Try.ntmps123
      go_wp2
      go_ret
      exact ⟨rfl, rfl⟩
    · have e : cmpI x y = 0 := by simp [cmpI, h1, h2]
      rw [e]
      clear e
      go_enter Try.func123, Try.ntmps123
      go_wp2
      go_ret
      exact ⟨rfl, rfl⟩

theorem drop_consI {xs : List Int} {j : Nat} (h : j < xs.length) : xs.drop j = xs.getD j 0 :: xs.drop (j + 1) := by
  rw [List.drop_eq_getElem_cons h]
  simp [List.getD, h]
set_option maxHeartbeats 4000000 in
set_option maxRecDepth 100000 in
theorem compare_any (a a' : Option Addr) (n c c' : Nat) (xs ys : List Int) (w : World) (h : Ints w a n xs) (h' : Ints w a' n ys) (hn : n ≤ 1000) :
    Calls Try.prog 104 #[.slice a n c, .slice a' n c'] w fun e w' => e = .returned (.int .i64 (cmpL xs ys)) ∧ w' = w := by
  obtain ⟨T, hT⟩ : ∃ T, cmpL xs ys = T := ⟨_, rfl⟩
  rw [hT]
  have HT := Lib.hid hT
  have H := Lib.hid h
  have H' := Lib.hid h'
  have HL := Lib.hid (And.intro h.1 h'.1)
  clear hT h h'
  go_enter Try.func104, Try.ntmps104
  go_wp2
  go_loopg [11] n (fun gk s11 wr => ∃ (j : Nat), s11 = .int .i64 (j : Int) ∧ j + gk = n ∧ RowKit.Hid (cmpL (xs.drop j) (ys.drop j) = T) ∧ wr = w)
  case atStart => exact ⟨0, rfl, by omega, Lib.hid (by simpa using HT.out), rfl⟩
  case round =>
    obtain ⟨j, rfl, hj, HP, rfl⟩ := hrel
    have HJ := Lib.hid hj
    by_cases hjn : j < n
    · have l1 : (j : Int) < (n : Int) := by omega
      have j0 : (0 : Int) ≤ (j : Int) := by omega
      obtain ⟨b, off, rfl, hb, hcc⟩ := H.out.at (by omega)
      obtain ⟨b', off', rfl, hb', hcc'⟩ := H'.out.at (by omega)
      have hcj := hcc j hjn
      have hcj' := hcc' j hjn
      obtain ⟨x, hx⟩ : ∃ x, xs.getD j 0 = x := ⟨_, rfl⟩
      obtain ⟨y, hy⟩ : ∃ y, ys.getD j 0 = y := ⟨_, rfl⟩
      rw [hx] at hcj
      rw [hy] at hcj'
      have hp := HP.out
      rw [drop_consI (xs := xs) (j := j) (by rw [HL.out.1]; exact hjn), drop_consI (xs := ys) (j := j) (by rw [HL.out.2]; exact hjn), hx, hy, cmpL] at hp
      have HC := Lib.hid (cmp_any x y wr)
      obtain ⟨C, hC⟩ : ∃ C, cmpI x y = C := ⟨_, rfl⟩
      rw [hC] at hp HC
      have HPP := Lib.hid hp
      clear hp hC hx hy hcc hcc' hj
      by_cases hc0 : C = 0
      · subst hc0
        have hp := HPP.out
        rw [if_pos rfl] at hp
        have HP2 := Lib.hid hp
        clear hp
        go_wp2_with fail
        refine HC.out.mono ?_
        rintro e w1 ⟨rfl, rfl⟩
        go_wp2
        go_roundg (gk - 1)
        case rel => exact ⟨j + 1, by go_num, by have := HJ.out; omega, HP2.out, rfl⟩
        case measure => have := HJ.out; omega
      · have hp := HPP.out
        rw [if_neg hc0] at hp
        have HP2 := Lib.hid hp
        clear hp
        go_wp2_with fail
        refine HC.out.mono ?_
        rintro e w1 ⟨rfl, rfl⟩
        go_wp2
        go_ret
        exact ⟨ret_int HP2.out, rfl⟩
    · have l1 : ¬ (j : Int) < (n : Int) := by omega
      have hf : T = 0 := by
        have := HP.out
        rw [List.drop_eq_nil_of_le (by rw [HL.out.1]; omega)] at this
        rw [← this]
        rfl
      have HF := Lib.hid hf
      clear hf hj hjn
      go_wp2
      go_ret
      exact ⟨ret_int HF.out.symm, rfl⟩
end Go.Proofs.Ytgfenponlkmfmaa
