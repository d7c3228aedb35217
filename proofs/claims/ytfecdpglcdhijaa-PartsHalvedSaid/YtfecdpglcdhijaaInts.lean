/- Slices of whole numbers as they lie in memory, and the walk of partition.valid and of the reference's Valid: whether a slice is a partition. Condition: the slice lies in memory, with at most 2^62 elements. -/
import Derived.Test.YtfecdpglcdhijaaProg
import Derived.Test.YtfecdpglcdhijaaMath
import Derived.Laws.OwnMore
import Derived.OwnWalk
import Derived.Deep.LoopGhost
import Derived.WalkKit
import Derived.WalkSpells
import Derived.WalkLawsBesides
import Derived.Lib.Hide
import Derived.Lib.SmallJoins
namespace Go.Proofs.Ytfecdpglcdhijaa
open Go.RowKit

theorem ret_int {k : IntKind} {a b : Int} (h : a = b) : Ending.returned (.int k a) = .returned (.int k b) := by rw [h]
theorem ret_bool {a b : Bool} (h : a = b) : Ending.returned (.bool a) = .returned (.bool b) := by rw [h]

theorem below_drewN {B : Nat} {a w : World} (h : Below B a w) (n : Nat) : Below B a (w.drewN n) := ⟨h.os, h.tape, h.output, h.size, h.block⟩

/-- A slice of whole numbers as it lies. -/
def Ints (w : World) (a : Option Addr) (n : Nat) (xs : List Int) : Prop :=
  xs.length = n ∧ (n = 0 ∨ ∃ b off, a = some ⟨b, off, none⟩ ∧ b < w.heap.size ∧ ∀ j, j < n → w.cell? ⟨b, off + j, none⟩ = some (.int .i64 (xs.getD j 0)))

theorem Ints.below {w w' : World} {a : Option Addr} {n : Nat} {xs : List Int} (h : Ints w a n xs) (hb : Below w.heap.size w w') : Ints w' a n xs := by
  refine ⟨h.1, h.2.imp id ?_⟩
  rintro ⟨b, off, h1, h2, h3⟩
  exact ⟨b, off, h1, Nat.lt_of_lt_of_le h2 hb.size, fun j hj => (hb.cell (p := ⟨b, off + j, none⟩) h2).trans (h3 j hj)⟩
theorem Ints.at {w : World} {a : Option Addr} {n : Nat} {xs : List Int} (h : Ints w a n xs) (hn : 0 < n) : ∃ b off, a = some ⟨b, off, none⟩ ∧ b < w.heap.size ∧ ∀ j, j < n → w.cell? ⟨b, off + j, none⟩ = some (.int .i64 (xs.getD j 0)) :=
  h.2.resolve_left (by omega)
theorem Ints.nil (w : World) (a : Option Addr) : Ints w a 0 [] := ⟨rfl, .inl rfl⟩
theorem Ints.own {w : World} {B n m : Nat} {a : Option Addr} {c : Nat} {xs : List Int} (h : w.ownsRow B 3 1 (.slice a m c) n (xs.map (Value.int .i64))) : Ints w a n xs ∧ m = n := by
  have hl : xs.length = n := by simpa using h.1
  rcases h.2 with ⟨h1, h2⟩ | ⟨g, cap, cur, h1, h2, h3, h4, h5, h6, h7⟩
  · cases h1
    exact ⟨⟨hl, .inl h2⟩, h2.symm⟩
  · cases h1
    refine ⟨⟨hl, .inr ⟨g, 0, rfl, (Array.getElem?_eq_some_iff.1 h3).1, fun j hj => ?_⟩⟩, rfl⟩
    rw [Nat.zero_add, h.cellAt j (by omega)]
    simp [List.getD, hj, hl]

set_option maxHeartbeats 1000000 in
theorem valid_any (a : Option Addr) (n c : Nat) (xs : List Int) (w : World) (h : Ints w a n xs) (hn : n ≤ 4611686018427387904) :
    Calls Try.prog 62 #[.slice a n c] w fun e w' => e = .returned (.bool (isP xs)) ∧ w' = w := by
  have H := Lib.hid h
  have HL := Lib.hid h.1
  clear h
  go_enter Try.func62, Try.ntmps62
  go_wp2
  go_loopg [3, 8] n (fun gk left i wr => ∃ (k : Nat) (f : Int), k + gk = n ∧ i = .int .i64 (k : Int) ∧ left = .int .i64 f ∧ 0 ≤ f ∧ f ≤ 30 ∧ isP xs = okFrom (if k = 0 then 30 else xs.getD (k - 1) 0) f (xs.drop k) ∧ wr = w)
  case atStart => exact ⟨0, 30, by omega, rfl, rfl, by omega, by omega, rfl, rfl⟩
  case round =>
    obtain ⟨k, f, hk, rfl, rfl, hf0, hf1, hp, rfl⟩ := hrel
    have HP := Lib.hid hp
    clear hp
    by_cases hkn : k = n
    · have hge : ¬ (k : Int) < (n : Int) := by omega
      have hge2 : ¬ k < n := by omega
      have hP : isP xs = true := by
        rw [HP.out, List.drop_of_length_le (by have := HL.out; omega)]
        rfl
      have HPf := Lib.hid hP
      clear hkn hP
      go_wp2
      go_ret
      exact ⟨ret_bool HPf.out.symm, rfl⟩
    · have hlt : (k : Int) < (n : Int) := by omega
      have hlt2 : k < n := by omega
      obtain ⟨b, off, rfl, hb, hc⟩ := H.out.at (by omega)
      have hck := hc k hlt2
      have hdr := drop_cons (l := xs) (j := k) (by have := HL.out; omega)
      have hp := HP.out
      rw [hdr] at hp
      obtain ⟨x, hx⟩ : ∃ x, xs.getD k 0 = x := ⟨_, rfl⟩
      rw [hx] at hck hp
      have HPP := Lib.hid hp
      have k0 : (0 : Int) ≤ (k : Int) := by omega
      by_cases hbad : x < 1 ∨ f < x
      · have hP : isP xs = false := by rw [HPP.out]; exact okFrom_no (by omega)
        have HPf := Lib.hid hP
        clear hP hp hdr hc hkn
        by_cases h1 : x < 1
        · clear hbad
          go_wp2
          go_ret
          exact ⟨ret_bool HPf.out.symm, rfl⟩
        · have h2 : f < x := by omega
          clear hbad
          go_wp2
          go_ret
          exact ⟨ret_bool HPf.out.symm, rfl⟩
      · have h1 : ¬ x < 1 := by omega
        have h2 : ¬ f < x := by omega
        by_cases hk0 : k = 0
        · have g0 : ¬ (0 : Int) < (k : Int) := by omega
          have hP : isP xs = okFrom x (f - x) (xs.drop (k + 1)) := by
            rw [HPP.out, if_pos hk0, okFrom_yes (by omega) (by omega) (by omega)]
          have HPn := Lib.hid hP
          have HX := Lib.hid hx
          clear hP hp hdr hc hkn hx hbad hk0
          go_wp2
          go_roundg (gk - 1)
          case rel =>
            refine ⟨k + 1, f - x, by omega, by go_num, by go_num, by omega, by omega, ?_, rfl⟩
            rw [if_neg (by omega), Nat.add_sub_cancel, HX.out]
            exact HPn.out
          case measure => omega
        · have g0 : (0 : Int) < (k : Int) := by omega
          obtain ⟨j, hj⟩ : ∃ j, k = j + 1 := ⟨k - 1, by omega⟩
          have hidx : (k : Int) - 1 = (j : Int) := by omega
          have hcj := hc j (by omega)
          have hj2 : j < n := by omega
          have hj3 : (j : Int) < (n : Int) := by omega
          have hj0 : (0 : Int) ≤ (j : Int) := by omega
          obtain ⟨y, hy⟩ : ∃ y, xs.getD j 0 = y := ⟨_, rfl⟩
          rw [hy] at hcj
          have hpy : xs.getD (k - 1) 0 = y := by rw [hj, Nat.add_sub_cancel]; exact hy
          have HPP2 := Lib.hid HPP.out
          have HX := Lib.hid hx
          have HPY := Lib.hid hpy
          by_cases hxy : y < x
          · have hP : isP xs = false := by rw [HPP2.out, if_neg hk0, HPY.out]; exact okFrom_no (by omega)
            have HPf := Lib.hid hP
            clear hP hp hdr hc hkn hx hbad hk0 hj hy hpy
            go_wp2
            go_ret
            exact ⟨ret_bool HPf.out.symm, rfl⟩
          · have hP : isP xs = okFrom x (f - x) (xs.drop (k + 1)) := by
              rw [HPP2.out, if_neg hk0, HPY.out, okFrom_yes (by omega) (by omega) (by omega)]
            have HPn := Lib.hid hP
            clear hP hp hdr hc hkn hx hbad hk0 hj hy hpy
            go_wp2
            go_roundg (gk - 1)
            case rel =>
              refine ⟨k + 1, f - x, by omega, by go_num, by go_num, by omega, by omega, ?_, rfl⟩
              rw [if_neg (by omega), Nat.add_sub_cancel, HX.out]
              exact HPn.out
            case measure => omega
end Go.Proofs.Ytfecdpglcdhijaa
