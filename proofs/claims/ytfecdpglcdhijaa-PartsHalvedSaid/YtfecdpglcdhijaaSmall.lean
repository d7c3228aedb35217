/- The walks of the reference's Valid and Sum, and of square, rank and crank, the program's and the reference's. Condition: the slice lies in memory; for rank and crank its elements are those of a partition. -/
import Derived.Test.YtfecdpglcdhijaaInts
namespace Go.Proofs.Ytfecdpglcdhijaa
open Go.RowKit

set_option maxHeartbeats 1000000 in
theorem refValid_any (a : Option Addr) (n c : Nat) (xs : List Int) (w : World) (h : Ints w a n xs) (hn : n ≤ 4611686018427387904) :
    Calls Try.prog 28 #[.slice a n c] w fun e w' => e = .returned (.bool (isP xs)) ∧ w' = w := by
  have H := Lib.hid h
  have HL := Lib.hid h.1
  clear h
  go_enter Try.func28, Try.ntmps28
  go_wp2
  go_loopg [3, 8] n (fun gk left i wr => ∃ (k : Nat) (f : Int), k + gk = n ∧ i = .int .i64 (k : Int) ∧ left = .int .i64 (30 - f) ∧ 0 ≤ f ∧ f ≤ 30 ∧ isP xs = okFrom (if k = 0 then 30 else xs.getD (k - 1) 0) f (xs.drop k) ∧ wr = w)
  case atStart => exact ⟨0, 30, by omega, rfl, rfl, by omega, by omega, rfl, rfl⟩
  case round =>
    obtain ⟨k, f, hk, rfl, rfl, hf0, hf1, hp, rfl⟩ := hrel
    have HP := Lib.hid hp
    clear hp
    by_cases hkn : k = n
    · have hge : ¬ (k : Int) < (n : Int) := by omega
      have hge2 : ¬ k < n := by omega
      have hP : isP xs = true := by
        rw [HP.out, List.drop_of_length_le (by have := HL.out; omega)]
        rfl
      have HPf := Lib.hid hP
      clear hkn hP
      go_wp2
      go_ret
      exact ⟨ret_bool HPf.out.symm, rfl⟩
    · have hlt : (k : Int) < (n : Int) := by omega
      have hlt2 : k < n := by omega
      obtain ⟨b, off, rfl, hb, hc⟩ := H.out.at (by omega)
      have hck := hc k hlt2
      have hdr := drop_cons (l := xs) (j := k) (by have := HL.out; omega)
      have hp := HP.out
      rw [hdr] at hp
      obtain ⟨x, hx⟩ : ∃ x, xs.getD k 0 = x := ⟨_, rfl⟩
      rw [hx] at hck hp
      have HPP := Lib.hid hp
      have k0 : (0 : Int) ≤ (k : Int) := by omega
      by_cases hbad : x < 1 ∨ 30 < x
      · have hP : isP xs = false := by rw [HPP.out]; exact okFrom_no (by omega)
        have HPf := Lib.hid hP
        clear hP hp hdr hc hkn
        by_cases h1 : x < 1
        · clear hbad
          go_wp2
          go_ret
          exact ⟨ret_bool HPf.out.symm, rfl⟩
        · have h2 : 30 < x := by omega
          clear hbad
          go_wp2
          go_ret
          exact ⟨ret_bool HPf.out.symm, rfl⟩
      · have h1 : ¬ x < 1 := by omega
        have h2 : ¬ 30 < x := by omega
        by_cases hk0 : k = 0
        · have g0 : ¬ (0 : Int) < (k : Int) := by omega
          have HX := Lib.hid hx
          by_cases h3 : f < x
          · have hP : isP xs = false := by rw [HPP.out]; exact okFrom_no (by omega)
            have HPf := Lib.hid hP
            clear hP hp hdr hc hkn hx hbad hk0
            go_wp2
            go_ret
            exact ⟨ret_bool HPf.out.symm, rfl⟩
          · have hP : isP xs = okFrom x (f - x) (xs.drop (k + 1)) := by
              rw [HPP.out, if_pos hk0, okFrom_yes (by omega) (by omega) (by omega)]
            have HPn := Lib.hid hP
            clear hP hp hdr hc hkn hx hbad hk0
            go_wp2
            go_roundg (gk - 1)
            case rel =>
              refine ⟨k + 1, f - x, by omega, by go_num, by go_num, by omega, by omega, ?_, rfl⟩
              rw [if_neg (by omega), Nat.add_sub_cancel, HX.out]
              exact HPn.out
            case measure => omega
        · have g0 : (0 : Int) < (k : Int) := by omega
          obtain ⟨j, hj⟩ : ∃ j, k = j + 1 := ⟨k - 1, by omega⟩
          have hidx : (k : Int) - 1 = (j : Int) := by omega
          have hcj := hc j (by omega)
          have hj2 : j < n := by omega
          have hj3 : (j : Int) < (n : Int) := by omega
          have hj0 : (0 : Int) ≤ (j : Int) := by omega
          obtain ⟨y, hy⟩ : ∃ y, xs.getD j 0 = y := ⟨_, rfl⟩
          rw [hy] at hcj
          have hpy : xs.getD (k - 1) 0 = y := by rw [hj, Nat.add_sub_cancel]; exact hy
          have HPP2 := Lib.hid HPP.out
          have HX := Lib.hid hx
          have HPY := Lib.hid hpy
          by_cases hxy : y < x
          · have hP : isP xs = false := by rw [HPP2.out, if_neg hk0, HPY.out]; exact okFrom_no (by omega)
            have HPf := Lib.hid hP
            clear hP hp hdr hc hkn hx hbad hk0 hj hy hpy
            go_wp2
            go_ret
            exact ⟨ret_bool HPf.out.symm, rfl⟩
          · by_cases h3 : f < x
            · have hP : isP xs = false := by rw [HPP2.out]; exact okFrom_no (by omega)
              have HPf := Lib.hid hP
              clear hP hp hdr hc hkn hx hbad hk0 hj hy hpy
              go_wp2
              go_ret
              exact ⟨ret_bool HPf.out.symm, rfl⟩
            · have hP : isP xs = okFrom x (f - x) (xs.drop (k + 1)) := by
                rw [HPP2.out, if_neg hk0, HPY.out, okFrom_yes (by omega) (by omega) (by omega)]
              have HPn := Lib.hid hP
              clear hP hp hdr hc hkn hx hbad hk0 hj hy hpy
              go_wp2
              go_roundg (gk - 1)
              case rel =>
                refine ⟨k + 1, f - x, by omega, by go_num, by go_num, by omega, by omega, ?_, rfl⟩
                rw [if_neg (by omega), Nat.add_sub_cancel, HX.out]
                exact HPn.out
              case measure => omega

theorem sq_step {xs : List Int} {k : Nat} (h : k < xs.length) : sqFrom k (xs.drop k) = if (k : Int) < xs.getD k 0 then sqFrom (k + 1) (xs.drop (k + 1)) else k := by
  rw [drop_cons h]; rfl
theorem sq_end {xs : List Int} {k : Nat} (h : xs.length ≤ k) : sqFrom k (xs.drop k) = k := by
  rw [List.drop_of_length_le h]; rfl

set_option maxHeartbeats 1000000 in
theorem square_any (a : Option Addr) (n c : Nat) (xs : List Int) (w : World) (h : Ints w a n xs) (hn : n ≤ 4611686018427387904) :
    Calls Try.prog 65 #[.slice a n c] w fun e w' => e = .returned (.int .i64 (sqL xs)) ∧ w' = w := by
  have H := Lib.hid h
  have HL := Lib.hid h.1
  clear h
  go_enter Try.func65, Try.ntmps65
  go_wp2
  go_loopg [3] n (fun gk i wr => ∃ (k : Nat), k + gk = n ∧ i = .int .i64 (k : Int) ∧ sqFrom 0 xs = sqFrom k (xs.drop k) ∧ wr = w)
  case atStart => exact ⟨0, by omega, rfl, rfl, rfl⟩
  case round =>
    obtain ⟨k, hk, rfl, hp, rfl⟩ := hrel
    have HP := Lib.hid hp
    clear hp
    by_cases hkn : k = n
    · have hge : ¬ (k : Int) < (n : Int) := by omega
      have hge2 : ¬ k < n := by omega
      have hQ : sqL xs = (k : Int) := by unfold sqL; rw [HP.out, sq_end (by have := HL.out; omega)]
      have HQ := Lib.hid hQ
      clear hkn hQ
      go_wp2
      go_ret
      exact ⟨ret_int HQ.out.symm, rfl⟩
    · have hlt : (k : Int) < (n : Int) := by omega
      have hlt2 : k < n := by omega
      obtain ⟨b, off, rfl, hb, hc⟩ := H.out.at (by omega)
      have hck := hc k hlt2
      have hst := sq_step (xs := xs) (k := k) (by have := HL.out; omega)
      obtain ⟨x, hx⟩ : ∃ x, xs.getD k 0 = x := ⟨_, rfl⟩
      rw [hx] at hck hst
      have k0 : (0 : Int) ≤ (k : Int) := by omega
      by_cases hkx : (k : Int) < x
      · have hQ : sqFrom 0 xs = sqFrom (k + 1) (xs.drop (k + 1)) := by rw [HP.out, hst, if_pos hkx]
        have HQ := Lib.hid hQ
        clear hQ hst hc hkn hx
        go_wp2
        go_roundg (gk - 1)
        case rel => exact ⟨k + 1, by omega, by go_num, HQ.out, rfl⟩
        case measure => omega
      · have hQ : sqL xs = (k : Int) := by unfold sqL; rw [HP.out, hst, if_neg hkx]
        have HQ := Lib.hid hQ
        clear hQ hst hc hkn hx
        go_wp2
        go_ret
        exact ⟨ret_int HQ.out.symm, rfl⟩

set_option maxHeartbeats 1000000 in
theorem refSquare_any (a : Option Addr) (n c : Nat) (xs : List Int) (w : World) (h : Ints w a n xs) (hn : n ≤ 4611686018427387904) :
    Calls Try.prog 31 #[.slice a n c] w fun e w' => e = .returned (.int .i64 (sqL xs)) ∧ w' = w := by
  have H := Lib.hid h
  have HL := Lib.hid h.1
  clear h
  go_enter Try.func31, Try.ntmps31
  go_wp2
  go_loopg [3] n (fun gk i wr => ∃ (k : Nat), k + gk = n ∧ i = .int .i64 (k : Int) ∧ sqFrom 0 xs = sqFrom k (xs.drop k) ∧ wr = w)
  case atStart => exact ⟨0, by omega, rfl, rfl, rfl⟩
  case round =>
    obtain ⟨k, hk, rfl, hp, rfl⟩ := hrel
    have HP := Lib.hid hp
    clear hp
    by_cases hkn : k = n
    · have hge : ¬ (k : Int) < (n : Int) := by omega
      have hge2 : ¬ k < n := by omega
      have hQ : sqL xs = (k : Int) := by unfold sqL; rw [HP.out, sq_end (by have := HL.out; omega)]
      have HQ := Lib.hid hQ
      clear hkn hQ
      go_wp2
      go_ret
      exact ⟨ret_int HQ.out.symm, rfl⟩
    · have hlt : (k : Int) < (n : Int) := by omega
      have hlt2 : k < n := by omega
      obtain ⟨b, off, rfl, hb, hc⟩ := H.out.at (by omega)
      have hck := hc k hlt2
      have hst := sq_step (xs := xs) (k := k) (by have := HL.out; omega)
      obtain ⟨x, hx⟩ : ∃ x, xs.getD k 0 = x := ⟨_, rfl⟩
      rw [hx] at hck hst
      have k0 : (0 : Int) ≤ (k : Int) := by omega
      by_cases hkx : (k : Int) < x
      · have hQ : sqFrom 0 xs = sqFrom (k + 1) (xs.drop (k + 1)) := by rw [HP.out, hst, if_pos hkx]
        have HQ := Lib.hid hQ
        have hkx2 : (k : Int) + 1 ≤ x := by omega
        clear hQ hst hc hkn hx
        go_wp2
        go_roundg (gk - 1)
        case rel => exact ⟨k + 1, by omega, by go_num, HQ.out, rfl⟩
        case measure => omega
      · have hQ : sqL xs = (k : Int) := by unfold sqL; rw [HP.out, hst, if_neg hkx]
        have HQ := Lib.hid hQ
        have hkx2 : ¬ (k : Int) + 1 ≤ x := by omega
        clear hQ hst hc hkn hx
        go_wp2
        go_ret
        exact ⟨ret_int HQ.out.symm, rfl⟩

set_option maxHeartbeats 1000000 in
theorem rank_any (a : Option Addr) (n c : Nat) (xs : List Int) (w : World) (h : Ints w a n xs) (hP : isP xs = true) :
    Calls Try.prog 66 #[.slice a n c] w fun e w' => e = .returned (.int .i64 (rankL xs)) ∧ w' = w := by
  have hl := h.1
  have hn := isP_len hP
  by_cases h0 : n = 0
  · subst h0
    have hQ : rankL xs = 0 := if_pos hl
    have HQ := Lib.hid hQ
    clear hQ h hP
    go_enter Try.func66, Try.ntmps66
    go_wp2
    go_ret
    exact ⟨ret_int HQ.out.symm, rfl⟩
  · obtain ⟨b, off, rfl, hb, hc⟩ := h.at (by omega)
    have hck := hc 0 (by omega)
    have hx1 := isP_at hP (j := 0) (by omega)
    have hQ : rankL xs = xs.getD 0 0 - (n : Int) := by unfold rankL; rw [if_neg (by omega), hl]
    obtain ⟨x, hx⟩ : ∃ x, xs.getD 0 0 = x := ⟨_, rfl⟩
    rw [hx] at hck hx1 hQ
    rw [Nat.add_zero] at hck
    have HQ := Lib.hid hQ
    have hn0 : ((n : Int) == 0) = false := by simp; omega
    have hn1 : (0 : Int) < (n : Int) := by omega
    have hn2 : 0 < n := by omega
    have hn3 : n ≤ 30 := by omega
    clear hQ hc hx hP h h0 hn
    go_enter Try.func66, Try.ntmps66
    go_wp2
    go_ret
    exact ⟨ret_int HQ.out.symm, rfl⟩

set_option maxHeartbeats 1000000 in
theorem refRank_any (a : Option Addr) (n c : Nat) (xs : List Int) (w : World) (h : Ints w a n xs) (hP : isP xs = true) :
    Calls Try.prog 32 #[.slice a n c] w fun e w' => e = .returned (.int .i64 (rankL xs)) ∧ w' = w := by
  have hl := h.1
  have hn := isP_len hP
  by_cases h0 : n = 0
  · subst h0
    have hQ : rankL xs = 0 := if_pos hl
    have HQ := Lib.hid hQ
    clear hQ h hP
    go_enter Try.func32, Try.ntmps32
    go_wp2
    go_ret
    exact ⟨ret_int HQ.out.symm, rfl⟩
  · obtain ⟨b, off, rfl, hb, hc⟩ := h.at (by omega)
    have hck := hc 0 (by omega)
    have hx1 := isP_at hP (j := 0) (by omega)
    have hQ : rankL xs = xs.getD 0 0 - (n : Int) := by unfold rankL; rw [if_neg (by omega), hl]
    obtain ⟨x, hx⟩ : ∃ x, xs.getD 0 0 = x := ⟨_, rfl⟩
    rw [hx] at hck hx1 hQ
    rw [Nat.add_zero] at hck
    have HQ := Lib.hid hQ
    have hn0 : ((n : Int) == 0) = false := by simp; omega
    have hn1 : (0 : Int) < (n : Int) := by omega
    have hn2 : 0 < n := by omega
    have hn3 : n ≤ 30 := by omega
    clear hQ hc hx hP h h0 hn
    go_enter Try.func32, Try.ntmps32
    go_wp2
    go_ret
    exact ⟨ret_int HQ.out.symm, rfl⟩
end Go.Proofs.Ytfecdpglcdhijaa
