/- The walks of partition.odd, the reference's Odd, parts.Glaisher and parts.Odds. Condition: the slice lies in memory. -/
import Derived.Test.YtfecdpglcdhijaaRefOdds
import Derived.Test.YtfecdpglcdhijaaLawShapes
namespace Go.Proofs.Ytfecdpglcdhijaa
open Go.RowKit

/-- All parts odd, as the machine looks. -/
def oddL (xs : List Int) : Bool := xs.all fun x => !(x.tmod 2 == 0)
theorem all_step {p : Int → Bool} {xs : List Int} {k : Nat} (h : k < xs.length) : (xs.drop k).all p = (p (xs.getD k 0) && (xs.drop (k + 1)).all p) := by
  rw [drop_cons h, List.all_cons]
theorem all_end {p : Int → Bool} {xs : List Int} {k : Nat} (h : xs.length ≤ k) : (xs.drop k).all p = true := by
  rw [List.drop_of_length_le h]
  rfl

set_option maxHeartbeats 1000000 in
theorem odd_any (a : Option Addr) (n c : Nat) (xs : List Int) (w : World) (h : Ints w a n xs) (hn : n ≤ 4611686018427387904) :
    Calls Try.prog 70 #[.slice a n c] w fun e w' => e = .returned (.bool (oddL xs && isP xs)) ∧ w' = w := by
  have H := Lib.hid h
  have HL := Lib.hid h.1
  clear h
  go_enter Try.func70, Try.ntmps70
  go_wp2
  go_loopg [7] n (fun gk i wr => ∃ (k : Nat), k + gk = n ∧ i = .int .i64 (k : Int) ∧ oddL xs = (xs.drop k).all (fun x => !(x.tmod 2 == 0)) ∧ wr = w)
  case atStart => exact ⟨0, by omega, rfl, rfl, rfl⟩
  case round =>
    obtain ⟨k, hk, rfl, hp, rfl⟩ := hrel
    have HP := Lib.hid hp
    clear hp
    by_cases hkn : k = n
    · have hge : ¬ (k : Int) < (n : Int) := by omega
      have hge2 : ¬ k < n := by omega
      have hO : oddL xs = true := by rw [HP.out, all_end (by have := HL.out; omega)]
      have HO := Lib.hid hO
      clear hkn hO
      go_wp2_with (go_at_call 62; refine (valid_any a n c xs _ H.out hn).mono ?_; rintro e w' ⟨rfl, rfl⟩)
      go_ret
      exact ⟨ret_bool (by simp [HO.out]), rfl⟩
    · have hlt : (k : Int) < (n : Int) := by omega
      have hlt2 : k < n := by omega
      obtain ⟨b, off, rfl, hb, hc⟩ := H.out.at (by omega)
      have hck := hc k hlt2
      have hp := HP.out
      rw [all_step (by have := HL.out; omega)] at hp
      obtain ⟨x, hx⟩ : ∃ x, xs.getD k 0 = x := ⟨_, rfl⟩
      rw [hx] at hck hp
      have HPP := Lib.hid hp
      have k0 : (0 : Int) ≤ (k : Int) := by omega
      obtain ⟨m, hm⟩ : ∃ m, x.tmod 2 = m := ⟨_, rfl⟩
      rw [hm] at HPP
      clear hp hc hx hkn
      by_cases hz : m = 0
      · subst hz
        have HPf := Lib.hid (show oddL xs = false from HPP.out)
        go_wp2
        go_ret
        exact ⟨ret_bool (by simp [HPf.out]), rfl⟩
      · have hmb : (m == 0) = false := by simpa using hz
        have hp2 := HPP.out
        rw [hmb, Bool.not_false, Bool.true_and] at hp2
        have HP2 := Lib.hid hp2
        clear hp2 hmb
        go_wp2
        go_roundg (gk - 1)
        case rel => exact ⟨k + 1, by omega, by go_num, HP2.out, rfl⟩
        case measure => omega

set_option maxHeartbeats 1000000 in
theorem refOdd_any (a : Option Addr) (n c : Nat) (xs : List Int) (w : World) (h : Ints w a n xs) (hn : n ≤ 4611686018427387904) :
    Calls Try.prog 39 #[.slice a n c] w fun e w' => e = .returned (.bool (oddL xs)) ∧ w' = w := by
  have H := Lib.hid h
  have HL := Lib.hid h.1
  clear h
  go_enter Try.func39, Try.ntmps39
  go_wp2
  go_loopg [7] n (fun gk i wr => ∃ (k : Nat), k + gk = n ∧ i = .int .i64 (k : Int) ∧ oddL xs = (xs.drop k).all (fun x => !(x.tmod 2 == 0)) ∧ wr = w)
  case atStart => exact ⟨0, by omega, rfl, rfl, rfl⟩
  case round =>
    obtain ⟨k, hk, rfl, hp, rfl⟩ := hrel
    have HP := Lib.hid hp
    clear hp
    by_cases hkn : k = n
    · have hge : ¬ (k : Int) < (n : Int) := by omega
      have hge2 : ¬ k < n := by omega
      have hO : oddL xs = true := by rw [HP.out, all_end (by have := HL.out; omega)]
      have HO := Lib.hid hO
      clear hkn hO
      go_wp2
      go_ret
      exact ⟨ret_bool (by simp [HO.out]), rfl⟩
    · have hlt : (k : Int) < (n : Int) := by omega
      have hlt2 : k < n := by omega
      obtain ⟨b, off, rfl, hb, hc⟩ := H.out.at (by omega)
      have hck := hc k hlt2
      have hp := HP.out
      rw [all_step (by have := HL.out; omega)] at hp
      obtain ⟨x, hx⟩ : ∃ x, xs.getD k 0 = x := ⟨_, rfl⟩
      rw [hx] at hck hp
      have HPP := Lib.hid hp
      have k0 : (0 : Int) ≤ (k : Int) := by omega
      obtain ⟨m, hm⟩ : ∃ m, x.tmod 2 = m := ⟨_, rfl⟩
      rw [hm] at HPP
      clear hp hc hx hkn
      by_cases hz : m = 0
      · subst hz
        have HPf := Lib.hid (show oddL xs = false from HPP.out)
        go_wp2
        go_ret
        exact ⟨ret_bool (by simp [HPf.out]), rfl⟩
      · have hmb : (m == 0) = false := by simpa using hz
        have hp2 := HPP.out
        rw [hmb, Bool.not_false, Bool.true_and] at hp2
        have HP2 := Lib.hid hp2
        clear hp2 hmb
        go_wp2
        go_roundg (gk - 1)
        case rel => exact ⟨k + 1, by omega, by go_num, HP2.out, rfl⟩
        case measure => omega

set_option maxHeartbeats 1000000 in
theorem Glaisher_no (a : Option Addr) (n c : Nat) (xs : List Int) (w : World) (h : Ints w a n xs) (hn : n ≤ 4611686018427387904) (hB : (oddL xs && isP xs) = false) :
    Calls Try.prog 37 #[.slice a n c] w fun e w' => e = .returned (.tuple #[.slice none 0 0, .int .i64 2]) ∧ Below w.heap.size w w' := by
  have H := Lib.hid h
  have HB := Lib.hid hB
  clear h hB
  go_enter Try.func37, Try.ntmps37
  go_wp2_with (first | (go_at_call 70; refine (odd_any a n c xs _ H.out hn).mono ?_; rintro e w' ⟨rfl, rfl⟩; rw [HB.out]) | go_in)
  go_ret2
  exact ⟨rfl, Below.refl _ _⟩

set_option maxHeartbeats 1000000 in
theorem Glaisher_yes (a : Option Addr) (n c : Nat) (xs : List Int) (w : World) (h : Ints w a n xs) (hP : isP xs = true) (hB : oddL xs = true) :
    Calls Try.prog 37 #[.slice a n c] w fun e w' => ∃ ao co m, e = .returned (.tuple #[.slice ao m co, .int .i64 0]) ∧ Ints w' ao m (joinF xs 0) ∧ Below w.heap.size w w' := by
  have hn := isP_len hP
  rw [h.1] at hn
  have H := Lib.hid h
  have HP := Lib.hid hP
  have HB := Lib.hid (show (oddL xs && isP xs) = true by rw [hP, hB]; rfl)
  have hbq : ∀ q, Below w.heap.size w (w.drewN q) := fun q => below_drewN (Below.refl w.heap.size w) q
  have HBQ := Lib.hid hbq
  rcases a with _ | ad
  · have hn0 : n = 0 := by
      rcases h.2 with h0 | ⟨b, off, h1, -⟩
      · exact h0
      · cases h1
    subst hn0
    have hx : xs = [] := List.length_eq_zero_iff.1 h.1
    subst hx
    have HJ := Lib.hid (show joinF [] 0 = [] from joinF_end (by simp))
    clear h hP hB hbq
    go_enter Try.func37, Try.ntmps37
    go_wp2_with (first | (go_at_call 70; refine (odd_any none 0 c [] _ H.out (by omega)).mono ?_; rintro e w' ⟨rfl, rfl⟩; rw [HB.out]) | (go_at_call 71; refine (joined_nil c _).mono ?_; rintro e w1 ⟨rfl, hb1⟩; have HB1 := Lib.hid hb1; clear hb1) | go_in)
    go_ret2
    exact ⟨none, 0, 0, rfl, by rw [HJ.out]; exact Ints.nil _ _, HB1.out⟩
  · clear h hP hB hbq
    go_enter Try.func37, Try.ntmps37
    go_wp2_with (first | (go_at_call 70; refine (odd_any (some ad) n c xs _ H.out (by omega)).mono ?_; rintro e w' ⟨rfl, rfl⟩; rw [HB.out]) | (go_at_call 71; refine (joined_some ad n c xs _ H.out HP.out).mono ?_; rintro e w1 ⟨g1, c1, m1, rfl, hl1, hm1⟩; subst hm1; have HB1 := Lib.hid hl1; clear hl1) | go_in)
    go_ret2
    exact ⟨some ⟨g1, 0, none⟩, c1, _, rfl, (Ints.own HB1.out.own).1, HB1.out.b⟩

set_option maxHeartbeats 1000000 in
theorem Odds_no (a : Option Addr) (n c : Nat) (xs : List Int) (w : World) (h : Ints w a n xs) (hn : n ≤ 4611686018427387904) (hB : (diffL xs && isP xs) = false) :
    Calls Try.prog 38 #[.slice a n c] w fun e w' => e = .returned (.tuple #[.slice none 0 0, .int .i64 2]) ∧ Below w.heap.size w w' := by
  have H := Lib.hid h
  have HB := Lib.hid hB
  clear h hB
  go_enter Try.func38, Try.ntmps38
  go_wp2_with (first | (go_at_call 72; refine (different_any a n c xs _ H.out hn).mono ?_; rintro e w' ⟨rfl, q, rfl⟩; rw [HB.out]) | go_in)
  go_ret2
  exact ⟨rfl, below_drewN (Below.refl w.heap.size w) q⟩

set_option maxHeartbeats 1000000 in
theorem Odds_yes (a : Option Addr) (n c : Nat) (xs : List Int) (w : World) (h : Ints w a n xs) (hP : isP xs = true) (hB : diffL xs = true) :
    Calls Try.prog 38 #[.slice a n c] w fun e w' => ∃ ao co m, e = .returned (.tuple #[.slice ao m co, .int .i64 0]) ∧ Ints w' ao m (halfF xs 0) ∧ Below w.heap.size w w' := by
  have hn := isP_len hP
  rw [h.1] at hn
  have H := Lib.hid h
  have HP := Lib.hid hP
  have HB := Lib.hid (show (diffL xs && isP xs) = true by rw [hP, hB]; rfl)
  have hbq : ∀ q, Below w.heap.size w (w.drewN q) := fun q => below_drewN (Below.refl w.heap.size w) q
  have HBQ := Lib.hid hbq
  rcases a with _ | ad
  · have hn0 : n = 0 := by
      rcases h.2 with h0 | ⟨b, off, h1, -⟩
      · exact h0
      · cases h1
    subst hn0
    have hx : xs = [] := List.length_eq_zero_iff.1 h.1
    subst hx
    have HJ := Lib.hid (show halfF [] 0 = [] from halfF_end (by simp))
    clear h hP hB hbq
    go_enter Try.func38, Try.ntmps38
    go_wp2_with (first | (go_at_call 72; refine (different_any none 0 c [] _ H.out (by omega)).mono ?_; rintro e w' ⟨rfl, q, rfl⟩; rw [HB.out]) | (go_at_call 73; refine (halved_nil c _).mono ?_; rintro e w1 ⟨rfl, hb1⟩; have HB1 := Lib.hid hb1; clear hb1) | go_in)
    go_ret2
    exact ⟨none, 0, 0, rfl, by rw [HJ.out]; exact Ints.nil _ _, (HBQ.out q).trans HB1.out⟩
  · clear h hP hB hbq
    go_enter Try.func38, Try.ntmps38
    go_wp2_with (first | (go_at_call 72; refine (different_any (some ad) n c xs _ H.out (by omega)).mono ?_; rintro e w' ⟨rfl, q, rfl⟩; rw [HB.out]) | (go_at_call 73; refine (halved_some ad n c xs _ (H.out.below (HBQ.out _)) HP.out).mono ?_; rintro e w1 ⟨g1, c1, m1, rfl, hl1, hm1⟩; subst hm1; have HB1 := Lib.hid hl1; clear hl1) | go_in)
    go_ret2
    exact ⟨some ⟨g1, 0, none⟩, c1, _, rfl, (Ints.own HB1.out.own).1, (HBQ.out q).trans HB1.out.b⟩
end Go.Proofs.Ytfecdpglcdhijaa
