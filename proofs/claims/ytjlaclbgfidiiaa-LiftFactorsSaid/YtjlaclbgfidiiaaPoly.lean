/- The walks of valid and of the reference's Poly. Condition: the slice lies in memory. -/
import Derived.Test.YtjlaclbgfidiiaaRes
namespace Go.Proofs.Ytjlaclbgfidiiaa
open Go.RowKit
attribute [local go_sem] Oper.semAt_some

/-- A coefficient that is out of range. -/
def badC (c : Int) : Bool := decide (c < -1000) || decide (1000 < c)
/-- What is a polynomial. -/
def isPoly (xs : List Int) : Bool := decide (2 ≤ xs.length) && decide (xs.length ≤ 7) && !decide (xs.getD (xs.length - 1) 0 = 0) && !xs.any badC
theorem isPoly_spec {xs : List Int} (h : isPoly xs = true) : 2 ≤ xs.length ∧ xs.length ≤ 7 ∧ xs.getD (xs.length - 1) 0 ≠ 0 ∧ ∀ j, j < xs.length → -1000 ≤ xs.getD j 0 ∧ xs.getD j 0 ≤ 1000 := by
  unfold isPoly at h
  simp only [Bool.and_eq_true, decide_eq_true_eq, Bool.not_eq_true', decide_eq_false_iff_not] at h
  obtain ⟨⟨⟨h1, h2⟩, h3⟩, h4⟩ := h
  refine ⟨h1, h2, h3, fun j hj => ?_⟩
  rw [List.any_eq_false] at h4
  have hm : xs.getD j 0 ∈ xs := by simp [List.getD, hj]
  have := h4 _ hm
  simp only [badC, Bool.or_eq_true, decide_eq_true_eq] at this
  omega
theorem isPoly_take (xs : List Int) : isPoly (xs.take 9) = isPoly xs := by
  by_cases h : xs.length ≤ 9
  · rw [List.take_of_length_le h]
  · have h1 : ¬ (xs.take 9).length ≤ 7 := by rw [List.length_take]; omega
    have h2 : ¬ xs.length ≤ 7 := by omega
    unfold isPoly
    rw [decide_eq_false h1, decide_eq_false h2, Bool.and_false, Bool.and_false]
    rfl
theorem isPoly_short {xs : List Int} (h : isPoly xs = true) : xs.take 9 = xs := List.take_of_length_le (by have := (isPoly_spec h).2.1; omega)

theorem bad_any (c : Int) (w : World) : Calls Try.prog 79 #[.int .i64 c] w fun e w' => e = .returned (.bool (badC c)) ∧ w = w' := by
  obtain ⟨B, hB⟩ : ∃ B, badC c = B := ⟨_, rfl⟩
  rw [hB]
  unfold badC at hB
  by_cases h1 : c < -1000
  · obtain rfl : B = true := by rw [← hB]; simp [h1]
    clear hB
    go_enter Try.func79, Try.ntmps79
    go_wp2
    go_ret
    exact ⟨rfl, rfl⟩
  · by_cases h2 : 1000 < c
    · obtain rfl : B = true := by rw [← hB]; simp [h2]
      clear hB
      go_enter Try.func79, Try.ntmps79
      go_wp2
      go_ret
      exact ⟨rfl, rfl⟩
    · obtain rfl : B = false := by rw [← hB]; simp [h1, h2]
      clear hB
      go_enter Try.func79, Try.ntmps79
      go_wp2
      go_ret
      exact ⟨rfl, rfl⟩
theorem drop_cons {xs : List Int} {j : Nat} (h : j < xs.length) : xs.drop j = xs.getD j 0 :: xs.drop (j + 1) := by
  rw [List.drop_eq_getElem_cons h]
  simp [List.getD, h]
theorem drew_below (w : World) (q : Nat) : Below w.heap.size w (w.drewN q) := below_drewN (Below.refl _ _) q

set_option maxHeartbeats 2000000 in
set_option maxRecDepth 100000 in
theorem indexFunc_any (a : Option Addr) (n c : Nat) (xs : List Int) (w : World) (h : Ints w a n xs) (hn : n ≤ 100) :
    Calls Try.prog 89 #[.slice a n c, .func (.func 79) #[] #[]] w fun e w' => ∃ r : Int, e = .returned (.int .i64 r) ∧ decide (0 ≤ r) = xs.any badC ∧ ∃ q, w' = w.drewN q := by
  have H := Lib.hid h
  have HL := Lib.hid h.1
  obtain ⟨B, hB⟩ : ∃ B, xs.any badC = B := ⟨_, rfl⟩
  rw [hB]
  have HB := Lib.hid hB
  clear hB h
  go_enter Try.func89, Try.ntmps89
  go_wp2
  go_loopg [5, 8] n (fun gk s5 s8 wr => ∃ j q : Nat, s8 = .int .i64 (j : Int) ∧ j + gk = n ∧ (xs.drop j).any badC = B ∧ wr = w.drewN q)
  case atStart => exact ⟨0, 0, rfl, by omega, HB.out, rfl⟩
  case round =>
    obtain ⟨j, q, rfl, hj, hac, rfl⟩ := hrel
    have HJ := Lib.hid hj
    have HAC := Lib.hid hac
    clear hac
    by_cases hjn : j < n
    · have l1 : (j : Int) < (n : Int) := by omega
      have j0 : (0 : Int) ≤ (j : Int) := by omega
      obtain ⟨b, off, hab, hbl, hcc⟩ := (H.out.below (drew_below w q)).at (by omega)
      subst hab
      have hcj := hcc j hjn
      have hac := HAC.out
      rw [drop_cons (by have := HL.out; omega), List.any_cons] at hac
      obtain ⟨x, hx⟩ : ∃ x, xs.getD j 0 = x := ⟨_, rfl⟩
      rw [hx] at hcj hac
      have hC := fun w => bad_any x w
      have HA := Lib.hid hac
      cases hbx : badC x with
      | true =>
        rw [hbx] at hC
        have HC := Lib.hid hC
        have hBt : true = B := by rw [← HA.out, hbx]; rfl
        have HBT := Lib.hid hBt
        have j2 : decide (0 ≤ (j : Int)) = true := by simp
        have J2 := Lib.hid j2
        clear hC hbx hBt hcc hac hx hj j2
        go_wp2_with fail
        refine (HC.out _).mono ?_
        rintro e w1 ⟨rfl, rfl⟩
        go_wp2
        go_ret
        exact ⟨_, rfl, J2.out.trans HBT.out, _, by first | rfl | rw [World.drewN_drewN]⟩
      | false =>
        rw [hbx] at hC
        have HC := Lib.hid hC
        have hBt : (xs.drop (j + 1)).any badC = B := by rw [← HA.out, hbx]; rfl
        have HBT := Lib.hid hBt
        clear hC hbx hBt hcc hac hx hj
        go_wp2_with fail
        refine (HC.out _).mono ?_
        rintro e w1 ⟨rfl, rfl⟩
        go_wp2
        go_roundg (gk - 1)
        case rel => exact ⟨j + 1, _, by go_num, by have := HJ.out; omega, HBT.out, by first | rfl | rw [World.drewN_drewN]⟩
        case measure => have := HJ.out; omega
    · have l1 : ¬ (j : Int) < (n : Int) := by omega
      have hac := HAC.out
      rw [List.drop_eq_nil_of_le (by have := HL.out; omega)] at hac
      have HB2 := Lib.hid (show false = B from hac)
      clear hac hj hjn
      go_wp2
      go_ret
      exact ⟨_, rfl, HB2.out, q, rfl⟩

theorem containsFunc_any (a : Option Addr) (n c : Nat) (xs : List Int) (w : World) (h : Ints w a n xs) (hn : n ≤ 100) :
    Calls Try.prog 78 #[.slice a n c, .func (.func 79) #[] #[]] w fun e w' => e = .returned (.bool (xs.any badC)) ∧ ∃ q, w' = w.drewN q := by
  have HI := Lib.hid (indexFunc_any a n c xs w h hn)
  clear h
  go_enter Try.func78, Try.ntmps78
  go_wp2_with fail
  refine HI.out.mono ?_
  rintro e w1 ⟨r, rfl, hr, q, rfl⟩
  have HR := Lib.hid hr
  clear hr
  go_wp2
  go_ret
  exact ⟨ret_bool HR.out, q, rfl⟩

set_option maxHeartbeats 2000000 in
set_option maxRecDepth 100000 in
theorem valid_any (a : Option Addr) (n c : Nat) (xs : List Int) (w : World) (h : Ints w a n xs) (hn : n ≤ 4611686018427387904) :
    Calls Try.prog 54 #[.slice a n c] w fun e w' => e = .returned (.bool (isPoly xs)) ∧ ∃ q, w' = w.drewN q := by
  obtain ⟨B, hB⟩ : ∃ B, isPoly xs = B := ⟨_, rfl⟩
  rw [hB]
  unfold isPoly at hB
  rw [h.1] at hB
  by_cases h1 : 2 ≤ n
  · rw [decide_eq_true h1, Bool.true_and] at hB
    by_cases h2 : n ≤ 7
    · rw [decide_eq_true h2, Bool.true_and] at hB
      obtain ⟨b, off, hab, hbl, hcc⟩ := h.at (by omega)
      subst hab
      have hcj := hcc (n - 1) (by omega)
      have e1 : (n : Int) - 1 = ((n - 1 : Nat) : Int) := by omega
      obtain ⟨x, hx⟩ : ∃ x, xs.getD (n - 1) 0 = x := ⟨_, rfl⟩
      rw [hx] at hcj hB
      have HC := Lib.hid (containsFunc_any _ n c xs w h (by omega))
      have l1 : ¬ (n : Int) < 2 := by omega
      have l2 : ¬ (7 : Int) < (n : Int) := by omega
      by_cases h3 : x = 0
      · subst h3
        rw [decide_eq_true rfl] at hB
        obtain rfl : B = false := by rw [← hB]; rfl
        have HCJ := Lib.hid hcj
        obtain ⟨m, rfl⟩ : ∃ m, n = m + 1 := ⟨n - 1, by omega⟩
        have hcj := HCJ.out
        rw [Nat.add_sub_cancel] at hcj
        clear hB HC hcc hx HCJ h e1
        go_enter Try.func54, Try.ntmps54
        go_wp2
        go_ret
        exact ⟨rfl, 0, rfl⟩
      · rw [decide_eq_false h3] at hB
        have hB2 : (!xs.any badC) = B := by rw [← hB]; rfl
        have HB2 := Lib.hid hB2
        have HCJ := Lib.hid hcj
        obtain ⟨m, rfl⟩ : ∃ m, n = m + 1 := ⟨n - 1, by omega⟩
        have hcj := HCJ.out
        rw [Nat.add_sub_cancel] at hcj
        have h3f : (x == 0) = false := by rw [beq_eq_false_iff_ne]; exact h3
        clear hB hB2 hcc hx HCJ h e1
        go_enter Try.func54, Try.ntmps54
        go_wp2_with fail
        refine HC.out.mono ?_
        rintro e w1 ⟨rfl, q, rfl⟩
        go_wp2
        go_ret
        exact ⟨ret_bool HB2.out, q, rfl⟩
    · rw [decide_eq_false h2, Bool.false_and] at hB
      obtain rfl : B = false := by rw [← hB]; rfl
      have l1 : ¬ (n : Int) < 2 := by omega
      have l2 : (7 : Int) < (n : Int) := by omega
      clear hB h
      go_enter Try.func54, Try.ntmps54
      go_wp2
      go_ret
      exact ⟨rfl, 0, rfl⟩
  · rw [decide_eq_false h1, Bool.false_and, Bool.false_and] at hB
    obtain rfl : B = false := by rw [← hB]; rfl
    have l1 : (n : Int) < 2 := by omega
    clear hB h
    go_enter Try.func54, Try.ntmps54
    go_wp2
    go_ret
    exact ⟨rfl, 0, rfl⟩

set_option maxHeartbeats 2000000 in
set_option maxRecDepth 100000 in
theorem polyR_any (a : Option Addr) (n c : Nat) (xs : List Int) (w : World) (h : Ints w a n xs) (hn : n ≤ 4611686018427387904) :
    Calls Try.prog 20 #[.slice a n c] w fun e w' => e = .returned (.bool (isPoly xs)) ∧ w = w' := by
  obtain ⟨B, hB⟩ : ∃ B, isPoly xs = B := ⟨_, rfl⟩
  rw [hB]
  unfold isPoly at hB
  rw [h.1] at hB
  have H := Lib.hid h
  have HL := Lib.hid h.1
  have HB := Lib.hid hB
  clear h hB
  go_enter Try.func20, Try.ntmps20
  go_wp2
  go_loopg [4, 7] n (fun gk s4 s7 wr => ∃ j : Nat, s7 = .int .i64 (j : Int) ∧ j + gk = n ∧ (xs.drop j).any badC = xs.any badC ∧ wr = w)
  case atStart => exact ⟨0, rfl, by omega, rfl, rfl⟩
  case round =>
    obtain ⟨j, rfl, hj, hac, rfl⟩ := hrel
    have HJ := Lib.hid hj
    have HAC := Lib.hid hac
    clear hac
    by_cases hjn : j < n
    · have l1 : (j : Int) < (n : Int) := by omega
      have j0 : (0 : Int) ≤ (j : Int) := by omega
      obtain ⟨b, off, hab, hbl, hcc⟩ := H.out.at (by omega)
      subst hab
      have hcj := hcc j hjn
      have hac := HAC.out
      rw [drop_cons (by have := HL.out; omega), List.any_cons] at hac
      obtain ⟨x, hx⟩ : ∃ x, xs.getD j 0 = x := ⟨_, rfl⟩
      rw [hx] at hcj hac
      by_cases g1 : x < -1000
      · have hB2 : B = false := by
          rw [← HB.out, ← hac, show badC x = true by simp [badC, g1]]; simp
        have HB2 := Lib.hid hB2
        clear hB2 hcc hac hx hj
        go_wp2
        go_ret
        exact ⟨ret_bool HB2.out.symm, rfl⟩
      · by_cases g2 : 1000 < x
        · have hB2 : B = false := by
            rw [← HB.out, ← hac, show badC x = true by simp [badC, g2]]; simp
          have HB2 := Lib.hid hB2
          clear hB2 hcc hac hx hj
          go_wp2
          go_ret
          exact ⟨ret_bool HB2.out.symm, rfl⟩
        · have hnx : (xs.drop (j + 1)).any badC = xs.any badC := by
            rw [← hac, show badC x = false by simp [badC, g1, g2]]; rfl
          have HN := Lib.hid hnx
          clear hnx hcc hac hx hj
          go_wp2
          go_roundg (gk - 1)
          case rel => exact ⟨j + 1, by go_num, by have := HJ.out; omega, HN.out, rfl⟩
          case measure => have := HJ.out; omega
    · have l1 : ¬ (j : Int) < (n : Int) := by omega
      have hac := HAC.out
      rw [List.drop_eq_nil_of_le (by have := HL.out; omega)] at hac
      have hany : xs.any badC = false := hac.symm
      have hB := HB.out
      rw [hany] at hB
      clear hac hj hjn hany HB HAC
      by_cases h1 : 2 ≤ n
      · rw [decide_eq_true h1, Bool.true_and] at hB
        have m1 : (2 : Int) ≤ (n : Int) := by omega
        by_cases h2 : n ≤ 7
        · rw [decide_eq_true h2, Bool.true_and] at hB
          have m2 : (n : Int) ≤ 7 := by omega
          obtain ⟨b, off, hab, hbl, hcc⟩ := H.out.at (by omega)
          subst hab
          have hcj := hcc (n - 1) (by omega)
          obtain ⟨x, hx⟩ : ∃ x, xs.getD (n - 1) 0 = x := ⟨_, rfl⟩
          rw [hx] at hcj hB
          have HB2 : B = (x != 0) := by
            rw [← hB]
            by_cases h : x = 0 <;> simp [h]
          have HB3 := Lib.hid HB2
          have HL2 := Lib.hid l1
          obtain ⟨m, rfl⟩ : ∃ m, n = m + 1 := ⟨n - 1, by omega⟩
          rw [Nat.add_sub_cancel] at hcj
          clear hB hcc hx HB2 H HL HJ
          go_wp2
          go_ret
          exact ⟨ret_bool HB3.out.symm, rfl⟩
        · rw [decide_eq_false h2, Bool.false_and] at hB
          have m2 : ¬ (n : Int) ≤ 7 := by omega
          have HB3 := Lib.hid (show B = false by rw [← hB]; rfl)
          clear hB h2
          go_wp2
          go_ret
          exact ⟨ret_bool HB3.out.symm, rfl⟩
      · rw [decide_eq_false h1, Bool.false_and, Bool.false_and] at hB
        have m1 : ¬ (2 : Int) ≤ (n : Int) := by omega
        have HB3 := Lib.hid (show B = false by rw [← hB]; rfl)
        clear hB h1
        go_wp2
        go_ret
        exact ⟨ret_bool HB3.out.symm, rfl⟩
end Go.Proofs.Ytjlaclbgfidiiaa
