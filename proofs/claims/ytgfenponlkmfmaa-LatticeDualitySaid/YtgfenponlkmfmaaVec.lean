/- The walks of inner, norm, within, and of the reference's Dot and the law's point. Condition: the slices lie in memory. -/
import Derived.Test.YtgfenponlkmfmaaMinor
namespace Go.Proofs.Ytgfenponlkmfmaa
open Go.RowKit
attribute [local go_sem] Oper.semAt_some

/-- The numbers of a list. -/
def nt (xs : List Int) : Nat → Int := fun c => xs.getD c 0
theorem ent_nt (L : List (List Int)) (i : Nat) : ent L i = nt (row L i) := rfl
/-- n numbers, none beyond a bound. -/
def inB (xs : List Int) (n : Nat) (most : Int) : Bool := decide (xs.length = n) && xs.all fun x => decide (-most ≤ x) && decide (x ≤ most)
theorem inB_spec {xs : List Int} {n : Nat} {most : Int} : inB xs n most = true ↔ xs.length = n ∧ ∀ j, j < n → -most ≤ xs.getD j 0 ∧ xs.getD j 0 ≤ most := by
  unfold inB
  simp only [Bool.and_eq_true, decide_eq_true_eq, List.all_eq_true]
  constructor
  · rintro ⟨h1, h2⟩
    refine ⟨h1, fun j hj => h2 _ ?_⟩
    rw [← h1] at hj
    simp [List.getD, hj]
  · rintro ⟨h1, h2⟩
    refine ⟨h1, fun x hx => ?_⟩
    obtain ⟨j, hj, rfl⟩ := List.getElem_of_mem hx
    have := h2 j (by omega)
    simpa [List.getD, hj] using this
theorem inB_no {xs : List Int} {n : Nat} {most : Int} (h : ¬ (xs.length = n ∧ ∀ j, j < n → -most ≤ xs.getD j 0 ∧ xs.getD j 0 ≤ most)) : inB xs n most = false := by
  rw [Bool.eq_false_iff]
  intro h2
  exact h (inB_spec.1 h2)
theorem w64_sum (S x y : Int) : wrap64 (wrap64 S + wrap64 (x * y)) = wrap64 (S + x * y) := by
  simp only [w64]
  exact wrap_add S (x * y)

set_option maxHeartbeats 4000000 in
set_option maxRecDepth 100000 in
theorem inner_any (a a' : Option Addr) (n c m c' : Nat) (xs ys : List Int) (w : World) (h : Ints w a n xs) (h' : Ints w a' m ys) (hm : n ≤ m) (hn : n ≤ 1000) :
    Calls Try.prog 105 #[.slice a n c, .slice a' m c'] w fun e w' => e = .returned (.int .i64 (wrap64 (dot n (nt xs) (nt ys)))) ∧ w' = w := by
  obtain ⟨T, hT⟩ : ∃ T, dot n (nt xs) (nt ys) = T := ⟨_, rfl⟩
  rw [hT]
  have HT := Lib.hid hT
  have H := Lib.hid h
  have H' := Lib.hid h'
  clear hT h h'
  go_enter Try.func105, Try.ntmps105
  go_wp2
  go_loopg [5, 10] n (fun gk s5 s10 wr => ∃ (j : Nat), s10 = .int .i64 (j : Int) ∧ s5 = .int .i64 (wrap64 (dot j (nt xs) (nt ys))) ∧ j + gk = n ∧ wr = w)
  case atStart => exact ⟨0, rfl, by rw [show wrap64 (dot 0 (nt xs) (nt ys)) = 0 from (by show wrap64 0 = 0; decide +kernel)], by omega, rfl⟩
  case round =>
    obtain ⟨j, rfl, rfl, hj, rfl⟩ := hrel
    have HJ := Lib.hid hj
    by_cases hjn : j < n
    · have l1 : (j : Int) < (n : Int) := by omega
      have l2 : (j : Int) < (m : Int) := by omega
      have j0 : (0 : Int) ≤ (j : Int) := by omega
      obtain ⟨b, off, rfl, hb, hcc⟩ := H.out.at (by omega)
      obtain ⟨b', off', rfl, hb', hcc'⟩ := H'.out.at (by omega)
      have hcj := hcc j hjn
      have hcj' := hcc' j (by omega)
      obtain ⟨x, hx⟩ : ∃ x, xs.getD j 0 = x := ⟨_, rfl⟩
      obtain ⟨y, hy⟩ : ∃ y, ys.getD j 0 = y := ⟨_, rfl⟩
      rw [hx] at hcj
      rw [hy] at hcj'
      obtain ⟨S, hS⟩ : ∃ S, dot j (nt xs) (nt ys) = S := ⟨_, rfl⟩
      have hst : dot (j + 1) (nt xs) (nt ys) = S + x * y := by
        rw [← hS, ← hx, ← hy]
        rfl
      rw [hS]
      have HST := Lib.hid hst
      have hw := Lib.hid (w64_sum S x y)
      clear hst hS hx hy hcc hcc' hj
      go_wp2
      go_roundg (gk - 1)
      case rel => exact ⟨j + 1, by go_num, by rw [HST.out, ← hw.out], by have := HJ.out; omega, rfl⟩
      case measure => have := HJ.out; omega
    · have l1 : ¬ (j : Int) < (n : Int) := by omega
      have hf : wrap64 (dot j (nt xs) (nt ys)) = wrap64 T := by rw [show j = n by omega, HT.out]
      have HF := Lib.hid hf
      clear hf hj hjn
      go_wp2
      go_ret
      exact ⟨ret_int HF.out, rfl⟩

set_option maxHeartbeats 4000000 in
set_option maxRecDepth 100000 in
theorem dotR_any (a a' : Option Addr) (n c m c' : Nat) (xs ys : List Int) (w : World) (h : Ints w a n xs) (h' : Ints w a' m ys) (hm : n ≤ m) (hn : n ≤ 1000) :
    Calls Try.prog 53 #[.slice a n c, .slice a' m c'] w fun e w' => e = .returned (.int .i64 (wrap64 (dot n (nt xs) (nt ys)))) ∧ w' = w := by
  obtain ⟨T, hT⟩ : ∃ T, dot n (nt xs) (nt ys) = T := ⟨_, rfl⟩
  rw [hT]
  have HT := Lib.hid hT
  have H := Lib.hid h
  have H' := Lib.hid h'
  clear hT h h'
  go_enter Try.func53, Try.ntmps53
  go_wp2
  go_loopg [5, 10] n (fun gk s5 s10 wr => ∃ (j : Nat), s10 = .int .i64 (j : Int) ∧ s5 = .int .i64 (wrap64 (dot j (nt xs) (nt ys))) ∧ j + gk = n ∧ wr = w)
  case atStart => exact ⟨0, rfl, by rw [show wrap64 (dot 0 (nt xs) (nt ys)) = 0 from (by show wrap64 0 = 0; decide +kernel)], by omega, rfl⟩
  case round =>
    obtain ⟨j, rfl, rfl, hj, rfl⟩ := hrel
    have HJ := Lib.hid hj
    by_cases hjn : j < n
    · have l1 : (j : Int) < (n : Int) := by omega
      have l2 : (j : Int) < (m : Int) := by omega
      have j0 : (0 : Int) ≤ (j : Int) := by omega
      obtain ⟨b, off, rfl, hb, hcc⟩ := H.out.at (by omega)
      obtain ⟨b', off', rfl, hb', hcc'⟩ := H'.out.at (by omega)
      have hcj := hcc j hjn
      have hcj' := hcc' j (by omega)
      obtain ⟨x, hx⟩ : ∃ x, xs.getD j 0 = x := ⟨_, rfl⟩
      obtain ⟨y, hy⟩ : ∃ y, ys.getD j 0 = y := ⟨_, rfl⟩
      rw [hx] at hcj
      rw [hy] at hcj'
      obtain ⟨S, hS⟩ : ∃ S, dot j (nt xs) (nt ys) = S := ⟨_, rfl⟩
      have hst : dot (j + 1) (nt xs) (nt ys) = S + x * y := by
        rw [← hS, ← hx, ← hy]
        rfl
      rw [hS]
      have HST := Lib.hid hst
      have hw := Lib.hid (w64_sum S x y)
      clear hst hS hx hy hcc hcc' hj
      go_wp2
      go_roundg (gk - 1)
      case rel => exact ⟨j + 1, by go_num, by rw [HST.out, ← hw.out], by have := HJ.out; omega, rfl⟩
      case measure => have := HJ.out; omega
    · have l1 : ¬ (j : Int) < (n : Int) := by omega
      have hf : wrap64 (dot j (nt xs) (nt ys)) = wrap64 T := by rw [show j = n by omega, HT.out]
      have HF := Lib.hid hf
      clear hf hj hjn
      go_wp2
      go_ret
      exact ⟨ret_int HF.out, rfl⟩

theorem norm_any (a : Option Addr) (n c : Nat) (xs : List Int) (w : World) (h : Ints w a n xs) (hn : n ≤ 1000) :
    Calls Try.prog 80 #[.slice a n c] w fun e w' => e = .returned (.int .i64 (wrap64 (dot n (nt xs) (nt xs)))) ∧ w' = w := by
  have hC := inner_any a a n c n c xs xs w h h (Nat.le_refl _) hn
  have HC := Lib.hid hC
  clear hC h
  go_enter Try.func80, Try.ntmps80
  go_wp2_with fail
  refine HC.out.mono ?_
  rintro e w1 ⟨rfl, rfl⟩
  go_wp2
  go_ret
  exact ⟨rfl, rfl⟩

set_option maxHeartbeats 4000000 in
set_option maxRecDepth 100000 in
theorem within_any (a : Option Addr) (n c : Nat) (xs : List Int) (k : Nat) (most : Int) (w : World) (h : Ints w a n xs) (hn : n ≤ 4611686018427387904) (h0 : 0 ≤ most) (h1 : most ≤ 1000000) :
    Calls Try.prog 66 #[.slice a n c, .int .i64 (k : Int), .int .i64 most] w fun e w' => e = .returned (.bool (inB xs k most)) ∧ w' = w := by
  obtain ⟨B, hB⟩ : ∃ B, inB xs k most = B := ⟨_, rfl⟩
  rw [hB]
  have H := Lib.hid h
  have HB := Lib.hid hB
  have HL := Lib.hid h.1
  clear hB h
  by_cases hnk : n = k
  · subst hnk
    go_enter Try.func66, Try.ntmps66
    go_wp2
    go_loopg [15] n (fun gk s15 wr => ∃ (j : Nat), s15 = .int .i64 (j : Int) ∧ j + gk = n ∧ RowKit.Hid (∀ i, i < j → -most ≤ xs.getD i 0 ∧ xs.getD i 0 ≤ most) ∧ wr = w)
    case atStart => exact ⟨0, rfl, by omega, Lib.hid (fun i hi => by omega), rfl⟩
    case round =>
      obtain ⟨j, rfl, hj, HP, rfl⟩ := hrel
      have HJ := Lib.hid hj
      by_cases hjn : j < n
      · have l1 : (j : Int) < (n : Int) := by omega
        have j0 : (0 : Int) ≤ (j : Int) := by omega
        obtain ⟨b, off, rfl, hb, hcc⟩ := H.out.at (by omega)
        have hcj := hcc j hjn
        obtain ⟨x, hx⟩ : ∃ x, xs.getD j 0 = x := ⟨_, rfl⟩
        rw [hx] at hcj
        have HX := Lib.hid hx
        clear hx hcc hj
        by_cases hx1 : x < -most
        · have hf : B = false := by
            rw [← HB.out]
            refine inB_no fun hh => ?_
            have := (hh.2 j hjn).1
            rw [HX.out] at this
            omega
          have HF := Lib.hid hf
          clear hf
          go_wp2
          go_ret
          exact ⟨ret_bool HF.out.symm, rfl⟩
        · by_cases hx2 : most < x
          · have hf : B = false := by
              rw [← HB.out]
              refine inB_no fun hh => ?_
              have := (hh.2 j hjn).2
              rw [HX.out] at this
              omega
            have HF := Lib.hid hf
            clear hf
            go_wp2
            go_ret
            exact ⟨ret_bool HF.out.symm, rfl⟩
          · have hp : ∀ i, i < j + 1 → -most ≤ xs.getD i 0 ∧ xs.getD i 0 ≤ most := by
              intro i hi
              by_cases hij : i = j
              · subst hij
                rw [HX.out]
                omega
              · exact HP.out i (by omega)
            have HP2 := Lib.hid hp
            clear hp
            go_wp2
            go_roundg (gk - 1)
            case rel => exact ⟨j + 1, by go_num, by have := HJ.out; omega, HP2.out, rfl⟩
            case measure => have := HJ.out; omega
      · have l1 : ¬ (j : Int) < (n : Int) := by omega
        have hf : B = true := by
          rw [← HB.out]
          exact inB_spec.2 ⟨HL.out, fun i hi => HP.out i (by omega)⟩
        have HF := Lib.hid hf
        clear hf hj hjn
        go_wp2
        go_ret
        exact ⟨ret_bool HF.out.symm, rfl⟩
  · have hne : ¬ (n : Int) = (k : Int) := by omega
    have hf : B = false := by
      rw [← HB.out]
      exact inB_no fun hh => hnk (by rw [← HL.out]; exact hh.1)
    have HF := Lib.hid hf
    clear hf
    go_enter Try.func66, Try.ntmps66
    go_wp2
    go_ret
    exact ⟨ret_bool HF.out.symm, rfl⟩

set_option maxHeartbeats 4000000 in
set_option maxRecDepth 100000 in
theorem point_any (a : Option Addr) (n c : Nat) (xs : List Int) (k : Nat) (most : Int) (w : World) (h : Ints w a n xs) (hn : n ≤ 4611686018427387904) (h0 : 0 ≤ most) (h1 : most ≤ 1000000) :
    Calls Try.prog 30 #[.slice a n c, .int .i64 (k : Int), .int .i64 most] w fun e w' => e = .returned (.bool (inB xs k most)) ∧ w' = w := by
  obtain ⟨B, hB⟩ : ∃ B, inB xs k most = B := ⟨_, rfl⟩
  rw [hB]
  have H := Lib.hid h
  have HB := Lib.hid hB
  have HL := Lib.hid h.1
  clear hB h
  go_enter Try.func30, Try.ntmps30
  go_wp2
  go_loopg [11] n (fun gk s15 wr => ∃ (j : Nat), s15 = .int .i64 (j : Int) ∧ j + gk = n ∧ RowKit.Hid (∀ i, i < j → -most ≤ xs.getD i 0 ∧ xs.getD i 0 ≤ most) ∧ wr = w)
  case atStart => exact ⟨0, rfl, by omega, Lib.hid (fun i hi => by omega), rfl⟩
  case round =>
    obtain ⟨j, rfl, hj, HP, rfl⟩ := hrel
    have HJ := Lib.hid hj
    by_cases hjn : j < n
    · have l1 : (j : Int) < (n : Int) := by omega
      have j0 : (0 : Int) ≤ (j : Int) := by omega
      obtain ⟨b, off, rfl, hb, hcc⟩ := H.out.at (by omega)
      have hcj := hcc j hjn
      obtain ⟨x, hx⟩ : ∃ x, xs.getD j 0 = x := ⟨_, rfl⟩
      rw [hx] at hcj
      have HX := Lib.hid hx
      clear hx hcc hj
      by_cases hx1 : x < -most
      · have hf : B = false := by
          rw [← HB.out]
          refine inB_no fun hh => ?_
          have := (hh.2 j (by rw [← hh.1, HL.out]; exact hjn)).1
          rw [HX.out] at this
          omega
        have HF := Lib.hid hf
        clear hf
        go_wp2
        go_ret
        exact ⟨ret_bool HF.out.symm, rfl⟩
      · by_cases hx2 : most < x
        · have hf : B = false := by
            rw [← HB.out]
            refine inB_no fun hh => ?_
            have := (hh.2 j (by rw [← hh.1, HL.out]; exact hjn)).2
            rw [HX.out] at this
            omega
          have HF := Lib.hid hf
          clear hf
          go_wp2
          go_ret
          exact ⟨ret_bool HF.out.symm, rfl⟩
        · have hp : ∀ i, i < j + 1 → -most ≤ xs.getD i 0 ∧ xs.getD i 0 ≤ most := by
            intro i hi
            by_cases hij : i = j
            · subst hij
              rw [HX.out]
              omega
            · exact HP.out i (by omega)
          have HP2 := Lib.hid hp
          clear hp
          go_wp2
          go_roundg (gk - 1)
          case rel => exact ⟨j + 1, by go_num, by have := HJ.out; omega, HP2.out, rfl⟩
          case measure => have := HJ.out; omega
    · have l1 : ¬ (j : Int) < (n : Int) := by omega
      have hP2 : ∀ i, i < n → -most ≤ xs.getD i 0 ∧ xs.getD i 0 ≤ most := fun i hi => HP.out i (by omega)
      clear hj hjn
      by_cases hnk : n = k
      · have hf : B = true := by
          rw [← HB.out]
          exact inB_spec.2 ⟨by rw [HL.out]; exact hnk, fun i hi => hP2 i (by omega)⟩
        have HF := Lib.hid hf
        have l2 : (n : Int) = (k : Int) := by omega
        clear hf hP2
        go_wp2
        go_ret
        exact ⟨ret_bool (by rw [HF.out]), rfl⟩
      · have hf : B = false := by
          rw [← HB.out]
          exact inB_no fun hh => hnk (by rw [← HL.out]; exact hh.1)
        have HF := Lib.hid hf
        have l2 : ¬ (n : Int) = (k : Int) := by omega
        clear hf hP2
        go_wp2
        go_ret
        exact ⟨ret_bool (by rw [HF.out]; simpa using l2), rfl⟩
end Go.Proofs.Ytgfenponlkmfmaa
