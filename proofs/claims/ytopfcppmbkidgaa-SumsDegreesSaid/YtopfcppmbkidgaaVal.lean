/- The walks of within, validSymbol, Jacobi, of the reference's Odd, and of the law's awake. Conditions as stated in each theorem. -/
import Derived.Test.YtopfcppmbkidgaaSym
namespace Go.Proofs.Ytopfcppmbkidgaa
open Go.RowKit Go.Shelf
attribute [local go_sem] Oper.semAt_some

def inB (xs : List Int) (m : Int) : Bool := xs.all fun x => decide (-m ≤ x ∧ x ≤ m)
theorem inB_yes {xs : List Int} {m : Int} (h : ∀ i, i < xs.length → -m ≤ xs.getD i 0 ∧ xs.getD i 0 ≤ m) : inB xs m = true := by
  rw [inB, List.all_eq_true]
  intro x hx
  obtain ⟨i, hi, rfl⟩ := List.mem_iff_getElem.1 hx
  have := h i hi
  simp only [List.getD, List.getElem?_eq_getElem hi, Option.getD_some] at this
  exact decide_eq_true this
theorem inB_at {xs : List Int} {m : Int} (h : inB xs m = true) (i : Nat) (hi : i < xs.length) : -m ≤ xs.getD i 0 ∧ xs.getD i 0 ≤ m := by
  rw [inB, List.all_eq_true] at h
  have := of_decide_eq_true (h _ (List.getElem_mem hi))
  simp only [List.getD, List.getElem?_eq_getElem hi, Option.getD_some]
  exact this

set_option maxHeartbeats 1000000 in
theorem within_any (a : Option Addr) (n c : Nat) (xs : List Int) (most : Int) (w : World) (h : Ints w a n xs) (hn : n ≤ 4611686018427387904) (h0 : 0 ≤ most) (h1 : most ≤ 1000000000) :
    Calls Try.prog 84 #[.int .i64 most, .slice a n c] w fun e w' => e = .returned (.bool (inB xs most)) ∧ w' = w := by
  obtain ⟨B, hB⟩ : ∃ B, inB xs most = B := ⟨_, rfl⟩
  rw [hB]
  have H := Lib.hid h
  have HB := Lib.hid hB
  have HL := Lib.hid h.1
  clear hB h
  go_enter Try.func84, Try.ntmps84
  go_wp2
  go_loopg [9] n (fun gk s9 wr => ∃ (j : Nat), s9 = .int .i64 (j : Int) ∧ j + gk = n ∧ RowKit.Hid (∀ i, i < j → -most ≤ xs.getD i 0 ∧ xs.getD i 0 ≤ most) ∧ wr = w)
  case atStart => exact ⟨0, rfl, by omega, Lib.hid (fun i hi => by omega), rfl⟩
  case round =>
    obtain ⟨j, rfl, hj, HP, rfl⟩ := hrel
    have HJ := Lib.hid hj
    by_cases hjn : j < n
    · have l1 : (j : Int) < (n : Int) := by omega
      have j0 : (0 : Int) ≤ (j : Int) := by omega
      obtain ⟨b, off, rfl, hb, hcc⟩ := H.out.at (by omega)
      have hcj := hcc j hjn
      obtain ⟨x, hx⟩ : ∃ x, xs.getD j 0 = x := ⟨_, rfl⟩
      rw [hx] at hcj
      have HX := Lib.hid hx
      clear hx hcc hj
      by_cases hx1 : x < -most
      · have hf : B = false := by
          rw [← HB.out]
          refine Bool.eq_false_iff.2 fun hh => ?_
          have := (inB_at hh j (by rw [HL.out]; exact hjn)).1
          rw [HX.out] at this
          omega
        have HF := Lib.hid hf
        clear hf
        go_wp2
        go_ret
        exact ⟨ret_bool HF.out.symm, rfl⟩
      · by_cases hx2 : most < x
        · have hf : B = false := by
            rw [← HB.out]
            refine Bool.eq_false_iff.2 fun hh => ?_
            have := (inB_at hh j (by rw [HL.out]; exact hjn)).2
            rw [HX.out] at this
            omega
          have HF := Lib.hid hf
          clear hf
          go_wp2
          go_ret
          exact ⟨ret_bool HF.out.symm, rfl⟩
        · have hp : ∀ i, i < j + 1 → -most ≤ xs.getD i 0 ∧ xs.getD i 0 ≤ most := by
            intro i hi
            by_cases hij : i = j
            · subst hij
              rw [HX.out]
              omega
            · exact HP.out i (by omega)
          have HP2 := Lib.hid hp
          clear hp
          go_wp2
          go_roundg (gk - 1)
          case rel => exact ⟨j + 1, by go_num, by have := HJ.out; omega, HP2, rfl⟩
          case measure => have := HJ.out; omega
    · have l1 : ¬ (j : Int) < (n : Int) := by omega
      have hjn2 : j = n := by omega
      have hf : B = true := by
        rw [← HB.out]
        exact inB_yes fun i hi => HP.out i (by rw [hjn2]; have := HL.out; omega)
      have HF := Lib.hid hf
      clear hf hj
      go_wp2
      go_ret
      exact ⟨ret_bool HF.out.symm, rfl⟩

def symB (a n : Int) : Bool := inB [a, n] 1000000000 && decide (1 ≤ n) && decide (n % 2 = 1)
theorem symB_iff (a n : Int) : symB a n = true ↔ isSym a n := by
  unfold symB isSym inB
  simp only [List.all_cons, List.all_nil, Bool.and_true, Bool.and_eq_true, decide_eq_true_eq]
  omega

set_option maxHeartbeats 1000000 in
theorem validSymbol_any (a n : Int) (w : World) :
    Calls Try.prog 73 #[.int .i64 a, .int .i64 n] w fun e w' => e = .returned (.bool (symB a n)) ∧ Below w.heap.size w w' := by
  have hi : Ints (w.alloc (.cells #[.int .i64 a, .int .i64 n] 3)) (some ⟨w.heap.size, 0, none⟩) 2 [a, n] := by
    obtain ⟨c0, c1⟩ := cell_pair w (.int .i64 a) (.int .i64 n) 3
    refine ⟨rfl, .inr ⟨w.heap.size, 0, rfl, by simp, fun j hj => ?_⟩⟩
    rcases (by omega : j = 0 ∨ j = 1) with rfl | rfl
    · exact c0
    · exact c1
  have HC := Lib.hid (fun c => within_any _ 2 c [a, n] 1000000000 _ hi (by omega) (by omega) (by omega))
  have HB := Lib.hid (show Below w.heap.size w (w.alloc (.cells #[.int .i64 a, .int .i64 n] 3)) from (Below.refl _ _).alloc (Nat.le_refl _) _)
  obtain ⟨B, hB⟩ : ∃ B, inB [a, n] 1000000000 = B := ⟨_, rfl⟩
  have HS := Lib.hid (show symB a n = (B && decide (1 ≤ n) && decide (n % 2 = 1)) by rw [← hB]; rfl)
  rw [hB] at HC
  rw [HS.out]
  clear hi hB
  cases B with
  | false =>
    go_enter Try.func73, Try.ntmps73
    go_wp2_with (go_at_call 84; refine (HC.out _).mono ?_; rintro e w' ⟨rfl, rfl⟩)
    go_ret
    exact ⟨rfl, HB.out⟩
  | true =>
    by_cases h1 : 1 ≤ n
    · have d1 : decide (1 ≤ n) = true := decide_eq_true h1
      by_cases h2 : n % 2 = 1
      · have d2 : decide (n % 2 = 1) = true := decide_eq_true h2
        rw [d1, d2]
        go_enter Try.func73, Try.ntmps73
        go_wp2_with (go_at_call 84; refine (HC.out _).mono ?_; rintro e w' ⟨rfl, rfl⟩)
        go_ret
        exact ⟨rfl, HB.out⟩
      · have d2 : decide (n % 2 = 1) = false := decide_eq_false h2
        have d3 : (n % 2 == 1) = false := by simpa using h2
        rw [d1, d2]
        go_enter Try.func73, Try.ntmps73
        go_wp2_with (go_at_call 84; refine (HC.out _).mono ?_; rintro e w' ⟨rfl, rfl⟩)
        go_ret
        exact ⟨rfl, HB.out⟩
    · have d1 : decide (1 ≤ n) = false := decide_eq_false h1
      rw [d1]
      go_enter Try.func73, Try.ntmps73
      go_wp2_with (go_at_call 84; refine (HC.out _).mono ?_; rintro e w' ⟨rfl, rfl⟩)
      go_ret
      exact ⟨rfl, HB.out⟩

set_option maxHeartbeats 400000 in
theorem Jacobi_yes (a n : Int) (h : isSym a n) (w : World) :
    Calls Try.prog 36 #[.int .i64 a, .int .i64 n] w fun e w' => e = .returned (.tuple #[.int .i64 (Jv a n), .int .i64 0]) ∧ Below w.heap.size w w' := by
  have HV := Lib.hid (fun W => validSymbol_any a n W)
  rw [(symB_iff a n).2 h] at HV
  have HS := Lib.hid (fun W => symbol_any a n h W)
  clear h
  go_enter Try.func36, Try.ntmps36
  go_wp2_with fail
  refine (HV.out _).mono ?_
  rintro e w1 ⟨rfl, hb1⟩
  have H1 := Lib.hid hb1
  clear hb1
  go_wp2_with fail
  refine (HS.out _).mono ?_
  rintro e w2 ⟨rfl, hb2⟩
  have H2 := Lib.hid (H1.out.trans (hb2.mono H1.out.size))
  clear hb2
  go_wp2
  go_ret2
  exact ⟨rfl, H2.out⟩
set_option maxHeartbeats 400000 in
theorem Jacobi_no (a n : Int) (h : ¬ isSym a n) (w : World) :
    Calls Try.prog 36 #[.int .i64 a, .int .i64 n] w fun e w' => e = .returned (.tuple #[.int .i64 0, .int .i64 2]) ∧ Below w.heap.size w w' := by
  have HV := Lib.hid (fun W => validSymbol_any a n W)
  rw [Bool.eq_false_iff.2 (fun e => h ((symB_iff a n).1 e))] at HV
  clear h
  go_enter Try.func36, Try.ntmps36
  go_wp2_with fail
  refine (HV.out _).mono ?_
  rintro e w1 ⟨rfl, hb1⟩
  have H1 := Lib.hid hb1
  clear hb1
  go_wp2
  go_ret2
  exact ⟨rfl, H1.out⟩

theorem J27 : Jv 2 7 = 1 := by
  have := Jn_two (n := 7) (by decide)
  exact this.trans (by decide)
theorem awake_any (w : World) : Calls Try.prog 19 #[] w fun e w' => e = .returned (.bool true) ∧ Below w.heap.size w w' := by
  have HJ := Lib.hid (fun W => Jacobi_yes 2 7 ⟨by decide, by decide, by decide, by decide, by decide⟩ W)
  rw [J27] at HJ
  go_enter Try.func19, Try.ntmps19
  go_wp2_with fail
  refine (HJ.out _).mono ?_
  rintro e w1 ⟨rfl, hb1⟩
  have H1 := Lib.hid hb1
  clear hb1
  go_wp2
  go_ret
  exact ⟨rfl, H1.out⟩

theorem odd_any (a n : Int) (w : World) : Calls Try.prog 40 #[.int .i64 a, .int .i64 n] w fun e w' => e = .returned (.bool (symB a n)) ∧ w' = w := by
  have HS := Lib.hid (show symB a n = (decide (-1000000000 ≤ a) && decide (a ≤ 1000000000) && decide (1 ≤ n) && decide (n ≤ 1000000000) && decide (n % 2 = 1)) by
    rw [Bool.eq_iff_iff, symB_iff]; unfold isSym; simp only [Bool.and_eq_true, decide_eq_true_eq]; omega)
  rw [HS.out]
  by_cases h1 : -1000000000 ≤ a
  · have d1 := decide_eq_true h1
    by_cases h2 : a ≤ 1000000000
    · have d2 := decide_eq_true h2
      by_cases h3 : 1 ≤ n
      · have d3 := decide_eq_true h3
        by_cases h4 : n ≤ 1000000000
        · have d4 := decide_eq_true h4
          by_cases h5 : n % 2 = 1
          · have d5 := decide_eq_true h5
            rw [d1, d2, d3, d4, d5]
            go_enter Try.func40, Try.ntmps40
            go_wp2
            go_ret
            exact ⟨rfl, rfl⟩
          · have d5 := decide_eq_false h5
            have d6 : (n % 2 == 1) = false := by simpa using h5
            rw [d1, d2, d3, d4, d5]
            go_enter Try.func40, Try.ntmps40
            go_wp2
            go_ret
            exact ⟨rfl, rfl⟩
        · have d4 := decide_eq_false h4
          rw [d1, d2, d3, d4]
          go_enter Try.func40, Try.ntmps40
          go_wp2
          go_ret
          exact ⟨rfl, rfl⟩
      · have d3 := decide_eq_false h3
        rw [d1, d2, d3]
        go_enter Try.func40, Try.ntmps40
        go_wp2
        go_ret
        exact ⟨rfl, rfl⟩
    · have d2 := decide_eq_false h2
      rw [d1, d2]
      go_enter Try.func40, Try.ntmps40
      go_wp2
      go_ret
      exact ⟨rfl, rfl⟩
  · have d1 := decide_eq_false h1
    rw [d1]
    go_enter Try.func40, Try.ntmps40
    go_wp2
    go_ret
    exact ⟨rfl, rfl⟩
end Go.Proofs.Ytopfcppmbkidgaa
