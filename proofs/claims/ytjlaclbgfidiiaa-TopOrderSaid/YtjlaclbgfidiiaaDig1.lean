/- The walks of validFraction, split, and of the reference's Fraction, digit and next. Conditions: the numbers are in range. -/
import Derived.Test.YtjlaclbgfidiiaaDigMath
namespace Go.Proofs.Ytjlaclbgfidiiaa
open Go.RowKit
attribute [local go_sem] Oper.semAt_some

/-- a / b has digits for p. -/
def isFr (a b p : Int) : Bool := isPr p && decide (-1000 ≤ a) && decide (a ≤ 1000) && decide (1 ≤ b) && decide (b ≤ 1000) && !decide (b % p = 0)
theorem isFr_spec {a b p : Int} (h : isFr a b p = true) : ∃ q : Nat, p = (q : Int) ∧ q ∈ [2, 3, 5, 7, 11, 13] ∧ -1000 ≤ a ∧ a ≤ 1000 ∧ 1 ≤ b ∧ b ≤ 1000 ∧ ¬ (q : Int) ∣ b := by
  unfold isFr at h
  simp only [Bool.and_eq_true, decide_eq_true_eq, Bool.not_eq_true', decide_eq_false_iff_not] at h
  obtain ⟨⟨⟨⟨⟨h1, h2⟩, h3⟩, h4⟩, h5⟩, h6⟩ := h
  obtain ⟨q, rfl, hq⟩ := isPr_mem h1
  exact ⟨q, rfl, hq, h2, h3, h4, h5, fun h => h6 (Int.emod_eq_zero_of_dvd h)⟩

theorem validF_any (a b p : Int) (w : World) : Calls Try.prog 67 #[.int .i64 a, .int .i64 b, .int .i64 p] w fun e w' => e = .returned (.bool (isFr a b p)) ∧ w = w' := by
  have hV := fun w => validPrime_any p w
  obtain ⟨B, hB⟩ : ∃ B, isFr a b p = B := ⟨_, rfl⟩
  rw [hB]
  unfold isFr at hB
  cases hp : isPr p with
  | false =>
    rw [hp] at hV hB
    obtain rfl : B = false := by rw [← hB]; rfl
    have HV := Lib.hid hV
    clear hV hB hp
    go_enter Try.func67, Try.ntmps67
    go_wp2_with fail
    refine (HV.out _).mono ?_
    rintro e w1 ⟨rfl, rfl⟩
    go_wp2
    go_ret
    exact ⟨rfl, rfl⟩
  | true =>
    rw [hp] at hV hB
    obtain ⟨q, rfl, hq⟩ := isPr_mem hp
    have hq2 := (pr_bounds hq).1
    have HV := Lib.hid hV
    clear hV hp hq
    by_cases h1 : -1000 ≤ a
    · by_cases h2 : a ≤ 1000
      · by_cases h3 : 1 ≤ b
        · by_cases h4 : b ≤ 1000
          · have qne : ¬ (q : Int) = 0 := by omega
            by_cases h5 : b % (q : Int) = 0
            · obtain rfl : B = false := by rw [← hB]; simp [h5]
              clear hB
              go_enter Try.func67, Try.ntmps67
              go_wp2_with fail
              refine (HV.out _).mono ?_
              rintro e w1 ⟨rfl, rfl⟩
              go_wp2
              go_ret
              exact ⟨rfl, rfl⟩
            · obtain rfl : B = true := by rw [← hB]; simp [h1, h2, h3, h4, h5]
              have h6 : (b % (q : Int) != 0) = true := by rw [bne_iff_ne]; exact h5
              clear hB
              go_enter Try.func67, Try.ntmps67
              go_wp2_with fail
              refine (HV.out _).mono ?_
              rintro e w1 ⟨rfl, rfl⟩
              go_wp2
              go_ret
              exact ⟨rfl, rfl⟩
          · obtain rfl : B = false := by rw [← hB]; simp [h4]
            clear hB
            go_enter Try.func67, Try.ntmps67
            go_wp2_with fail
            refine (HV.out _).mono ?_
            rintro e w1 ⟨rfl, rfl⟩
            go_wp2
            go_ret
            exact ⟨rfl, rfl⟩
        · obtain rfl : B = false := by rw [← hB]; simp [h3]
          clear hB
          go_enter Try.func67, Try.ntmps67
          go_wp2_with fail
          refine (HV.out _).mono ?_
          rintro e w1 ⟨rfl, rfl⟩
          go_wp2
          go_ret
          exact ⟨rfl, rfl⟩
      · obtain rfl : B = false := by rw [← hB]; simp [h2]
        clear hB
        go_enter Try.func67, Try.ntmps67
        go_wp2_with fail
        refine (HV.out _).mono ?_
        rintro e w1 ⟨rfl, rfl⟩
        go_wp2
        go_ret
        exact ⟨rfl, rfl⟩
    · obtain rfl : B = false := by rw [← hB]; simp [h1]
      clear hB
      go_enter Try.func67, Try.ntmps67
      go_wp2_with fail
      refine (HV.out _).mono ?_
      rintro e w1 ⟨rfl, rfl⟩
      go_wp2
      go_ret
      exact ⟨rfl, rfl⟩

theorem fracR_any (a b p : Int) (w : World) : Calls Try.prog 38 #[.int .i64 a, .int .i64 b, .int .i64 p] w fun e w' => e = .returned (.bool (isFr a b p)) ∧ w = w' := by
  have hV := fun w => primeR_any p w
  obtain ⟨B, hB⟩ : ∃ B, isFr a b p = B := ⟨_, rfl⟩
  rw [hB]
  unfold isFr at hB
  cases hp : isPr p with
  | false =>
    rw [hp] at hV hB
    obtain rfl : B = false := by rw [← hB]; rfl
    have HV := Lib.hid hV
    clear hV hB hp
    go_enter Try.func38, Try.ntmps38
    go_wp2_with fail
    refine (HV.out _).mono ?_
    rintro e w1 ⟨rfl, rfl⟩
    go_wp2
    go_ret
    exact ⟨rfl, rfl⟩
  | true =>
    rw [hp] at hV hB
    obtain ⟨q, rfl, hq⟩ := isPr_mem hp
    have hq2 := (pr_bounds hq).1
    have HV := Lib.hid hV
    clear hV hp hq
    by_cases h1 : -1000 ≤ a
    · by_cases h2 : a ≤ 1000
      · by_cases h3 : 1 ≤ b
        · by_cases h4 : b ≤ 1000
          · have qne : ¬ (q : Int) = 0 := by omega
            by_cases h5 : b % (q : Int) = 0
            · obtain rfl : B = false := by rw [← hB]; simp [h5]
              clear hB
              go_enter Try.func38, Try.ntmps38
              go_wp2_with fail
              refine (HV.out _).mono ?_
              rintro e w1 ⟨rfl, rfl⟩
              go_wp2
              go_ret
              exact ⟨rfl, rfl⟩
            · obtain rfl : B = true := by rw [← hB]; simp [h1, h2, h3, h4, h5]
              have h6 : (b % (q : Int) != 0) = true := by rw [bne_iff_ne]; exact h5
              clear hB
              go_enter Try.func38, Try.ntmps38
              go_wp2_with fail
              refine (HV.out _).mono ?_
              rintro e w1 ⟨rfl, rfl⟩
              go_wp2
              go_ret
              exact ⟨rfl, rfl⟩
          · obtain rfl : B = false := by rw [← hB]; simp [h4]
            clear hB
            go_enter Try.func38, Try.ntmps38
            go_wp2_with fail
            refine (HV.out _).mono ?_
            rintro e w1 ⟨rfl, rfl⟩
            go_wp2
            go_ret
            exact ⟨rfl, rfl⟩
        · obtain rfl : B = false := by rw [← hB]; simp [h3]
          clear hB
          go_enter Try.func38, Try.ntmps38
          go_wp2_with fail
          refine (HV.out _).mono ?_
          rintro e w1 ⟨rfl, rfl⟩
          go_wp2
          go_ret
          exact ⟨rfl, rfl⟩
      · obtain rfl : B = false := by rw [← hB]; simp [h2]
        clear hB
        go_enter Try.func38, Try.ntmps38
        go_wp2_with fail
        refine (HV.out _).mono ?_
        rintro e w1 ⟨rfl, rfl⟩
        go_wp2
        go_ret
        exact ⟨rfl, rfl⟩
    · obtain rfl : B = false := by rw [← hB]; simp [h1]
      clear hB
      go_enter Try.func38, Try.ntmps38
      go_wp2_with fail
      refine (HV.out _).mono ?_
      rintro e w1 ⟨rfl, rfl⟩
      go_wp2
      go_ret
      exact ⟨rfl, rfl⟩

set_option maxHeartbeats 4000000 in
set_option maxRecDepth 100000 in
theorem inverseB_any (q : Nat) (hq : q ∈ [2, 3, 5, 7, 11, 13]) (b : Int) (w : World) (n0 : 1 ≤ b) (n1 : b ≤ 1000) (hb : ¬ (q : Int) ∣ b) :
    Calls Try.prog 81 #[.int .i64 b, .int .i64 (q : Int)] w fun e w' => (∃ u : Int, e = .returned (.int .i64 u) ∧ 0 ≤ u ∧ u < (q : Int) ∧ b * u % (q : Int) = 1) ∧ w = w' := by
  obtain ⟨q2, q13⟩ := pr_bounds hq
  have hex : ∃ b0 : Nat, b0 < q ∧ b * (b0 : Int) % (q : Int) = 1 := by
    obtain ⟨u, hu⟩ := inv_ex hq hb
    have e0 := Int.emod_nonneg u (show (q : Int) ≠ 0 by omega)
    have e1 := Int.emod_lt_of_pos u (show (0 : Int) < (q : Int) by omega)
    refine ⟨(u % (q : Int)).toNat, by omega, ?_⟩
    rw [Int.toNat_of_nonneg e0, Int.mul_emod, Int.emod_emod, ← Int.mul_emod, dvd_emod hu, Int.emod_eq_of_lt (by omega) (by omega)]
  obtain ⟨b0, hb0, hb1⟩ := hex
  have HB := Lib.hid hb1
  have HB0 := Lib.hid hb0
  clear hq hb1 hb0 hb
  go_enter Try.func81, Try.ntmps81
  go_wp2
  go_loopg [5, 7] b0 (fun gk s5 s7 wr => ∃ d : Nat, s7 = .int .i64 (d : Int) ∧ d + gk = b0 ∧ wr = w)
  case atStart => exact ⟨0, rfl, by omega, rfl⟩
  case round =>
    obtain ⟨d, rfl, hd, rfl⟩ := hrel
    have HD := Lib.hid hd
    have hdq : d < q := by have := HB0.out; omega
    have l1 : (d : Int) < (q : Int) := by omega
    have d0 : (0 : Int) ≤ (d : Int) := by omega
    obtain ⟨p0, p1⟩ := prod_le (show (0 : Int) ≤ b by omega) n1 d0 (show (d : Int) ≤ 13 by omega)
    have hC := fun w => residue_any (b * (d : Int)) (q : Int) w (by omega) (by omega) (by omega) (by omega)
    obtain ⟨Z, hZ⟩ : ∃ Z, (b * (d : Int)) % (q : Int) = Z := ⟨_, rfl⟩
    simp only [hZ] at hC
    have HZ := Lib.hid hZ
    have HC := Lib.hid hC
    clear hC hZ
    by_cases hz : Z = 1
    · subst hz
      clear hd
      go_wp2_with fail
      refine (HC.out _).mono ?_
      rintro e w1 ⟨rfl, rfl⟩
      go_wp2
      go_ret
      exact ⟨⟨_, rfl, d0, l1, HZ.out⟩, rfl⟩
    · have hne : d ≠ b0 := by
        intro e
        subst e
        exact hz (HZ.out.symm.trans HB.out)
      have HNE := Lib.hid hne
      clear hne hd
      go_wp2_with fail
      refine (HC.out _).mono ?_
      rintro e w1 ⟨rfl, rfl⟩
      go_wp2
      go_roundg (gk - 1)
      case rel => exact ⟨d + 1, by go_num, by have := HD.out; have := HNE.out; omega, rfl⟩
      case measure => have := HD.out; have := HNE.out; omega

/-- The facts about one step that the walks take. -/
theorem step_facts {q : Nat} (hq : q ∈ [2, 3, 5, 7, 11, 13]) {a b : Int} (hb : ¬ (q : Int) ∣ b) (b0 : 1 ≤ b) (b1 : b ≤ 1000) (a0 : -1000 ≤ a) (a1 : a ≤ 1000) :
    ∃ D N : Int, D = (dg q a b : Int) ∧ N = nx q a b ∧ (a - D * b).tdiv (q : Int) = N ∧ 0 ≤ D ∧ D < (q : Int) ∧ 0 ≤ D * b ∧ D * b ≤ 13000 ∧ (∀ d : Int, 0 ≤ d → d < (q : Int) → (q : Int) ∣ a - d * b → d = D) ∧ (q : Int) ∣ a - D * b ∧ -1000 ≤ N ∧ N ≤ 1000 := by
  have hs := dg_spec hq hb a
  have hq2 := pr_bounds hq
  obtain ⟨p0, p1⟩ := prod_le (show (0 : Int) ≤ (dg q a b : Int) by omega) (show (dg q a b : Int) ≤ 13 by omega) (show (0 : Int) ≤ b by omega) b1
  exact ⟨_, _, rfl, rfl, nx_tdiv hq hb a, by omega, by omega, p0, by omega, fun d d0 d1 h => dg_uniq hq hb d0 d1 h, hs.2, nx_bound hq hb b0 b1 a0 a1⟩

set_option maxHeartbeats 4000000 in
set_option maxRecDepth 100000 in
theorem split_any (q : Nat) (hq : q ∈ [2, 3, 5, 7, 11, 13]) (a b : Int) (w : World) (a0 : -1000 ≤ a) (a1 : a ≤ 1000) (b0 : 1 ≤ b) (b1 : b ≤ 1000) (hb : ¬ (q : Int) ∣ b) :
    Calls Try.prog 85 #[.int .i64 a, .int .i64 b, .int .i64 (q : Int)] w fun e w' => e = .returned (.tuple #[.int .i64 (dg q a b : Int), .int .i64 (nx q a b)]) ∧ ∃ z, w' = w.drewN z := by
  obtain ⟨D, N, hD, hN, ht, D0, D1, p0, p1, hu, -, N0, N1⟩ := step_facts hq (a := a) hb b0 b1 a0 a1
  obtain ⟨q2, q13⟩ := pr_bounds hq
  have HI := Lib.hid (fun w => inverseB_any q hq b w b0 b1 hb)
  have HU : RowKit.Hid (∀ u : Int, b * u % (q : Int) = 1 → (a * u) % (q : Int) = D) := Lib.hid (fun u hu1 => by
    refine hu _ (Int.emod_nonneg _ (by omega)) (Int.emod_lt_of_pos _ (by omega)) ?_
    obtain ⟨s, hs⟩ := emod_sub_dvd (a * u) (q : Int)
    obtain ⟨t, ht⟩ := emod_sub_dvd (b * u) (q : Int)
    rw [hu1] at ht
    refine ⟨-(s * b) + a * t, ?_⟩
    have : a * u % (q : Int) = a * u + (q : Int) * s := by omega
    rw [this]
    have h3 : b * u = 1 - (q : Int) * t := by omega
    have h4 : a * u * b = a * (1 - (q : Int) * t) := by rw [← h3]; grind
    rw [Int.add_mul, h4]
    grind)
  rw [← hD, ← hN]
  have qne : ¬ (q : Int) = 0 := by omega
  clear hq hb hu hD hN
  go_enter Try.func85, Try.ntmps85
  go_wp2_with fail
  refine (HI.out _).mono ?_
  rintro e w1 ⟨⟨u, rfl, u0, u1, hu⟩, rfl⟩
  have hau := HU.out u hu
  have hab : -13000 ≤ a * u ∧ a * u ≤ 13000 := by
    rcases Int.le_total 0 a with g | g
    · have := prod_le g a1 u0 (show u ≤ 13 by omega); omega
    · have := prod_le (show 0 ≤ -a by omega) (show -a ≤ 1000 by omega) u0 (show u ≤ 13 by omega)
      rw [Int.neg_mul] at this
      omega
  obtain ⟨g0, g1⟩ := hab
  have hC := fun w => residue_any (a * u) (q : Int) w (by omega) (by omega) (by omega) (by omega)
  simp only [hau] at hC
  have HC := Lib.hid hC
  clear hu hau hC HI HU
  go_wp2_with fail
  refine (HC.out _).mono ?_
  rintro e w2 ⟨rfl, rfl⟩
  go_wp2
  go_quiet (fail)
  go_wp2
  go_ret2
  exact ⟨rfl, _, rfl⟩

set_option maxHeartbeats 4000000 in
set_option maxRecDepth 100000 in
theorem digitR_any (q : Nat) (hq : q ∈ [2, 3, 5, 7, 11, 13]) (a b : Int) (w : World) (a0 : -1000 ≤ a) (a1 : a ≤ 1000) (b0 : 1 ≤ b) (b1 : b ≤ 1000) (hb : ¬ (q : Int) ∣ b) :
    Calls Try.prog 71 #[.int .i64 a, .int .i64 b, .int .i64 (q : Int)] w fun e w' => e = .returned (.int .i64 (dg q a b : Int)) ∧ w = w' := by
  obtain ⟨D, N, hD, hN, ht, D0, D1, p0, p1, hu, hdv, N0, N1⟩ := step_facts hq (a := a) hb b0 b1 a0 a1
  obtain ⟨q2, q13⟩ := pr_bounds hq
  have HU : RowKit.Hid (∀ d : Int, 0 ≤ d → d < (q : Int) → (b * d - a).tmod (q : Int) = 0 → d = D) := Lib.hid (fun d d0 d1 h => hu d d0 d1 (by
    obtain ⟨s, hs⟩ := Int.dvd_of_tmod_eq_zero h
    exact ⟨-s, by rw [Int.mul_neg, Int.mul_comm d b]; omega⟩))
  have HD : RowKit.Hid ((b * D - a).tmod (q : Int) = 0) := Lib.hid (by
    obtain ⟨s, hs⟩ := hdv
    exact Int.tmod_eq_zero_of_dvd ⟨-s, by rw [Int.mul_neg, Int.mul_comm b D]; omega⟩)
  rw [← hD]
  obtain ⟨DN, rfl⟩ : ∃ DN : Nat, D = (DN : Int) := ⟨D.toNat, by omega⟩
  have HDN := Lib.hid (show DN < q by omega)
  have qne : ¬ (q : Int) = 0 := by omega
  clear hq hb hu hD hN hdv ht
  go_enter Try.func71, Try.ntmps71
  go_wp2
  go_loopg [7, 9] DN (fun gk s7 s9 wr => ∃ d : Nat, s9 = .int .i64 (d : Int) ∧ d + gk = DN ∧ wr = w)
  case atStart => exact ⟨0, rfl, by omega, rfl⟩
  case round =>
    obtain ⟨d, rfl, hd, rfl⟩ := hrel
    have HDD := Lib.hid hd
    have hdq : d < q := by have := HDN.out; omega
    have l1 : (d : Int) < (q : Int) := by omega
    have d0 : (0 : Int) ≤ (d : Int) := by omega
    obtain ⟨g0, g1⟩ := prod_le (show (0 : Int) ≤ b by omega) b1 d0 (show (d : Int) ≤ 13 by omega)
    have t0 := Int.tmod_lt_of_pos (b * (d : Int) - a) (show (0 : Int) < (q : Int) by omega)
    have t1 := Int.lt_tmod_of_pos (b * (d : Int) - a) (show (0 : Int) < (q : Int) by omega)
    by_cases hz : (b * (d : Int) - a).tmod (q : Int) = 0
    · have HF := Lib.hid (HU.out d d0 l1 hz)
      have hzb : ((b * (d : Int) - a).tmod (q : Int) == 0) = true := by rw [beq_iff_eq]; exact hz
      clear hd hz
      go_wp2
      go_ret
      exact ⟨ret_int HF.out, rfl⟩
    · have hne : d ≠ DN := by
        intro e
        subst e
        exact hz HD.out
      have HNE := Lib.hid hne
      have hzb : ((b * (d : Int) - a).tmod (q : Int) == 0) = false := by rw [beq_eq_false_iff_ne]; exact hz
      clear hne hd hz
      go_wp2
      go_roundg (gk - 1)
      case rel => exact ⟨d + 1, by go_num, by have := HDD.out; have := HNE.out; omega, rfl⟩
      case measure => have := HDD.out; have := HNE.out; omega

set_option maxHeartbeats 4000000 in
set_option maxRecDepth 100000 in
theorem nextR_any (q : Nat) (hq : q ∈ [2, 3, 5, 7, 11, 13]) (a b : Int) (w : World) (a0 : -1000 ≤ a) (a1 : a ≤ 1000) (b0 : 1 ≤ b) (b1 : b ≤ 1000) (hb : ¬ (q : Int) ∣ b) :
    Calls Try.prog 70 #[.int .i64 a, .int .i64 b, .int .i64 (q : Int)] w fun e w' => e = .returned (.int .i64 (nx q a b)) ∧ w = w' := by
  have hC := fun w => digitR_any q hq a b w a0 a1 b0 b1 hb
  obtain ⟨D, N, hD, hN, ht, D0, D1, p0, p1, hu, hdv, N0, N1⟩ := step_facts hq (a := a) hb b0 b1 a0 a1
  obtain ⟨q2, q13⟩ := pr_bounds hq
  simp only [← hD] at hC
  rw [← hN]
  have HC := Lib.hid hC
  rw [Int.mul_comm D b] at ht p0 p1
  have qne : ¬ (q : Int) = 0 := by omega
  clear hq hb hu hD hN hdv hC
  go_enter Try.func70, Try.ntmps70
  go_wp2_with fail
  refine (HC.out _).mono ?_
  rintro e w1 ⟨rfl, rfl⟩
  go_wp2
  go_ret
  exact ⟨rfl, rfl⟩
end Go.Proofs.Ytjlaclbgfidiiaa
