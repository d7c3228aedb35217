/- The walk of the law LiftLetters. No condition. -/
import Derived.Test.YtjlaclbgfidiiaaLawTeich
namespace Go.Proofs.Ytjlaclbgfidiiaa
open Go.RowKit
attribute [local go_sem] Oper.semAt_some

theorem unm_zero {q k : Nat} (hq : q ∈ [2, 3, 5, 7, 11, 13]) : LRes (unmL q) q k 0 0 := by
  have h := pr_bounds hq
  have := pow_pos_of h.1 k
  refine ⟨Int.le_refl _, by omega, by simp, ?_⟩
  rw [unm_ev hq, Int.zero_pow (by omega)]
  simp
theorem unm_one {q k : Nat} (hq : q ∈ [2, 3, 5, 7, 11, 13]) (hk : 1 ≤ k) : LRes (unmL q) q k 1 1 := by
  have h := pr_bounds hq
  have h1 : q ^ 1 ≤ q ^ k := Nat.pow_le_pow_right (by omega) hk
  rw [Nat.pow_one] at h1
  refine ⟨by omega, by omega, Int.emod_eq_of_lt (by omega) (by omega), ?_⟩
  rw [unm_ev hq, Int.one_pow]
  simp
theorem unm_mul {q k : Nat} (hq : q ∈ [2, 3, 5, 7, 11, 13]) (hk : 1 ≤ k) {r s A B : Int} (hA : LRes (unmL q) q k r A) (hB : LRes (unmL q) q k s B) : LRes (unmL q) q k (r * s % (q : Int)) (A * B % ((q ^ k : Nat) : Int)) := by
  have h := pr_bounds hq
  have hM := pow_pos_of h.1 k
  refine ⟨Int.emod_nonneg _ (by omega), Int.emod_lt_of_pos _ (by omega), ?_, ?_⟩
  · have hqM : (q : Int) ∣ ((q ^ k : Nat) : Int) := by
      obtain ⟨j, rfl⟩ : ∃ j, k = j + 1 := ⟨k - 1, by omega⟩
      exact ⟨((q ^ j : Nat) : Int), by rw [← Int.natCast_mul, Nat.pow_succ, Nat.mul_comm]⟩
    rw [Int.emod_emod_of_dvd _ hqM, Int.mul_emod, hA.r, hB.r]
  · refine Int.emod_eq_zero_of_dvd ?_
    have h1 := ev_dvd (unmL q) (emod_sub_dvd (A * B) ((q ^ k : Nat) : Int))
    have h2 := Int.dvd_of_emod_eq_zero hA.e
    have h3 := Int.dvd_of_emod_eq_zero hB.e
    rw [unm_ev hq] at h2 h3
    have h4 : ((q ^ k : Nat) : Int) ∣ ev (unmL q) (A * B) := by
      rw [unm_ev hq, Int.mul_pow]
      have e : A ^ q * B ^ q - A * B = (A ^ q - A) * B ^ q + A * (B ^ q - B) := by rw [Int.sub_mul, Int.mul_sub]; omega
      rw [e]
      exact Int.dvd_add (Int.dvd_mul_of_dvd_left h2) (Int.dvd_mul_of_dvd_right h3)
    have h5 := Int.dvd_add h1 h4
    rwa [show ∀ a b : Int, a - b + b = a from fun a b => by omega] at h5

set_option maxHeartbeats 8000000 in
set_option maxRecDepth 100000 in
theorem lawLetters_any (r s p k : Int) (w : World) :
    Calls Try.prog 13 #[.int .i64 r, .int .i64 s, .int .i64 p, .int .i64 k] w fun e w' => e = .returned (.bool true) ∧ Below w.heap.size w w' := by
  have HTN := Lib.hid (fun r w h => Teich_no r p k w h)
  have HTY := Lib.hid (fun r w (h : (isPK p k && (decide (0 ≤ r) && decide (r < p))) = true) => show Calls Try.prog 41 #[.int .i64 r, .int .i64 p, .int .i64 k] w fun e w' => (∃ X : Int, e = .returned (.tuple #[.int .i64 X, .int .i64 0])) ∧ Below w.heap.size w w' from by
    simp only [Bool.and_eq_true, decide_eq_true_eq] at h
    obtain ⟨q, j, rfl, rfl, -⟩ := isPK_spec h.1
    refine (Teich_yes r q j w h.1 h.2.1 h.2.2).mono ?_
    rintro e w' ⟨⟨X, rfl, -⟩, hb⟩
    exact ⟨⟨X, rfl⟩, hb⟩)
  cases hr : isPK p k && (decide (0 ≤ r) && decide (r < p)) with
  | false =>
    have HR := Lib.hid hr
    cases hs : isPK p k && (decide (0 ≤ s) && decide (s < p)) with
    | false =>
      have HS := Lib.hid hs
      clear hr hs
      go_enter Try.func13, Try.ntmps13
      go_wp2_with fail
      refine (HTN.out _ _ HR.out).mono ?_
      rintro e w1 ⟨rfl, rfl⟩
      go_wp2_with fail
      refine (HTN.out _ _ HS.out).mono ?_
      rintro e w1 ⟨rfl, rfl⟩
      go_wp2_with fail
      refine (awake_any _).mono ?_
      rintro e w1 ⟨rfl, hb⟩
      have HB := Lib.hid hb
      clear hb
      go_wp2
      go_ret
      exact ⟨rfl, HB.out⟩
    | true =>
      have HS := Lib.hid hs
      clear hr hs
      go_enter Try.func13, Try.ntmps13
      go_wp2_with fail
      refine (HTN.out _ _ HR.out).mono ?_
      rintro e w1 ⟨rfl, rfl⟩
      go_wp2_with fail
      refine (HTY.out _ _ HS.out).mono ?_
      rintro e w1 ⟨⟨Y, rfl⟩, hb⟩
      have HB1 := Lib.hid hb
      clear hb
      go_wp2_with fail
      refine (awake_any _).mono ?_
      rintro e w2 ⟨rfl, hb⟩
      have HB := Lib.hid (HB1.out.trans (hb.mono HB1.out.size))
      clear hb
      go_wp2
      go_ret
      exact ⟨rfl, HB.out⟩
  | true =>
    have HR := Lib.hid hr
    cases hs : isPK p k && (decide (0 ≤ s) && decide (s < p)) with
    | false =>
      have HS := Lib.hid hs
      clear hr hs
      go_enter Try.func13, Try.ntmps13
      go_wp2_with fail
      refine (HTY.out _ _ HR.out).mono ?_
      rintro e w1 ⟨⟨Y, rfl⟩, hb⟩
      have HB1 := Lib.hid hb
      clear hb
      go_wp2_with fail
      refine (HTN.out _ _ HS.out).mono ?_
      rintro e w2 ⟨rfl, rfl⟩
      go_wp2_with fail
      refine (awake_any _).mono ?_
      rintro e w3 ⟨rfl, hb⟩
      have HB := Lib.hid (HB1.out.trans (hb.mono HB1.out.size))
      clear hb
      go_wp2
      go_ret
      exact ⟨rfl, HB.out⟩
    | true =>
      simp only [Bool.and_eq_true, decide_eq_true_eq] at hr hs
      obtain ⟨hpk, r0, r1⟩ := hr
      obtain ⟨-, s0, s1⟩ := hs
      obtain ⟨q, j, rfl, rfl, hq, hk1, hk14, hM⟩ := isPK_spec hpk
      obtain ⟨q2, q13⟩ := pr_bounds hq
      have HT := Lib.hid (fun r w r0 r1 => Teich_yes r q j w hpk r0 r1)
      have hPW := fun w => powerR_any (q : Int) (j : Int) w
      rw [pkN_yes hpk] at hPW
      have hMp := pow_pos_of q2 j
      have HUQ := Lib.hid (fun r X Y (h1 : LRes (unmL q) q j r X) (h2 : LRes (unmL q) q j r Y) => LRes.uniq hq (unm_nd hq r) h1 h2)
      have HMU := Lib.hid (fun A B (hA : LRes (unmL q) q j r A) (hB : LRes (unmL q) q j s B) => unm_mul hq hk1 hA hB)
      have H0 := Lib.hid (unm_zero (k := j) hq)
      have H1 := Lib.hid (unm_one hq hk1)
      have HB2 := Lib.hid (fun r X (h : LRes (unmL q) q j r X) => show 0 ≤ X ∧ X < ((q ^ j : Nat) : Int) ∧ X % (q : Int) = r from ⟨h.x0, h.x1, h.r⟩)
      have HPL : RowKit.Hid (∀ i, i < j → q ^ i * q ≤ q ^ j) := Lib.hid (fun i hi => by
        have h1 : q ^ (i + 1) ≤ q ^ j := Nat.pow_le_pow_right (by omega) hi
        rwa [Nat.pow_succ] at h1)
      obtain ⟨M, hMM⟩ : ∃ M, q ^ j = M := ⟨_, rfl⟩
      rw [hMM] at hPW hMp hM HMU HB2 HPL
      have HMM := Lib.hid hMM
      have HPW := Lib.hid hPW
      have mne : ¬ (M : Int) = 0 := by omega
      have mf : ((M : Int) == 0) = false := by rw [beq_eq_false_iff_ne]; exact mne
      have t0 := Int.emod_nonneg (r * s) (show (q : Int) ≠ 0 by omega)
      have t1 := Int.emod_lt_of_pos (r * s) (show (0 : Int) < (q : Int) by omega)
      obtain ⟨p0, p1⟩ := prod_le r0 (show r ≤ 13 by omega) s0 (show s ≤ 13 by omega)
      have r0' : ¬ r < 0 := by omega
      have r1' : ¬ (q : Int) ≤ r := by omega
      have s0' : ¬ s < 0 := by omega
      have s1' : ¬ (q : Int) ≤ s := by omega
      clear hpk hq hMM hPW HTN HTY HR
      go_enter Try.func13, Try.ntmps13
      go_wp2_with fail
      refine (HT.out r _ r0 r1).mono ?_
      rintro e w1 ⟨⟨A, rfl, hA⟩, hb⟩
      have HA := Lib.hid hA
      have HW1 := Lib.hid hb
      clear hb hA
      go_wp2_with fail
      refine (HT.out s _ s0 s1).mono ?_
      rintro e w2 ⟨⟨B, rfl, hB⟩, hb⟩
      have HB := Lib.hid hB
      have HW2 := Lib.hid (HW1.out.trans (hb.mono HW1.out.size))
      clear hb hB
      go_wp2_with fail
      refine (HPW.out _).mono ?_
      rintro e w3 ⟨rfl, rfl⟩
      go_wp2_with fail
      refine (HT.out (r * s % (q : Int)) _ t0 t1).mono ?_
      rintro e w3 ⟨⟨C, rfl, hC⟩, hb⟩
      have HC := Lib.hid (HUQ.out _ _ _ hC (HMU.out A B HA.out HB.out))
      have HW3 := Lib.hid (HW2.out.trans (hb.mono HW2.out.size))
      clear hb hC
      go_wp2_with fail
      refine (HT.out 0 _ (by omega) (by omega)).mono ?_
      rintro e w4 ⟨⟨Z, rfl, hZ⟩, hb⟩
      obtain rfl : Z = 0 := HUQ.out _ _ _ hZ H0.out
      have HW4 := Lib.hid (HW3.out.trans (hb.mono HW3.out.size))
      clear hb hZ
      go_wp2_with fail
      refine (HT.out 1 _ (by omega) (by omega)).mono ?_
      rintro e w5 ⟨⟨O, rfl, hO⟩, hb⟩
      obtain rfl : O = 1 := HUQ.out _ _ _ hO H1.out
      have HW5 := Lib.hid (HW4.out.trans (hb.mono HW4.out.size))
      clear hb hO
      go_wp2
      go_loopg [19, 97] j (fun gk s19 s97 wr => ∃ (i P : Nat), s19 = .int .i64 (P : Int) ∧ s97 = .int .i64 (i : Int) ∧ i + gk = j ∧ RowKit.Hid (q ^ i = P) ∧ P ≤ M ∧ wr = w5)
      case atStart => exact ⟨0, 1, rfl, rfl, by omega, Lib.hid (Nat.pow_zero q), by omega, rfl⟩
      case round =>
        obtain ⟨i, P, rfl, rfl, hi, HP, hPM, rfl⟩ := hrel
        have HI := Lib.hid hi
        by_cases hij : i < j
        · have l1 : (i : Int) < (j : Int) := by omega
          have hPL := HPL.out i hij
          rw [HP.out] at hPL
          have HPS : RowKit.Hid (q ^ (i + 1) = P * q) := Lib.hid (by rw [Nat.pow_succ, HP.out])
          obtain ⟨PQ, hPQ⟩ : ∃ PQ, P * q = PQ := ⟨_, rfl⟩
          rw [hPQ] at hPL HPS
          have epq : (P : Int) * (q : Int) = (PQ : Int) := by rw [← hPQ]; simp
          have pq1 : (PQ : Int) ≤ 20000 := by omega
          have pq0 : (0 : Int) ≤ (PQ : Int) := by omega
          clear hi hPQ
          go_wp2
          go_roundg (j - i - 1)
          case rel => exact ⟨i + 1, PQ, rfl, by go_num, by have := HI.out; omega, HPS, hPL, rfl⟩
          case measure => have := HI.out; omega
        · have l1 : ¬ (i : Int) < (j : Int) := by omega
          have hPm : P = M := by rw [← HP.out, show i = j by omega, HMM.out]
          subst hPm
          obtain ⟨A0, A1, eA⟩ := HB2.out r A HA.out
          obtain ⟨B0, B1, eB⟩ := HB2.out s B HB.out
          obtain ⟨g0, g1⟩ := prod_le A0 (show A ≤ 20000 by omega) B0 (show B ≤ 20000 by omega)
          have eC : A * B % (P : Int) = C := HC.out.symm
          have fA : (A % (q : Int) == r) = true := by rw [beq_iff_eq]; exact eA
          have fB : (B % (q : Int) == s) = true := by rw [beq_iff_eq]; exact eB
          have fC : (A * B % (P : Int) == C) = true := by rw [beq_iff_eq]; exact eC
          have qne : ¬ (q : Int) = 0 := by omega
          clear hi eA eB eC
          go_wp2_with fail
          refine (awake_any _).mono ?_
          rintro e w6 ⟨rfl, hb⟩
          have HW6 := Lib.hid (HW5.out.trans (hb.mono HW5.out.size))
          clear hb
          go_wp2
          go_ret
          exact ⟨rfl, HW6.out⟩
end Go.Proofs.Ytjlaclbgfidiiaa
