/- The walk of the law SharesFirst. Condition: the slice lies in memory. -/
import Derived.Test.YtbdiknlbmjdpeaaFstMath
namespace Go.Proofs.Ytbdiknlbmjdpeaa
open Go.RowKit
attribute [local go_sem] Oper.semAt_some


set_option maxHeartbeats 16000000 in
set_option maxRecDepth 100000 in
theorem lawFirst_any (a b : Int) (a0 : Option Addr) (n0 c0 : Nat) (xs : List Int) (w : World) (h : Ints w a0 n0 xs) (hc : n0 ≤ c0) (hn : n0 ≤ 4611686018427387904) (hcm : c0 ≤ maxLen) :
    Calls Try.prog 14 #[.int .i64 a, .int .i64 b, .slice a0 n0 c0] w fun e w' => e = .returned (.bool true) ∧ Below w.heap.size w w' := by
  have H := Lib.hid h
  have HL := Lib.hid h.1
  clear h
  cases hs : isSh a b with
  | false =>
    have HN := Lib.hid (fun v w => Check_no a b hs v w)
    clear hs
    go_enter Try.func14, Try.ntmps14
    go_wp2_with fail
    refine (list_any a0 n0 c0 xs w H.out hc hn hcm).mono ?_
    rintro e w1 ⟨ao, co, m, rfl, hm, how, hmc, hcm2, hb1⟩
    have HB1 := Lib.hid hb1
    have HI := Lib.hid (Ints.own how).1
    clear how hmc hcm2 hb1

    go_wp2_with fail
    refine (HN.out _ _).mono ?_
    rintro e w2 ⟨rfl, rfl⟩
    go_wp2_with fail
    refine (awake_any _).mono ?_
    rintro e w3 ⟨rfl, hb3⟩
    have HB3 := Lib.hid (HB1.out.trans (hb3.mono HB1.out.size))
    clear hb3
    go_wp2
    go_ret
    exact ⟨rfl, HB3.out⟩
  | true =>
    have HC := Lib.hid (fun ad n c xs w h hn => Check_yes a b hs ad n c xs w h hn)
    have hV := fun w => validR_any a b w
    rw [hs] at hV
    have HV := Lib.hid hV
    clear hV
    obtain ⟨x, y, rfl, rfl, h1, h2, h3⟩ := share_nat hs
    cases hk : chkB (x : Int) (y : Int) (xs.take 10) with
    | false =>
      have HK := Lib.hid hk
      clear hk hs
      go_enter Try.func14, Try.ntmps14
      go_wp2_with fail
      refine (list_any a0 n0 c0 xs w H.out hc hn hcm).mono ?_
      rintro e w1 ⟨ao, co, m, rfl, hm, how, hmc, hcm2, hb1⟩
      have HB1 := Lib.hid hb1
      have HI := Lib.hid (Ints.own how).1
      clear how hmc hcm2 hb1

      go_wp2_with fail
      refine (HC.out ao m co (xs.take 10) w1 HI.out (by omega)).mono ?_
      rintro e w2 ⟨rfl, hb2⟩
      rw [HK.out]
      have HB2 := Lib.hid (HB1.out.trans (hb2.mono HB1.out.size))
      clear hb2
      go_wp2_with fail
      refine (awake_any _).mono ?_
      rintro e w3 ⟨rfl, hb3⟩
      have HB3 := Lib.hid (HB2.out.trans (hb3.mono HB2.out.size))
      clear hb3
      go_wp2
      go_ret
      exact ⟨rfl, HB3.out⟩
    | true =>
      obtain ⟨L, hxL, hu, hsm, hl1, hl8⟩ := chk_nat h1 (show 0 < y by omega) hk
      have hx2 : xs = nats L := by
        have : xs.length ≤ 10 := by
          have h5 := congrArg List.length hxL
          rw [nats_len, List.length_take] at h5
          omega
        rw [← hxL, List.take_of_length_le this]
      have hnL : n0 = L.length := by have := HL.out; rw [← this, hx2, nats_len]
      match L, hl1 with
      | d :: t, _ =>
        have hfl := first_le (show 0 < y by omega) hu hsm
        have hd6 : d ≤ 1000000 := by
          simp only [isUp, Bool.and_eq_true, decide_eq_true_eq] at hu
          exact hu.1.2
        obtain ⟨b0, o0, hab, hbl, hcc⟩ := H.out.at (show 0 < n0 by rw [hnL]; simp)
        have hc0 := hcc 0 (by rw [hnL]; simp)
        rw [hx2, Nat.add_zero] at hc0
        have hc1 : w.cell? ⟨b0, o0, none⟩ = some (.int .i64 (d : Int)) := hc0
        have HCELL := Lib.hid hc1
        subst hab
        have hn8 : n0 ≤ 8 := by rw [hnL]; exact hl8
        have hn1 : 1 ≤ n0 := by rw [hnL]; simp
        have hdx : d * x ≤ n0 * y := by rw [hnL, Nat.mul_comm]; exact hfl
        have hny : n0 * y ≤ 480 := Nat.le_trans (Nat.mul_le_mul hn8 h3) (by decide)
        have i1 : (d : Int) * (x : Int) = ((d * x : Nat) : Int) := by simp
        have i2 : (n0 : Int) * (y : Int) = ((n0 * y : Nat) : Int) := by simp
        have q1 : (0 : Int) ≤ (d : Int) * (x : Int) := by rw [i1]; exact Int.natCast_nonneg _
        have q2 : (d : Int) * (x : Int) ≤ 480 := by rw [i1]; exact Int.ofNat_le.2 (Nat.le_trans hdx hny)
        have q3 : (0 : Int) ≤ (n0 : Int) * (y : Int) := by rw [i2]; exact Int.natCast_nonneg _
        have q4 : (n0 : Int) * (y : Int) ≤ 480 := by rw [i2]; exact Int.ofNat_le.2 hny
        have q5 : (d : Int) * (x : Int) ≤ (n0 : Int) * (y : Int) := by rw [i1, i2]; exact Int.ofNat_le.2 hdx
        have q6 : ¬ (n0 : Int) * (y : Int) < (d : Int) * (x : Int) := by omega
        have n1 : (1 : Int) ≤ (n0 : Int) := by omega
        have n2 : (n0 : Int) ≤ 8 := by omega
        have n3 : ((n0 : Int) == 0) = false := by rw [beq_eq_false_iff_ne]; omega
        have HK := Lib.hid hk
        by_cases h3n : 3 < n0
        · have HBD := Lib.hid (fun w => Bound_no (x : Int) (y : Int) (n0 : Int) (by
            unfold boundOk
            rw [decide_eq_false (show ¬ (n0 : Int) ≤ 3 by omega), Bool.and_false]) w)
          have g1 : (3 : Int) < (n0 : Int) := by omega
          clear hk hs hxL hu hsm hl8 hx2 hnL hfl hcc hc0 hc1 hdx hny i1 i2 h3n hbl
          go_enter Try.func14, Try.ntmps14
          go_wp2_with fail
          refine (list_any (some ⟨b0, o0, none⟩) n0 c0 xs w H.out hc hn hcm).mono ?_
          rintro e w1 ⟨ao, co, m, rfl, hm, how, hmc, hcm2, hb1⟩
          have HB1 := Lib.hid hb1
          have HI := Lib.hid (Ints.own how).1
          clear how hmc hcm2 hb1
          go_wp2_with fail
          refine (HC.out ao m co (xs.take 10) w1 HI.out (by omega)).mono ?_
          rintro e w2 ⟨rfl, hb2⟩
          rw [HK.out]
          have HB2 := Lib.hid (HB1.out.trans (hb2.mono HB1.out.size))
          clear hb2
          go_wp2_with fail
          refine (HV.out _).mono ?_
          rintro e w3 ⟨rfl, rfl⟩
          go_wp2_with fail
          refine (HBD.out _).mono ?_
          rintro e w3 ⟨rfl, rfl⟩
          have kc := cell_later HCELL.out HB2.out
          go_wp2_with fail
          refine (awake_any _).mono ?_
          rintro e w4 ⟨rfl, hb4⟩
          have HB4 := Lib.hid (HB2.out.trans (hb4.mono HB2.out.size))
          clear hb4 kc
          go_wp2
          go_ret
          exact ⟨rfl, HB4.out⟩
        · obtain ⟨N, hbn, hdN, hNa⟩ := bound_ge h1 (show 0 < y by omega) hu hsm
          have htl : t.length + 1 = n0 := by rw [hnL]; rfl
          have hB := fun w => Bound_yes x y t.length h1 h2 h3 (by omega) w
          simp only [hbn] at hB
          rw [htl] at hB hNa
          have hB2 : ∀ w, Calls Try.prog 35 #[.int .i64 (x : Int), .int .i64 (y : Int), .int .i64 (n0 : Int)] w fun e w' => e = .returned (.tuple #[.int .i64 (N : Int), .int .i64 0]) ∧ Below w.heap.size w w' := hB
          have HBD := Lib.hid hB2
          have g1 : ¬ (3 : Int) < (n0 : Int) := by omega
          have g2 : (d : Int) ≤ (N : Int) := by omega
          have j1 : (N : Int) * (x : Int) = ((N * x : Nat) : Int) := by simp
          have r1 : (0 : Int) ≤ (N : Int) * (x : Int) := by rw [j1]; exact Int.natCast_nonneg _
          have r2 : (N : Int) * (x : Int) ≤ 480 := by rw [j1]; exact Int.ofNat_le.2 (Nat.le_trans hNa hny)
          have r3 : (N : Int) * (x : Int) ≤ (n0 : Int) * (y : Int) := by rw [j1, i2]; exact Int.ofNat_le.2 hNa
          clear hk hs hxL hu hsm hl8 hx2 hnL hfl hcc hc0 hc1 hdx hny i1 i2 j1 h3n hbn hdN hNa hB hB2 htl hbl
          go_enter Try.func14, Try.ntmps14
          go_wp2_with fail
          refine (list_any (some ⟨b0, o0, none⟩) n0 c0 xs w H.out hc hn hcm).mono ?_
          rintro e w1 ⟨ao, co, m, rfl, hm, how, hmc, hcm2, hb1⟩
          have HB1 := Lib.hid hb1
          have HI := Lib.hid (Ints.own how).1
          clear how hmc hcm2 hb1
          go_wp2_with fail
          refine (HC.out ao m co (xs.take 10) w1 HI.out (by omega)).mono ?_
          rintro e w2 ⟨rfl, hb2⟩
          rw [HK.out]
          have HB2 := Lib.hid (HB1.out.trans (hb2.mono HB1.out.size))
          clear hb2
          go_wp2_with fail
          refine (HV.out _).mono ?_
          rintro e w3 ⟨rfl, rfl⟩
          go_wp2_with fail
          refine (HBD.out _).mono ?_
          rintro e w4 ⟨rfl, hb4⟩
          have HB4 := Lib.hid (HB2.out.trans (hb4.mono HB2.out.size))
          have kc := cell_later HCELL.out HB4.out
          clear hb4
          go_wp2_with fail
          refine (awake_any _).mono ?_
          rintro e w5 ⟨rfl, hb5⟩
          have HB5 := Lib.hid (HB4.out.trans (hb5.mono HB4.out.size))
          clear hb5 kc
          go_wp2
          go_ret
          exact ⟨rfl, HB5.out⟩
end Go.Proofs.Ytbdiknlbmjdpeaa
