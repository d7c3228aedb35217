/- The walk of the law LiftPlaces. No condition. -/
import Derived.Test.YtjlaclbgfidiiaaDig3
import Derived.Test.YtjlaclbgfidiiaaPlMath
namespace Go.Proofs.Ytjlaclbgfidiiaa
open Go.RowKit
attribute [local go_sem] Oper.semAt_some

set_option maxRecDepth 100000 in
theorem lawPlaces_no (a b p : Int) (w : World) (hf : isFr a b p = false) :
    Calls Try.prog 12 #[.int .i64 a, .int .i64 b, .int .i64 p] w fun e w' => e = .returned (.bool true) ∧ Below w.heap.size w w' := by
  have HD := Lib.hid (fun w => Digits_no a b p 40 w (by rw [hf]; rfl))
  have HA := Lib.hid (fun w => Again_no a b p w hf)
  clear hf
  go_enter Try.func12, Try.ntmps12
  go_wp2_with fail
  refine (HD.out _).mono ?_
  rintro e w1 ⟨rfl, rfl⟩
  go_wp2_with fail
  refine (HA.out _).mono ?_
  rintro e w1 ⟨rfl, rfl⟩
  go_wp2_with fail
  refine (awake_any _).mono ?_
  rintro e w1 ⟨rfl, hb⟩
  have HB := Lib.hid hb
  clear hb
  go_wp2
  go_ret
  exact ⟨rfl, HB.out⟩

set_option maxHeartbeats 16000000 in
set_option maxRecDepth 100000 in
theorem lawPlaces_yes (a b : Int) (q : Nat) (w : World) (hf : isFr a b (q : Int) = true) :
    Calls Try.prog 12 #[.int .i64 a, .int .i64 b, .int .i64 (q : Int)] w fun e w' => e = .returned (.bool true) ∧ Below w.heap.size w w' := by
  obtain ⟨q', e1, hq, a0, a1, b0, b1, hb⟩ := isFr_spec hf
  obtain rfl : q = q' := by omega
  obtain ⟨q2, q13⟩ := pr_bounds hq
  have hD := fun w => Digits_yes a b q 40 w hf (Nat.le_refl 40)
  have e40 : ((40 : Nat) : Int) = 40 := rfl
  rw [e40] at hD
  have HD := Lib.hid hD
  have HA := Lib.hid (fun w => Again_yes a b q w hf)
  have hF := fun w => fracR_any a b (q : Int) w
  rw [hf] at hF
  have HF := Lib.hid hF
  have HST := Lib.hid (fun i => step_facts hq (a := rs q a b i) hb b0 b1 (rs_bound hq hb b0 b1 a0 a1 i).1 (rs_bound hq hb b0 b1 a0 a1 i).2)
  have HRB := Lib.hid (fun i => rs_bound hq hb b0 b1 a0 a1 i)
  have HSM := Lib.hid (fun s t h => ag_small hq hb b0 b1 a0 a1 (s := s) (t := t) h)
  have HDV := Lib.hid (fun s t h e he => ag_divides hq hb b0 a0 a1 (s := s) (t := t) h (e := e) he)
  have HAG : RowKit.Hid (∀ s t, IsAg q a b s t → ∀ i, s ≤ i → dg q (rs q a b (i + t)) b = dg q (rs q a b i) b) := Lib.hid (fun s t h i hi => by
    obtain ⟨j, rfl⟩ : ∃ j, i = s + j := ⟨i - s, by omega⟩
    rw [show s + j + t = s + t + j by omega, rs_again h.eq j])
  obtain ⟨E0, hE1, hE2, hE3⟩ := order_ex hq hb b0
  have HR0 : RowKit.Hid (rs q a b 0 = a) := Lib.hid rfl
  have HRN : RowKit.Hid (∀ i, nx q (rs q a b i) b = rs q a b (i + 1)) := Lib.hid (fun i => rfl)
  have HLA := Lib.hid (fun i (h : i < 40) => digL_at (q := q) (a := a) (b := b) h)
  have HLL : RowKit.Hid ((digL q a b 40).length = 40) := Lib.hid digL_len
  have HC1 : RowKit.Hid (b = 1 → 0 ≤ a → ∀ s t, IsAg q a b s t → t = 1 ∧ dg q (rs q a b 39) b = 0) := Lib.hid (fun hb1 ha s t h => by
    have h1 := ag_divides hq hb b0 a0 a1 h (e := 1) (by rw [hb1]; exact ⟨_, (Int.one_mul _).symm⟩)
    refine ⟨?_, by rw [hb1]; exact dig_last hq ha a1⟩
    have h2 := Nat.le_of_dvd (by omega) (Nat.dvd_of_mod_eq_zero h1)
    have := h.pos
    omega)
  have HC2 : RowKit.Hid (a = -b → ∀ s t, IsAg q a b s t → s = 0 ∧ t = 1 ∧ (dg q (rs q a b 0) b : Int) = (q : Int) - 1) := Lib.hid (fun ha s t h => by
    subst ha
    obtain ⟨h1, h2⟩ := h.uniq (ag_minus hq hb)
    exact ⟨h1, h2, (rs_minus hq hb).1⟩)
  have HDVD : RowKit.Hid (∀ e : Nat, (q : Int) ^ e % b = 1 % b → b ∣ (q : Int) ^ e - 1) := Lib.hid (fun e h => Int.dvd_of_emod_eq_zero (Int.emod_eq_emod_iff_emod_sub_eq_zero.1 h))
  have HE3 : RowKit.Hid ((q : Int) ^ E0 % b = 1 % b) := Lib.hid (dvd_emod hE3)
  have HE1 := Lib.hid hE1
  have hE : E0 ≤ 1000 := by omega
  obtain ⟨R, hR⟩ : ∃ R, rs q a b = R := ⟨_, rfl⟩
  rw [hR] at HST HRB HAG HR0 HRN HLA HC1 HC2
  obtain ⟨L, hL⟩ : ∃ L, digL q a b 40 = L := ⟨_, rfl⟩
  rw [hL] at HD HLA HLL
  have bne' : ¬ b = 0 := by omega
  have qne : ¬ (q : Int) = 0 := by omega
  clear hF hf hq hb e1 hD e40 hR hL hE1 hE2 hE3
  go_enter Try.func12, Try.ntmps12
  go_wp2_with fail
  refine (HD.out _).mono ?_
  rintro e w1 ⟨⟨l, rfl, hl⟩, hb⟩
  have HB1 := Lib.hid hb
  have HL1 := Lib.hid hl
  clear hb hl
  go_wp2_with fail
  refine (HA.out _).mono ?_
  rintro e w2 ⟨⟨s, t, rfl, hst⟩, hb⟩
  have HB2 := Lib.hid (HB1.out.trans (hb.mono HB1.out.size))
  have hl2 := HL1.out.later hb
  obtain ⟨al, nl, cl, rfl, il, enl⟩ := hl2.ints
  have hnl : nl = 40 := by rw [enl, HLL.out]
  subst hnl
  have HIL := Lib.hid il
  have HAGS := Lib.hid hst
  obtain ⟨s2000, t1000⟩ := HSM.out s t hst
  have t1 := hst.pos
  clear hb hl2 il enl hst HL1 HSM
  go_wp2_with fail
  refine (HF.out _).mono ?_
  rintro e w3 ⟨rfl, rfl⟩
  go_wp2
  go_loopg [12, 14, 54] 40 (fun gk s12 s14 s54 wr => ∃ i : Nat, i + gk = 40 ∧ s54 = .int .i64 (i : Int) ∧ s12 = .int .i64 (R i) ∧ wr = w2)
  case atStart => exact ⟨0, by omega, rfl, by rw [HR0.out], rfl⟩
  case round =>
    obtain ⟨i, hi, rfl, rfl, rfl⟩ := hrel
    have HI := Lib.hid hi
    by_cases hin : i < 40
    · have l1 : (i : Int) < 40 := by omega
      have i00 : (0 : Int) ≤ (i : Int) := by omega
      obtain ⟨bb, off, hab, hbl, hcc⟩ := HIL.out.at (by omega)
      subst hab
      have hcj := hcc i hin
      rw [HLA.out i hin] at hcj
      obtain ⟨D, N, hD, hN, ht, D0, D1, p0, p1, hu, hdv, N0, N1⟩ := HST.out i
      rw [HRN.out] at hN
      rw [← hD] at hcj
      rw [Int.mul_comm D b] at ht p0 p1 hdv
      have hz : ((R i - b * D).tmod (q : Int) != 0) = false := by rw [Int.tmod_eq_zero_of_dvd hdv]; rfl
      have HN := Lib.hid hN
      obtain ⟨x, hx⟩ : ∃ x, R i = x := ⟨_, rfl⟩
      rw [hx] at ht hz ⊢
      have D2 : ¬ (q : Int) ≤ D := by omega
      have D3 : ¬ D < 0 := by omega
      have x0 := HRB.out i
      rw [hx] at x0
      obtain ⟨xa, xb⟩ := x0
      clear hcc hD hN hu hdv hx hi
      go_wp2
      go_roundg (40 - i - 1)
      case rel => exact ⟨i + 1, by have := HI.out; omega, by go_num, by rw [HN.out], rfl⟩
      case measure => have := HI.out; omega
    · have l1 : ¬ (i : Int) < 40 := by omega
      have s0' : ¬ (s : Int) < 0 := by omega
      have s1' : ¬ (2000 : Int) < (s : Int) := by omega
      have t0' : ¬ (t : Int) < 1 := by omega
      have t1' : ¬ (1000 : Int) < (t : Int) := by omega
      clear hi hin
      go_wp2
      go_loopg [15] (4000 - s) (fun gk s15 w3 => ∃ (j z : Nat), j + gk = 4000 ∧ s ≤ j ∧ j ≤ 2000 ∧ s15 = .int .i64 (j : Int) ∧ w3 = wr.drewN z)
      case atStart => exact ⟨s, 0, by omega, Nat.le_refl _, s2000, rfl, rfl⟩
      case round =>
        obtain ⟨j, z, hj, hsj, hj2, rfl, rfl⟩ := hrel
        have HJ := Lib.hid hj
        by_cases hjt : j + t < 40
        · have l2 : (j : Int) + (t : Int) < 40 := by omega
          obtain ⟨bb, off, hab, hbl, hcc⟩ := HIL.out.at (by omega)
          subst hab
          have hc1 := hcc j (by omega)
          have hc2 := hcc (j + t) hjt
          rw [HLA.out j (by omega)] at hc1
          rw [HLA.out (j + t) hjt, HAG.out s t HAGS.out j hsj] at hc2
          have ejt : (j : Int) + (t : Int) = ((j + t : Nat) : Int) := by omega
          obtain ⟨D, hD⟩ : ∃ D : Int, (dg q (R j) b : Int) = D := ⟨_, rfl⟩
          rw [hD] at hc1 hc2
          obtain ⟨J, hJ⟩ : ∃ J, j + t = J := ⟨_, rfl⟩
          rw [hJ] at hc2 ejt
          have J0 : (0 : Int) ≤ (J : Int) := by omega
          have J1 : (J : Int) < 40 := by omega
          have j00 : (0 : Int) ≤ (j : Int) := by omega
          have j40 : (j : Int) < 40 := by omega
          have HSJ := Lib.hid hsj
          have hj3 : j < 40 := by omega
          clear hcc hD hJ hj hsj
          go_wp2
          go_quiet (fail)
          go_wp2
          go_roundg (4000 - j - 1)
          case rel => exact ⟨j + 1, _, by have := HJ.out; omega, by have := HSJ.out; omega, by omega, by go_num, by first | rfl | rw [World.drewN_drewN]⟩
          case measure => have := HJ.out; omega
        · have l2 : ¬ (j : Int) + (t : Int) < 40 := by omega
          have e0 := Int.emod_nonneg (q : Int) bne'
          have e1 := Int.emod_lt_of_pos (q : Int) (show 0 < b by omega)
          have e2 := Int.emod_nonneg 1 bne'
          have e3 := Int.emod_lt_of_pos 1 (show 0 < b by omega)
          clear hj hjt hsj
          go_wp2
          go_quiet (fail)
          go_wp2
          go_loopg [16, 17] (E0 - 1) (fun gk s16 s17 w3 => ∃ (e z : Nat) (X : Int), s16 = .int .i64 (e : Int) ∧ s17 = .int .i64 X ∧ RowKit.Hid (X = (q : Int) ^ e % b) ∧ 1 ≤ e ∧ e + gk = E0 ∧ 0 ≤ X ∧ X < b ∧ w3 = wr.drewN z)
          case atStart => exact ⟨1, _, (q : Int) % b, rfl, rfl, Lib.hid (show (q : Int) % b = (q : Int) ^ 1 % b by rw [Int.pow_one]), Nat.le_refl 1, by have := HE1.out; omega, e0, e1, by first | rfl | rw [World.drewN_drewN]⟩
          case round =>
            obtain ⟨e, z, X, rfl, rfl, HX, he1, heE, X0, X1, rfl⟩ := hrel
            have HEE := Lib.hid heE
            have e1000 : e ≤ 1000 := by omega
            by_cases hX : X = 1 % b
            · have hdvd := HDVD.out e (by rw [← HX.out]; exact hX)
              have hmod := HDV.out s t HAGS.out e hdvd
              have m1 : ((e : Int) % (t : Int) != 0) = false := by rw [← Int.natCast_emod, hmod]; rfl
              have tne : ¬ (t : Int) = 0 := by omega
              have m0 : 0 ≤ (e : Int) % (t : Int) := Int.emod_nonneg _ tne
              have xb : (X != 1 % b) = false := by rw [hX]; simp
              have hIL := HIL.out.below (drew_below wr z)
              obtain ⟨bb, off, hab, hbl, hcc⟩ := hIL.at (by omega)
              subst hab
              have hc39 := hcc 39 (by omega)
              have hc0 := hcc 0 (by omega)
              rw [HLA.out 39 (by omega)] at hc39
              rw [HLA.out 0 (by omega), Nat.add_zero] at hc0
              clear hX hdvd hmod hIL hcc heE
              by_cases hA : b = 1 ∧ 0 ≤ a
              · obtain ⟨hb1, ha0⟩ := hA
                obtain ⟨ht1, hd39⟩ := HC1.out hb1 ha0 s t HAGS.out
                rw [hd39] at hc39
                have hc39' : (wr.drewN z).cell? ⟨bb, off + 39, none⟩ = some (.int .i64 0) := hc39
                have hc39 := hc39'
                have bb1 : (b == 1) = true := by rw [beq_iff_eq]; exact hb1
                have ht1b : ((t : Int) != 1) = false := by rw [ht1]; rfl
                have hab' : (a == -b) = false := by rw [beq_eq_false_iff_ne]; omega
                clear hb1 ht1 hd39 hc39' hc0
                go_wp2_with fail
                refine (awake_any _).mono ?_
                rintro e w8 ⟨rfl, hb⟩
                have HB8 := Lib.hid ((below_drewN HB2.out z).trans (hb.mono (below_drewN HB2.out z).size))
                clear hb
                go_wp2
                go_ret
                exact ⟨rfl, HB8.out⟩
              · by_cases hB : a = -b
                · obtain ⟨hs0, ht1, hd0⟩ := HC2.out hB s t HAGS.out
                  rw [hd0] at hc0
                  have bb1 : (b == 1 && decide (0 ≤ a)) = false := by
                    rw [decide_eq_false (show ¬ 0 ≤ a by omega), Bool.and_false]
                  have ha0 : ¬ 0 ≤ a := by omega
                  have ht1b : ((t : Int) != 1) = false := by rw [ht1]; rfl
                  have hs0b : ((s : Int) != 0) = false := by rw [hs0]; rfl
                  have hab' : (a == -b) = true := by rw [beq_iff_eq]; exact hB
                  by_cases hb1 : b = 1
                  · have bb1' : (b == 1) = true := by rw [beq_iff_eq]; exact hb1
                    clear hs0 ht1 hd0 hb1 hA hB
                    go_wp2_with fail
                    refine (awake_any _).mono ?_
                    rintro e w8 ⟨rfl, hb⟩
                    have HB8 := Lib.hid ((below_drewN HB2.out z).trans (hb.mono (below_drewN HB2.out z).size))
                    clear hb
                    go_wp2
                    go_ret
                    exact ⟨rfl, HB8.out⟩
                  · have bb1' : (b == 1) = false := by rw [beq_eq_false_iff_ne]; exact hb1
                    clear hs0 ht1 hd0 hb1 hA hB
                    go_wp2_with fail
                    refine (awake_any _).mono ?_
                    rintro e w8 ⟨rfl, hb⟩
                    have HB8 := Lib.hid ((below_drewN HB2.out z).trans (hb.mono (below_drewN HB2.out z).size))
                    clear hb
                    go_wp2
                    go_ret
                    exact ⟨rfl, HB8.out⟩
                · have hab' : (a == -b) = false := by rw [beq_eq_false_iff_ne]; exact hB
                  by_cases hb1 : b = 1
                  · have bb1' : (b == 1) = true := by rw [beq_iff_eq]; exact hb1
                    have ha0 : ¬ 0 ≤ a := fun h => hA ⟨hb1, h⟩
                    clear hb1 hA hB
                    go_wp2_with fail
                    refine (awake_any _).mono ?_
                    rintro e w8 ⟨rfl, hb⟩
                    have HB8 := Lib.hid ((below_drewN HB2.out z).trans (hb.mono (below_drewN HB2.out z).size))
                    clear hb
                    go_wp2
                    go_ret
                    exact ⟨rfl, HB8.out⟩
                  · have bb1' : (b == 1) = false := by rw [beq_eq_false_iff_ne]; exact hb1
                    clear hb1 hA hB
                    go_wp2_with fail
                    refine (awake_any _).mono ?_
                    rintro e w8 ⟨rfl, hb⟩
                    have HB8 := Lib.hid ((below_drewN HB2.out z).trans (hb.mono (below_drewN HB2.out z).size))
                    clear hb
                    go_wp2
                    go_ret
                    exact ⟨rfl, HB8.out⟩
            · have xb : (X != 1 % b) = true := by rw [bne_iff_ne]; exact hX
              have hne : e ≠ E0 := by
                intro h
                apply hX
                rw [HX.out, h]
                exact HE3.out
              have heE2 : e < E0 := by omega
              have HEL := Lib.hid heE2
              obtain ⟨g0, g1⟩ := prod_le X0 (show X ≤ 1000 by omega) (show (0 : Int) ≤ (q : Int) by omega) (show (q : Int) ≤ 13 by omega)
              have r0 := Int.emod_nonneg (X * (q : Int)) bne'
              have r1 := Int.emod_lt_of_pos (X * (q : Int)) (show 0 < b by omega)
              have HXN := Lib.hid (pow_step (j := e) (x := (q : Int)) (m := b) HX.out)
              clear hX hne heE heE2
              go_wp2
              go_roundg (E0 - e - 1)
              case rel => exact ⟨e + 1, z, _, by go_num, rfl, HXN, by omega, by have := HEL.out; omega, r0, r1, rfl⟩
              case measure => have := HEL.out; have := HEE.out; omega

theorem lawPlaces_any (a b p : Int) (w : World) :
    Calls Try.prog 12 #[.int .i64 a, .int .i64 b, .int .i64 p] w fun e w' => e = .returned (.bool true) ∧ Below w.heap.size w w' := by
  cases hf : isFr a b p with
  | false => exact lawPlaces_no a b p w hf
  | true =>
    obtain ⟨q, rfl, -⟩ := isFr_spec hf
    exact lawPlaces_yes a b q w hf
end Go.Proofs.Ytjlaclbgfidiiaa
