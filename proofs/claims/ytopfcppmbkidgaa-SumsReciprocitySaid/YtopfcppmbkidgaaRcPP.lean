/- The law SumsReciprocity: its walk, part RcPP. No condition beyond the cases that the names tell. -/
import Derived.Test.YtopfcppmbkidgaaChkC
import Derived.Test.YtopfcppmbkidgaaRecK
import Derived.Test.YtopfcppmbkidgaaGcd
namespace Go.Proofs.Ytopfcppmbkidgaa
open Go.RowKit
attribute [local go_sem] Oper.semAt_some

set_option maxRecDepth 100000 in
set_option maxHeartbeats 32000000 in
theorem rec_pp (a m : Int) (n : Nat) (h : isSym a (n : Int)) (ha : 0 < a) (N K : Nat) (hN : isLen a (n : Int) N) (hN0 : N = K + 1) (w : World) :
    Calls Try.prog 13 #[.int .i64 a, .int .i64 m, .int .i64 (n : Int)] w fun e w' => e = .returned (.bool true) ∧ Below w.heap.size w w' := by
  have HCh := Lib.hid (fun W => Chain_yes a (n : Int) h N hN W)
  have HJ := Lib.hid (fun W => Jacobi_yes a (n : Int) h W)
  have HO := Lib.hid (fun W => odd_any a (n : Int) W)
  rw [(symB_iff a (n : Int)).2 h] at HO
  have hlen := cstp_len a (n : Int) N
  have hN5 := hN.1
  have HCl := Lib.hid (fun W B v (hr : Row4 B v (cstp a (n : Int) N) W) => clone4_any W hr (by rw [hlen]; exact hN5))
  have HCk := Lib.hid (fun W B v (hr : Row4 B v (cstp a (n : Int) N) W) => Check_yes a (n : Int) h N hN B v _ (by rw [hlen]; exact hN5) rfl W hr)
  have HA := Lib.hid (fun W => awake_any W)
  have hjc := Jv_cases a (n : Int)
  have hjg := J_gcd (a := a) h.2.2.1
  rw [Int.natAbs_natCast] at hjg
  have a0 := h.1
  have a1 := h.2.1
  have n0 : (1 : Int) ≤ (n : Int) := h.2.2.1
  have n1 : (n : Int) ≤ 1000000000 := h.2.2.2.1
  have hsg : (nth4 (cstp a (n : Int) N) K).s = 1 ∨ (nth4 (cstp a (n : Int) N) K).s = -1 := by
    rw [cstp_at a (n : Int) (show K < N by omega), show K + 1 = N by omega]
    exact (hN.2.2.2 N (Nat.le_refl _)).s
  have HCn := Lib.hid (fun W B v (s : Int) (hs : (nth4 (cstp a (n : Int) N) K).s ≠ s) (hr : Row4 B v ((cstp a (n : Int) N).set K { nth4 (cstp a (n : Int) N) K with s := s }) W) => Check_not a (n : Int) h N hN B v _ (by rw [List.length_set, hlen]; exact hN5) (set_ne (by rw [hlen]; omega) hs) W hr)
  obtain ⟨g, hg⟩ : ∃ g, Nat.gcd a.natAbs n = g := ⟨_, rfl⟩
  have HG := Lib.hid (fun W => gcdL_any a.natAbs n (by omega) (by omega) W)
  rw [hg] at HG hjg
  rw [show ((a.natAbs : Nat) : Int) = a by omega] at HG
  have x1 : ¬ a ≤ -a := by omega
  have x2 : ¬ a < -a := by omega
  have x3 : -a ≤ a := by omega
  have x4 : max a (-a) = a := by omega
  have m2 : wrap64 (-a) = -a := IntWalk.wrap64_in _ (by omega)
  obtain ⟨j, hj⟩ : ∃ j, Jv a (n : Int) = j := ⟨_, rfl⟩
  obtain ⟨L, hL⟩ : ∃ L, cstp a (n : Int) N = L := ⟨_, rfl⟩
  rw [hj] at HJ HCk hjc hjg
  rw [hL] at HCh HCl HCk hlen HCn hsg
  have j0 : -1 ≤ j := by omega
  have j1 : j ≤ 1 := by omega
  obtain ⟨D, hD⟩ : ∃ D, (j == 0) = D := ⟨_, rfl⟩
  have hD2 : decide ((1 : Int) < (g : Int)) = D := by rw [← hD, Bool.eq_iff_iff, decide_eq_true_iff, beq_iff_eq, hjg]; omega
  have hD3 : decide (1 < g) = D := by rw [← hD, Bool.eq_iff_iff, decide_eq_true_iff, beq_iff_eq, hjg]
  have HSY := Lib.hid h
  have HJE := Lib.hid hj
  have HJC := Lib.hid hjc
  have HLN := Lib.hid hlen
  clear h hN hg hj hL hjc hjg hlen
  subst hN0
  go_enter Try.func13, Try.ntmps13
  go_wp2_with fail
  refine (HCh.out _).mono ?_
  rintro e v1 ⟨⟨v, rfl, hr⟩, hb⟩
  obtain ⟨av, cv, rfl, -, -, hf⟩ := hr.form
  rw [HLN.out] at hr ⊢
  obtain ⟨g', rfl, hgB⟩ : ∃ g', av = some ⟨g', 0, none⟩ ∧ w.heap.size ≤ g' := by
    rcases hf with ⟨-, k, -⟩ | ⟨g', k1, k2, -⟩
    · have := HLN.out; rw [k] at this; simp at this
    · exact ⟨g', k1, k2⟩
  obtain ⟨⟨t0, t1, t2, s0⟩, ht⟩ : ∃ t, nth4 L K = t := ⟨_, rfl⟩
  rw [ht] at HCn hsg
  simp only at HCn hsg
  have HT := Lib.hid ht
  have sw1 : wrap64 (s0 * -1) = -s0 := by rw [show s0 * -1 = -s0 by omega]; exact IntWalk.wrap64_in _ (by omega)
  have sw2 : wrap64 (-s0) = -s0 := IntWalk.wrap64_in _ (by omega)
  have hs0 : s0 ≠ -s0 := by omega
  have e1 : ((K + 1 : Nat) : Int) - 1 = (K : Int) := by omega
  have e4 : (K : Int) + 1 - 1 = (K : Int) := by omega
  have k0 : (0 : Int) ≤ (K : Int) := by omega
  have HS0 := Lib.hid (And.intro hs0 hgB)
  clear ht hsg hs0 hgB
  have HR := Lib.hid hr
  have KP := Lib.hid hb
  clear hr hb hf
  go_wp2_with fail
  refine (HJ.out _).mono ?_
  rintro e v2 ⟨rfl, hb⟩
  have KQ := Lib.hid (KP.out.trans (hb.mono KP.out.size))
  have HQ := Lib.hid (HR.out.later hb)
  clear HR
  have HR := HQ
  clear HQ
  clear hb KP
  have KP := KQ
  clear KQ
  go_wp2_with fail
  refine (HO.out _).mono ?_
  rintro e v3 ⟨rfl, rfl⟩
  go_wp2_with fail
  refine (HCl.out _ _ _ HR.out).mono ?_
  rintro e v4 ⟨⟨c', rfl, hr'⟩, hb⟩
  have HC := Lib.hid hr'
  clear hr'
  have KQ := Lib.hid (KP.out.trans (hb.mono KP.out.size))
  have HQ := Lib.hid (HR.out.later hb)
  clear HR
  have HR := HQ
  clear HQ
  clear hb KP
  have KP := KQ
  clear KQ
  go_wp2_with fail
  refine (HCk.out _ _ _ HC.out).mono ?_
  rintro e v5 ⟨rfl, hb⟩
  have KQ := Lib.hid (KP.out.trans (hb.mono KP.out.size))
  have HQ := Lib.hid (HR.out.later hb)
  clear HR
  have HR := HQ
  clear HQ
  clear hb KP
  have KP := KQ
  clear KQ
  clear HC
  go_wp2_with fail
  refine (HG.out _).mono ?_
  rintro e v6 ⟨rfl, hb⟩
  have KQ := Lib.hid (KP.out.trans (hb.mono KP.out.size))
  have HQ := Lib.hid (HR.out.later hb)
  clear HR
  have HR := HQ
  clear HQ
  clear hb KP
  have KP := KQ
  clear KQ
  have hcell := (HR.out.cell (j := K) (by have := HLN.out; omega)).2.2.2
  rw [HT.out] at hcell
  simp only at hcell
  have hfz := HR.out.frozen (K * 4 + 3)
  have hput := HR.out.put (j := K) (by have := HLN.out; omega) (-s0)
  rw [HT.out] at hput
  simp only at hput
  have HP := Lib.hid hput
  have KQ := Lib.hid (KP.out.setCell (p := ⟨g', K * 4 + 3, none⟩) HS0.out.2 (.int .i64 (-s0)))
  clear KP hput
  have KP := KQ
  clear KQ
  go_wp2_with fail
  refine (HCn.out _ _ _ _ HS0.out.1 HP.out).mono ?_
  rintro e v7 ⟨rfl, hb⟩
  clear hcell hfz HP HR
  have KQ := Lib.hid (KP.out.trans (hb.mono KP.out.size))
  clear hb KP
  have KP := KQ
  clear KQ
  clear HCh HJ HO HCl HCk HG HCn
  by_cases hm : m < 1
  · go_wp2_with fail
    refine (HA.out _).mono ?_
    rintro e v30 ⟨rfl, hb⟩
    have KQ := Lib.hid (KP.out.trans (hb.mono KP.out.size))
    clear hb KP
    have KP := KQ
    clear KQ
    go_wp2
    go_ret
    exact ⟨rfl, KP.out⟩
  by_cases hm2 : 30000 < m
  · go_wp2_with fail
    refine (HA.out _).mono ?_
    rintro e v30 ⟨rfl, hb⟩
    have KQ := Lib.hid (KP.out.trans (hb.mono KP.out.size))
    clear hb KP
    have KP := KQ
    clear KQ
    go_wp2
    go_ret
    exact ⟨rfl, KP.out⟩
  by_cases hm3 : m % 2 = 0
  · go_wp2_with fail
    refine (HA.out _).mono ?_
    rintro e v30 ⟨rfl, hb⟩
    have KQ := Lib.hid (KP.out.trans (hb.mono KP.out.size))
    clear hb KP
    have KP := KQ
    clear KQ
    go_wp2
    go_ret
    exact ⟨rfl, KP.out⟩
  have q1 : (m % 2 == 0) = false := beq_eq_false_iff_ne.2 hm3
  by_cases hm4 : 30000 < (n : Int)
  · go_wp2_with fail
    refine (HA.out _).mono ?_
    rintro e v30 ⟨rfl, hb⟩
    have KQ := Lib.hid (KP.out.trans (hb.mono KP.out.size))
    clear hb KP
    have KP := KQ
    clear KQ
    go_wp2
    go_ret
    exact ⟨rfl, KP.out⟩
  obtain ⟨m, rfl⟩ := Int.eq_ofNat_of_zero_le (show 0 ≤ m by omega)
  replace hm3 : (m : Int) % 2 = 1 := by omega
  by_cases hg : 1 < Nat.gcd m n
  · by_cases h4 : (m : Int) % 4 = 3
    · by_cases h5 : (n : Int) % 4 = 3
      · have hn1 : 1 ≤ (n : Int) := HSY.out.2.2.1
        have hno : (n : Int) % 2 = 1 := HSY.out.2.2.2.2
        have mn0 : 0 < (m : Int) * n := Int.mul_pos (by omega) (by omega)
        have mn1 : (m : Int) * n ≤ 900000000 := by have := Int.mul_le_mul (show (m : Int) ≤ 30000 by omega) (show (n : Int) ≤ 30000 by omega) (by omega) (by decide); omega
        have mno : ((m : Int) * n) % 2 = 1 := by rw [Int.mul_emod, hm3, hno]; rfl
        have HX := Lib.hid (fun W => Jacobi_yes (m : Int) (n : Int) ⟨by omega, by omega, by omega, by omega, hno⟩ W)
        have HY := Lib.hid (fun W => Jacobi_yes (n : Int) (m : Int) ⟨by omega, by omega, by omega, by omega, hm3⟩ W)
        have HZ := Lib.hid (fun W => Jacobi_yes a (m : Int) ⟨HSY.out.1, HSY.out.2.1, by omega, by omega, hm3⟩ W)
        have HW := Lib.hid (fun W => Jacobi_yes a ((m : Int) * n) ⟨HSY.out.1, HSY.out.2.1, by omega, by omega, mno⟩ W)
        have hden : Jv a ((m : Int) * n) = Jv a (n : Int) * Jv a (m : Int) := by rw [J_den (by omega) (by omega) hm3 hno]; exact Int.mul_comm _ _
        rw [hden, HJE.out] at HW
        clear hden
        have HGM := Lib.hid (fun W => gcdL_any m n (by omega) (by omega) W)
        have hboth := J_both (m := (m : Int)) (n := (n : Int)) (by omega) hn1 hm3 hno
        rw [Int.natAbs_natCast, Int.natAbs_natCast] at hboth
        have zc := Jv_cases a (m : Int)
        have xc := Jv_cases (m : Int) (n : Int)
        have yc := Jv_cases (n : Int) (m : Int)
        obtain ⟨x, hx⟩ : ∃ x, Jv (m : Int) (n : Int) = x := ⟨_, rfl⟩
        obtain ⟨y, hy⟩ : ∃ y, Jv (n : Int) (m : Int) = y := ⟨_, rfl⟩
        obtain ⟨z, hz⟩ : ∃ z, Jv a (m : Int) = z := ⟨_, rfl⟩
        obtain ⟨g2, hg2⟩ : ∃ g, Nat.gcd m n = g := ⟨_, rfl⟩
        rw [hx] at HX xc hboth
        rw [hy] at HY yc hboth
        rw [hz] at HZ HW zc
        rw [hg2] at HGM hboth
        have mnw : wrap64 ((m : Int) * n) = (m : Int) * n := IntWalk.wrap64_in _ (by omega)
        have jzw : wrap64 (j * z) = j * z := by
          have : j * z = 0 ∨ j * z = 1 ∨ j * z = -1 := by rcases HJC.out with e | e | e <;> rcases zc with k | k | k <;> rw [e, k] <;> simp
          exact IntWalk.wrap64_in _ (by omega)
        clear hx hy hz zc
        obtain ⟨hgb, hx0, hy0⟩ : 1 < g2 ∧ x = 0 ∧ y = 0 := hboth.resolve_right (fun k => by have := k.1; omega)
        subst hx0
        subst hy0
        have gb : (1 : Int) < (g2 : Int) := by omega
        clear hboth xc yc hg2
        go_wp2_with fail
        refine (HX.out _).mono ?_
        rintro e v40 ⟨rfl, hb⟩
        have KQ := Lib.hid (KP.out.trans (hb.mono KP.out.size))
        clear hb KP
        have KP := KQ
        clear KQ
        go_wp2_with fail
        refine (HY.out _).mono ?_
        rintro e v41 ⟨rfl, hb⟩
        have KQ := Lib.hid (KP.out.trans (hb.mono KP.out.size))
        clear hb KP
        have KP := KQ
        clear KQ
        go_wp2_with fail
        refine (HZ.out _).mono ?_
        rintro e v42 ⟨rfl, hb⟩
        have KQ := Lib.hid (KP.out.trans (hb.mono KP.out.size))
        clear hb KP
        have KP := KQ
        clear KQ
        go_wp2_with fail
        refine (HW.out _).mono ?_
        rintro e v43 ⟨rfl, hb⟩
        have KQ := Lib.hid (KP.out.trans (hb.mono KP.out.size))
        clear hb KP
        have KP := KQ
        clear KQ
        go_wp2_with fail
        refine (HGM.out _).mono ?_
        rintro e v44 ⟨rfl, hb⟩
        have KQ := Lib.hid (KP.out.trans (hb.mono KP.out.size))
        clear hb KP
        have KP := KQ
        clear KQ
        go_wp2_with fail
        refine (HA.out _).mono ?_
        rintro e v45 ⟨rfl, hb⟩
        have KQ := Lib.hid (KP.out.trans (hb.mono KP.out.size))
        clear hb KP
        have KP := KQ
        clear KQ
        go_wp2
        go_ret
        exact ⟨rfl, KP.out⟩
      · have hn1 : 1 ≤ (n : Int) := HSY.out.2.2.1
        have hno : (n : Int) % 2 = 1 := HSY.out.2.2.2.2
        have mn0 : 0 < (m : Int) * n := Int.mul_pos (by omega) (by omega)
        have mn1 : (m : Int) * n ≤ 900000000 := by have := Int.mul_le_mul (show (m : Int) ≤ 30000 by omega) (show (n : Int) ≤ 30000 by omega) (by omega) (by decide); omega
        have mno : ((m : Int) * n) % 2 = 1 := by rw [Int.mul_emod, hm3, hno]; rfl
        have HX := Lib.hid (fun W => Jacobi_yes (m : Int) (n : Int) ⟨by omega, by omega, by omega, by omega, hno⟩ W)
        have HY := Lib.hid (fun W => Jacobi_yes (n : Int) (m : Int) ⟨by omega, by omega, by omega, by omega, hm3⟩ W)
        have HZ := Lib.hid (fun W => Jacobi_yes a (m : Int) ⟨HSY.out.1, HSY.out.2.1, by omega, by omega, hm3⟩ W)
        have HW := Lib.hid (fun W => Jacobi_yes a ((m : Int) * n) ⟨HSY.out.1, HSY.out.2.1, by omega, by omega, mno⟩ W)
        have hden : Jv a ((m : Int) * n) = Jv a (n : Int) * Jv a (m : Int) := by rw [J_den (by omega) (by omega) hm3 hno]; exact Int.mul_comm _ _
        rw [hden, HJE.out] at HW
        clear hden
        have HGM := Lib.hid (fun W => gcdL_any m n (by omega) (by omega) W)
        have hboth := J_both (m := (m : Int)) (n := (n : Int)) (by omega) hn1 hm3 hno
        rw [Int.natAbs_natCast, Int.natAbs_natCast] at hboth
        have zc := Jv_cases a (m : Int)
        have xc := Jv_cases (m : Int) (n : Int)
        have yc := Jv_cases (n : Int) (m : Int)
        obtain ⟨x, hx⟩ : ∃ x, Jv (m : Int) (n : Int) = x := ⟨_, rfl⟩
        obtain ⟨y, hy⟩ : ∃ y, Jv (n : Int) (m : Int) = y := ⟨_, rfl⟩
        obtain ⟨z, hz⟩ : ∃ z, Jv a (m : Int) = z := ⟨_, rfl⟩
        obtain ⟨g2, hg2⟩ : ∃ g, Nat.gcd m n = g := ⟨_, rfl⟩
        rw [hx] at HX xc hboth
        rw [hy] at HY yc hboth
        rw [hz] at HZ HW zc
        rw [hg2] at HGM hboth
        have mnw : wrap64 ((m : Int) * n) = (m : Int) * n := IntWalk.wrap64_in _ (by omega)
        have jzw : wrap64 (j * z) = j * z := by
          have : j * z = 0 ∨ j * z = 1 ∨ j * z = -1 := by rcases HJC.out with e | e | e <;> rcases zc with k | k | k <;> rw [e, k] <;> simp
          exact IntWalk.wrap64_in _ (by omega)
        clear hx hy hz zc
        have q5 : ((n : Int) % 4 == 3) = false := beq_eq_false_iff_ne.2 h5
        obtain ⟨hgb, hx0, hy0⟩ : 1 < g2 ∧ x = 0 ∧ y = 0 := hboth.resolve_right (fun k => by have := k.1; omega)
        subst hx0
        subst hy0
        have gb : (1 : Int) < (g2 : Int) := by omega
        clear hboth xc yc hg2
        go_wp2_with fail
        refine (HX.out _).mono ?_
        rintro e v40 ⟨rfl, hb⟩
        have KQ := Lib.hid (KP.out.trans (hb.mono KP.out.size))
        clear hb KP
        have KP := KQ
        clear KQ
        go_wp2_with fail
        refine (HY.out _).mono ?_
        rintro e v41 ⟨rfl, hb⟩
        have KQ := Lib.hid (KP.out.trans (hb.mono KP.out.size))
        clear hb KP
        have KP := KQ
        clear KQ
        go_wp2_with fail
        refine (HZ.out _).mono ?_
        rintro e v42 ⟨rfl, hb⟩
        have KQ := Lib.hid (KP.out.trans (hb.mono KP.out.size))
        clear hb KP
        have KP := KQ
        clear KQ
        go_wp2_with fail
        refine (HW.out _).mono ?_
        rintro e v43 ⟨rfl, hb⟩
        have KQ := Lib.hid (KP.out.trans (hb.mono KP.out.size))
        clear hb KP
        have KP := KQ
        clear KQ
        go_wp2_with fail
        refine (HGM.out _).mono ?_
        rintro e v44 ⟨rfl, hb⟩
        have KQ := Lib.hid (KP.out.trans (hb.mono KP.out.size))
        clear hb KP
        have KP := KQ
        clear KQ
        go_wp2_with fail
        refine (HA.out _).mono ?_
        rintro e v45 ⟨rfl, hb⟩
        have KQ := Lib.hid (KP.out.trans (hb.mono KP.out.size))
        clear hb KP
        have KP := KQ
        clear KQ
        go_wp2
        go_ret
        exact ⟨rfl, KP.out⟩
    · have hn1 : 1 ≤ (n : Int) := HSY.out.2.2.1
      have hno : (n : Int) % 2 = 1 := HSY.out.2.2.2.2
      have mn0 : 0 < (m : Int) * n := Int.mul_pos (by omega) (by omega)
      have mn1 : (m : Int) * n ≤ 900000000 := by have := Int.mul_le_mul (show (m : Int) ≤ 30000 by omega) (show (n : Int) ≤ 30000 by omega) (by omega) (by decide); omega
      have mno : ((m : Int) * n) % 2 = 1 := by rw [Int.mul_emod, hm3, hno]; rfl
      have HX := Lib.hid (fun W => Jacobi_yes (m : Int) (n : Int) ⟨by omega, by omega, by omega, by omega, hno⟩ W)
      have HY := Lib.hid (fun W => Jacobi_yes (n : Int) (m : Int) ⟨by omega, by omega, by omega, by omega, hm3⟩ W)
      have HZ := Lib.hid (fun W => Jacobi_yes a (m : Int) ⟨HSY.out.1, HSY.out.2.1, by omega, by omega, hm3⟩ W)
      have HW := Lib.hid (fun W => Jacobi_yes a ((m : Int) * n) ⟨HSY.out.1, HSY.out.2.1, by omega, by omega, mno⟩ W)
      have hden : Jv a ((m : Int) * n) = Jv a (n : Int) * Jv a (m : Int) := by rw [J_den (by omega) (by omega) hm3 hno]; exact Int.mul_comm _ _
      rw [hden, HJE.out] at HW
      clear hden
      have HGM := Lib.hid (fun W => gcdL_any m n (by omega) (by omega) W)
      have hboth := J_both (m := (m : Int)) (n := (n : Int)) (by omega) hn1 hm3 hno
      rw [Int.natAbs_natCast, Int.natAbs_natCast] at hboth
      have zc := Jv_cases a (m : Int)
      have xc := Jv_cases (m : Int) (n : Int)
      have yc := Jv_cases (n : Int) (m : Int)
      obtain ⟨x, hx⟩ : ∃ x, Jv (m : Int) (n : Int) = x := ⟨_, rfl⟩
      obtain ⟨y, hy⟩ : ∃ y, Jv (n : Int) (m : Int) = y := ⟨_, rfl⟩
      obtain ⟨z, hz⟩ : ∃ z, Jv a (m : Int) = z := ⟨_, rfl⟩
      obtain ⟨g2, hg2⟩ : ∃ g, Nat.gcd m n = g := ⟨_, rfl⟩
      rw [hx] at HX xc hboth
      rw [hy] at HY yc hboth
      rw [hz] at HZ HW zc
      rw [hg2] at HGM hboth
      have mnw : wrap64 ((m : Int) * n) = (m : Int) * n := IntWalk.wrap64_in _ (by omega)
      have jzw : wrap64 (j * z) = j * z := by
        have : j * z = 0 ∨ j * z = 1 ∨ j * z = -1 := by rcases HJC.out with e | e | e <;> rcases zc with k | k | k <;> rw [e, k] <;> simp
        exact IntWalk.wrap64_in _ (by omega)
      clear hx hy hz zc
      have q4 : ((m : Int) % 4 == 3) = false := beq_eq_false_iff_ne.2 h4
      obtain ⟨hgb, hx0, hy0⟩ : 1 < g2 ∧ x = 0 ∧ y = 0 := hboth.resolve_right (fun k => by have := k.1; omega)
      subst hx0
      subst hy0
      have gb : (1 : Int) < (g2 : Int) := by omega
      clear hboth xc yc hg2
      go_wp2_with fail
      refine (HX.out _).mono ?_
      rintro e v40 ⟨rfl, hb⟩
      have KQ := Lib.hid (KP.out.trans (hb.mono KP.out.size))
      clear hb KP
      have KP := KQ
      clear KQ
      go_wp2_with fail
      refine (HY.out _).mono ?_
      rintro e v41 ⟨rfl, hb⟩
      have KQ := Lib.hid (KP.out.trans (hb.mono KP.out.size))
      clear hb KP
      have KP := KQ
      clear KQ
      go_wp2_with fail
      refine (HZ.out _).mono ?_
      rintro e v42 ⟨rfl, hb⟩
      have KQ := Lib.hid (KP.out.trans (hb.mono KP.out.size))
      clear hb KP
      have KP := KQ
      clear KQ
      go_wp2_with fail
      refine (HW.out _).mono ?_
      rintro e v43 ⟨rfl, hb⟩
      have KQ := Lib.hid (KP.out.trans (hb.mono KP.out.size))
      clear hb KP
      have KP := KQ
      clear KQ
      go_wp2_with fail
      refine (HGM.out _).mono ?_
      rintro e v44 ⟨rfl, hb⟩
      have KQ := Lib.hid (KP.out.trans (hb.mono KP.out.size))
      clear hb KP
      have KP := KQ
      clear KQ
      go_wp2_with fail
      refine (HA.out _).mono ?_
      rintro e v45 ⟨rfl, hb⟩
      have KQ := Lib.hid (KP.out.trans (hb.mono KP.out.size))
      clear hb KP
      have KP := KQ
      clear KQ
      go_wp2
      go_ret
      exact ⟨rfl, KP.out⟩
  · by_cases h4 : (m : Int) % 4 = 3
    · by_cases h5 : (n : Int) % 4 = 3
      · have hn1 : 1 ≤ (n : Int) := HSY.out.2.2.1
        have hno : (n : Int) % 2 = 1 := HSY.out.2.2.2.2
        have mn0 : 0 < (m : Int) * n := Int.mul_pos (by omega) (by omega)
        have mn1 : (m : Int) * n ≤ 900000000 := by have := Int.mul_le_mul (show (m : Int) ≤ 30000 by omega) (show (n : Int) ≤ 30000 by omega) (by omega) (by decide); omega
        have mno : ((m : Int) * n) % 2 = 1 := by rw [Int.mul_emod, hm3, hno]; rfl
        have HX := Lib.hid (fun W => Jacobi_yes (m : Int) (n : Int) ⟨by omega, by omega, by omega, by omega, hno⟩ W)
        have HY := Lib.hid (fun W => Jacobi_yes (n : Int) (m : Int) ⟨by omega, by omega, by omega, by omega, hm3⟩ W)
        have HZ := Lib.hid (fun W => Jacobi_yes a (m : Int) ⟨HSY.out.1, HSY.out.2.1, by omega, by omega, hm3⟩ W)
        have HW := Lib.hid (fun W => Jacobi_yes a ((m : Int) * n) ⟨HSY.out.1, HSY.out.2.1, by omega, by omega, mno⟩ W)
        have hden : Jv a ((m : Int) * n) = Jv a (n : Int) * Jv a (m : Int) := by rw [J_den (by omega) (by omega) hm3 hno]; exact Int.mul_comm _ _
        rw [hden, HJE.out] at HW
        clear hden
        have HGM := Lib.hid (fun W => gcdL_any m n (by omega) (by omega) W)
        have hboth := J_both (m := (m : Int)) (n := (n : Int)) (by omega) hn1 hm3 hno
        rw [Int.natAbs_natCast, Int.natAbs_natCast] at hboth
        have zc := Jv_cases a (m : Int)
        have xc := Jv_cases (m : Int) (n : Int)
        have yc := Jv_cases (n : Int) (m : Int)
        obtain ⟨x, hx⟩ : ∃ x, Jv (m : Int) (n : Int) = x := ⟨_, rfl⟩
        obtain ⟨y, hy⟩ : ∃ y, Jv (n : Int) (m : Int) = y := ⟨_, rfl⟩
        obtain ⟨z, hz⟩ : ∃ z, Jv a (m : Int) = z := ⟨_, rfl⟩
        obtain ⟨g2, hg2⟩ : ∃ g, Nat.gcd m n = g := ⟨_, rfl⟩
        rw [hx] at HX xc hboth
        rw [hy] at HY yc hboth
        rw [hz] at HZ HW zc
        rw [hg2] at HGM hboth
        have mnw : wrap64 ((m : Int) * n) = (m : Int) * n := IntWalk.wrap64_in _ (by omega)
        have jzw : wrap64 (j * z) = j * z := by
          have : j * z = 0 ∨ j * z = 1 ∨ j * z = -1 := by rcases HJC.out with e | e | e <;> rcases zc with k | k | k <;> rw [e, k] <;> simp
          exact IntWalk.wrap64_in _ (by omega)
        clear hx hy hz zc
        obtain ⟨hgb, hxy⟩ : g2 = 1 ∧ x * y = exch (m : Int) (n : Int) := hboth.resolve_left (fun k => by have := k.1; omega)
        subst hgb
        have hex : exch (m : Int) (n : Int) = -1 := by unfold exch; rw [if_pos ⟨h4, h5⟩]
        rw [hex] at hxy
        have hxyw : wrap64 (x * y) = -1 := by rw [hxy]; exact IntWalk.wrap64_in _ (by decide)
        clear hboth hg2 xc yc
        go_wp2_with fail
        refine (HX.out _).mono ?_
        rintro e v40 ⟨rfl, hb⟩
        have KQ := Lib.hid (KP.out.trans (hb.mono KP.out.size))
        clear hb KP
        have KP := KQ
        clear KQ
        go_wp2_with fail
        refine (HY.out _).mono ?_
        rintro e v41 ⟨rfl, hb⟩
        have KQ := Lib.hid (KP.out.trans (hb.mono KP.out.size))
        clear hb KP
        have KP := KQ
        clear KQ
        go_wp2_with fail
        refine (HZ.out _).mono ?_
        rintro e v42 ⟨rfl, hb⟩
        have KQ := Lib.hid (KP.out.trans (hb.mono KP.out.size))
        clear hb KP
        have KP := KQ
        clear KQ
        go_wp2_with fail
        refine (HW.out _).mono ?_
        rintro e v43 ⟨rfl, hb⟩
        have KQ := Lib.hid (KP.out.trans (hb.mono KP.out.size))
        clear hb KP
        have KP := KQ
        clear KQ
        go_wp2_with fail
        refine (HGM.out _).mono ?_
        rintro e v44 ⟨rfl, hb⟩
        have KQ := Lib.hid (KP.out.trans (hb.mono KP.out.size))
        clear hb KP
        have KP := KQ
        clear KQ
        go_wp2_with fail
        refine (HGM.out _).mono ?_
        rintro e v45 ⟨rfl, hb⟩
        have KQ := Lib.hid (KP.out.trans (hb.mono KP.out.size))
        clear hb KP
        have KP := KQ
        clear KQ
        go_wp2_with fail
        refine (HA.out _).mono ?_
        rintro e v46 ⟨rfl, hb⟩
        have KQ := Lib.hid (KP.out.trans (hb.mono KP.out.size))
        clear hb KP
        have KP := KQ
        clear KQ
        go_wp2
        go_ret
        exact ⟨rfl, KP.out⟩
      · have hn1 : 1 ≤ (n : Int) := HSY.out.2.2.1
        have hno : (n : Int) % 2 = 1 := HSY.out.2.2.2.2
        have mn0 : 0 < (m : Int) * n := Int.mul_pos (by omega) (by omega)
        have mn1 : (m : Int) * n ≤ 900000000 := by have := Int.mul_le_mul (show (m : Int) ≤ 30000 by omega) (show (n : Int) ≤ 30000 by omega) (by omega) (by decide); omega
        have mno : ((m : Int) * n) % 2 = 1 := by rw [Int.mul_emod, hm3, hno]; rfl
        have HX := Lib.hid (fun W => Jacobi_yes (m : Int) (n : Int) ⟨by omega, by omega, by omega, by omega, hno⟩ W)
        have HY := Lib.hid (fun W => Jacobi_yes (n : Int) (m : Int) ⟨by omega, by omega, by omega, by omega, hm3⟩ W)
        have HZ := Lib.hid (fun W => Jacobi_yes a (m : Int) ⟨HSY.out.1, HSY.out.2.1, by omega, by omega, hm3⟩ W)
        have HW := Lib.hid (fun W => Jacobi_yes a ((m : Int) * n) ⟨HSY.out.1, HSY.out.2.1, by omega, by omega, mno⟩ W)
        have hden : Jv a ((m : Int) * n) = Jv a (n : Int) * Jv a (m : Int) := by rw [J_den (by omega) (by omega) hm3 hno]; exact Int.mul_comm _ _
        rw [hden, HJE.out] at HW
        clear hden
        have HGM := Lib.hid (fun W => gcdL_any m n (by omega) (by omega) W)
        have hboth := J_both (m := (m : Int)) (n := (n : Int)) (by omega) hn1 hm3 hno
        rw [Int.natAbs_natCast, Int.natAbs_natCast] at hboth
        have zc := Jv_cases a (m : Int)
        have xc := Jv_cases (m : Int) (n : Int)
        have yc := Jv_cases (n : Int) (m : Int)
        obtain ⟨x, hx⟩ : ∃ x, Jv (m : Int) (n : Int) = x := ⟨_, rfl⟩
        obtain ⟨y, hy⟩ : ∃ y, Jv (n : Int) (m : Int) = y := ⟨_, rfl⟩
        obtain ⟨z, hz⟩ : ∃ z, Jv a (m : Int) = z := ⟨_, rfl⟩
        obtain ⟨g2, hg2⟩ : ∃ g, Nat.gcd m n = g := ⟨_, rfl⟩
        rw [hx] at HX xc hboth
        rw [hy] at HY yc hboth
        rw [hz] at HZ HW zc
        rw [hg2] at HGM hboth
        have mnw : wrap64 ((m : Int) * n) = (m : Int) * n := IntWalk.wrap64_in _ (by omega)
        have jzw : wrap64 (j * z) = j * z := by
          have : j * z = 0 ∨ j * z = 1 ∨ j * z = -1 := by rcases HJC.out with e | e | e <;> rcases zc with k | k | k <;> rw [e, k] <;> simp
          exact IntWalk.wrap64_in _ (by omega)
        clear hx hy hz zc
        have q5 : ((n : Int) % 4 == 3) = false := beq_eq_false_iff_ne.2 h5
        obtain ⟨hgb, hxy⟩ : g2 = 1 ∧ x * y = exch (m : Int) (n : Int) := hboth.resolve_left (fun k => by have := k.1; omega)
        subst hgb
        have hex : exch (m : Int) (n : Int) = 1 := by unfold exch; rw [if_neg (fun k => h5 k.2)]
        rw [hex] at hxy
        have hxyw : wrap64 (x * y) = 1 := by rw [hxy]; exact IntWalk.wrap64_in _ (by decide)
        clear hboth hg2 xc yc
        go_wp2_with fail
        refine (HX.out _).mono ?_
        rintro e v40 ⟨rfl, hb⟩
        have KQ := Lib.hid (KP.out.trans (hb.mono KP.out.size))
        clear hb KP
        have KP := KQ
        clear KQ
        go_wp2_with fail
        refine (HY.out _).mono ?_
        rintro e v41 ⟨rfl, hb⟩
        have KQ := Lib.hid (KP.out.trans (hb.mono KP.out.size))
        clear hb KP
        have KP := KQ
        clear KQ
        go_wp2_with fail
        refine (HZ.out _).mono ?_
        rintro e v42 ⟨rfl, hb⟩
        have KQ := Lib.hid (KP.out.trans (hb.mono KP.out.size))
        clear hb KP
        have KP := KQ
        clear KQ
        go_wp2_with fail
        refine (HW.out _).mono ?_
        rintro e v43 ⟨rfl, hb⟩
        have KQ := Lib.hid (KP.out.trans (hb.mono KP.out.size))
        clear hb KP
        have KP := KQ
        clear KQ
        go_wp2_with fail
        refine (HGM.out _).mono ?_
        rintro e v44 ⟨rfl, hb⟩
        have KQ := Lib.hid (KP.out.trans (hb.mono KP.out.size))
        clear hb KP
        have KP := KQ
        clear KQ
        go_wp2_with fail
        refine (HGM.out _).mono ?_
        rintro e v45 ⟨rfl, hb⟩
        have KQ := Lib.hid (KP.out.trans (hb.mono KP.out.size))
        clear hb KP
        have KP := KQ
        clear KQ
        go_wp2_with fail
        refine (HA.out _).mono ?_
        rintro e v46 ⟨rfl, hb⟩
        have KQ := Lib.hid (KP.out.trans (hb.mono KP.out.size))
        clear hb KP
        have KP := KQ
        clear KQ
        go_wp2
        go_ret
        exact ⟨rfl, KP.out⟩
    · have hn1 : 1 ≤ (n : Int) := HSY.out.2.2.1
      have hno : (n : Int) % 2 = 1 := HSY.out.2.2.2.2
      have mn0 : 0 < (m : Int) * n := Int.mul_pos (by omega) (by omega)
      have mn1 : (m : Int) * n ≤ 900000000 := by have := Int.mul_le_mul (show (m : Int) ≤ 30000 by omega) (show (n : Int) ≤ 30000 by omega) (by omega) (by decide); omega
      have mno : ((m : Int) * n) % 2 = 1 := by rw [Int.mul_emod, hm3, hno]; rfl
      have HX := Lib.hid (fun W => Jacobi_yes (m : Int) (n : Int) ⟨by omega, by omega, by omega, by omega, hno⟩ W)
      have HY := Lib.hid (fun W => Jacobi_yes (n : Int) (m : Int) ⟨by omega, by omega, by omega, by omega, hm3⟩ W)
      have HZ := Lib.hid (fun W => Jacobi_yes a (m : Int) ⟨HSY.out.1, HSY.out.2.1, by omega, by omega, hm3⟩ W)
      have HW := Lib.hid (fun W => Jacobi_yes a ((m : Int) * n) ⟨HSY.out.1, HSY.out.2.1, by omega, by omega, mno⟩ W)
      have hden : Jv a ((m : Int) * n) = Jv a (n : Int) * Jv a (m : Int) := by rw [J_den (by omega) (by omega) hm3 hno]; exact Int.mul_comm _ _
      rw [hden, HJE.out] at HW
      clear hden
      have HGM := Lib.hid (fun W => gcdL_any m n (by omega) (by omega) W)
      have hboth := J_both (m := (m : Int)) (n := (n : Int)) (by omega) hn1 hm3 hno
      rw [Int.natAbs_natCast, Int.natAbs_natCast] at hboth
      have zc := Jv_cases a (m : Int)
      have xc := Jv_cases (m : Int) (n : Int)
      have yc := Jv_cases (n : Int) (m : Int)
      obtain ⟨x, hx⟩ : ∃ x, Jv (m : Int) (n : Int) = x := ⟨_, rfl⟩
      obtain ⟨y, hy⟩ : ∃ y, Jv (n : Int) (m : Int) = y := ⟨_, rfl⟩
      obtain ⟨z, hz⟩ : ∃ z, Jv a (m : Int) = z := ⟨_, rfl⟩
      obtain ⟨g2, hg2⟩ : ∃ g, Nat.gcd m n = g := ⟨_, rfl⟩
      rw [hx] at HX xc hboth
      rw [hy] at HY yc hboth
      rw [hz] at HZ HW zc
      rw [hg2] at HGM hboth
      have mnw : wrap64 ((m : Int) * n) = (m : Int) * n := IntWalk.wrap64_in _ (by omega)
      have jzw : wrap64 (j * z) = j * z := by
        have : j * z = 0 ∨ j * z = 1 ∨ j * z = -1 := by rcases HJC.out with e | e | e <;> rcases zc with k | k | k <;> rw [e, k] <;> simp
        exact IntWalk.wrap64_in _ (by omega)
      clear hx hy hz zc
      have q4 : ((m : Int) % 4 == 3) = false := beq_eq_false_iff_ne.2 h4
      obtain ⟨hgb, hxy⟩ : g2 = 1 ∧ x * y = exch (m : Int) (n : Int) := hboth.resolve_left (fun k => by have := k.1; omega)
      subst hgb
      have hex : exch (m : Int) (n : Int) = 1 := by unfold exch; rw [if_neg (fun k => h4 k.1)]
      rw [hex] at hxy
      have hxyw : wrap64 (x * y) = 1 := by rw [hxy]; exact IntWalk.wrap64_in _ (by decide)
      clear hboth hg2 xc yc
      go_wp2_with fail
      refine (HX.out _).mono ?_
      rintro e v40 ⟨rfl, hb⟩
      have KQ := Lib.hid (KP.out.trans (hb.mono KP.out.size))
      clear hb KP
      have KP := KQ
      clear KQ
      go_wp2_with fail
      refine (HY.out _).mono ?_
      rintro e v41 ⟨rfl, hb⟩
      have KQ := Lib.hid (KP.out.trans (hb.mono KP.out.size))
      clear hb KP
      have KP := KQ
      clear KQ
      go_wp2_with fail
      refine (HZ.out _).mono ?_
      rintro e v42 ⟨rfl, hb⟩
      have KQ := Lib.hid (KP.out.trans (hb.mono KP.out.size))
      clear hb KP
      have KP := KQ
      clear KQ
      go_wp2_with fail
      refine (HW.out _).mono ?_
      rintro e v43 ⟨rfl, hb⟩
      have KQ := Lib.hid (KP.out.trans (hb.mono KP.out.size))
      clear hb KP
      have KP := KQ
      clear KQ
      go_wp2_with fail
      refine (HGM.out _).mono ?_
      rintro e v44 ⟨rfl, hb⟩
      have KQ := Lib.hid (KP.out.trans (hb.mono KP.out.size))
      clear hb KP
      have KP := KQ
      clear KQ
      go_wp2_with fail
      refine (HGM.out _).mono ?_
      rintro e v45 ⟨rfl, hb⟩
      have KQ := Lib.hid (KP.out.trans (hb.mono KP.out.size))
      clear hb KP
      have KP := KQ
      clear KQ
      go_wp2_with fail
      refine (HA.out _).mono ?_
      rintro e v46 ⟨rfl, hb⟩
      have KQ := Lib.hid (KP.out.trans (hb.mono KP.out.size))
      clear hb KP
      have KP := KQ
      clear KQ
      go_wp2
      go_ret
      exact ⟨rfl, KP.out⟩

end Go.Proofs.Ytopfcppmbkidgaa
