/- The walk of the law LiftSquares. Condition: the slice lies in memory. -/
import Derived.Test.YtjlaclbgfidiiaaLawSquares
import Derived.Test.YtjlaclbgfidiiaaLawTeich
namespace Go.Proofs.Ytjlaclbgfidiiaa
open Go.RowKit
attribute [local go_sem] Oper.semAt_some

set_option maxRecDepth 100000 in
theorem lawSquares_no (a p k : Int) (s : Value) (w : World) (hno : (isPK p k && (decide (-1000000 ≤ a) && decide (a ≤ 1000000))) = false) :
    Calls Try.prog 14 #[.int .i64 a, .int .i64 p, .int .i64 k, s] w fun e w' => e = .returned (.bool true) ∧ Below w.heap.size w w' := by
  have HS := Lib.hid (fun w => Square_no a p k w hno)
  clear hno
  go_enter Try.func14, Try.ntmps14
  go_wp2_with fail
  refine (HS.out _).mono ?_
  rintro e w1 ⟨rfl, rfl⟩
  go_wp2_with fail
  refine (awake_any _).mono ?_
  rintro e w1 ⟨rfl, hb⟩
  have HB := Lib.hid hb
  clear hb
  go_wp2
  go_ret
  exact ⟨rfl, HB.out⟩

/-- The numbers of square roots that the law compares. -/
def lensOK (q N N1 : Nat) (a : Int) : Prop := 2 < q → a.tmod (q : Int) ≠ 0 → N = N1 ∧ (N = 0 ∨ N = 2)

set_option maxHeartbeats 16000000 in
set_option maxRecDepth 100000 in
theorem lawSquares_yes (a : Int) (q j : Nat) (ad : Option Addr) (n c : Nat) (xs : List Int) (w : World) (h : Ints w ad n xs) (hc : n ≤ c) (hn : n ≤ 4611686018427387904) (hcm : c ≤ maxLen) (hpk : isPK (q : Int) (j : Int) = true) (a0 : -1000000 ≤ a) (a1 : a ≤ 1000000) :
    Calls Try.prog 14 #[.int .i64 a, .int .i64 (q : Int), .int .i64 (j : Int), .slice ad n c] w fun e w' => e = .returned (.bool true) ∧ Below w.heap.size w w' := by
  obtain ⟨q', j', e1, e2, hq, hk1, hk14, hM⟩ := isPK_spec hpk
  obtain rfl : q = q' := by omega
  obtain rfl : j = j' := by omega
  obtain ⟨q2, q13⟩ := pr_bounds hq
  have hMp := pow_pos_of q2 j
  have hp1 : isPK (q : Int) ((1 : Nat) : Int) = true := isPK_of hq (Nat.le_refl 1) (by rw [Nat.pow_one]; omega)
  have HSY := Lib.hid (fun w => Square_yes a q j w hpk a0 a1)
  have HS1 := Lib.hid (fun w => Square_yes a q 1 w hp1 a0 a1)
  have hPW := fun w => powerR_any (q : Int) (j : Int) w
  rw [pkN_yes hpk] at hPW
  have HL := Lib.hid (fun w1 (hb : Below w.heap.size w w1) => list_row ad n c xs w1 (h.below hb) hc hn hcm)
  obtain ⟨K, hK⟩ : ∃ K : Nat, K = if j = 1 then 1 else j - 1 := ⟨_, rfl⟩
  have hK1 : 1 ≤ K := by rw [hK]; split <;> omega
  have hKj : K ≤ j := by rw [hK]; split <;> omega
  have hK2 : 1 < j → j = K + 1 := by intro h; rw [hK, if_neg (by omega)]; omega
  have eK : max ((j : Int) - 1) 1 = (K : Int) := by rw [hK]; split <;> omega
  have hpK : isPK (q : Int) (K : Int) = true := isPK_of hq hK1 (Nat.le_trans (Nat.pow_le_pow_right (by omega) hKj) hM)
  have HRN := Lib.hid (fun (hf : isPoly (xs.take 9) = false) B v w1 (hr : Row B v (xs.take 9) w1) => RootsR_no (q : Int) (j : Int) (xs.take 9) w1 hr (take9_len xs) (by rw [hf, Bool.and_false]))
  have HRN2 := Lib.hid (fun (hf : isPoly (xs.take 9) = false) B v w1 (hr : Row B v (xs.take 9) w1) => RootsR_no (q : Int) (K : Int) (xs.take 9) w1 hr (take9_len xs) (by rw [hf, Bool.and_false]))
  have hRY := fun (hf : isPoly (xs.take 9) = true) B v w1 (hr : Row B v (xs.take 9) w1) => RootsR_yes (q : Int) (j : Int) (xs.take 9) w1 hr hpk hf
  have hRY2 := fun (hf : isPoly (xs.take 9) = true) B v w1 (hr : Row B v (xs.take 9) w1) => RootsR_yes (q : Int) (K : Int) (xs.take 9) w1 hr hpK hf
  rw [pkN_yes hpk] at hRY
  rw [pkN_yes hpK] at hRY2
  have hMM' : 1 < j → ((q ^ j : Nat) : Int) / (q : Int) = ((q ^ K : Nat) : Int) := fun h => by
    rw [hK2 h, Nat.pow_succ, Int.natCast_mul, Int.mul_ediv_cancel _ (by omega)]
  have hKp := pow_pos_of q2 K
  have hKM : q ^ K ≤ q ^ j := Nat.pow_le_pow_right (by omega) hKj
  have HDN : RowKit.Hid (1 < j → ∀ i, i < (rts (xs.take 9) (q ^ j)).length → (rts (xs.take 9) (q ^ K)).contains ((rts (xs.take 9) (q ^ j)).getD i 0 % ((q ^ K : Nat) : Int)) = true) := Lib.hid (fun h i hi => by
    rw [List.contains_iff_mem]
    have hm := at_mem hi
    rw [show q ^ j = q ^ (K + 1) by rw [← hK2 h]] at hm
    have := rts_down q2 hm
    rwa [← hK2 h] at this)
  have HMEM : RowKit.Hid (∀ i, i < (rts (xs.take 9) (q ^ j)).length → 0 ≤ (rts (xs.take 9) (q ^ j)).getD i 0 ∧ (rts (xs.take 9) (q ^ j)).getD i 0 < ((q ^ j : Nat) : Int)) := Lib.hid (fun i hi => by
    have := mem_rts.1 (at_mem hi); exact ⟨this.1, this.2.1⟩)
  have HSM : RowKit.Hid (∀ i, i < (rts [-a, 0, 1] (q ^ j)).length → 0 ≤ (rts [-a, 0, 1] (q ^ j)).getD i 0 ∧ (rts [-a, 0, 1] (q ^ j)).getD i 0 < ((q ^ j : Nat) : Int) ∧ ((rts [-a, 0, 1] (q ^ j)).getD i 0 * (rts [-a, 0, 1] (q ^ j)).getD i 0 - a).tmod ((q ^ j : Nat) : Int) = 0 ∧ (rts [-a, 0, 1] (q ^ j)).contains ((-(rts [-a, 0, 1] (q ^ j)).getD i 0) % ((q ^ j : Nat) : Int)) = true) := Lib.hid (fun i hi => by
    obtain ⟨h1, h2, h3⟩ := sq_mem.1 (at_mem hi)
    refine ⟨h1, h2, Int.tmod_eq_zero_of_dvd h3, ?_⟩
    rw [List.contains_iff_mem, ← show (((q ^ j : Nat) : Int) - (rts [-a, 0, 1] (q ^ j)).getD i 0) % ((q ^ j : Nat) : Int) = (-(rts [-a, 0, 1] (q ^ j)).getD i 0) % ((q ^ j : Nat) : Int) by rw [Int.sub_eq_add_neg, Int.add_emod_left]]
    exact sq_mem.2 ⟨Int.emod_nonneg _ (by omega), Int.emod_lt_of_pos _ (by omega), sq_neg (by omega) h3⟩)
  have HLN : RowKit.Hid (lensOK q (rts [-a, 0, 1] (q ^ j)).length (rts [-a, 0, 1] (q ^ 1)).length a) := Lib.hid (fun h3 ha => sq_lens hq h3 hk1 (fun h => ha (Int.tmod_eq_zero_of_dvd h)))
  have HL1 := Lib.hid (show (rts [-a, 0, 1] (q ^ j)).length ≤ 20000 from Nat.le_trans (rts_len _ _) hM)
  have HL2 := Lib.hid (show (rts [-a, 0, 1] (q ^ 1)).length ≤ 20000 from Nat.le_trans (rts_len _ _) (by rw [Nat.pow_one]; omega))
  have HL3 := Lib.hid (show (rts (xs.take 9) (q ^ j)).length ≤ 20000 from Nat.le_trans (rts_len _ _) hM)
  have HL4 := Lib.hid (show (rts (xs.take 9) (q ^ K)).length ≤ 20000 from Nat.le_trans (rts_len _ _) (Nat.le_trans hKM hM))
  have HPL : RowKit.Hid (∀ i, i < j → q ^ i * q ≤ q ^ j) := Lib.hid (fun i hi => by
    have h1 : q ^ (i + 1) ≤ q ^ j := Nat.pow_le_pow_right (by omega) hi
    rwa [Nat.pow_succ] at h1)
  have HPS : RowKit.Hid (∀ i, q ^ (i + 1) = q ^ i * q) := Lib.hid (fun i => Nat.pow_succ q i)
  obtain ⟨M', hM'⟩ : ∃ M', q ^ K = M' := ⟨_, rfl⟩
  rw [hM'] at hRY2 hMM' hKp hKM HDN HL4
  obtain ⟨M, hMM⟩ : ∃ M, q ^ j = M := ⟨_, rfl⟩
  rw [hMM] at hM hMp hPW hRY hMM' hKM HSY HDN HMEM HSM HLN HL1 HL3 HPL
  have HMQ := Lib.hid hMM
  obtain ⟨S, hS⟩ : ∃ S, rts [-a, 0, 1] M = S := ⟨_, rfl⟩
  obtain ⟨S1, hS1⟩ : ∃ S1, rts [-a, 0, 1] (q ^ 1) = S1 := ⟨_, rfl⟩
  rw [hS] at HSY HSM HLN HL1
  rw [hS1] at HS1 HLN HL2
  obtain ⟨T, hT⟩ : ∃ T, rts (xs.take 9) M = T := ⟨_, rfl⟩
  obtain ⟨T', hT'⟩ : ∃ T', rts (xs.take 9) M' = T' := ⟨_, rfl⟩
  rw [hT] at hRY HDN HMEM HL3
  rw [hT'] at hRY2 HDN HL4
  obtain ⟨ys, hys⟩ : ∃ ys, xs.take 9 = ys := ⟨_, rfl⟩
  simp only [hys] at HL HRN HRN2 hRY hRY2
  have HRY := Lib.hid hRY
  have HRY2 := Lib.hid hRY2
  have HPW := Lib.hid hPW
  have HMM' := Lib.hid hMM'
  have mne : ¬ (M : Int) = 0 := by omega
  have mf : ((M : Int) == 0) = false := by rw [beq_eq_false_iff_ne]; exact mne
  have qne : ¬ (q : Int) = 0 := by omega
  have j0 : (1 : Int) ≤ (j : Int) := by omega
  clear h hpk hp1 hpK hq hRY hRY2 hPW hMM hM' hMM' hS hS1 hT hT' hys e1 e2 hK
  go_enter Try.func14, Try.ntmps14
  go_wp2_with fail
  refine (HSY.out _).mono ?_
  rintro e w1 ⟨⟨l, rfl, hl⟩, hb⟩
  have HB1 := Lib.hid hb
  have HLR := Lib.hid hl
  obtain ⟨al, nl, cl, rfl, il, enl⟩ := hl.ints
  have HIL := Lib.hid il
  have HEN := Lib.hid enl
  have hnl : nl ≤ 20000 := by have := HL1.out; omega
  clear hb hl il enl
  go_wp2_with fail
  refine (HPW.out _).mono ?_
  rintro e w2 ⟨rfl, rfl⟩
  go_wp2
  go_loopg [11, 41] j (fun gk s11 s41 wr => ∃ (i P : Nat), s11 = .int .i64 (P : Int) ∧ s41 = .int .i64 (i : Int) ∧ i + gk = j ∧ RowKit.Hid (q ^ i = P) ∧ P ≤ M ∧ wr = w1)
  case atStart => exact ⟨0, 1, rfl, rfl, by omega, Lib.hid (Nat.pow_zero q), by omega, rfl⟩
  case round =>
    obtain ⟨i, P, rfl, rfl, hi, HP, hPM, rfl⟩ := hrel
    have HI := Lib.hid hi
    by_cases hij : i < j
    · have l1 : (i : Int) < (j : Int) := by omega
      have hPL := HPL.out i hij
      rw [HP.out] at hPL
      have HPS2 := Lib.hid (HPS.out i)
      rw [HP.out] at HPS2
      obtain ⟨PQ, hPQ⟩ : ∃ PQ, P * q = PQ := ⟨_, rfl⟩
      rw [hPQ] at hPL HPS2
      have epq : (P : Int) * (q : Int) = (PQ : Int) := by rw [← hPQ]; simp
      have pq1 : (PQ : Int) ≤ 20000 := by omega
      have pq0 : (0 : Int) ≤ (PQ : Int) := by omega
      clear hi hPQ
      go_wp2
      go_roundg (j - i - 1)
      case rel => exact ⟨i + 1, PQ, rfl, by go_num, by have := HI.out; omega, HPS2, hPL, rfl⟩
      case measure => have := HI.out; omega
    · have l1 : ¬ (i : Int) < (j : Int) := by omega
      have hPm : P = M := by rw [← HP.out, show i = j by omega, HMQ.out]
      subst hPm
      clear hi hij HI HPL HPS HP
      go_wp2
      go_loopg [13, 49] nl (fun gk s13 s49 w3 => ∃ i : Nat, s49 = .int .i64 (i : Int) ∧ i + gk = nl ∧ w3 = wr)
      case atStart => exact ⟨0, rfl, by omega, rfl⟩
      case round =>
        obtain ⟨t, rfl, ht, rfl⟩ := hrel
        have HI := Lib.hid ht
        by_cases hin : t < nl
        · have l1 : (t : Int) < (nl : Int) := by omega
          have i00 : (0 : Int) ≤ (t : Int) := by omega
          obtain ⟨b, off, hab, hbl, hcc⟩ := HIL.out.at (by omega)
          subst hab
          have hcj := hcc t hin
          obtain ⟨m0, m1, m2, m3⟩ := HSM.out t (by have := HEN.out; omega)
          obtain ⟨x, hx⟩ : ∃ x, S.getD t 0 = x := ⟨_, rfl⟩
          rw [hx] at hcj m0 m1 m2 m3
          have x1 : x ≤ 20000 := by omega
          obtain ⟨p0, p1⟩ := prod_le m0 x1 m0 x1
          have m2b : ((x * x - a).tmod (P : Int) != 0) = false := by rw [m2]; rfl
          have x2 : ¬ (P : Int) ≤ x := by omega
          have x3 : ¬ x < 0 := by omega
          have HM3 := Lib.hid m3
          have HLe := Lib.hid (show S.length ≤ 1000000 by have := HL1.out; omega)
          clear hcc hx ht m3
          go_wp2_with fail
          refine (contains_row _ _ HLR.out HLe.out).mono ?_
          rintro e w4 ⟨rfl, rfl⟩
          rw [HM3.out]
          go_wp2
          go_roundg (nl - t - 1)
          case rel => exact ⟨t + 1, by go_num, by have := HI.out; omega, rfl⟩
          case measure => have := HI.out; omega
        · have l1 : ¬ (t : Int) < (nl : Int) := by omega
          clear ht hin
          have e11 : ((1 : Nat) : Int) = 1 := rfl
          have HS2 := HS1.out
          rw [e11] at HS2
          have HS2 := Lib.hid HS2
          clear e11
          go_wp2_with fail
          refine (HS2.out _).mono ?_
          rintro e w4 ⟨⟨l2, rfl, hl2⟩, hb⟩
          obtain ⟨a2, n2, c2, rfl, -, en2⟩ := hl2.ints
          have HB2 := Lib.hid (HB1.out.trans (hb.mono HB1.out.size))
          have hn2 : n2 ≤ 20000 := by have := HL2.out; omega
          have hlens := HLN.out
          rw [← HEN.out, ← en2] at hlens
          have HLE := Lib.hid hlens
          clear hb hl2 en2 hlens HLR HIL HLN HEN
          clear l1
          by_cases hq2 : 2 < q
          · have g1 : (2 : Int) < (q : Int) := by omega
            have b1 := Int.tmod_lt_of_pos a (show (0 : Int) < (q : Int) by omega)
            have b2 := Int.lt_tmod_of_pos a (show (0 : Int) < (q : Int) by omega)
            by_cases hat : a.tmod (q : Int) = 0
            · have g2 : (a.tmod (q : Int) != 0) = false := by rw [hat]; rfl
              clear hat HLE
              go_wp2_with fail
              refine (HL.out _ HB2.out).mono ?_
              rintro e w5 ⟨v5, rfl, hr, hb⟩
              have HR5 := Lib.hid hr
              have HB5 := Lib.hid (HB2.out.trans (hb.mono HB2.out.size))
              clear hr hb
              cases hf : isPoly ys with
              | false =>
                have HF := Lib.hid hf
                clear hf
                go_wp2_with fail
                refine (HRN.out HF.out _ _ _ HR5.out).mono ?_
                rintro e w6 ⟨rfl, hq⟩
                have HB6 := Lib.hid (below_drew HB5.out hq)
                clear hq HR5
                go_wp2_with fail
                refine (HL.out _ HB6.out).mono ?_
                rintro e w7 ⟨v7, rfl, hr, hb⟩
                have HR7 := Lib.hid hr
                have HB7 := Lib.hid (HB6.out.trans (hb.mono HB6.out.size))
                clear hr hb
                go_wp2_with fail
                refine (HRN2.out HF.out _ _ _ HR7.out).mono ?_
                rintro e w8 ⟨rfl, hq⟩
                have HB8 := Lib.hid (below_drew HB7.out hq)
                clear hq HR7
                go_wp2_with fail
                refine (awake_any _).mono ?_
                rintro e w9 ⟨rfl, hb⟩
                have HB9 := Lib.hid (HB8.out.trans (hb.mono HB8.out.size))
                clear hb
                go_wp2
                go_ret
                exact ⟨rfl, HB9.out⟩
              | true =>
                have HF := Lib.hid hf
                clear hf
                go_wp2_with fail
                refine (HRY.out HF.out _ _ _ HR5.out).mono ?_
                rintro e w6 ⟨⟨l5, rfl, hl⟩, hb⟩
                have HB6 := Lib.hid (HB5.out.trans (hb.mono HB5.out.size))
                obtain ⟨a5, n5, c5, rfl, i5, en5⟩ := hl.ints
                have HI5 := Lib.hid i5
                have HN5 := Lib.hid en5
                have hn5 : n5 ≤ 20000 := by have := HL3.out; omega
                clear hb HR5 hl i5 en5
                go_wp2_with fail
                refine (HL.out _ HB6.out).mono ?_
                rintro e w7 ⟨v7, rfl, hr, hb⟩
                have HR7 := Lib.hid hr
                have HB7 := Lib.hid (HB6.out.trans (hb.mono HB6.out.size))
                have HI7 := Lib.hid (HI5.out.below hb)
                clear hr hb HI5
                go_wp2_with fail
                refine (HRY2.out HF.out _ _ _ HR7.out).mono ?_
                rintro e w8 ⟨⟨l8, rfl, hl⟩, hb⟩
                have HB8 := Lib.hid (HB7.out.trans (hb.mono HB7.out.size))
                have HI8 := Lib.hid (HI7.out.below hb)
                have HR8 := Lib.hid hl
                clear hb HR7 hl HI7
                go_wp2
                go_loopg [19, 151] n5 (fun gk s19 s151 w9 => ∃ i : Nat, s151 = .int .i64 (i : Int) ∧ i + gk = n5 ∧ w9 = w8)
                case atStart => exact ⟨0, rfl, by omega, rfl⟩
                case round =>
                  obtain ⟨t, rfl, ht, rfl⟩ := hrel
                  have HI := Lib.hid ht
                  by_cases hin : t < n5
                  · have l1 : (t : Int) < (n5 : Int) := by omega
                    have i00 : (0 : Int) ≤ (t : Int) := by omega
                    obtain ⟨b5, off5, hab5, hbl5, hcc5⟩ := HI8.out.at (by omega)
                    subst hab5
                    have hcj := hcc5 t hin
                    obtain ⟨m0, m1⟩ := HMEM.out t (by have := HN5.out; omega)
                    by_cases hj1 : 1 < j
                    · have hct := HDN.out hj1 t (by have := HN5.out; omega)
                      have hmm := HMM'.out hj1
                      obtain ⟨x, hx⟩ : ∃ x, T.getD t 0 = x := ⟨_, rfl⟩
                      rw [hx] at hcj m0 m1 hct
                      have HCT := Lib.hid hct
                      have x1 : x ≤ 20000 := by omega
                      have jj : (1 : Int) < (j : Int) := by omega
                      have m'ne : ¬ (M' : Int) = 0 := by omega
                      have HLe := Lib.hid (show T'.length ≤ 1000000 by have := HL4.out; omega)
                      clear hcc5 hx ht hct
                      go_wp2_with fail
                      refine (contains_row _ _ HR8.out HLe.out).mono ?_
                      rintro e w10 ⟨rfl, rfl⟩
                      rw [HCT.out]
                      go_wp2
                      go_roundg (n5 - t - 1)
                      case rel => exact ⟨t + 1, by go_num, by have := HI.out; omega, rfl⟩
                      case measure => have := HI.out; omega
                    · have jj : ¬ (1 : Int) < (j : Int) := by omega
                      obtain ⟨x, hx⟩ : ∃ x, T.getD t 0 = x := ⟨_, rfl⟩
                      rw [hx] at hcj m0 m1
                      clear hcc5 hx ht
                      go_wp2
                      go_roundg (n5 - t - 1)
                      case rel => exact ⟨t + 1, by go_num, by have := HI.out; omega, rfl⟩
                      case measure => have := HI.out; omega
                  · have l1 : ¬ (t : Int) < (n5 : Int) := by omega
                    clear ht hin
                    go_wp2_with fail
                    refine (awake_any _).mono ?_
                    rintro e w10 ⟨rfl, hb⟩
                    have HB10 := Lib.hid (HB8.out.trans (hb.mono HB8.out.size))
                    clear hb
                    go_wp2
                    go_ret
                    exact ⟨rfl, HB10.out⟩
            · have g2 : (a.tmod (q : Int) != 0) = true := by rw [bne_iff_ne]; exact hat
              obtain ⟨hnn, hz⟩ := HLE.out hq2 hat
              subst hnn
              clear hat HLE
              rcases hz with rfl | rfl
              · have z0 : ((0 : Nat) : Int) = 0 := rfl
                rw [z0]
                clear z0
                go_wp2_with fail
                refine (HL.out _ HB2.out).mono ?_
                rintro e w5 ⟨v5, rfl, hr, hb⟩
                have HR5 := Lib.hid hr
                have HB5 := Lib.hid (HB2.out.trans (hb.mono HB2.out.size))
                clear hr hb
                cases hf : isPoly ys with
                | false =>
                  have HF := Lib.hid hf
                  clear hf
                  go_wp2_with fail
                  refine (HRN.out HF.out _ _ _ HR5.out).mono ?_
                  rintro e w6 ⟨rfl, hq⟩
                  have HB6 := Lib.hid (below_drew HB5.out hq)
                  clear hq HR5
                  go_wp2_with fail
                  refine (HL.out _ HB6.out).mono ?_
                  rintro e w7 ⟨v7, rfl, hr, hb⟩
                  have HR7 := Lib.hid hr
                  have HB7 := Lib.hid (HB6.out.trans (hb.mono HB6.out.size))
                  clear hr hb
                  go_wp2_with fail
                  refine (HRN2.out HF.out _ _ _ HR7.out).mono ?_
                  rintro e w8 ⟨rfl, hq⟩
                  have HB8 := Lib.hid (below_drew HB7.out hq)
                  clear hq HR7
                  go_wp2_with fail
                  refine (awake_any _).mono ?_
                  rintro e w9 ⟨rfl, hb⟩
                  have HB9 := Lib.hid (HB8.out.trans (hb.mono HB8.out.size))
                  clear hb
                  go_wp2
                  go_ret
                  exact ⟨rfl, HB9.out⟩
                | true =>
                  have HF := Lib.hid hf
                  clear hf
                  go_wp2_with fail
                  refine (HRY.out HF.out _ _ _ HR5.out).mono ?_
                  rintro e w6 ⟨⟨l5, rfl, hl⟩, hb⟩
                  have HB6 := Lib.hid (HB5.out.trans (hb.mono HB5.out.size))
                  obtain ⟨a5, n5, c5, rfl, i5, en5⟩ := hl.ints
                  have HI5 := Lib.hid i5
                  have HN5 := Lib.hid en5
                  have hn5 : n5 ≤ 20000 := by have := HL3.out; omega
                  clear hb HR5 hl i5 en5
                  go_wp2_with fail
                  refine (HL.out _ HB6.out).mono ?_
                  rintro e w7 ⟨v7, rfl, hr, hb⟩
                  have HR7 := Lib.hid hr
                  have HB7 := Lib.hid (HB6.out.trans (hb.mono HB6.out.size))
                  have HI7 := Lib.hid (HI5.out.below hb)
                  clear hr hb HI5
                  go_wp2_with fail
                  refine (HRY2.out HF.out _ _ _ HR7.out).mono ?_
                  rintro e w8 ⟨⟨l8, rfl, hl⟩, hb⟩
                  have HB8 := Lib.hid (HB7.out.trans (hb.mono HB7.out.size))
                  have HI8 := Lib.hid (HI7.out.below hb)
                  have HR8 := Lib.hid hl
                  clear hb HR7 hl HI7
                  go_wp2
                  go_loopg [19, 151] n5 (fun gk s19 s151 w9 => ∃ i : Nat, s151 = .int .i64 (i : Int) ∧ i + gk = n5 ∧ w9 = w8)
                  case atStart => exact ⟨0, rfl, by omega, rfl⟩
                  case round =>
                    obtain ⟨t, rfl, ht, rfl⟩ := hrel
                    have HI := Lib.hid ht
                    by_cases hin : t < n5
                    · have l1 : (t : Int) < (n5 : Int) := by omega
                      have i00 : (0 : Int) ≤ (t : Int) := by omega
                      obtain ⟨b5, off5, hab5, hbl5, hcc5⟩ := HI8.out.at (by omega)
                      subst hab5
                      have hcj := hcc5 t hin
                      obtain ⟨m0, m1⟩ := HMEM.out t (by have := HN5.out; omega)
                      by_cases hj1 : 1 < j
                      · have hct := HDN.out hj1 t (by have := HN5.out; omega)
                        have hmm := HMM'.out hj1
                        obtain ⟨x, hx⟩ : ∃ x, T.getD t 0 = x := ⟨_, rfl⟩
                        rw [hx] at hcj m0 m1 hct
                        have HCT := Lib.hid hct
                        have x1 : x ≤ 20000 := by omega
                        have jj : (1 : Int) < (j : Int) := by omega
                        have m'ne : ¬ (M' : Int) = 0 := by omega
                        have HLe := Lib.hid (show T'.length ≤ 1000000 by have := HL4.out; omega)
                        clear hcc5 hx ht hct
                        go_wp2_with fail
                        refine (contains_row _ _ HR8.out HLe.out).mono ?_
                        rintro e w10 ⟨rfl, rfl⟩
                        rw [HCT.out]
                        go_wp2
                        go_roundg (n5 - t - 1)
                        case rel => exact ⟨t + 1, by go_num, by have := HI.out; omega, rfl⟩
                        case measure => have := HI.out; omega
                      · have jj : ¬ (1 : Int) < (j : Int) := by omega
                        obtain ⟨x, hx⟩ : ∃ x, T.getD t 0 = x := ⟨_, rfl⟩
                        rw [hx] at hcj m0 m1
                        clear hcc5 hx ht
                        go_wp2
                        go_roundg (n5 - t - 1)
                        case rel => exact ⟨t + 1, by go_num, by have := HI.out; omega, rfl⟩
                        case measure => have := HI.out; omega
                    · have l1 : ¬ (t : Int) < (n5 : Int) := by omega
                      clear ht hin
                      go_wp2_with fail
                      refine (awake_any _).mono ?_
                      rintro e w10 ⟨rfl, hb⟩
                      have HB10 := Lib.hid (HB8.out.trans (hb.mono HB8.out.size))
                      clear hb
                      go_wp2
                      go_ret
                      exact ⟨rfl, HB10.out⟩
              · have z0 : ((2 : Nat) : Int) = 2 := rfl
                rw [z0]
                clear z0
                go_wp2_with fail
                refine (HL.out _ HB2.out).mono ?_
                rintro e w5 ⟨v5, rfl, hr, hb⟩
                have HR5 := Lib.hid hr
                have HB5 := Lib.hid (HB2.out.trans (hb.mono HB2.out.size))
                clear hr hb
                cases hf : isPoly ys with
                | false =>
                  have HF := Lib.hid hf
                  clear hf
                  go_wp2_with fail
                  refine (HRN.out HF.out _ _ _ HR5.out).mono ?_
                  rintro e w6 ⟨rfl, hq⟩
                  have HB6 := Lib.hid (below_drew HB5.out hq)
                  clear hq HR5
                  go_wp2_with fail
                  refine (HL.out _ HB6.out).mono ?_
                  rintro e w7 ⟨v7, rfl, hr, hb⟩
                  have HR7 := Lib.hid hr
                  have HB7 := Lib.hid (HB6.out.trans (hb.mono HB6.out.size))
                  clear hr hb
                  go_wp2_with fail
                  refine (HRN2.out HF.out _ _ _ HR7.out).mono ?_
                  rintro e w8 ⟨rfl, hq⟩
                  have HB8 := Lib.hid (below_drew HB7.out hq)
                  clear hq HR7
                  go_wp2_with fail
                  refine (awake_any _).mono ?_
                  rintro e w9 ⟨rfl, hb⟩
                  have HB9 := Lib.hid (HB8.out.trans (hb.mono HB8.out.size))
                  clear hb
                  go_wp2
                  go_ret
                  exact ⟨rfl, HB9.out⟩
                | true =>
                  have HF := Lib.hid hf
                  clear hf
                  go_wp2_with fail
                  refine (HRY.out HF.out _ _ _ HR5.out).mono ?_
                  rintro e w6 ⟨⟨l5, rfl, hl⟩, hb⟩
                  have HB6 := Lib.hid (HB5.out.trans (hb.mono HB5.out.size))
                  obtain ⟨a5, n5, c5, rfl, i5, en5⟩ := hl.ints
                  have HI5 := Lib.hid i5
                  have HN5 := Lib.hid en5
                  have hn5 : n5 ≤ 20000 := by have := HL3.out; omega
                  clear hb HR5 hl i5 en5
                  go_wp2_with fail
                  refine (HL.out _ HB6.out).mono ?_
                  rintro e w7 ⟨v7, rfl, hr, hb⟩
                  have HR7 := Lib.hid hr
                  have HB7 := Lib.hid (HB6.out.trans (hb.mono HB6.out.size))
                  have HI7 := Lib.hid (HI5.out.below hb)
                  clear hr hb HI5
                  go_wp2_with fail
                  refine (HRY2.out HF.out _ _ _ HR7.out).mono ?_
                  rintro e w8 ⟨⟨l8, rfl, hl⟩, hb⟩
                  have HB8 := Lib.hid (HB7.out.trans (hb.mono HB7.out.size))
                  have HI8 := Lib.hid (HI7.out.below hb)
                  have HR8 := Lib.hid hl
                  clear hb HR7 hl HI7
                  go_wp2
                  go_loopg [19, 151] n5 (fun gk s19 s151 w9 => ∃ i : Nat, s151 = .int .i64 (i : Int) ∧ i + gk = n5 ∧ w9 = w8)
                  case atStart => exact ⟨0, rfl, by omega, rfl⟩
                  case round =>
                    obtain ⟨t, rfl, ht, rfl⟩ := hrel
                    have HI := Lib.hid ht
                    by_cases hin : t < n5
                    · have l1 : (t : Int) < (n5 : Int) := by omega
                      have i00 : (0 : Int) ≤ (t : Int) := by omega
                      obtain ⟨b5, off5, hab5, hbl5, hcc5⟩ := HI8.out.at (by omega)
                      subst hab5
                      have hcj := hcc5 t hin
                      obtain ⟨m0, m1⟩ := HMEM.out t (by have := HN5.out; omega)
                      by_cases hj1 : 1 < j
                      · have hct := HDN.out hj1 t (by have := HN5.out; omega)
                        have hmm := HMM'.out hj1
                        obtain ⟨x, hx⟩ : ∃ x, T.getD t 0 = x := ⟨_, rfl⟩
                        rw [hx] at hcj m0 m1 hct
                        have HCT := Lib.hid hct
                        have x1 : x ≤ 20000 := by omega
                        have jj : (1 : Int) < (j : Int) := by omega
                        have m'ne : ¬ (M' : Int) = 0 := by omega
                        have HLe := Lib.hid (show T'.length ≤ 1000000 by have := HL4.out; omega)
                        clear hcc5 hx ht hct
                        go_wp2_with fail
                        refine (contains_row _ _ HR8.out HLe.out).mono ?_
                        rintro e w10 ⟨rfl, rfl⟩
                        rw [HCT.out]
                        go_wp2
                        go_roundg (n5 - t - 1)
                        case rel => exact ⟨t + 1, by go_num, by have := HI.out; omega, rfl⟩
                        case measure => have := HI.out; omega
                      · have jj : ¬ (1 : Int) < (j : Int) := by omega
                        obtain ⟨x, hx⟩ : ∃ x, T.getD t 0 = x := ⟨_, rfl⟩
                        rw [hx] at hcj m0 m1
                        clear hcc5 hx ht
                        go_wp2
                        go_roundg (n5 - t - 1)
                        case rel => exact ⟨t + 1, by go_num, by have := HI.out; omega, rfl⟩
                        case measure => have := HI.out; omega
                    · have l1 : ¬ (t : Int) < (n5 : Int) := by omega
                      clear ht hin
                      go_wp2_with fail
                      refine (awake_any _).mono ?_
                      rintro e w10 ⟨rfl, hb⟩
                      have HB10 := Lib.hid (HB8.out.trans (hb.mono HB8.out.size))
                      clear hb
                      go_wp2
                      go_ret
                      exact ⟨rfl, HB10.out⟩
          · have g1 : ¬ (2 : Int) < (q : Int) := by omega
            clear HLE
            go_wp2_with fail
            refine (HL.out _ HB2.out).mono ?_
            rintro e w5 ⟨v5, rfl, hr, hb⟩
            have HR5 := Lib.hid hr
            have HB5 := Lib.hid (HB2.out.trans (hb.mono HB2.out.size))
            clear hr hb
            cases hf : isPoly ys with
            | false =>
              have HF := Lib.hid hf
              clear hf
              go_wp2_with fail
              refine (HRN.out HF.out _ _ _ HR5.out).mono ?_
              rintro e w6 ⟨rfl, hq⟩
              have HB6 := Lib.hid (below_drew HB5.out hq)
              clear hq HR5
              go_wp2_with fail
              refine (HL.out _ HB6.out).mono ?_
              rintro e w7 ⟨v7, rfl, hr, hb⟩
              have HR7 := Lib.hid hr
              have HB7 := Lib.hid (HB6.out.trans (hb.mono HB6.out.size))
              clear hr hb
              go_wp2_with fail
              refine (HRN2.out HF.out _ _ _ HR7.out).mono ?_
              rintro e w8 ⟨rfl, hq⟩
              have HB8 := Lib.hid (below_drew HB7.out hq)
              clear hq HR7
              go_wp2_with fail
              refine (awake_any _).mono ?_
              rintro e w9 ⟨rfl, hb⟩
              have HB9 := Lib.hid (HB8.out.trans (hb.mono HB8.out.size))
              clear hb
              go_wp2
              go_ret
              exact ⟨rfl, HB9.out⟩
            | true =>
              have HF := Lib.hid hf
              clear hf
              go_wp2_with fail
              refine (HRY.out HF.out _ _ _ HR5.out).mono ?_
              rintro e w6 ⟨⟨l5, rfl, hl⟩, hb⟩
              have HB6 := Lib.hid (HB5.out.trans (hb.mono HB5.out.size))
              obtain ⟨a5, n5, c5, rfl, i5, en5⟩ := hl.ints
              have HI5 := Lib.hid i5
              have HN5 := Lib.hid en5
              have hn5 : n5 ≤ 20000 := by have := HL3.out; omega
              clear hb HR5 hl i5 en5
              go_wp2_with fail
              refine (HL.out _ HB6.out).mono ?_
              rintro e w7 ⟨v7, rfl, hr, hb⟩
              have HR7 := Lib.hid hr
              have HB7 := Lib.hid (HB6.out.trans (hb.mono HB6.out.size))
              have HI7 := Lib.hid (HI5.out.below hb)
              clear hr hb HI5
              go_wp2_with fail
              refine (HRY2.out HF.out _ _ _ HR7.out).mono ?_
              rintro e w8 ⟨⟨l8, rfl, hl⟩, hb⟩
              have HB8 := Lib.hid (HB7.out.trans (hb.mono HB7.out.size))
              have HI8 := Lib.hid (HI7.out.below hb)
              have HR8 := Lib.hid hl
              clear hb HR7 hl HI7
              go_wp2
              go_loopg [19, 151] n5 (fun gk s19 s151 w9 => ∃ i : Nat, s151 = .int .i64 (i : Int) ∧ i + gk = n5 ∧ w9 = w8)
              case atStart => exact ⟨0, rfl, by omega, rfl⟩
              case round =>
                obtain ⟨t, rfl, ht, rfl⟩ := hrel
                have HI := Lib.hid ht
                by_cases hin : t < n5
                · have l1 : (t : Int) < (n5 : Int) := by omega
                  have i00 : (0 : Int) ≤ (t : Int) := by omega
                  obtain ⟨b5, off5, hab5, hbl5, hcc5⟩ := HI8.out.at (by omega)
                  subst hab5
                  have hcj := hcc5 t hin
                  obtain ⟨m0, m1⟩ := HMEM.out t (by have := HN5.out; omega)
                  by_cases hj1 : 1 < j
                  · have hct := HDN.out hj1 t (by have := HN5.out; omega)
                    have hmm := HMM'.out hj1
                    obtain ⟨x, hx⟩ : ∃ x, T.getD t 0 = x := ⟨_, rfl⟩
                    rw [hx] at hcj m0 m1 hct
                    have HCT := Lib.hid hct
                    have x1 : x ≤ 20000 := by omega
                    have jj : (1 : Int) < (j : Int) := by omega
                    have m'ne : ¬ (M' : Int) = 0 := by omega
                    have HLe := Lib.hid (show T'.length ≤ 1000000 by have := HL4.out; omega)
                    clear hcc5 hx ht hct
                    go_wp2_with fail
                    refine (contains_row _ _ HR8.out HLe.out).mono ?_
                    rintro e w10 ⟨rfl, rfl⟩
                    rw [HCT.out]
                    go_wp2
                    go_roundg (n5 - t - 1)
                    case rel => exact ⟨t + 1, by go_num, by have := HI.out; omega, rfl⟩
                    case measure => have := HI.out; omega
                  · have jj : ¬ (1 : Int) < (j : Int) := by omega
                    obtain ⟨x, hx⟩ : ∃ x, T.getD t 0 = x := ⟨_, rfl⟩
                    rw [hx] at hcj m0 m1
                    clear hcc5 hx ht
                    go_wp2
                    go_roundg (n5 - t - 1)
                    case rel => exact ⟨t + 1, by go_num, by have := HI.out; omega, rfl⟩
                    case measure => have := HI.out; omega
                · have l1 : ¬ (t : Int) < (n5 : Int) := by omega
                  clear ht hin
                  go_wp2_with fail
                  refine (awake_any _).mono ?_
                  rintro e w10 ⟨rfl, hb⟩
                  have HB10 := Lib.hid (HB8.out.trans (hb.mono HB8.out.size))
                  clear hb
                  go_wp2
                  go_ret
                  exact ⟨rfl, HB10.out⟩

theorem lawSquares_any (a p k : Int) (ad : Option Addr) (n c : Nat) (xs : List Int) (w : World) (h : Ints w ad n xs) (hc : n ≤ c) (hn : n ≤ 4611686018427387904) (hcm : c ≤ maxLen) :
    Calls Try.prog 14 #[.int .i64 a, .int .i64 p, .int .i64 k, .slice ad n c] w fun e w' => e = .returned (.bool true) ∧ Below w.heap.size w w' := by
  cases hh : isPK p k && (decide (-1000000 ≤ a) && decide (a ≤ 1000000)) with
  | false => exact lawSquares_no a p k _ w hh
  | true =>
    simp only [Bool.and_eq_true, decide_eq_true_eq] at hh
    obtain ⟨q, j, rfl, rfl, -⟩ := isPK_spec hh.1
    exact lawSquares_yes a q j ad n c xs w h hc hn hcm hh.1 hh.2.1 hh.2.2
end Go.Proofs.Ytjlaclbgfidiiaa
