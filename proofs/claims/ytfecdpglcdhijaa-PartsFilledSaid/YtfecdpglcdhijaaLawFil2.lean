/- The law PartsFilled where the partition has fillings: its walk. Condition: the slice lies in memory and holds a partition of at most 20. -/
import Derived.Test.YtfecdpglcdhijaaLawFil
namespace Go.Proofs.Ytfecdpglcdhijaa
open Go.RowKit

theorem At.drewN {w W : World} {a : Option Addr} {n : Nat} {xs : List Int} (h : At w W a n xs) (q : Nat) : At w (W.drewN q) a n xs := ⟨below_drewN h.b q, h.i.1, h.i.2⟩
set_option maxHeartbeats 8000000 in
set_option maxRecDepth 100000 in
theorem lawFilled_ok (a : Option Addr) (n c : Nat) (xs : List Int) (m : Int) (w : World) (h : Ints w a n xs) (hP : isP xs = true) (hs : sumL xs ≤ 20) (hc : n ≤ c) (hcm : c ≤ maxLen) :
    Calls Try.prog 14 #[.slice a n c, .int .i64 m] w fun e w' => e = .returned (.bool true) ∧ Below w.heap.size w w' := by
  have HT := Lib.hid (At.start h)
  have HP := Lib.hid hP
  have HSM := Lib.hid hs
  have HC := Lib.hid (And.intro hc hcm)
  have HLEN := Lib.hid h.1
  have hn : n ≤ 30 := by have := isP_len hP; rw [h.1] at this; exact this
  have hbd : ∀ j, j < n → 0 ≤ xs.getD j 0 ∧ xs.getD j 0 ≤ 1000 := fun j hj => by have := isP_at hP (j := j) (by rw [h.1]; exact hj); omega
  have HBD := Lib.hid hbd
  obtain ⟨s1, s2⟩ := isP_sum hP
  obtain ⟨S, hS⟩ : ∃ S : Nat, sumL xs = (S : Int) := ⟨(sumL xs).toNat, by omega⟩
  obtain ⟨f1, f2, f3, f4⟩ := filled_all hP hs
  obtain ⟨p1, p2⟩ := prod_all hP hs
  have hfill : fillF xs = factF S / prodF xs := by unfold fillF; rw [hS]; rfl
  rw [hS] at f2
  rw [show ((S : Int)).toNat = S from rfl] at f2
  have hfact := fact_all (k := S) (by omega)
  rw [h.1] at f1 f3
  have hpf : prodTo (hooksL xs) n = prodF xs := by unfold prodF; rw [h.1]
  have HPF := Lib.hid hpf
  have HCH := Lib.hid f1
  have HCOR := Lib.hid f4
  have hSb : (S : Int) ≤ 20 := by omega
  have HS := Lib.hid hS
  obtain ⟨P, hPP⟩ : ∃ P, prodF xs = P := ⟨_, rfl⟩
  obtain ⟨V, hV⟩ : ∃ V, fillF xs = V := ⟨_, rfl⟩
  rw [hPP] at f2 p1 p2 hfill
  rw [hV] at f3 hfill
  have HV := Lib.hid hV
  have HPP := Lib.hid hPP
  have HF2 := Lib.hid f2
  have HF3 := Lib.hid f3
  have HFL := Lib.hid hfill
  have HFA := Lib.hid hfact
  have HPB := Lib.hid (And.intro p1 p2)
  clear h hP hc hcm hs hbd s1 s2 f1 f2 f3 f4 hfill hfact hpf hS hV hPP p1 p2
  go_enter Try.func14, Try.ntmps14
  go_wp2_with fail
  refine (list_yes a n c xs _ HT.out.i HP.out HC.out.1 HC.out.2).mono ?_
  rintro e w1 ⟨a1, c1, rfl, ho1, hc1, hm1, hb1⟩
  have T1 := Lib.hid (HT.out.later hb1)
  have O1 := Lib.hid (And.intro (Ints.own ho1).1 (And.intro hc1 hm1))
  clear ho1 hc1 hm1 hb1 HT
  go_wp2_with fail
  refine (Fillings_fill a1 n c1 xs _ O1.out.1 HP.out HSM.out O1.out.2.1 O1.out.2.2).mono ?_
  rintro e w2 ⟨rfl, hb2⟩
  rw [HV.out]
  have T2 := Lib.hid (T1.out.later hb2)
  clear hb2 T1 O1
  go_wp2_with fail
  refine (refValid_any a n c xs _ T2.out.i (by omega)).mono ?_
  rintro e w' ⟨rfl, rfl⟩
  rw [HP.out]
  go_wp2_with fail
  refine (Sum_any a n c xs _ T2.out.i (by omega) HBD.out).mono ?_
  rintro e w' ⟨rfl, rfl⟩
  rw [HS.out]
  go_wp2_with fail
  refine (list_yes a n c xs _ T2.out.i HP.out HC.out.1 HC.out.2).mono ?_
  rintro e w3 ⟨a3, c3, rfl, ho3, hc3, hm3, hb3⟩
  have T3 := Lib.hid (T2.out.later hb3)
  have O3 := Lib.hid (And.intro (Ints.own ho3).1 (And.intro hc3 hm3))
  clear ho3 hc3 hm3 hb3 T2
  go_wp2_with fail
  refine (Hooks_yes a3 n c3 xs _ O3.out.1 HP.out O3.out.2.1 O3.out.2.2).mono ?_
  rintro e w4 ⟨gh, rfl, ht4, hb4⟩
  have T4 := Lib.hid (T3.out.later hb4)
  have HTR := Lib.hid ht4.read.1
  clear ht4 hb4 T3 O3
  go_wp2_with fail
  refine (Sum_any a n c xs _ T4.out.i (by omega) HBD.out).mono ?_
  rintro e w' ⟨rfl, rfl⟩
  rw [HS.out]
  go_wp2_with fail
  go_loopg [9, 53] S (fun g1 s i wr => ∃ (k : Nat), k + g1 = S ∧ i = .int .i64 (k : Int) ∧ s = .int .i64 (factF k) ∧ At w wr a n xs ∧ TabR wr (some ⟨gh, 0, none⟩) (hooksL xs))
  case atStart => exact ⟨0, by omega, rfl, rfl, T4.out, HTR.out⟩
  case round =>
    obtain ⟨k, hk, rfl, rfl, ha, ht⟩ := hrel
    have HA := Lib.hid ha
    have HTB := Lib.hid ht
    clear ha ht T4 HTR
    by_cases hkS : k = S
    · have hge : ¬ (k : Int) < (S : Int) := by omega
      obtain ⟨A, hA⟩ : ∃ A, factF S = A := ⟨_, rfl⟩
      rw [hkS, hA]
      have HAA := Lib.hid hA
      have hkS2 : (S : Int) = S := rfl
      have hge2 : ¬ (S : Int) < (S : Int) := by omega
      clear hk hkS hA hge
      go_wp2
      obtain ⟨W4, hW4⟩ : ∃ W4, wr = W4 := ⟨_, rfl⟩
      rw [hW4] at HA HTB ⊢
      clear hW4
      go_loopg [10, 63] n (fun g2 p i wx => ∃ (k : Nat), k + g2 = n ∧ i = .int .i64 (k : Int) ∧ p = .int .i64 (prodTo (hooksL xs) k) ∧ wx = W4)
      case atStart => exact ⟨0, by omega, rfl, rfl, rfl⟩
      case round =>
        obtain ⟨r, hr, rfl, rfl, rfl⟩ := hrel
        by_cases hrn : r = n
        · have hge3 : ¬ (r : Int) < (n : Int) := by omega
          rw [hrn, HPF.out, HPP.out]
          have hge4 : ¬ (n : Int) < (n : Int) := by omega
          clear hr hrn hge3
          go_wp2
          obtain ⟨W6, hW6⟩ : ∃ W6, wr = W6 := ⟨_, rfl⟩
          rw [hW6] at HA ⊢
          clear hW6
          go_loopg [11, 88] n (fun g4 s i wy => ∃ (j : Nat), j + g4 = n ∧ i = .int .i64 (j : Int) ∧ s = .int .i64 (sumTo xs j) ∧ At w wy a n xs)
          case atStart => exact ⟨0, by omega, rfl, rfl, HA.out⟩
          case round =>
            obtain ⟨i, hi, rfl, rfl, ha⟩ := hrel
            have HT5 := Lib.hid ha
            have HI := Lib.hid hi
            clear ha HA HTB
            by_cases hin : i = n
            · have hge6 : ¬ (i : Int) < (n : Int) := by omega
              have hsum := HF3.out
              have hF2 := HF2.out
              rw [HAA.out] at hF2
              have hdv : wrap64 (Int.tdiv A P) = V := by
                have h1 := HFL.out
                rw [HAA.out] at h1
                have h2 := HFA.out
                rw [HAA.out] at h2
                have h3 := HPB.out
                rw [Int.tdiv_eq_ediv_of_nonneg (by omega)]
                have g1 := Int.ediv_nonneg (a := A) (b := P) (by omega) (by omega)
                have g2 := Int.ediv_le_self (a := A) P (by omega)
                rw [← h1] at g1 g2 ⊢
                unfold wrap64
                omega
              have hP0 : ¬ P = 0 := by have := HPB.out; omega
              rw [hin]
              have TB := Lib.hid HT5.out.b
              by_cases hn0 : n = 0
              · have hn1 : ¬ (0 : Int) < (n : Int) := by omega
                obtain ⟨Y, hY⟩ : ∃ Y, sumTo xs n = Y := ⟨_, rfl⟩
                rw [hY]
                clear hsum hn0 hin hi HT5 hY
                by_cases hm0 : m < 0
                · go_wp2_with fail
                  refine (awake_any _).mono ?_
                  rintro e w6 ⟨rfl, hb6⟩
                  have B6 := Lib.hid (TB.out.trans (hb6.mono TB.out.size))
                  clear hb6 TB
                  go_wp2_with fail
                  go_ret
                  exact ⟨rfl, B6.out⟩
                · by_cases hm14 : 14 < m
                  · go_wp2_with fail
                    refine (awake_any _).mono ?_
                    rintro e w6 ⟨rfl, hb6⟩
                    have B6 := Lib.hid (TB.out.trans (hb6.mono TB.out.size))
                    clear hb6 TB
                    go_wp2_with fail
                    go_ret
                    exact ⟨rfl, B6.out⟩
                  · obtain ⟨q, rfl⟩ : ∃ q : Nat, m = (q : Int) := ⟨m.toNat, by omega⟩
                    have hq : q ≤ 14 := by omega
                    have hL := fun W => List_yes q (by omega) W
                    obtain ⟨sq1, sq2⟩ := squares_all hq
                    have hsm := (pF_small q (by omega)).1
                    have hmm := pF_mem 20 q q (by omega)
                    obtain ⟨T, hT⟩ : ∃ T, pF 20 q q = T := ⟨_, rfl⟩
                    obtain ⟨N, hN⟩ : ∃ N, T.length = N := ⟨_, rfl⟩
                    rw [hT] at hL sq1 sq2 hsm hmm
                    rw [hN] at sq1 hsm
                    have HL := Lib.hid hL
                    have HN := Lib.hid hN
                    have HSQ := Lib.hid (And.intro sq1 sq2)
                    have HMM := Lib.hid hmm
                    have HQ := Lib.hid hq
                    have hNs : (N : Int) ≤ 1048576 := by omega
                    have q0 : (0 : Int) ≤ (q : Int) := by omega
                    clear hL sq1 sq2 hT hN hq hsm hmm
                    go_wp2_with fail
                    refine (HL.out _).mono ?_
                    rintro e w2 ⟨a2, c2, rfl, ht, hb2⟩
                    rw [HN.out] at ht ⊢
                    have ht : ∃ B, TabO w2 B (.slice a2 N c2) T := ⟨_, ht⟩
                    obtain ⟨B2, ht⟩ := ht
                    have TB2 := Lib.hid (TB.out.trans (hb2.mono TB.out.size))
                    have HT2 := Lib.hid ht
                    clear ht hb2 TB
                    go_wp2_with fail
                    go_loopg [22, 175] q (fun g5 s i wr => ∃ (k : Nat), k + g5 = q ∧ i = .int .i64 (k : Int) ∧ s = .int .i64 (factF k) ∧ wr = w2)
                    case atStart => exact ⟨0, by omega, rfl, rfl, rfl⟩
                    case round =>
                      obtain ⟨k, hk, rfl, rfl, rfl⟩ := hrel
                      by_cases hkq : k = q
                      · have hge : ¬ (k : Int) < (q : Int) := by omega
                        obtain ⟨F, hF⟩ : ∃ F, factF k = F := ⟨_, rfl⟩
                        have hfq : factF q = F := by rw [← hkq]; exact hF
                        rw [hF]
                        have HFQ := Lib.hid hfq
                        clear hk hkq hF hfq
                        go_wp2
                        obtain ⟨W2, hW2⟩ : ∃ W2, wr = W2 := ⟨_, rfl⟩
                        rw [hW2] at TB2 HT2 ⊢
                        clear hW2
                        go_loopg [23, 185] N (fun g6 s i wx => ∃ (j : Nat), j + g6 = N ∧ i = .int .i64 (j : Int) ∧ s = .int .i64 (sqTo T j) ∧ Below w.heap.size w wx ∧ TabO wx B2 (.slice a2 N c2) T)
                        case atStart => exact ⟨0, by omega, rfl, rfl, TB2.out, HT2.out⟩
                        case round =>
                          obtain ⟨j, hj, rfl, rfl, hbx, htx⟩ := hrel
                          have HBX := Lib.hid hbx
                          have HTX := Lib.hid htx
                          by_cases hjN : j = N
                          · have hge2 : ¬ (j : Int) < (N : Int) := by omega
                            have hfin : sqTo T j = F := by rw [hjN, HSQ.out.1, HFQ.out]
                            rw [hfin]
                            have TB := HBX
                            clear hbx htx hj hjN hfin TB2 HT2 HBX HTX
                            go_wp2_with fail
                            refine (awake_any _).mono ?_
                            rintro e w6 ⟨rfl, hb6⟩
                            have B6 := Lib.hid (TB.out.trans (hb6.mono TB.out.size))
                            clear hb6 TB
                            go_wp2_with fail
                            go_ret
                            exact ⟨rfl, B6.out⟩
                          · have hlt2 : (j : Int) < (N : Int) := by omega
                            have hjn : j < N := by omega
                            have HJ := Lib.hid hj
                            obtain ⟨bl, g, ci, rfl, hcl, hin, hlc, hcm⟩ := htx.elem (i := j) (by rw [HN.out]; omega)
                            have hmem : nthL T j ∈ T := nthL_mem (by rw [HN.out]; omega)
                            obtain ⟨xP, xS⟩ := HSQ.out.2 _ hmem
                            have hsqn : sqTo T (j + 1) = wrap64 (sqTo T j + wrap64 (fillF (nthL T j) * fillF (nthL T j))) := rfl
                            have hFi := fun WW h => Fillings_fill (some ⟨g, 0, none⟩) (nthL T j).length ci (nthL T j) WW h xP xS hlc hcm
                            obtain ⟨x, hx⟩ : ∃ x, nthL T j = x := ⟨_, rfl⟩
                            rw [hx] at hcl hin hFi hsqn
                            obtain ⟨xl, hxl⟩ : ∃ l, x.length = l := ⟨_, rfl⟩
                            rw [hxl] at hcl hin hFi
                            obtain ⟨V, hV⟩ : ∃ V, fillF x = V := ⟨_, rfl⟩
                            rw [hV] at hFi hsqn
                            obtain ⟨Q, hQ⟩ : ∃ Q, sqTo T j = Q := ⟨_, rfl⟩
                            rw [hQ] at hsqn ⊢
                            have HFI := Lib.hid hFi
                            have HIN := Lib.hid hin
                            have HSN := Lib.hid hsqn
                            have j0 : (0 : Int) ≤ (j : Int) := by omega
                            clear hbx htx hin hlc hcm hmem xP xS hsqn hFi hx hxl hV hQ hj hjN TB2 HT2
                            go_wp2_with fail
                            refine (HFI.out _ HIN.out).mono ?_
                            rintro e W4 ⟨rfl, hb4⟩
                            have K1 := Lib.hid (HBX.out.trans (hb4.mono HBX.out.size))
                            have K2 := Lib.hid (HTX.out.below hb4)
                            clear hb4 HBX HTX HIN
                            go_wp2
                            go_roundg (N - j - 1)
                            case rel => exact ⟨j + 1, by have := HJ.out; omega, by go_num, by rw [HSN.out], K1.out, K2.out⟩
                            case measure => have := HJ.out; omega
                      · have hlt : (k : Int) < (q : Int) := by omega
                        have HK := Lib.hid hk
                        have hkb := HQ.out
                        have k0 : (0 : Int) ≤ (k : Int) := by omega
                        obtain ⟨F, hF⟩ : ∃ F, factF k = F := ⟨_, rfl⟩
                        have hnx : factF (k + 1) = wrap64 (F * ((k : Int) + 1)) := by rw [← hF]; rfl
                        rw [hF]
                        have HNX := Lib.hid hnx
                        clear hF hnx hk hkq
                        go_wp2
                        go_roundg (q - k - 1)
                        case rel => exact ⟨k + 1, by have := HK.out; omega, by go_num, by rw [HNX.out], rfl⟩
                        case measure => have := HK.out; omega
              · have hn1 : (0 : Int) < (n : Int) := by omega
                rw [← hsum hn0]
                clear hsum hn0 hin hi HT5
                by_cases hm0 : m < 0
                · go_wp2_with fail
                  refine (awake_any _).mono ?_
                  rintro e w6 ⟨rfl, hb6⟩
                  have B6 := Lib.hid (TB.out.trans (hb6.mono TB.out.size))
                  clear hb6 TB
                  go_wp2_with fail
                  go_ret
                  exact ⟨rfl, B6.out⟩
                · by_cases hm14 : 14 < m
                  · go_wp2_with fail
                    refine (awake_any _).mono ?_
                    rintro e w6 ⟨rfl, hb6⟩
                    have B6 := Lib.hid (TB.out.trans (hb6.mono TB.out.size))
                    clear hb6 TB
                    go_wp2_with fail
                    go_ret
                    exact ⟨rfl, B6.out⟩
                  · obtain ⟨q, rfl⟩ : ∃ q : Nat, m = (q : Int) := ⟨m.toNat, by omega⟩
                    have hq : q ≤ 14 := by omega
                    have hL := fun W => List_yes q (by omega) W
                    obtain ⟨sq1, sq2⟩ := squares_all hq
                    have hsm := (pF_small q (by omega)).1
                    have hmm := pF_mem 20 q q (by omega)
                    obtain ⟨T, hT⟩ : ∃ T, pF 20 q q = T := ⟨_, rfl⟩
                    obtain ⟨N, hN⟩ : ∃ N, T.length = N := ⟨_, rfl⟩
                    rw [hT] at hL sq1 sq2 hsm hmm
                    rw [hN] at sq1 hsm
                    have HL := Lib.hid hL
                    have HN := Lib.hid hN
                    have HSQ := Lib.hid (And.intro sq1 sq2)
                    have HMM := Lib.hid hmm
                    have HQ := Lib.hid hq
                    have hNs : (N : Int) ≤ 1048576 := by omega
                    have q0 : (0 : Int) ≤ (q : Int) := by omega
                    clear hL sq1 sq2 hT hN hq hsm hmm
                    go_wp2_with fail
                    refine (HL.out _).mono ?_
                    rintro e w2 ⟨a2, c2, rfl, ht, hb2⟩
                    rw [HN.out] at ht ⊢
                    have ht : ∃ B, TabO w2 B (.slice a2 N c2) T := ⟨_, ht⟩
                    obtain ⟨B2, ht⟩ := ht
                    have TB2 := Lib.hid (TB.out.trans (hb2.mono TB.out.size))
                    have HT2 := Lib.hid ht
                    clear ht hb2 TB
                    go_wp2_with fail
                    go_loopg [22, 175] q (fun g5 s i wr => ∃ (k : Nat), k + g5 = q ∧ i = .int .i64 (k : Int) ∧ s = .int .i64 (factF k) ∧ wr = w2)
                    case atStart => exact ⟨0, by omega, rfl, rfl, rfl⟩
                    case round =>
                      obtain ⟨k, hk, rfl, rfl, rfl⟩ := hrel
                      by_cases hkq : k = q
                      · have hge : ¬ (k : Int) < (q : Int) := by omega
                        obtain ⟨F, hF⟩ : ∃ F, factF k = F := ⟨_, rfl⟩
                        have hfq : factF q = F := by rw [← hkq]; exact hF
                        rw [hF]
                        have HFQ := Lib.hid hfq
                        clear hk hkq hF hfq
                        go_wp2
                        obtain ⟨W2, hW2⟩ : ∃ W2, wr = W2 := ⟨_, rfl⟩
                        rw [hW2] at TB2 HT2 ⊢
                        clear hW2
                        go_loopg [23, 185] N (fun g6 s i wx => ∃ (j : Nat), j + g6 = N ∧ i = .int .i64 (j : Int) ∧ s = .int .i64 (sqTo T j) ∧ Below w.heap.size w wx ∧ TabO wx B2 (.slice a2 N c2) T)
                        case atStart => exact ⟨0, by omega, rfl, rfl, TB2.out, HT2.out⟩
                        case round =>
                          obtain ⟨j, hj, rfl, rfl, hbx, htx⟩ := hrel
                          have HBX := Lib.hid hbx
                          have HTX := Lib.hid htx
                          by_cases hjN : j = N
                          · have hge2 : ¬ (j : Int) < (N : Int) := by omega
                            have hfin : sqTo T j = F := by rw [hjN, HSQ.out.1, HFQ.out]
                            rw [hfin]
                            have TB := HBX
                            clear hbx htx hj hjN hfin TB2 HT2 HBX HTX
                            go_wp2_with fail
                            refine (awake_any _).mono ?_
                            rintro e w6 ⟨rfl, hb6⟩
                            have B6 := Lib.hid (TB.out.trans (hb6.mono TB.out.size))
                            clear hb6 TB
                            go_wp2_with fail
                            go_ret
                            exact ⟨rfl, B6.out⟩
                          · have hlt2 : (j : Int) < (N : Int) := by omega
                            have hjn : j < N := by omega
                            have HJ := Lib.hid hj
                            obtain ⟨bl, g, ci, rfl, hcl, hin, hlc, hcm⟩ := htx.elem (i := j) (by rw [HN.out]; omega)
                            have hmem : nthL T j ∈ T := nthL_mem (by rw [HN.out]; omega)
                            obtain ⟨xP, xS⟩ := HSQ.out.2 _ hmem
                            have hsqn : sqTo T (j + 1) = wrap64 (sqTo T j + wrap64 (fillF (nthL T j) * fillF (nthL T j))) := rfl
                            have hFi := fun WW h => Fillings_fill (some ⟨g, 0, none⟩) (nthL T j).length ci (nthL T j) WW h xP xS hlc hcm
                            obtain ⟨x, hx⟩ : ∃ x, nthL T j = x := ⟨_, rfl⟩
                            rw [hx] at hcl hin hFi hsqn
                            obtain ⟨xl, hxl⟩ : ∃ l, x.length = l := ⟨_, rfl⟩
                            rw [hxl] at hcl hin hFi
                            obtain ⟨V, hV⟩ : ∃ V, fillF x = V := ⟨_, rfl⟩
                            rw [hV] at hFi hsqn
                            obtain ⟨Q, hQ⟩ : ∃ Q, sqTo T j = Q := ⟨_, rfl⟩
                            rw [hQ] at hsqn ⊢
                            have HFI := Lib.hid hFi
                            have HIN := Lib.hid hin
                            have HSN := Lib.hid hsqn
                            have j0 : (0 : Int) ≤ (j : Int) := by omega
                            clear hbx htx hin hlc hcm hmem xP xS hsqn hFi hx hxl hV hQ hj hjN TB2 HT2
                            go_wp2_with fail
                            refine (HFI.out _ HIN.out).mono ?_
                            rintro e W4 ⟨rfl, hb4⟩
                            have K1 := Lib.hid (HBX.out.trans (hb4.mono HBX.out.size))
                            have K2 := Lib.hid (HTX.out.below hb4)
                            clear hb4 HBX HTX HIN
                            go_wp2
                            go_roundg (N - j - 1)
                            case rel => exact ⟨j + 1, by have := HJ.out; omega, by go_num, by rw [HSN.out], K1.out, K2.out⟩
                            case measure => have := HJ.out; omega
                      · have hlt : (k : Int) < (q : Int) := by omega
                        have HK := Lib.hid hk
                        have hkb := HQ.out
                        have k0 : (0 : Int) ≤ (k : Int) := by omega
                        obtain ⟨F, hF⟩ : ∃ F, factF k = F := ⟨_, rfl⟩
                        have hnx : factF (k + 1) = wrap64 (F * ((k : Int) + 1)) := by rw [← hF]; rfl
                        rw [hF]
                        have HNX := Lib.hid hnx
                        clear hF hnx hk hkq
                        go_wp2
                        go_roundg (q - k - 1)
                        case rel => exact ⟨k + 1, by have := HK.out; omega, by go_num, by rw [HNX.out], rfl⟩
                        case measure => have := HK.out; omega
            · have hin : i < n := by omega
              have hlt6 : (i : Int) < (n : Int) := by omega
              obtain ⟨b, off, rfl, -, hc⟩ := HT5.out.i.at (by omega)
              have e0 := hc i hin
              obtain ⟨xb1, xb2⟩ := isP_at HP.out (j := i) (by rw [HLEN.out]; exact hin)
              obtain ⟨x, hx⟩ : ∃ x, xs.getD i 0 = x := ⟨_, rfl⟩
              obtain ⟨s, hs⟩ : ∃ s, sumTo xs i = s := ⟨_, rfl⟩
              rw [hs]
              have HSI := Lib.hid hs
              have HX := Lib.hid hx
              rw [hx] at e0 xb1 xb2
              have i0 : (0 : Int) ≤ (i : Int) := by omega
              by_cases h1 : i + 1 < n
              · have h1' : (i : Int) + 1 < (n : Int) := by omega
                have e1 := hc (i + 1) h1
                obtain ⟨y, hy⟩ : ∃ y, xs.getD (i + 1) 0 = y := ⟨_, rfl⟩
                rw [hy] at e1
                by_cases hxy : y = x
                · have hcf : corner xs i = false := by
                    unfold corner
                    rw [HLEN.out, hy, hx, hxy, decide_eq_true h1, beq_self_eq_true]
                    rfl
                  have hsn : sumTo xs (i + 1) = s := by
                    show (if corner xs i = true then wrap64 (sumTo xs i + fillF (lessL xs i)) else sumTo xs i) = _
                    rw [hcf, hs]
                    rfl
                  rw [hxy] at e1
                  have HSN := Lib.hid hsn
                  clear hy hxy hcf hsn hs hx hc hi hin
                  go_wp2
                  go_quiet (fail)
                  go_wp2
                  go_roundg (n - i - 1)
                  case rel => exact ⟨i + 1, by have := HI.out; omega, by go_num, by rw [HSN.out], HT5.out.drewN _⟩
                  case measure => have := HI.out; omega
                · have hcr : corner xs i = true := by
                    unfold corner
                    rw [hy, hx, beq_eq_false_iff_ne.2 hxy, Bool.and_false]
                    rfl
                  clear hy hs hx hc hi
                  go_wp2
                  go_quiet (fail)
                  have CRN := Lib.hid hcr
                  have CR := Lib.hid (HCOR.out i (by rw [HLEN.out]; exact hin) hcr)
                  have TT := Lib.hid (HT5.out.drewN nq)
                  clear hcr HT5
                  go_wp2_with fail
                  refine (list_yes _ n c xs _ TT.out.i HP.out HC.out.1 HC.out.2).mono ?_
                  rintro e W3 ⟨ao, co, rfl, ho, hco, hcom, hb3⟩
                  obtain ⟨g, cap, hgc⟩ := own_form ho (by omega)
                  cases hgc
                  have HB3 := Lib.hid hb3
                  have E := Lib.hid (RS.of ho hb3)
                  have HCO := Lib.hid (And.intro hco hcom)
                  have D := Lib.hid (E.out.put i (x - 1))
                  clear ho hco hcom hb3
                  by_cases hz : x - 1 = 0
                  · have hl2 : lessL xs i = xs.take i := by
                      unfold lessL
                      rw [HX.out, if_pos hz]
                    have hint : Ints (W3.setCell ⟨g, i, none⟩ (.int .i64 (x - 1))) (some ⟨g, 0, none⟩) i (lessL xs i) := by
                      rw [hl2]
                      refine (D.out.cut (m := i) (by omega)).ints (by rw [List.length_take, HLEN.out]; omega) fun j hj => ?_
                      rw [if_neg (by omega)]; simp [List.getD, hj]
                    have hFi := Fillings_fill (some ⟨g, 0, none⟩) i co (lessL xs i) _ hint CR.out.1 CR.out.2 (by have := HCO.out.1; omega) HCO.out.2
                    obtain ⟨V, hV⟩ : ∃ V, fillF (lessL xs i) = V := ⟨_, rfl⟩
                    rw [hV] at hFi
                    have hsn : sumTo xs (i + 1) = wrap64 (s + V) := by
                      show (if corner xs i = true then wrap64 (sumTo xs i + fillF (lessL xs i)) else sumTo xs i) = _
                      rw [if_pos CRN.out, HSI.out, hV]
                    have HSN := Lib.hid hsn
                    have HFI := Lib.hid hFi
                    have e1 := E.out.cell (j := i) (by omega)
                    have f1 := E.out.frozen i
                    rw [HX.out] at e1
                    have e2 := D.out.cell (j := i) (by omega)
                    rw [if_pos rfl] at e2
                    have HB := Lib.hid D.out.b
                    have hin0 : (i : Int) < (n : Int) := by omega
                    have hin9 : (i : Int) ≤ (co : Int) := by have := HCO.out.1; omega
                    have hin8 : i ≤ co := by have := HCO.out.1; omega
                    rw [hz] at HFI HB e2
                    clear hl2 hint hFi hV hsn
                    go_wp2_with fail
                    refine HFI.out.mono ?_
                    rintro e W5 ⟨rfl, hb5⟩
                    have T5 := Lib.hid ((TT.out.later HB.out).later hb5)
                    clear hb5
                    go_wp2
                    go_roundg (n - i - 1)
                    case rel => exact ⟨i + 1, by have := HI.out; omega, by go_num, by rw [HSN.out], T5.out⟩
                    case measure => have := HI.out; omega
                  · have hl2 : lessL xs i = xs.set i (x - 1) := by
                      unfold lessL
                      rw [HX.out, if_neg hz]
                    have hint : Ints (W3.setCell ⟨g, i, none⟩ (.int .i64 (x - 1))) (some ⟨g, 0, none⟩) n (lessL xs i) := by
                      rw [hl2]
                      refine (D.out).ints (by rw [List.length_set, HLEN.out]) fun j hj => ?_
                      have hjl : j < xs.length := by rw [HLEN.out]; exact hj
                      rw [← HX.out, List.getD_eq_getElem?_getD (l := xs.set _ _)]
                      by_cases hji : j = i
                      · rw [if_pos hji, ← hji, List.getElem?_set_self hjl]
                        rfl
                      · rw [if_neg hji, List.getElem?_set_ne (fun e => hji e.symm)]
                        exact List.getD_eq_getElem?_getD
                    have hFi := Fillings_fill (some ⟨g, 0, none⟩) n co (lessL xs i) _ hint CR.out.1 CR.out.2 HCO.out.1 HCO.out.2
                    obtain ⟨V, hV⟩ : ∃ V, fillF (lessL xs i) = V := ⟨_, rfl⟩
                    rw [hV] at hFi
                    have hsn : sumTo xs (i + 1) = wrap64 (s + V) := by
                      show (if corner xs i = true then wrap64 (sumTo xs i + fillF (lessL xs i)) else sumTo xs i) = _
                      rw [if_pos CRN.out, HSI.out, hV]
                    have HSN := Lib.hid hsn
                    have HFI := Lib.hid hFi
                    have e1 := E.out.cell (j := i) (by omega)
                    have f1 := E.out.frozen i
                    rw [HX.out] at e1
                    have e2 := D.out.cell (j := i) (by omega)
                    rw [if_pos rfl] at e2
                    have HB := Lib.hid D.out.b
                    have hin0 : (i : Int) < (n : Int) := by omega
                    have hin9 : (i : Int) ≤ (co : Int) := by have := HCO.out.1; omega
                    have hin8 : i ≤ co := by have := HCO.out.1; omega
                    skip
                    clear hl2 hint hFi hV hsn
                    go_wp2_with fail
                    refine HFI.out.mono ?_
                    rintro e W5 ⟨rfl, hb5⟩
                    have T5 := Lib.hid ((TT.out.later HB.out).later hb5)
                    clear hb5
                    go_wp2
                    go_roundg (n - i - 1)
                    case rel => exact ⟨i + 1, by have := HI.out; omega, by go_num, by rw [HSN.out], T5.out⟩
                    case measure => have := HI.out; omega
              · have h1' : ¬ (i : Int) + 1 < (n : Int) := by omega
                have hcr : corner xs i = true := by
                  unfold corner
                  rw [HLEN.out, decide_eq_false h1, Bool.false_and]
                  rfl
                clear hs hx hc hi
                have hd1 : decide ((i : Int) + 1 < (n : Int)) = false := decide_eq_false h1'
                go_wp2
                go_quiet (fail)
                have CRN := Lib.hid hcr
                have CR := Lib.hid (HCOR.out i (by rw [HLEN.out]; exact hin) hcr)
                have TT := Lib.hid (HT5.out.drewN nq)
                clear hcr HT5
                go_wp2_with fail
                refine (list_yes _ n c xs _ TT.out.i HP.out HC.out.1 HC.out.2).mono ?_
                rintro e W3 ⟨ao, co, rfl, ho, hco, hcom, hb3⟩
                obtain ⟨g, cap, hgc⟩ := own_form ho (by omega)
                cases hgc
                have HB3 := Lib.hid hb3
                have E := Lib.hid (RS.of ho hb3)
                have HCO := Lib.hid (And.intro hco hcom)
                have D := Lib.hid (E.out.put i (x - 1))
                clear ho hco hcom hb3
                by_cases hz : x - 1 = 0
                · have hl2 : lessL xs i = xs.take i := by
                    unfold lessL
                    rw [HX.out, if_pos hz]
                  have hint : Ints (W3.setCell ⟨g, i, none⟩ (.int .i64 (x - 1))) (some ⟨g, 0, none⟩) i (lessL xs i) := by
                    rw [hl2]
                    refine (D.out.cut (m := i) (by omega)).ints (by rw [List.length_take, HLEN.out]; omega) fun j hj => ?_
                    rw [if_neg (by omega)]; simp [List.getD, hj]
                  have hFi := Fillings_fill (some ⟨g, 0, none⟩) i co (lessL xs i) _ hint CR.out.1 CR.out.2 (by have := HCO.out.1; omega) HCO.out.2
                  obtain ⟨V, hV⟩ : ∃ V, fillF (lessL xs i) = V := ⟨_, rfl⟩
                  rw [hV] at hFi
                  have hsn : sumTo xs (i + 1) = wrap64 (s + V) := by
                    show (if corner xs i = true then wrap64 (sumTo xs i + fillF (lessL xs i)) else sumTo xs i) = _
                    rw [if_pos CRN.out, HSI.out, hV]
                  have HSN := Lib.hid hsn
                  have HFI := Lib.hid hFi
                  have e1 := E.out.cell (j := i) (by omega)
                  have f1 := E.out.frozen i
                  rw [HX.out] at e1
                  have e2 := D.out.cell (j := i) (by omega)
                  rw [if_pos rfl] at e2
                  have HB := Lib.hid D.out.b
                  have hin0 : (i : Int) < (n : Int) := by omega
                  have hin9 : (i : Int) ≤ (co : Int) := by have := HCO.out.1; omega
                  have hin8 : i ≤ co := by have := HCO.out.1; omega
                  rw [hz] at HFI HB e2
                  clear hl2 hint hFi hV hsn
                  go_wp2_with fail
                  refine HFI.out.mono ?_
                  rintro e W5 ⟨rfl, hb5⟩
                  have T5 := Lib.hid ((TT.out.later HB.out).later hb5)
                  clear hb5
                  go_wp2
                  go_roundg (n - i - 1)
                  case rel => exact ⟨i + 1, by have := HI.out; omega, by go_num, by rw [HSN.out], T5.out⟩
                  case measure => have := HI.out; omega
                · have hl2 : lessL xs i = xs.set i (x - 1) := by
                    unfold lessL
                    rw [HX.out, if_neg hz]
                  have hint : Ints (W3.setCell ⟨g, i, none⟩ (.int .i64 (x - 1))) (some ⟨g, 0, none⟩) n (lessL xs i) := by
                    rw [hl2]
                    refine (D.out).ints (by rw [List.length_set, HLEN.out]) fun j hj => ?_
                    have hjl : j < xs.length := by rw [HLEN.out]; exact hj
                    rw [← HX.out, List.getD_eq_getElem?_getD (l := xs.set _ _)]
                    by_cases hji : j = i
                    · rw [if_pos hji, ← hji, List.getElem?_set_self hjl]
                      rfl
                    · rw [if_neg hji, List.getElem?_set_ne (fun e => hji e.symm)]
                      exact List.getD_eq_getElem?_getD
                  have hFi := Fillings_fill (some ⟨g, 0, none⟩) n co (lessL xs i) _ hint CR.out.1 CR.out.2 HCO.out.1 HCO.out.2
                  obtain ⟨V, hV⟩ : ∃ V, fillF (lessL xs i) = V := ⟨_, rfl⟩
                  rw [hV] at hFi
                  have hsn : sumTo xs (i + 1) = wrap64 (s + V) := by
                    show (if corner xs i = true then wrap64 (sumTo xs i + fillF (lessL xs i)) else sumTo xs i) = _
                    rw [if_pos CRN.out, HSI.out, hV]
                  have HSN := Lib.hid hsn
                  have HFI := Lib.hid hFi
                  have e1 := E.out.cell (j := i) (by omega)
                  have f1 := E.out.frozen i
                  rw [HX.out] at e1
                  have e2 := D.out.cell (j := i) (by omega)
                  rw [if_pos rfl] at e2
                  have HB := Lib.hid D.out.b
                  have hin0 : (i : Int) < (n : Int) := by omega
                  have hin9 : (i : Int) ≤ (co : Int) := by have := HCO.out.1; omega
                  have hin8 : i ≤ co := by have := HCO.out.1; omega
                  skip
                  clear hl2 hint hFi hV hsn
                  go_wp2_with fail
                  refine HFI.out.mono ?_
                  rintro e W5 ⟨rfl, hb5⟩
                  have T5 := Lib.hid ((TT.out.later HB.out).later hb5)
                  clear hb5
                  go_wp2
                  go_roundg (n - i - 1)
                  case rel => exact ⟨i + 1, by have := HI.out; omega, by go_num, by rw [HSN.out], T5.out⟩
                  case measure => have := HI.out; omega
        · have hlt3 : (r : Int) < (n : Int) := by omega
          have hrn2 : r < n := by omega
          have HR := Lib.hid hr
          have hll : (hooksL xs).length = n := by rw [hooksL_len, HLEN.out]
          obtain ⟨bl, off, hbe, -, hcs⟩ := HTB.out.resolve_left (by omega)
          cases hbe
          obtain ⟨ai, ci, hcl, hin⟩ := hcs r (by omega)
          rw [Nat.zero_add] at hcl
          have hch := fun j => HCH.out r hrn2 j
          have hst := prodTo_succ (L := hooksL xs) (i := r) (by omega)
          have hsml := hooksL_small HP.out _ (nthL_mem (L := hooksL xs) (i := r) (by omega))
          obtain ⟨row, hrow⟩ : ∃ row, nthL (hooksL xs) r = row := ⟨_, rfl⟩
          rw [hrow] at hcl hin hch hst hsml
          obtain ⟨L, hL⟩ : ∃ L, row.length = L := ⟨_, rfl⟩
          rw [hL] at hcl hin hch hsml
          have hLb : (L : Int) ≤ 1000 := by omega
          obtain ⟨P0, hP0⟩ : ∃ P0, prodTo (hooksL xs) r = P0 := ⟨_, rfl⟩
          rw [hP0] at hch hst ⊢
          have HCR := Lib.hid hch
          have HST := Lib.hid hst
          have HIN := Lib.hid hin
          have HL := Lib.hid hL
          have r0 : (0 : Int) ≤ (r : Int) := by omega
          clear hcs hin hch hst hrow hL hP0 hr hrn hll hsml
          go_wp2
          obtain ⟨W5, hW5⟩ : ∃ W5, wr = W5 := ⟨_, rfl⟩
          rw [hW5] at HA HTB HIN hcl ⊢
          go_loopg [10, 69] L (fun g3 p i wy => ∃ (j : Nat), j + g3 = L ∧ i = .int .i64 (j : Int) ∧ p = .int .i64 (mulF P0 (row.take j)) ∧ wy = W5)
          case atStart => exact ⟨0, by omega, rfl, rfl, rfl⟩
          case round =>
            obtain ⟨j, hj, rfl, rfl, rfl⟩ := hrel
            have HJ := Lib.hid hj
            by_cases hjL : j = L
            · have hge5 : ¬ (j : Int) < (L : Int) := by omega
              have hfin : mulF P0 (row.take j) = prodTo (hooksL xs) (r + 1) := by rw [HST.out, List.take_of_length_le (by have := HL.out; omega)]
              rw [hfin]
              have HW5 := Lib.hid hW5
              clear hj hjL hfin hW5
              go_wp2
              go_roundg (n - r - 1)
              case rel => exact ⟨r + 1, by have := HR.out; omega, by go_num, rfl, by rw [← HW5.out]⟩
              case measure => have := HR.out; omega
            · have hlt5 : (j : Int) < (L : Int) := by omega
              have hjl : j < L := by omega
              obtain ⟨b6, off6, rfl, -, hc6⟩ := HIN.out.at (by omega)
              have e6 := hc6 j hjl
              obtain ⟨x1, x2⟩ := HCR.out j hjl
              have hmt := mulF_take (p := P0) (row := row) (j := j) (by rw [HL.out]; exact hjl)
              obtain ⟨x, hx⟩ : ∃ x, row.getD j 0 = x := ⟨_, rfl⟩
              obtain ⟨M, hM⟩ : ∃ M, mulF P0 (row.take j) = M := ⟨_, rfl⟩
              rw [hx] at e6 x1 x2 hmt
              rw [hM] at x2 hmt ⊢
              have hx1 : ¬ x < 1 := by omega
              have hx0 : ¬ x = 0 := by omega
              have hqw : wrap64 (Int.tdiv 4611686018427387904 x) = Int.tdiv 4611686018427387904 x := by
                rw [Int.tdiv_eq_ediv_of_nonneg (by omega)]
                have g1 := Int.ediv_nonneg (a := 4611686018427387904) (b := x) (by omega) (by omega)
                have g2 := Int.ediv_le_self (a := 4611686018427387904) x (by omega)
                obtain ⟨Z, hZ⟩ : ∃ Z, (4611686018427387904 : Int) / x = Z := ⟨_, rfl⟩
                rw [hZ] at g1 g2 ⊢
                unfold wrap64
                omega
              obtain ⟨Q, hQ⟩ : ∃ Q, Int.tdiv 4611686018427387904 x = Q := ⟨_, rfl⟩
              rw [hQ] at x2 hqw
              have hMQ : ¬ Q < M := by omega
              have HMT := Lib.hid hmt
              have HW5 := Lib.hid hW5
              have j0 : (0 : Int) ≤ (j : Int) := by omega
              clear hc6 x1 x2 hx hM hmt hj hjL hW5
              go_wp2
              go_roundg (L - j - 1)
              case rel => exact ⟨j + 1, by have := HJ.out; omega, by go_num, by rw [HMT.out], rfl⟩
              case measure => have := HJ.out; omega
    · have hlt : (k : Int) < (S : Int) := by omega
      have HK := Lib.hid hk
      have k0 : (0 : Int) ≤ (k : Int) := by omega
      obtain ⟨F, hF⟩ : ∃ F, factF k = F := ⟨_, rfl⟩
      have hnx : factF (k + 1) = wrap64 (F * ((k : Int) + 1)) := by rw [← hF]; rfl
      rw [hF]
      have HNX := Lib.hid hnx
      clear hF hnx hk hkS
      go_wp2
      go_roundg (S - k - 1)
      case rel => exact ⟨k + 1, by have := HK.out; omega, by go_num, by rw [HNX.out], HA.out, HTB.out⟩
      case measure => have := HK.out; omega
end Go.Proofs.Ytfecdpglcdhijaa
