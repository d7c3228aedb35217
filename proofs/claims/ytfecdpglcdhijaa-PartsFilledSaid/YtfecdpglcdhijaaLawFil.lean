/- The law PartsFilled: its walk in every case. Condition: the slice lies in memory. -/
import Derived.Test.YtfecdpglcdhijaaFillAll
import Derived.Test.YtfecdpglcdhijaaLawLists
import Derived.Test.YtfecdpglcdhijaaLawHooks
namespace Go.Proofs.Ytfecdpglcdhijaa
open Go.RowKit

theorem Fillings_fill (a : Option Addr) (n c : Nat) (xs : List Int) (w : World) (h : Ints w a n xs) (hP : isP xs = true) (hs : sumL xs ≤ 20) (hcn : n ≤ c) (hcm : c ≤ maxLen) :
    Calls Try.prog 47 #[.slice a n c] w fun e w' => e = .returned (.tuple #[.int .i64 (fillF xs), .int .i64 0]) ∧ Below w.heap.size w w' := Fillings_yes a n c xs w h hP hs hcn hcm
theorem TabO.elem {W : World} {B n c : Nat} {a : Option Addr} {L : List (List Int)} (h : TabO W B (.slice a n c) L) {i : Nat} (hi : i < L.length) : ∃ bl g ci, a = some ⟨bl, 0, none⟩ ∧ W.cell? ⟨bl, i, none⟩ = some (.slice (some ⟨g, 0, none⟩) (nthL L i).length ci) ∧ Ints W (some ⟨g, 0, none⟩) (nthL L i).length (nthL L i) ∧ (nthL L i).length ≤ ci ∧ ci ≤ maxLen := by
  obtain ⟨vs, h1, h2⟩ := h
  obtain ⟨gi, ci, h7, h8⟩ := h2 i hi
  rcases h1.2 with ⟨h3, h4⟩ | ⟨g, cap, cur, h3, -, -, -, -, -⟩
  · omega
  · cases h3
    refine ⟨g, gi, ci, rfl, by rw [h1.cellAt i (by omega), h7], (Ints.own h8).1, ?_⟩
    rcases h8.2 with ⟨e, _⟩ | ⟨g', cap', cur', e1, e2, e3, e4, e5, _⟩
    · cases e
    · cases e1
      exact ⟨e4, e5⟩

set_option maxHeartbeats 4000000 in
set_option maxRecDepth 100000 in
theorem lawFilled_no (a : Option Addr) (n c : Nat) (xs : List Int) (m : Int) (w : World) (h : Ints w a n xs) (hP : isP xs = false) (hc : n ≤ c) (hn : n ≤ 4611686018427387904) (hcm : c ≤ maxLen) :
    Calls Try.prog 14 #[.slice a n c, .int .i64 m] w fun e w' => e = .returned (.bool true) ∧ Below w.heap.size w w' := by
  have HT := Lib.hid (At.start h)
  have HP := Lib.hid hP
  have HC := Lib.hid (And.intro hc (And.intro hn hcm))
  clear h hP hc hn hcm
  go_enter Try.func14, Try.ntmps14
  go_wp2_with fail
  refine (list_no a n c xs _ HT.out.i HP.out HC.out.1 HC.out.2.1 HC.out.2.2).mono ?_
  rintro e w1 ⟨a1, c1, m1, ys1, rfl, hm1, hy1, ho1, -, -, hb1⟩
  have T1 := Lib.hid (HT.out.later hb1)
  have O1 := Lib.hid (And.intro (Ints.own ho1).1 hy1)
  clear ho1 hy1 hb1 HT
  go_wp2_with fail
  refine (Fillings_no a1 m1 c1 ys1 _ O1.out.1 (by rw [O1.out.2, Bool.false_and]) (by omega)).mono ?_
  rintro e w' ⟨rfl, rfl⟩
  clear O1
  have TB := Lib.hid T1.out.b
  clear T1 hm1
  by_cases hm0 : m < 0
  · go_wp2_with fail
    refine (awake_any _).mono ?_
    rintro e w6 ⟨rfl, hb6⟩
    have B6 := Lib.hid (TB.out.trans (hb6.mono TB.out.size))
    clear hb6 TB
    go_wp2_with fail
    go_ret
    exact ⟨rfl, B6.out⟩
  · by_cases hm14 : 14 < m
    · go_wp2_with fail
      refine (awake_any _).mono ?_
      rintro e w6 ⟨rfl, hb6⟩
      have B6 := Lib.hid (TB.out.trans (hb6.mono TB.out.size))
      clear hb6 TB
      go_wp2_with fail
      go_ret
      exact ⟨rfl, B6.out⟩
    · obtain ⟨q, rfl⟩ : ∃ q : Nat, m = (q : Int) := ⟨m.toNat, by omega⟩
      have hq : q ≤ 14 := by omega
      have hL := fun W => List_yes q (by omega) W
      obtain ⟨sq1, sq2⟩ := squares_all hq
      have hsm := (pF_small q (by omega)).1
      have hmm := pF_mem 20 q q (by omega)
      obtain ⟨T, hT⟩ : ∃ T, pF 20 q q = T := ⟨_, rfl⟩
      obtain ⟨N, hN⟩ : ∃ N, T.length = N := ⟨_, rfl⟩
      rw [hT] at hL sq1 sq2 hsm hmm
      rw [hN] at sq1 hsm
      have HL := Lib.hid hL
      have HN := Lib.hid hN
      have HSQ := Lib.hid (And.intro sq1 sq2)
      have HMM := Lib.hid hmm
      have HQ := Lib.hid hq
      have hNs : (N : Int) ≤ 1048576 := by omega
      have q0 : (0 : Int) ≤ (q : Int) := by omega
      clear hL sq1 sq2 hT hN hq hsm hmm
      go_wp2_with fail
      refine (HL.out _).mono ?_
      rintro e w2 ⟨a2, c2, rfl, ht, hb2⟩
      rw [HN.out] at ht ⊢
      have ht : ∃ B, TabO w2 B (.slice a2 N c2) T := ⟨_, ht⟩
      obtain ⟨B2, ht⟩ := ht
      have TB2 := Lib.hid (TB.out.trans (hb2.mono TB.out.size))
      have HT2 := Lib.hid ht
      clear ht hb2 TB
      go_wp2_with fail
      go_loopg [22, 175] q (fun g5 s i wr => ∃ (k : Nat), k + g5 = q ∧ i = .int .i64 (k : Int) ∧ s = .int .i64 (factF k) ∧ wr = w2)
      case atStart => exact ⟨0, by omega, rfl, rfl, rfl⟩
      case round =>
        obtain ⟨k, hk, rfl, rfl, rfl⟩ := hrel
        by_cases hkq : k = q
        · have hge : ¬ (k : Int) < (q : Int) := by omega
          obtain ⟨F, hF⟩ : ∃ F, factF k = F := ⟨_, rfl⟩
          have hfq : factF q = F := by rw [← hkq]; exact hF
          rw [hF]
          have HFQ := Lib.hid hfq
          clear hk hkq hF hfq
          go_wp2
          obtain ⟨W2, hW2⟩ : ∃ W2, wr = W2 := ⟨_, rfl⟩
          rw [hW2] at TB2 HT2 ⊢
          clear hW2
          go_loopg [23, 185] N (fun g6 s i wx => ∃ (j : Nat), j + g6 = N ∧ i = .int .i64 (j : Int) ∧ s = .int .i64 (sqTo T j) ∧ Below w.heap.size w wx ∧ TabO wx B2 (.slice a2 N c2) T)
          case atStart => exact ⟨0, by omega, rfl, rfl, TB2.out, HT2.out⟩
          case round =>
            obtain ⟨j, hj, rfl, rfl, hbx, htx⟩ := hrel
            have HBX := Lib.hid hbx
            have HTX := Lib.hid htx
            by_cases hjN : j = N
            · have hge2 : ¬ (j : Int) < (N : Int) := by omega
              have hfin : sqTo T j = F := by rw [hjN, HSQ.out.1, HFQ.out]
              rw [hfin]
              have TB := HBX
              clear hbx htx hj hjN hfin TB2 HT2 HBX HTX
              go_wp2_with fail
              refine (awake_any _).mono ?_
              rintro e w6 ⟨rfl, hb6⟩
              have B6 := Lib.hid (TB.out.trans (hb6.mono TB.out.size))
              clear hb6 TB
              go_wp2_with fail
              go_ret
              exact ⟨rfl, B6.out⟩
            · have hlt2 : (j : Int) < (N : Int) := by omega
              have hjn : j < N := by omega
              have HJ := Lib.hid hj
              obtain ⟨bl, g, ci, rfl, hcl, hin, hlc, hcm⟩ := htx.elem (i := j) (by rw [HN.out]; omega)
              have hmem : nthL T j ∈ T := nthL_mem (by rw [HN.out]; omega)
              obtain ⟨xP, xS⟩ := HSQ.out.2 _ hmem
              have hsqn : sqTo T (j + 1) = wrap64 (sqTo T j + wrap64 (fillF (nthL T j) * fillF (nthL T j))) := rfl
              have hFi := fun WW h => Fillings_fill (some ⟨g, 0, none⟩) (nthL T j).length ci (nthL T j) WW h xP xS hlc hcm
              obtain ⟨x, hx⟩ : ∃ x, nthL T j = x := ⟨_, rfl⟩
              rw [hx] at hcl hin hFi hsqn
              obtain ⟨xl, hxl⟩ : ∃ l, x.length = l := ⟨_, rfl⟩
              rw [hxl] at hcl hin hFi
              obtain ⟨V, hV⟩ : ∃ V, fillF x = V := ⟨_, rfl⟩
              rw [hV] at hFi hsqn
              obtain ⟨Q, hQ⟩ : ∃ Q, sqTo T j = Q := ⟨_, rfl⟩
              rw [hQ] at hsqn ⊢
              have HFI := Lib.hid hFi
              have HIN := Lib.hid hin
              have HSN := Lib.hid hsqn
              have j0 : (0 : Int) ≤ (j : Int) := by omega
              clear hbx htx hin hlc hcm hmem xP xS hsqn hFi hx hxl hV hQ hj hjN TB2 HT2
              go_wp2_with fail
              refine (HFI.out _ HIN.out).mono ?_
              rintro e W4 ⟨rfl, hb4⟩
              have K1 := Lib.hid (HBX.out.trans (hb4.mono HBX.out.size))
              have K2 := Lib.hid (HTX.out.below hb4)
              clear hb4 HBX HTX HIN
              go_wp2
              go_roundg (N - j - 1)
              case rel => exact ⟨j + 1, by have := HJ.out; omega, by go_num, by rw [HSN.out], K1.out, K2.out⟩
              case measure => have := HJ.out; omega
        · have hlt : (k : Int) < (q : Int) := by omega
          have HK := Lib.hid hk
          have hkb := HQ.out
          have k0 : (0 : Int) ≤ (k : Int) := by omega
          obtain ⟨F, hF⟩ : ∃ F, factF k = F := ⟨_, rfl⟩
          have hnx : factF (k + 1) = wrap64 (F * ((k : Int) + 1)) := by rw [← hF]; rfl
          rw [hF]
          have HNX := Lib.hid hnx
          clear hF hnx hk hkq
          go_wp2
          go_roundg (q - k - 1)
          case rel => exact ⟨k + 1, by have := HK.out; omega, by go_num, by rw [HNX.out], rfl⟩
          case measure => have := HK.out; omega

set_option maxHeartbeats 4000000 in
set_option maxRecDepth 100000 in
theorem lawFilled_big (a : Option Addr) (n c : Nat) (xs : List Int) (m : Int) (w : World) (h : Ints w a n xs) (hP : isP xs = true) (hs : 20 < sumL xs) (hc : n ≤ c) (hcm : c ≤ maxLen) :
    Calls Try.prog 14 #[.slice a n c, .int .i64 m] w fun e w' => e = .returned (.bool true) ∧ Below w.heap.size w w' := by
  have HT := Lib.hid (At.start h)
  have HP := Lib.hid hP
  have HS := Lib.hid hs
  have HC := Lib.hid (And.intro hc hcm)
  have hn : n ≤ 30 := by have := isP_len hP; rw [h.1] at this; exact this
  clear h hP hc hcm hs
  go_enter Try.func14, Try.ntmps14
  go_wp2_with fail
  refine (list_yes a n c xs _ HT.out.i HP.out HC.out.1 HC.out.2).mono ?_
  rintro e w1 ⟨a1, c1, rfl, ho1, -, -, hb1⟩
  have T1 := Lib.hid (HT.out.later hb1)
  have O1 := Lib.hid (Ints.own ho1).1
  clear ho1 hb1 HT
  go_wp2_with fail
  refine (Fillings_no a1 n c1 xs _ O1.out (by rw [HP.out, Bool.true_and]; exact decide_eq_false (by have := HS.out; omega)) (by omega)).mono ?_
  rintro e w' ⟨rfl, rfl⟩
  clear O1
  have TB := Lib.hid T1.out.b
  clear T1
  by_cases hm0 : m < 0
  · go_wp2_with fail
    refine (awake_any _).mono ?_
    rintro e w6 ⟨rfl, hb6⟩
    have B6 := Lib.hid (TB.out.trans (hb6.mono TB.out.size))
    clear hb6 TB
    go_wp2_with fail
    go_ret
    exact ⟨rfl, B6.out⟩
  · by_cases hm14 : 14 < m
    · go_wp2_with fail
      refine (awake_any _).mono ?_
      rintro e w6 ⟨rfl, hb6⟩
      have B6 := Lib.hid (TB.out.trans (hb6.mono TB.out.size))
      clear hb6 TB
      go_wp2_with fail
      go_ret
      exact ⟨rfl, B6.out⟩
    · obtain ⟨q, rfl⟩ : ∃ q : Nat, m = (q : Int) := ⟨m.toNat, by omega⟩
      have hq : q ≤ 14 := by omega
      have hL := fun W => List_yes q (by omega) W
      obtain ⟨sq1, sq2⟩ := squares_all hq
      have hsm := (pF_small q (by omega)).1
      have hmm := pF_mem 20 q q (by omega)
      obtain ⟨T, hT⟩ : ∃ T, pF 20 q q = T := ⟨_, rfl⟩
      obtain ⟨N, hN⟩ : ∃ N, T.length = N := ⟨_, rfl⟩
      rw [hT] at hL sq1 sq2 hsm hmm
      rw [hN] at sq1 hsm
      have HL := Lib.hid hL
      have HN := Lib.hid hN
      have HSQ := Lib.hid (And.intro sq1 sq2)
      have HMM := Lib.hid hmm
      have HQ := Lib.hid hq
      have hNs : (N : Int) ≤ 1048576 := by omega
      have q0 : (0 : Int) ≤ (q : Int) := by omega
      clear hL sq1 sq2 hT hN hq hsm hmm
      go_wp2_with fail
      refine (HL.out _).mono ?_
      rintro e w2 ⟨a2, c2, rfl, ht, hb2⟩
      rw [HN.out] at ht ⊢
      have ht : ∃ B, TabO w2 B (.slice a2 N c2) T := ⟨_, ht⟩
      obtain ⟨B2, ht⟩ := ht
      have TB2 := Lib.hid (TB.out.trans (hb2.mono TB.out.size))
      have HT2 := Lib.hid ht
      clear ht hb2 TB
      go_wp2_with fail
      go_loopg [22, 175] q (fun g5 s i wr => ∃ (k : Nat), k + g5 = q ∧ i = .int .i64 (k : Int) ∧ s = .int .i64 (factF k) ∧ wr = w2)
      case atStart => exact ⟨0, by omega, rfl, rfl, rfl⟩
      case round =>
        obtain ⟨k, hk, rfl, rfl, rfl⟩ := hrel
        by_cases hkq : k = q
        · have hge : ¬ (k : Int) < (q : Int) := by omega
          obtain ⟨F, hF⟩ : ∃ F, factF k = F := ⟨_, rfl⟩
          have hfq : factF q = F := by rw [← hkq]; exact hF
          rw [hF]
          have HFQ := Lib.hid hfq
          clear hk hkq hF hfq
          go_wp2
          obtain ⟨W2, hW2⟩ : ∃ W2, wr = W2 := ⟨_, rfl⟩
          rw [hW2] at TB2 HT2 ⊢
          clear hW2
          go_loopg [23, 185] N (fun g6 s i wx => ∃ (j : Nat), j + g6 = N ∧ i = .int .i64 (j : Int) ∧ s = .int .i64 (sqTo T j) ∧ Below w.heap.size w wx ∧ TabO wx B2 (.slice a2 N c2) T)
          case atStart => exact ⟨0, by omega, rfl, rfl, TB2.out, HT2.out⟩
          case round =>
            obtain ⟨j, hj, rfl, rfl, hbx, htx⟩ := hrel
            have HBX := Lib.hid hbx
            have HTX := Lib.hid htx
            by_cases hjN : j = N
            · have hge2 : ¬ (j : Int) < (N : Int) := by omega
              have hfin : sqTo T j = F := by rw [hjN, HSQ.out.1, HFQ.out]
              rw [hfin]
              have TB := HBX
              clear hbx htx hj hjN hfin TB2 HT2 HBX HTX
              go_wp2_with fail
              refine (awake_any _).mono ?_
              rintro e w6 ⟨rfl, hb6⟩
              have B6 := Lib.hid (TB.out.trans (hb6.mono TB.out.size))
              clear hb6 TB
              go_wp2_with fail
              go_ret
              exact ⟨rfl, B6.out⟩
            · have hlt2 : (j : Int) < (N : Int) := by omega
              have hjn : j < N := by omega
              have HJ := Lib.hid hj
              obtain ⟨bl, g, ci, rfl, hcl, hin, hlc, hcm⟩ := htx.elem (i := j) (by rw [HN.out]; omega)
              have hmem : nthL T j ∈ T := nthL_mem (by rw [HN.out]; omega)
              obtain ⟨xP, xS⟩ := HSQ.out.2 _ hmem
              have hsqn : sqTo T (j + 1) = wrap64 (sqTo T j + wrap64 (fillF (nthL T j) * fillF (nthL T j))) := rfl
              have hFi := fun WW h => Fillings_fill (some ⟨g, 0, none⟩) (nthL T j).length ci (nthL T j) WW h xP xS hlc hcm
              obtain ⟨x, hx⟩ : ∃ x, nthL T j = x := ⟨_, rfl⟩
              rw [hx] at hcl hin hFi hsqn
              obtain ⟨xl, hxl⟩ : ∃ l, x.length = l := ⟨_, rfl⟩
              rw [hxl] at hcl hin hFi
              obtain ⟨V, hV⟩ : ∃ V, fillF x = V := ⟨_, rfl⟩
              rw [hV] at hFi hsqn
              obtain ⟨Q, hQ⟩ : ∃ Q, sqTo T j = Q := ⟨_, rfl⟩
              rw [hQ] at hsqn ⊢
              have HFI := Lib.hid hFi
              have HIN := Lib.hid hin
              have HSN := Lib.hid hsqn
              have j0 : (0 : Int) ≤ (j : Int) := by omega
              clear hbx htx hin hlc hcm hmem xP xS hsqn hFi hx hxl hV hQ hj hjN TB2 HT2
              go_wp2_with fail
              refine (HFI.out _ HIN.out).mono ?_
              rintro e W4 ⟨rfl, hb4⟩
              have K1 := Lib.hid (HBX.out.trans (hb4.mono HBX.out.size))
              have K2 := Lib.hid (HTX.out.below hb4)
              clear hb4 HBX HTX HIN
              go_wp2
              go_roundg (N - j - 1)
              case rel => exact ⟨j + 1, by have := HJ.out; omega, by go_num, by rw [HSN.out], K1.out, K2.out⟩
              case measure => have := HJ.out; omega
        · have hlt : (k : Int) < (q : Int) := by omega
          have HK := Lib.hid hk
          have hkb := HQ.out
          have k0 : (0 : Int) ≤ (k : Int) := by omega
          obtain ⟨F, hF⟩ : ∃ F, factF k = F := ⟨_, rfl⟩
          have hnx : factF (k + 1) = wrap64 (F * ((k : Int) + 1)) := by rw [← hF]; rfl
          rw [hF]
          have HNX := Lib.hid hnx
          clear hF hnx hk hkq
          go_wp2
          go_roundg (q - k - 1)
          case rel => exact ⟨k + 1, by have := HK.out; omega, by go_num, by rw [HNX.out], rfl⟩
          case measure => have := HK.out; omega
end Go.Proofs.Ytfecdpglcdhijaa
