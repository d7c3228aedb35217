/- The walk of the law CoversGreatest, in every case. No condition. -/
import Derived.Test.YtanhjgneaaenpaaSay
import Derived.Test.YtanhjgneaaenpaaGreat
namespace Go.Proofs.Ytanhjgneaaenpaa
open Go.RowKit
attribute [local go_sem] Oper.semAt_some
set_option maxRecDepth 100000 in
set_option maxHeartbeats 8000000 in
theorem lawGreat_no (a : Option Addr) (n c : Nat) (xs : List (Int × Int)) (w : World) (h : Prs w a n xs) (hc : n ≤ c) (hn : n ≤ 4611686018427387904) (hcm : c ≤ maxLen) (hs : isS xs = false) :
    Calls Try.prog 8 #[.slice a n c] w fun e w' => e = .returned (.bool true) ∧ Below w.heap.size w w' := by
  have H := Lib.hid h
  have HT := Lib.hid (take12_no hs)
  have HVR := Lib.hid (fun w h => validR_any a n c xs w h hn)
  rw [hs] at HVR
  clear h hs
  go_enter Try.func8, Try.ntmps8
  go_wp2_with fail
  refine (pairs_any a n c xs _ H.out hc hn hcm).mono ?_
  rintro e w1 ⟨a1, c1, m1, rfl, hm1, hp1, hc1, hcm1, hb⟩
  have HB1 := Lib.hid hb
  clear hb
  have HP1 := Lib.hid hp1
  clear hp1
  unfold maxLen at hcm1
  go_wp2_with fail
  refine (Left_no HT.out a1 m1 c1 _ HP1.out (by omega)).mono ?_
  rintro e w2 ⟨rfl, hb⟩
  have HB2 := Lib.hid (HB1.out.trans (hb.mono HB1.out.size))
  clear hb
  go_wp2_with fail
  refine (pairs_any a n c xs _ (H.out.below HB2.out) hc hn hcm).mono ?_
  rintro e w3 ⟨a3, c3, m3, rfl, hm3, hp3, hc3, hcm3, hb⟩
  have HB3 := Lib.hid (HB2.out.trans (hb.mono HB2.out.size))
  clear hb
  have HP3 := Lib.hid hp3
  clear hp3
  unfold maxLen at hcm3
  go_wp2_with fail
  refine (Twice_no HT.out a3 m3 c3 _ HP3.out (by omega)).mono ?_
  rintro e w4 ⟨rfl, hb⟩
  have HB4 := Lib.hid (HB3.out.trans (hb.mono HB3.out.size))
  clear hb
  go_wp2_with fail
  refine (awake_any _).mono ?_
  rintro e w5 ⟨rfl, hb⟩
  have HB5 := Lib.hid (HB4.out.trans (hb.mono HB4.out.size))
  clear hb
  go_wp2
  go_ret
  exact ⟨rfl, HB5.out⟩
set_option maxRecDepth 100000 in
set_option maxHeartbeats 8000000 in
theorem lawGreat_P (a : Option Addr) (n c : Nat) (xs : List (Int × Int)) (w : World) (h : Prs w a n xs) (hc : n ≤ c) (hn : n ≤ 4611686018427387904) (hcm : c ≤ maxLen) (hs : isS xs = true) (l1 t1 : Int) (hl : leftF xs = (l1, 0)) (ht : twiceF xs = (t1, 0)) :
    Calls Try.prog 8 #[.slice a n c] w fun e w' => e = .returned (.bool true) ∧ Below w.heap.size w w' := by
  have H := Lib.hid h
  have HL := Lib.hid h.1
  have HT := Lib.hid (take12_yes hs)
  have HI := Lib.hid hs
  have HY := Lib.hid (isS_spec.1 hs)
  have hn2 : n ≤ 10 := by have := HY.out.len2; have := HL.out; omega
  have HVR := Lib.hid (fun w h => validR_any a n c xs w h hn)
  rw [hs] at HVR
  have HLL := Lib.hid hl
  have HTT := Lib.hid ht
  clear h hs hl ht
  go_enter Try.func8, Try.ntmps8
  go_wp2_with fail
  refine (pairs_any a n c xs _ H.out hc hn hcm).mono ?_
  rintro e w1 ⟨a1, c1, m1, rfl, hm1, hp1, hc1, hcm1, hb⟩
  have HB1 := Lib.hid hb
  clear hb
  have HP1 := Lib.hid hp1
  clear hp1
  unfold maxLen at hcm1
  have hq1 := HP1.out
  rw [HT.out] at hq1
  have HQ1 := Lib.hid hq1
  clear hq1
  go_wp2_with fail
  refine (Left_yes HI.out l1 0 HLL.out a1 m1 c1 _ HQ1.out (by omega)).mono ?_
  rintro e w2 ⟨rfl, hb⟩
  have HB2 := Lib.hid (HB1.out.trans (hb.mono HB1.out.size))
  clear hb
  go_wp2_with fail
  refine (pairs_any a n c xs _ (H.out.below HB2.out) hc hn hcm).mono ?_
  rintro e w3 ⟨a3, c3, m3, rfl, hm3, hp3, hc3, hcm3, hb⟩
  have HB3 := Lib.hid (HB2.out.trans (hb.mono HB2.out.size))
  clear hb
  have HP3 := Lib.hid hp3
  clear hp3
  unfold maxLen at hcm3
  have hq3 := HP3.out
  rw [HT.out] at hq3
  have HQ3 := Lib.hid hq3
  clear hq3
  go_wp2_with fail
  refine (Twice_yes HI.out t1 0 HTT.out a3 m3 c3 _ HQ3.out (by omega)).mono ?_
  rintro e w4 ⟨rfl, hb⟩
  have HB4 := Lib.hid (HB3.out.trans (hb.mono HB3.out.size))
  clear hb
  go_wp2_with fail
  refine (HVR.out _ (H.out.below HB4.out)).mono ?_
  rintro e w5 ⟨rfl, hb⟩
  have HB5 := Lib.hid (HB4.out.trans (hb.mono HB4.out.size))
  clear hb
  go_wp2_with fail
  refine (awake_any _).mono ?_
  rintro e w6 ⟨rfl, hb⟩
  have HB6 := Lib.hid (HB5.out.trans (hb.mono HB5.out.size))
  clear hb
  go_wp2
  go_ret
  exact ⟨rfl, HB6.out⟩
set_option maxRecDepth 100000 in
set_option maxHeartbeats 8000000 in
theorem lawGreat_Q (a : Option Addr) (n c : Nat) (xs : List (Int × Int)) (w : World) (h : Prs w a n xs) (hc : n ≤ c) (hn : n ≤ 4611686018427387904) (hcm : c ≤ maxLen) (hs : isS xs = true) (l1 t1 : Int) (hl : leftF xs = (l1, 0)) (ht : twiceF xs = (t1, 4)) :
    Calls Try.prog 8 #[.slice a n c] w fun e w' => e = .returned (.bool true) ∧ Below w.heap.size w w' := by
  have H := Lib.hid h
  have HL := Lib.hid h.1
  have HT := Lib.hid (take12_yes hs)
  have HI := Lib.hid hs
  have HY := Lib.hid (isS_spec.1 hs)
  have hn2 : n ≤ 10 := by have := HY.out.len2; have := HL.out; omega
  have HVR := Lib.hid (fun w h => validR_any a n c xs w h hn)
  rw [hs] at HVR
  have HLL := Lib.hid hl
  have HTT := Lib.hid ht
  clear h hs hl ht
  go_enter Try.func8, Try.ntmps8
  go_wp2_with fail
  refine (pairs_any a n c xs _ H.out hc hn hcm).mono ?_
  rintro e w1 ⟨a1, c1, m1, rfl, hm1, hp1, hc1, hcm1, hb⟩
  have HB1 := Lib.hid hb
  clear hb
  have HP1 := Lib.hid hp1
  clear hp1
  unfold maxLen at hcm1
  have hq1 := HP1.out
  rw [HT.out] at hq1
  have HQ1 := Lib.hid hq1
  clear hq1
  go_wp2_with fail
  refine (Left_yes HI.out l1 0 HLL.out a1 m1 c1 _ HQ1.out (by omega)).mono ?_
  rintro e w2 ⟨rfl, hb⟩
  have HB2 := Lib.hid (HB1.out.trans (hb.mono HB1.out.size))
  clear hb
  go_wp2_with fail
  refine (pairs_any a n c xs _ (H.out.below HB2.out) hc hn hcm).mono ?_
  rintro e w3 ⟨a3, c3, m3, rfl, hm3, hp3, hc3, hcm3, hb⟩
  have HB3 := Lib.hid (HB2.out.trans (hb.mono HB2.out.size))
  clear hb
  have HP3 := Lib.hid hp3
  clear hp3
  unfold maxLen at hcm3
  have hq3 := HP3.out
  rw [HT.out] at hq3
  have HQ3 := Lib.hid hq3
  clear hq3
  go_wp2_with fail
  refine (Twice_yes HI.out t1 4 HTT.out a3 m3 c3 _ HQ3.out (by omega)).mono ?_
  rintro e w4 ⟨rfl, hb⟩
  have HB4 := Lib.hid (HB3.out.trans (hb.mono HB3.out.size))
  clear hb
  go_wp2_with fail
  refine (HVR.out _ (H.out.below HB4.out)).mono ?_
  rintro e w5 ⟨rfl, hb⟩
  have HB5 := Lib.hid (HB4.out.trans (hb.mono HB4.out.size))
  clear hb
  go_wp2_with fail
  refine (awake_any _).mono ?_
  rintro e w6 ⟨rfl, hb⟩
  have HB6 := Lib.hid (HB5.out.trans (hb.mono HB5.out.size))
  clear hb
  go_wp2
  go_ret
  exact ⟨rfl, HB6.out⟩
set_option maxRecDepth 100000 in
set_option maxHeartbeats 8000000 in
theorem lawGreat_R (a : Option Addr) (n c : Nat) (xs : List (Int × Int)) (w : World) (h : Prs w a n xs) (hc : n ≤ c) (hn : n ≤ 4611686018427387904) (hcm : c ≤ maxLen) (hs : isS xs = true) (l1 t1 : Int) (hl : leftF xs = (l1, 4)) (ht : twiceF xs = (t1, 0)) :
    Calls Try.prog 8 #[.slice a n c] w fun e w' => e = .returned (.bool true) ∧ Below w.heap.size w w' := by
  have H := Lib.hid h
  have HL := Lib.hid h.1
  have HT := Lib.hid (take12_yes hs)
  have HI := Lib.hid hs
  have HY := Lib.hid (isS_spec.1 hs)
  have hn2 : n ≤ 10 := by have := HY.out.len2; have := HL.out; omega
  have HVR := Lib.hid (fun w h => validR_any a n c xs w h hn)
  rw [hs] at HVR
  have HLL := Lib.hid hl
  have HTT := Lib.hid ht
  clear h hs hl ht
  go_enter Try.func8, Try.ntmps8
  go_wp2_with fail
  refine (pairs_any a n c xs _ H.out hc hn hcm).mono ?_
  rintro e w1 ⟨a1, c1, m1, rfl, hm1, hp1, hc1, hcm1, hb⟩
  have HB1 := Lib.hid hb
  clear hb
  have HP1 := Lib.hid hp1
  clear hp1
  unfold maxLen at hcm1
  have hq1 := HP1.out
  rw [HT.out] at hq1
  have HQ1 := Lib.hid hq1
  clear hq1
  go_wp2_with fail
  refine (Left_yes HI.out l1 4 HLL.out a1 m1 c1 _ HQ1.out (by omega)).mono ?_
  rintro e w2 ⟨rfl, hb⟩
  have HB2 := Lib.hid (HB1.out.trans (hb.mono HB1.out.size))
  clear hb
  go_wp2_with fail
  refine (pairs_any a n c xs _ (H.out.below HB2.out) hc hn hcm).mono ?_
  rintro e w3 ⟨a3, c3, m3, rfl, hm3, hp3, hc3, hcm3, hb⟩
  have HB3 := Lib.hid (HB2.out.trans (hb.mono HB2.out.size))
  clear hb
  have HP3 := Lib.hid hp3
  clear hp3
  unfold maxLen at hcm3
  have hq3 := HP3.out
  rw [HT.out] at hq3
  have HQ3 := Lib.hid hq3
  clear hq3
  go_wp2_with fail
  refine (Twice_yes HI.out t1 0 HTT.out a3 m3 c3 _ HQ3.out (by omega)).mono ?_
  rintro e w4 ⟨rfl, hb⟩
  have HB4 := Lib.hid (HB3.out.trans (hb.mono HB3.out.size))
  clear hb
  go_wp2_with fail
  refine (HVR.out _ (H.out.below HB4.out)).mono ?_
  rintro e w5 ⟨rfl, hb⟩
  have HB5 := Lib.hid (HB4.out.trans (hb.mono HB4.out.size))
  clear hb
  go_wp2_with fail
  refine (awake_any _).mono ?_
  rintro e w6 ⟨rfl, hb⟩
  have HB6 := Lib.hid (HB5.out.trans (hb.mono HB5.out.size))
  clear hb
  go_wp2
  go_ret
  exact ⟨rfl, HB6.out⟩
set_option maxRecDepth 100000 in
set_option maxHeartbeats 8000000 in
theorem lawGreat_S (a : Option Addr) (n c : Nat) (xs : List (Int × Int)) (w : World) (h : Prs w a n xs) (hc : n ≤ c) (hn : n ≤ 4611686018427387904) (hcm : c ≤ maxLen) (hs : isS xs = true) (l1 t1 : Int) (hl : leftF xs = (l1, 4)) (ht : twiceF xs = (t1, 4)) (h2 : n < 2) :
    Calls Try.prog 8 #[.slice a n c] w fun e w' => e = .returned (.bool true) ∧ Below w.heap.size w w' := by
  have H := Lib.hid h
  have HL := Lib.hid h.1
  have HT := Lib.hid (take12_yes hs)
  have HI := Lib.hid hs
  have HY := Lib.hid (isS_spec.1 hs)
  have hn2 : n ≤ 10 := by have := HY.out.len2; have := HL.out; omega
  have HVR := Lib.hid (fun w h => validR_any a n c xs w h hn)
  rw [hs] at HVR
  have HLL := Lib.hid hl
  have HTT := Lib.hid ht
  clear h hs hl ht
  have h2d : decide ((n : Int) < 2) = true := by simp; omega
  go_enter Try.func8, Try.ntmps8
  go_wp2_with fail
  refine (pairs_any a n c xs _ H.out hc hn hcm).mono ?_
  rintro e w1 ⟨a1, c1, m1, rfl, hm1, hp1, hc1, hcm1, hb⟩
  have HB1 := Lib.hid hb
  clear hb
  have HP1 := Lib.hid hp1
  clear hp1
  unfold maxLen at hcm1
  have hq1 := HP1.out
  rw [HT.out] at hq1
  have HQ1 := Lib.hid hq1
  clear hq1
  go_wp2_with fail
  refine (Left_yes HI.out l1 4 HLL.out a1 m1 c1 _ HQ1.out (by omega)).mono ?_
  rintro e w2 ⟨rfl, hb⟩
  have HB2 := Lib.hid (HB1.out.trans (hb.mono HB1.out.size))
  clear hb
  go_wp2_with fail
  refine (pairs_any a n c xs _ (H.out.below HB2.out) hc hn hcm).mono ?_
  rintro e w3 ⟨a3, c3, m3, rfl, hm3, hp3, hc3, hcm3, hb⟩
  have HB3 := Lib.hid (HB2.out.trans (hb.mono HB2.out.size))
  clear hb
  have HP3 := Lib.hid hp3
  clear hp3
  unfold maxLen at hcm3
  have hq3 := HP3.out
  rw [HT.out] at hq3
  have HQ3 := Lib.hid hq3
  clear hq3
  go_wp2_with fail
  refine (Twice_yes HI.out t1 4 HTT.out a3 m3 c3 _ HQ3.out (by omega)).mono ?_
  rintro e w4 ⟨rfl, hb⟩
  have HB4 := Lib.hid (HB3.out.trans (hb.mono HB3.out.size))
  clear hb
  go_wp2_with fail
  refine (HVR.out _ (H.out.below HB4.out)).mono ?_
  rintro e w5 ⟨rfl, hb⟩
  have HB5 := Lib.hid (HB4.out.trans (hb.mono HB4.out.size))
  clear hb
  go_wp2_with fail
  refine (awake_any _).mono ?_
  rintro e w6 ⟨rfl, hb⟩
  have HB6 := Lib.hid (HB5.out.trans (hb.mono HB5.out.size))
  clear hb
  go_wp2
  go_ret
  exact ⟨rfl, HB6.out⟩
set_option maxRecDepth 100000 in
set_option maxHeartbeats 8000000 in
theorem lawGreat_main (a : Option Addr) (n c : Nat) (xs : List (Int × Int)) (w : World) (h : Prs w a n xs) (hc : n ≤ c) (hn : n ≤ 4611686018427387904) (hcm : c ≤ maxLen) (hs : isS xs = true) (l1 t1 : Int) (hl : leftF xs = (l1, 4)) (ht : twiceF xs = (t1, 4)) (h2 : 2 ≤ n) :
    Calls Try.prog 8 #[.slice a n c] w fun e w' => e = .returned (.bool true) ∧ Below w.heap.size w w' := by
  have H := Lib.hid h
  have HL := Lib.hid h.1
  have HT := Lib.hid (take12_yes hs)
  have HI := Lib.hid hs
  have HY := Lib.hid (isS_spec.1 hs)
  have hn2 : n ≤ 10 := by have := HY.out.len2; have := HL.out; omega
  have HVR := Lib.hid (fun w h => validR_any a n c xs w h hn)
  rw [hs] at HVR
  have HLL := Lib.hid hl
  have HTT := Lib.hid ht
  have h2d : decide ((n : Int) < 2) = false := by simp; omega
  have HEND := Lib.hid (fun M C p hm hp2 hp h1 => great_end (L := xs) (M := M) (C := C) (p := p) HY.out (by rw [hl]) (by rw [ht]) (by have := HL.out; omega) hm hp2 hp h1)
  clear h hs hl ht
  go_enter Try.func8, Try.ntmps8
  go_wp2_with fail
  refine (pairs_any a n c xs _ H.out hc hn hcm).mono ?_
  rintro e w1 ⟨a1, c1, m1, rfl, hm1, hp1, hc1, hcm1, hb⟩
  have HB1 := Lib.hid hb
  clear hb
  have HP1 := Lib.hid hp1
  clear hp1
  unfold maxLen at hcm1
  have hq1 := HP1.out
  rw [HT.out] at hq1
  have HQ1 := Lib.hid hq1
  clear hq1
  go_wp2_with fail
  refine (Left_yes HI.out l1 4 HLL.out a1 m1 c1 _ HQ1.out (by omega)).mono ?_
  rintro e w2 ⟨rfl, hb⟩
  have HB2 := Lib.hid (HB1.out.trans (hb.mono HB1.out.size))
  clear hb
  go_wp2_with fail
  refine (pairs_any a n c xs _ (H.out.below HB2.out) hc hn hcm).mono ?_
  rintro e w3 ⟨a3, c3, m3, rfl, hm3, hp3, hc3, hcm3, hb⟩
  have HB3 := Lib.hid (HB2.out.trans (hb.mono HB2.out.size))
  clear hb
  have HP3 := Lib.hid hp3
  clear hp3
  unfold maxLen at hcm3
  have hq3 := HP3.out
  rw [HT.out] at hq3
  have HQ3 := Lib.hid hq3
  clear hq3
  go_wp2_with fail
  refine (Twice_yes HI.out t1 4 HTT.out a3 m3 c3 _ HQ3.out (by omega)).mono ?_
  rintro e w4 ⟨rfl, hb⟩
  have HB4 := Lib.hid (HB3.out.trans (hb.mono HB3.out.size))
  clear hb
  go_wp2_with fail
  refine (HVR.out _ (H.out.below HB4.out)).mono ?_
  rintro e w5 ⟨rfl, hb⟩
  have HB5 := Lib.hid (HB4.out.trans (hb.mono HB4.out.size))
  clear hb
  go_wp2
  go_loopg [7, 8, 58] n (fun gk s7 s8 s58 wr => ∃ (j M C : Nat), j + gk = n ∧ s58 = .int .i64 (j : Int) ∧ s7 = .int .i64 (M : Int) ∧ s8 = .int .i64 (C : Int) ∧ Mx (xs.take j) M C ∧ M ≤ 60 ∧ C ≤ j ∧ (j = 0 → M = 0) ∧ Below w.heap.size w wr)
  case atStart => exact ⟨0, 0, 0, by omega, rfl, rfl, rfl, Mx.nil, by omega, by omega, fun _ => rfl, HB5.out⟩
  case round =>
    obtain ⟨j, M, C, hj, rfl, rfl, rfl, hm, hM, hC, h0, hb⟩ := hrel
    have HB := Lib.hid hb
    have HJ := Lib.hid hj
    have HM := Lib.hid hm
    have H0 := Lib.hid h0
    clear hb hm h0
    by_cases hjn : j = n
    · have hge : ¬ (j : Int) < (n : Int) := by omega
      have hge2 : ¬ j < n := by omega
      have hmm := HM.out
      rw [List.take_of_length_le (by have := HL.out; omega)] at hmm
      have HMM := Lib.hid hmm
      clear hjn hj hmm
      go_wp2
      obtain ⟨W0, hW0⟩ : ∃ W0, wr = W0 := ⟨_, rfl⟩
      rw [hW0] at HB ⊢
      clear hW0
      go_loopg [11] 61 (fun gk2 s11 wr => ∃ (p : Nat), p + gk2 = 63 ∧ 2 ≤ p ∧ s11 = .int .i64 (p : Int) ∧ (∀ q, 2 ≤ q → q < p → ¬ q ∣ M) ∧ (M ≤ 1 → p = 2) ∧ wr = W0)
      case atStart => exact ⟨2, rfl, by omega, rfl, fun q g1 g2 => by omega, fun _ => rfl, rfl⟩
      case round =>
        obtain ⟨p, hp, hp2, rfl, hq, h1, rfl⟩ := hrel
        have HQ := Lib.hid hq
        have HP := Lib.hid hp
        have HO := Lib.hid h1
        clear hq h1
        by_cases hM1 : M ≤ 1
        · have g1d : decide ((1 : Int) < (M : Int)) = false := by simp; omega
          have g1 : ¬ (1 : Int) < (M : Int) := by omega
          have hfin := HEND.out M C p HMM.out hp2 HQ.out HO.out
          have hfd : decide (p ≤ C) = true := by simpa using hfin
          clear hp hM1
          go_wp2_with fail
          refine (awake_any _).mono ?_
          rintro e wz ⟨rfl, hb⟩
          have HZ := Lib.hid (HB.out.trans (hb.mono HB.out.size))
          clear hb
          go_wp2
          go_ret
          exact ⟨rfl, HZ.out⟩
        · have g1d : decide ((1 : Int) < (M : Int)) = true := by simp; omega
          have g1 : (1 : Int) < (M : Int) := by omega
          have hpM : p ≤ M := by
            apply Classical.byContradiction
            intro hlt
            exact HQ.out M (by omega) (by omega) (Nat.dvd_refl M)
          have p0 : ¬ (p : Int) = 0 := by omega
          have p60 : (p : Int) ≤ 60 := by omega
          by_cases hd : p ∣ M
          · have e0 : ((M : Int) % (p : Int)) = 0 := by rw [← Int.natCast_emod, Nat.mod_eq_zero_of_dvd hd]; rfl
            have e1 : (((M : Int) % (p : Int)) != 0) = false := by rw [e0]; rfl
            have hfin := HEND.out M C p HMM.out hp2 HQ.out HO.out
            have hfd : decide (p ≤ C) = true := by simpa using hfin
            clear hp hM1 hd e0
            go_wp2_with fail
            refine (awake_any _).mono ?_
            rintro e wz ⟨rfl, hb⟩
            have HZ := Lib.hid (HB.out.trans (hb.mono HB.out.size))
            clear hb
            go_wp2
            go_ret
            exact ⟨rfl, HZ.out⟩
          · have e0 : ¬ ((M : Int) % (p : Int)) = 0 := by
              rw [← Int.natCast_emod]
              intro h
              exact hd (Nat.dvd_of_mod_eq_zero (by omega))
            have e1 : (((M : Int) % (p : Int)) != 0) = true := by simpa using e0
            have HD := Lib.hid hd
            clear hp hM1 hd
            go_wp2
            go_roundg (62 - p)
            case rel =>
              refine ⟨p + 1, by have := HP.out; omega, by omega, by go_num, fun q g2 g3 => ?_, fun h => by omega, rfl⟩
              by_cases e : q = p
              · subst e; exact HD.out
              · exact HQ.out q g2 (by omega)
            case measure => have := HP.out; omega
    · have hlt : (j : Int) < (n : Int) := by omega
      have hlt2 : j < n := by omega
      have j0 : (0 : Int) ≤ (j : Int) := by omega
      obtain ⟨b, off, rfl, hbl, hc'⟩ := (H.out.below HB.out).at (by omega)
      obtain ⟨c0, c1⟩ := hc' j hlt2
      have ht := take_succ2 (L := xs) (k := j) (by have := HL.out; omega)
      obtain ⟨k1, k2, -, -⟩ := HY.out.nth (j := j) (by have := HL.out; omega)
      obtain ⟨p, hp⟩ : ∃ p, nth xs j = p := ⟨_, rfl⟩
      obtain ⟨x, y⟩ := p
      rw [hp] at c0 c1 k1 k2 ht
      simp only at k1 k2
      obtain ⟨m, rfl⟩ := Int.eq_ofNat_of_zero_le (show 0 ≤ y by omega)
      have HTK := Lib.hid ht
      have HB2 := Lib.hid (HB.out.alloc HB.out.size (.cells #[.int .i64 x, .int .i64 (m : Int)] 44))
      have hA : xs.take j = [] → M = 0 := fun e => H0.out (by
        have := congrArg List.length e
        rw [List.length_take, HL.out] at this
        simp at this
        omega)
      have HA := Lib.hid hA
      clear hjn hj hc' hp ht hA
      rcases Nat.lt_trichotomy M m with g | g | g
      · have g1 : (M : Int) < (m : Int) := by omega
        have g1d : decide (M < m) = true := by simpa using g
        go_wp2
        go_roundg (gk - 1)
        case rel => exact ⟨j + 1, m, 1, by have := HJ.out; omega, by go_num, rfl, rfl, by rw [HTK.out]; exact HM.out.more g, by omega, by omega, fun h => by omega, HB2.out⟩
        case measure => have := HJ.out; omega
      · subst g
        have g1 : ¬ (M : Int) < (M : Int) := by omega
        go_wp2
        go_roundg (gk - 1)
        case rel => exact ⟨j + 1, M, C + 1, by have := HJ.out; omega, by go_num, rfl, by go_num, by rw [HTK.out]; exact HM.out.same, by omega, by omega, fun h => by omega, HB2.out⟩
        case measure => have := HJ.out; omega
      · have g1 : ¬ (M : Int) < (m : Int) := by omega
        have g1d : decide (M < m) = false := by simp; omega
        have g2 : ((m : Int) == (M : Int)) = false := by simp; omega
        have g3 : (m == M) = false := by simp; omega
        have g4 : ¬ M < m := by omega
        have g5 : ¬ m = M := by omega
        go_wp2
        go_roundg (gk - 1)
        case rel => exact ⟨j + 1, M, C, by have := HJ.out; omega, by go_num, rfl, rfl, by rw [HTK.out]; exact HM.out.less g HA.out, by omega, by omega, fun h => by omega, HB2.out⟩
        case measure => have := HJ.out; omega

theorem lawGreat_any (a : Option Addr) (n c : Nat) (xs : List (Int × Int)) (w : World) (h : Prs w a n xs) (hc : n ≤ c) (hn : n ≤ 4611686018427387904) (hcm : c ≤ maxLen) :
    Calls Try.prog 8 #[.slice a n c] w fun e w' => e = .returned (.bool true) ∧ Below w.heap.size w w' := by
  cases hs : isS xs with
  | false => exact lawGreat_no a n c xs w h hc hn hcm hs
  | true =>
    have hl : leftF xs = ((leftF xs).1, (leftF xs).2) := rfl
    have ht : twiceF xs = ((twiceF xs).1, (twiceF xs).2) := rfl
    rcases left_or xs with h0 | h4
    · rw [h0] at hl
      rcases twice_or xs with t0 | t4
      · rw [t0] at ht
        exact lawGreat_P a n c xs w h hc hn hcm hs _ _ hl ht
      · rw [t4] at ht
        exact lawGreat_Q a n c xs w h hc hn hcm hs _ _ hl ht
    · rw [h4] at hl
      rcases twice_or xs with t0 | t4
      · rw [t0] at ht
        exact lawGreat_R a n c xs w h hc hn hcm hs _ _ hl ht
      · rw [t4] at ht
        by_cases h2 : n < 2
        · exact lawGreat_S a n c xs w h hc hn hcm hs _ _ hl ht h2
        · exact lawGreat_main a n c xs w h hc hn hcm hs _ _ hl ht (by omega)
end Go.Proofs.Ytanhjgneaaenpaa
