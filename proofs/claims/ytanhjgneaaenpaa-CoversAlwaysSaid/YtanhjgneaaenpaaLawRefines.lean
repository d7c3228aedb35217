/- The walk of slices.Equal at pairs that are the same, and of the law CoversRefines, in every case. No condition. -/
import Derived.Test.YtanhjgneaaenpaaLawParted
import Derived.Test.YtanhjgneaaenpaaRefR
namespace Go.Proofs.Ytanhjgneaaenpaa
open Go.RowKit
attribute [local go_sem] Oper.semAt_some
set_option maxRecDepth 100000 in
set_option maxHeartbeats 8000000 in
theorem equal2_any (L : List (Int × Int)) (hL : L.length ≤ 200000) (a1 a2 : Option Addr) (c1 c2 : Nat) (w : World) (h1 : Prs w a1 L.length L) (h2 : Prs w a2 L.length L) :
    Calls Try.prog 32 #[.slice a1 L.length c1, .slice a2 L.length c2] w fun e w' => e = .returned (.bool true) ∧ ∃ q, w' = w.drewN q := by
  obtain ⟨n, hn⟩ : ∃ n, L.length = n := ⟨_, rfl⟩
  rw [hn] at h1 h2 hL ⊢
  have H1 := Lib.hid h1
  have H2 := Lib.hid h2
  have HN := Lib.hid hn
  clear h1 h2 hn
  go_enter Try.func32, Try.ntmps32
  go_wp2
  go_loopg [13] n (fun gk s13 wr => ∃ (y : Nat) (q : Nat), y + gk = n ∧ s13 = .int .i64 (y : Int) ∧ wr = w.drewN q)
  case atStart => exact ⟨0, 0, by omega, rfl, rfl⟩
  case round =>
    obtain ⟨y, q, hy, rfl, rfl⟩ := hrel
    by_cases hyn : y = n
    · have hge : (n : Int) ≤ (y : Int) := by omega
      have hge2 : n ≤ y := by omega
      clear hyn
      go_wp2
      go_ret
      exact ⟨rfl, q, rfl⟩
    · have hlt : (y : Int) < (n : Int) := by omega
      have hlt2 : y < n := by omega
      obtain ⟨b1, o1, rfl, -, k1⟩ := H1.out.at (by omega)
      obtain ⟨b2, o2, rfl, -, k2⟩ := H2.out.at (by omega)
      obtain ⟨d1, d2⟩ := k1 y hlt2
      obtain ⟨e1, e2⟩ := k2 y hlt2
      have y0 : (0 : Int) ≤ (y : Int) := by omega
      clear hyn k1 k2
      have g44 := guard44
      have n44 := neq44
      go_wp2
      go_quiet (fail)
      go_wp2
      go_roundg (gk - 1)
      case rel => exact ⟨y + 1, q + nq, by omega, by go_num, rfl⟩
      case measure => omega
set_option maxRecDepth 100000 in
set_option maxHeartbeats 8000000 in
theorem lawRefines_bad (a : Option Addr) (n c : Nat) (xs : List (Int × Int)) (i r : Int) (w : World) (h : Prs w a n xs) (hc : n ≤ c) (hn : n ≤ 4611686018427387904) (hcm : c ≤ maxLen) (hs : isS xs = false) (hr : refOk (xs.take 12) i r = false) :
    Calls Try.prog 6 #[.slice a n c, .int .i64 i, .int .i64 r] w fun e w' => e = .returned (.bool true) ∧ Below w.heap.size w w' := by
  have H := Lib.hid h
  have HN := Lib.hid hr
  have HVR := Lib.hid (fun w h => validR_any a n c xs w h hn)
  rw [hs] at HVR
  clear h hs hr
  go_enter Try.func6, Try.ntmps6
  go_wp2_with fail
  refine (pairs_any a n c xs _ H.out hc hn hcm).mono ?_
  rintro e w1 ⟨a1, c1, m1, rfl, hm1, hp1, hc1, hcm1, hb⟩
  have HR1 := Lib.hid hb
  have HB1 := Lib.hid hb
  clear hb
  have HP1 := Lib.hid hp1
  clear hp1
  unfold maxLen at hcm1
  go_wp2_with fail
  refine (Refine_not a1 m1 c1 (xs.take 12) i r _ HP1.out hc1 (by omega) (by unfold maxLen; exact hcm1) HN.out).mono ?_
  rintro e w2 ⟨rfl, hb⟩
  have HR2 := Lib.hid hb
  have HB2 := Lib.hid (HB1.out.trans (hb.mono HB1.out.size))
  clear hb
  go_wp2_with fail
  refine (HVR.out _ (H.out.below HB2.out)).mono ?_
  rintro e w3 ⟨rfl, hb⟩
  have HR3 := Lib.hid hb
  have HB3 := Lib.hid (HB2.out.trans (hb.mono HB2.out.size))
  clear hb
  go_wp2_with fail
  refine (awake_any _).mono ?_
  rintro e w4 ⟨rfl, hb⟩
  have HR4 := Lib.hid hb
  have HB4 := Lib.hid (HB3.out.trans (hb.mono HB3.out.size))
  clear hb
  go_wp2
  go_ret
  exact ⟨rfl, HB4.out⟩
set_option maxRecDepth 100000 in
set_option maxHeartbeats 8000000 in
theorem lawRefines_i0 (a : Option Addr) (n c : Nat) (xs : List (Int × Int)) (i r : Int) (w : World) (h : Prs w a n xs) (hc : n ≤ c) (hn : n ≤ 4611686018427387904) (hcm : c ≤ maxLen) (hs : isS xs = true) (hr : refOk (xs.take 12) i r = false) (hi : i < 0) :
    Calls Try.prog 6 #[.slice a n c, .int .i64 i, .int .i64 r] w fun e w' => e = .returned (.bool true) ∧ Below w.heap.size w w' := by
  have H := Lib.hid h
  have HL := Lib.hid h.1
  have HT := Lib.hid (take12_yes hs)
  have HI := Lib.hid hs
  have HY := Lib.hid (isS_spec.1 hs)
  have hn2 : n ≤ 10 := by have := HY.out.len2; have := HL.out; omega
  have HVR := Lib.hid (fun w h => validR_any a n c xs w h hn)
  rw [hs] at HVR
  have HN := Lib.hid hr
  have HI0 := Lib.hid (hi)
  clear h hs hr hi
  go_enter Try.func6, Try.ntmps6
  go_wp2_with fail
  refine (pairs_any a n c xs _ H.out hc hn hcm).mono ?_
  rintro e w1 ⟨a1, c1, m1, rfl, hm1, hp1, hc1, hcm1, hb⟩
  have HR1 := Lib.hid hb
  have HB1 := Lib.hid hb
  clear hb
  have HP1 := Lib.hid hp1
  clear hp1
  unfold maxLen at hcm1
  go_wp2_with fail
  refine (Refine_not a1 m1 c1 (xs.take 12) i r _ HP1.out hc1 (by omega) (by unfold maxLen; exact hcm1) HN.out).mono ?_
  rintro e w2 ⟨rfl, hb⟩
  have HR2 := Lib.hid hb
  have HB2 := Lib.hid (HB1.out.trans (hb.mono HB1.out.size))
  clear hb
  go_wp2_with fail
  refine (HVR.out _ (H.out.below HB2.out)).mono ?_
  rintro e w3 ⟨rfl, hb⟩
  have HR3 := Lib.hid hb
  have HB3 := Lib.hid (HB2.out.trans (hb.mono HB2.out.size))
  clear hb
  go_wp2_with fail
  refine (RefineR_i0 a n c xs i r _ (H.out.below HB3.out) hc (by omega) hcm HI0.out).mono ?_
  rintro e w4 ⟨rfl, hb⟩
  have HR4 := Lib.hid hb
  have HB4 := Lib.hid (HB3.out.trans (hb.mono HB3.out.size))
  clear hb
  go_wp2_with fail
  refine (awake_any _).mono ?_
  rintro e w5 ⟨rfl, hb⟩
  have HR5 := Lib.hid hb
  have HB5 := Lib.hid (HB4.out.trans (hb.mono HB4.out.size))
  clear hb
  go_wp2
  go_ret
  exact ⟨rfl, HB5.out⟩
set_option maxRecDepth 100000 in
set_option maxHeartbeats 8000000 in
theorem lawRefines_in (a : Option Addr) (n c : Nat) (xs : List (Int × Int)) (i r : Int) (w : World) (h : Prs w a n xs) (hc : n ≤ c) (hn : n ≤ 4611686018427387904) (hcm : c ≤ maxLen) (hs : isS xs = true) (hr : refOk (xs.take 12) i r = false) (hi0 : 0 ≤ i) (hi : (n : Int) ≤ i) :
    Calls Try.prog 6 #[.slice a n c, .int .i64 i, .int .i64 r] w fun e w' => e = .returned (.bool true) ∧ Below w.heap.size w w' := by
  have H := Lib.hid h
  have HL := Lib.hid h.1
  have HT := Lib.hid (take12_yes hs)
  have HI := Lib.hid hs
  have HY := Lib.hid (isS_spec.1 hs)
  have hn2 : n ≤ 10 := by have := HY.out.len2; have := HL.out; omega
  have HVR := Lib.hid (fun w h => validR_any a n c xs w h hn)
  rw [hs] at HVR
  have HN := Lib.hid hr
  have HI0 := Lib.hid (And.intro hi0 hi)
  clear h hs hr hi0 hi
  go_enter Try.func6, Try.ntmps6
  go_wp2_with fail
  refine (pairs_any a n c xs _ H.out hc hn hcm).mono ?_
  rintro e w1 ⟨a1, c1, m1, rfl, hm1, hp1, hc1, hcm1, hb⟩
  have HR1 := Lib.hid hb
  have HB1 := Lib.hid hb
  clear hb
  have HP1 := Lib.hid hp1
  clear hp1
  unfold maxLen at hcm1
  go_wp2_with fail
  refine (Refine_not a1 m1 c1 (xs.take 12) i r _ HP1.out hc1 (by omega) (by unfold maxLen; exact hcm1) HN.out).mono ?_
  rintro e w2 ⟨rfl, hb⟩
  have HR2 := Lib.hid hb
  have HB2 := Lib.hid (HB1.out.trans (hb.mono HB1.out.size))
  clear hb
  go_wp2_with fail
  refine (HVR.out _ (H.out.below HB2.out)).mono ?_
  rintro e w3 ⟨rfl, hb⟩
  have HR3 := Lib.hid hb
  have HB3 := Lib.hid (HB2.out.trans (hb.mono HB2.out.size))
  clear hb
  go_wp2_with fail
  refine (RefineR_in a n c xs i r _ (H.out.below HB3.out) hc (by omega) hcm HI0.out.1 HI0.out.2).mono ?_
  rintro e w4 ⟨rfl, hb⟩
  have HR4 := Lib.hid hb
  have HB4 := Lib.hid (HB3.out.trans (hb.mono HB3.out.size))
  clear hb
  go_wp2_with fail
  refine (awake_any _).mono ?_
  rintro e w5 ⟨rfl, hb⟩
  have HR5 := Lib.hid hb
  have HB5 := Lib.hid (HB4.out.trans (hb.mono HB4.out.size))
  clear hb
  go_wp2
  go_ret
  exact ⟨rfl, HB5.out⟩
set_option maxRecDepth 100000 in
set_option maxHeartbeats 8000000 in
theorem lawRefines_r2 (a : Option Addr) (n c : Nat) (xs : List (Int × Int)) (i r : Int) (w : World) (h : Prs w a n xs) (hc : n ≤ c) (hn : n ≤ 4611686018427387904) (hcm : c ≤ maxLen) (hs : isS xs = true) (hr : refOk (xs.take 12) i r = false) (hi0 : 0 ≤ i) (hi : i < (n : Int)) (hr2 : r < 2) :
    Calls Try.prog 6 #[.slice a n c, .int .i64 i, .int .i64 r] w fun e w' => e = .returned (.bool true) ∧ Below w.heap.size w w' := by
  have H := Lib.hid h
  have HL := Lib.hid h.1
  have HT := Lib.hid (take12_yes hs)
  have HI := Lib.hid hs
  have HY := Lib.hid (isS_spec.1 hs)
  have hn2 : n ≤ 10 := by have := HY.out.len2; have := HL.out; omega
  have HVR := Lib.hid (fun w h => validR_any a n c xs w h hn)
  rw [hs] at HVR
  have HN := Lib.hid hr
  have HI0 := Lib.hid (And.intro hi0 (And.intro hi hr2))
  clear h hs hr hi0 hi hr2
  go_enter Try.func6, Try.ntmps6
  go_wp2_with fail
  refine (pairs_any a n c xs _ H.out hc hn hcm).mono ?_
  rintro e w1 ⟨a1, c1, m1, rfl, hm1, hp1, hc1, hcm1, hb⟩
  have HR1 := Lib.hid hb
  have HB1 := Lib.hid hb
  clear hb
  have HP1 := Lib.hid hp1
  clear hp1
  unfold maxLen at hcm1
  go_wp2_with fail
  refine (Refine_not a1 m1 c1 (xs.take 12) i r _ HP1.out hc1 (by omega) (by unfold maxLen; exact hcm1) HN.out).mono ?_
  rintro e w2 ⟨rfl, hb⟩
  have HR2 := Lib.hid hb
  have HB2 := Lib.hid (HB1.out.trans (hb.mono HB1.out.size))
  clear hb
  go_wp2_with fail
  refine (HVR.out _ (H.out.below HB2.out)).mono ?_
  rintro e w3 ⟨rfl, hb⟩
  have HR3 := Lib.hid hb
  have HB3 := Lib.hid (HB2.out.trans (hb.mono HB2.out.size))
  clear hb
  go_wp2_with fail
  refine (RefineR_r2 a n c xs i r _ (H.out.below HB3.out) hc (by omega) hcm HI0.out.1 HI0.out.2.1 HI0.out.2.2).mono ?_
  rintro e w4 ⟨rfl, hb⟩
  have HR4 := Lib.hid hb
  have HB4 := Lib.hid (HB3.out.trans (hb.mono HB3.out.size))
  clear hb
  go_wp2_with fail
  refine (awake_any _).mono ?_
  rintro e w5 ⟨rfl, hb⟩
  have HR5 := Lib.hid hb
  have HB5 := Lib.hid (HB4.out.trans (hb.mono HB4.out.size))
  clear hb
  go_wp2
  go_ret
  exact ⟨rfl, HB5.out⟩
set_option maxRecDepth 100000 in
set_option maxHeartbeats 8000000 in
theorem lawRefines_r5 (a : Option Addr) (n c : Nat) (xs : List (Int × Int)) (i r : Int) (w : World) (h : Prs w a n xs) (hc : n ≤ c) (hn : n ≤ 4611686018427387904) (hcm : c ≤ maxLen) (hs : isS xs = true) (hr : refOk (xs.take 12) i r = false) (hi0 : 0 ≤ i) (hi : i < (n : Int)) (hr2 : 2 ≤ r) (hr5 : 5 < r) :
    Calls Try.prog 6 #[.slice a n c, .int .i64 i, .int .i64 r] w fun e w' => e = .returned (.bool true) ∧ Below w.heap.size w w' := by
  have H := Lib.hid h
  have HL := Lib.hid h.1
  have HT := Lib.hid (take12_yes hs)
  have HI := Lib.hid hs
  have HY := Lib.hid (isS_spec.1 hs)
  have hn2 : n ≤ 10 := by have := HY.out.len2; have := HL.out; omega
  have HVR := Lib.hid (fun w h => validR_any a n c xs w h hn)
  rw [hs] at HVR
  have HN := Lib.hid hr
  have HI0 := Lib.hid (And.intro hi0 (And.intro hi (And.intro hr2 hr5)))
  clear h hs hr hi0 hi hr2 hr5
  go_enter Try.func6, Try.ntmps6
  go_wp2_with fail
  refine (pairs_any a n c xs _ H.out hc hn hcm).mono ?_
  rintro e w1 ⟨a1, c1, m1, rfl, hm1, hp1, hc1, hcm1, hb⟩
  have HR1 := Lib.hid hb
  have HB1 := Lib.hid hb
  clear hb
  have HP1 := Lib.hid hp1
  clear hp1
  unfold maxLen at hcm1
  go_wp2_with fail
  refine (Refine_not a1 m1 c1 (xs.take 12) i r _ HP1.out hc1 (by omega) (by unfold maxLen; exact hcm1) HN.out).mono ?_
  rintro e w2 ⟨rfl, hb⟩
  have HR2 := Lib.hid hb
  have HB2 := Lib.hid (HB1.out.trans (hb.mono HB1.out.size))
  clear hb
  go_wp2_with fail
  refine (HVR.out _ (H.out.below HB2.out)).mono ?_
  rintro e w3 ⟨rfl, hb⟩
  have HR3 := Lib.hid hb
  have HB3 := Lib.hid (HB2.out.trans (hb.mono HB2.out.size))
  clear hb
  go_wp2_with fail
  refine (RefineR_r5 a n c xs i r _ (H.out.below HB3.out) hc (by omega) hcm HI0.out.1 HI0.out.2.1 HI0.out.2.2.1 HI0.out.2.2.2).mono ?_
  rintro e w4 ⟨rfl, hb⟩
  have HR4 := Lib.hid hb
  have HB4 := Lib.hid (HB3.out.trans (hb.mono HB3.out.size))
  clear hb
  go_wp2_with fail
  refine (awake_any _).mono ?_
  rintro e w5 ⟨rfl, hb⟩
  have HR5 := Lib.hid hb
  have HB5 := Lib.hid (HB4.out.trans (hb.mono HB4.out.size))
  clear hb
  go_wp2
  go_ret
  exact ⟨rfl, HB5.out⟩
set_option maxRecDepth 100000 in
set_option maxHeartbeats 8000000 in
theorem lawRefines_no (a : Option Addr) (n c : Nat) (xs : List (Int × Int)) (i r : Int) (w : World) (h : Prs w a n xs) (hc : n ≤ c) (hn : n ≤ 4611686018427387904) (hcm : c ≤ maxLen) (hs : isS xs = true) (hr : refOk (xs.take 12) i r = false) (hi0 : 0 ≤ i) (hi : i < (n : Int)) (hr2 : 2 ≤ r) (hr5 : r ≤ 5) (hA : isS (refA xs i.toNat r) = false) :
    Calls Try.prog 6 #[.slice a n c, .int .i64 i, .int .i64 r] w fun e w' => e = .returned (.bool true) ∧ Below w.heap.size w w' := by
  have H := Lib.hid h
  have HL := Lib.hid h.1
  have HT := Lib.hid (take12_yes hs)
  have HI := Lib.hid hs
  have HY := Lib.hid (isS_spec.1 hs)
  have hn2 : n ≤ 10 := by have := HY.out.len2; have := HL.out; omega
  have HVR := Lib.hid (fun w h => validR_any a n c xs w h hn)
  rw [hs] at HVR
  have HN := Lib.hid hr
  have HRR := Lib.hid (fun w h => RefineR_yes a n c xs i r w h hc (by omega) hcm hi0 hi hr2 hr5 HY.out.ok)
  rw [hA] at HRR
  clear h hs hr hi0 hi hr2 hr5 hA
  go_enter Try.func6, Try.ntmps6
  go_wp2_with fail
  refine (pairs_any a n c xs _ H.out hc hn hcm).mono ?_
  rintro e w1 ⟨a1, c1, m1, rfl, hm1, hp1, hc1, hcm1, hb⟩
  have HR1 := Lib.hid hb
  have HB1 := Lib.hid hb
  clear hb
  have HP1 := Lib.hid hp1
  clear hp1
  unfold maxLen at hcm1
  go_wp2_with fail
  refine (Refine_not a1 m1 c1 (xs.take 12) i r _ HP1.out hc1 (by omega) (by unfold maxLen; exact hcm1) HN.out).mono ?_
  rintro e w2 ⟨rfl, hb⟩
  have HR2 := Lib.hid hb
  have HB2 := Lib.hid (HB1.out.trans (hb.mono HB1.out.size))
  clear hb
  go_wp2_with fail
  refine (HVR.out _ (H.out.below HB2.out)).mono ?_
  rintro e w3 ⟨rfl, hb⟩
  have HR3 := Lib.hid hb
  have HB3 := Lib.hid (HB2.out.trans (hb.mono HB2.out.size))
  clear hb
  go_wp2_with fail
  refine (HRR.out _ (H.out.below HB3.out)).mono ?_
  rintro e w4 ⟨vr, rfl, hrow, hb⟩
  have HR4 := Lib.hid hb
  have HB4 := Lib.hid (HB3.out.trans (hb.mono HB3.out.size))
  clear hb
  clear hrow
  go_wp2_with fail
  refine (awake_any _).mono ?_
  rintro e w5 ⟨rfl, hb⟩
  have HR5 := Lib.hid hb
  have HB5 := Lib.hid (HB4.out.trans (hb.mono HB4.out.size))
  clear hb
  go_wp2
  go_ret
  exact ⟨rfl, HB5.out⟩
set_option maxRecDepth 100000 in
set_option maxHeartbeats 8000000 in
theorem lawRefines_yes (a : Option Addr) (n c : Nat) (xs : List (Int × Int)) (i r : Int) (w : World) (h : Prs w a n xs) (hc : n ≤ c) (hn : n ≤ 4611686018427387904) (hcm : c ≤ maxLen) (hs : isS xs = true) (hr : refOk xs i r = true) :
    Calls Try.prog 6 #[.slice a n c, .int .i64 i, .int .i64 r] w fun e w' => e = .returned (.bool true) ∧ Below w.heap.size w w' := by
  have H := Lib.hid h
  have HL := Lib.hid h.1
  have HT := Lib.hid (take12_yes hs)
  have HI := Lib.hid hs
  have HY := Lib.hid (isS_spec.1 hs)
  have hn2 : n ≤ 10 := by have := HY.out.len2; have := HL.out; omega
  have HVR := Lib.hid (fun w h => validR_any a n c xs w h hn)
  rw [hs] at HVR
  obtain ⟨r1, r2, r3, r4, r5, r6⟩ := refOk_spec.1 hr
  have hin : i < (n : Int) := by have := HL.out; omega
  have HRR := Lib.hid (fun w h => RefineR_yes a n c xs i r w h hc (by omega) hcm r2 hin r4 r5 HY.out.ok)
  obtain ⟨A, hAA⟩ : ∃ A, refA xs i.toNat r = A := ⟨_, rfl⟩
  have hRY := fun (a : Option Addr) (n c : Nat) (w : World) (h : Prs w a n xs) hc hn hcm => Refine_yes a n c xs i r w h hc hn hcm hs r2 (by have := h.1; omega) r4 r5 r6
  rw [hAA] at r6 HRR
  rw [r6] at HRR
  simp only [hAA] at hRY
  obtain ⟨N, hN⟩ : ∃ N, A.length = N := ⟨_, rfl⟩
  have HNN := Lib.hid hN
  have hEQ := fun a1 a2 c1 c2 w h1 h2 => equal2_any A (by have := (isS_spec.1 r6).len2; omega) a1 a2 c1 c2 w h1 h2
  have hN10 : N ≤ 10 := by have := (isS_spec.1 r6).len2; omega
  rw [hN] at hRY hEQ
  have HRY := Lib.hid hRY
  have HEQ := Lib.hid hEQ
  clear h hs hr r1 r2 r3 r4 r5 r6 hAA hRY hEQ hN hin
  go_enter Try.func6, Try.ntmps6
  go_wp2_with fail
  refine (pairs_any a n c xs _ H.out hc hn hcm).mono ?_
  rintro e w1 ⟨a1, c1, m1, rfl, hm1, hp1, hc1, hcm1, hb⟩
  have HR1 := Lib.hid hb
  have HB1 := Lib.hid hb
  clear hb
  have HP1 := Lib.hid hp1
  clear hp1
  unfold maxLen at hcm1
  have hq1 := HP1.out
  rw [HT.out] at hq1
  have HQ1 := Lib.hid hq1
  clear hq1
  go_wp2_with fail
  refine (HRY.out a1 m1 c1 _ HQ1.out hc1 (by omega) (by unfold maxLen; exact hcm1)).mono ?_
  rintro e w2 ⟨ax, cx, rfl, hpx, hcx, hcmx, hb⟩
  have HR2 := Lib.hid hb
  have HB2 := Lib.hid (HB1.out.trans (hb.mono HB1.out.size))
  clear hb
  have HPX := Lib.hid hpx
  clear hpx
  unfold maxLen at hcmx
  go_wp2_with fail
  refine (HVR.out _ (H.out.below HB2.out)).mono ?_
  rintro e w3 ⟨rfl, hb⟩
  have HR3 := Lib.hid hb
  have HB3 := Lib.hid (HB2.out.trans (hb.mono HB2.out.size))
  clear hb
  have HX3 := Lib.hid (HPX.out.below HR3.out)
  go_wp2_with fail
  refine (HRR.out _ (H.out.below HB3.out)).mono ?_
  rintro e w4 ⟨vr, rfl, hrow, hb⟩
  have HR4 := Lib.hid hb
  have HB4 := Lib.hid (HB3.out.trans (hb.mono HB3.out.size))
  clear hb
  have HX4 := Lib.hid (HX3.out.below HR4.out)
  obtain ⟨ay, cy, rfl, hcy, hcmy, hpy⟩ := hrow.prs
  rw [HNN.out] at hcy hpy ⊢
  have HPY := Lib.hid hpy
  clear hpy hrow
  unfold maxLen at hcmy
  go_wp2_with fail
  refine (HEQ.out ax ay cx cy _ HX4.out HPY.out).mono ?_
  rintro e we ⟨rfl, q, rfl⟩
  have HB5 := Lib.hid (below_drewN HB4.out q)
  go_wp2_with fail
  refine (awake_any _).mono ?_
  rintro e w6 ⟨rfl, hb⟩
  have HR6 := Lib.hid hb
  have HB6 := Lib.hid (HB5.out.trans (hb.mono HB5.out.size))
  clear hb
  go_wp2
  go_ret
  exact ⟨rfl, HB6.out⟩

theorem lawRefines_any (a : Option Addr) (n c : Nat) (xs : List (Int × Int)) (i r : Int) (w : World) (h : Prs w a n xs) (hc : n ≤ c) (hn : n ≤ 4611686018427387904) (hcm : c ≤ maxLen) :
    Calls Try.prog 6 #[.slice a n c, .int .i64 i, .int .i64 r] w fun e w' => e = .returned (.bool true) ∧ Below w.heap.size w w' := by
  cases hr : refOk (xs.take 12) i r with
  | true =>
    obtain ⟨h1, h2⟩ := refOk_take hr
    exact lawRefines_yes a n c xs i r w h hc hn hcm (refOk_spec.1 h1).1 h1
  | false =>
    cases hs : isS xs with
    | false => exact lawRefines_bad a n c xs i r w h hc hn hcm hs hr
    | true =>
      by_cases h2 : i < 0
      · exact lawRefines_i0 a n c xs i r w h hc hn hcm hs hr h2
      · by_cases h3 : (n : Int) ≤ i
        · exact lawRefines_in a n c xs i r w h hc hn hcm hs hr (by omega) h3
        · by_cases h4 : r < 2
          · exact lawRefines_r2 a n c xs i r w h hc hn hcm hs hr (by omega) (by omega) h4
          · by_cases h5 : 5 < r
            · exact lawRefines_r5 a n c xs i r w h hc hn hcm hs hr (by omega) (by omega) (by omega) h5
            · cases h6 : isS (refA xs i.toNat r) with
              | false => exact lawRefines_no a n c xs i r w h hc hn hcm hs hr (by omega) (by omega) (by omega) (by omega) h6
              | true =>
                have := refOk_spec.2 ⟨hs, by omega, by have := h.1; omega, by omega, by omega, h6⟩
                rw [take12_yes hs, this] at hr; cases hr
end Go.Proofs.Ytanhjgneaaenpaa
