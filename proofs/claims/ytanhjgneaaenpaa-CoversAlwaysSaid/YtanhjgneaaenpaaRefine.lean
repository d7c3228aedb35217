/- The walk of covers.Refine, in every case. Condition: the slice lies in memory. -/
import Derived.Test.YtanhjgneaaenpaaRepl
import Derived.Test.YtanhjgneaaenpaaRefined
namespace Go.Proofs.Ytanhjgneaaenpaa
open Go.RowKit
attribute [local go_sem] Oper.semAt_some
set_option maxRecDepth 100000 in
set_option maxHeartbeats 4000000 in
theorem Refine_bad (a : Option Addr) (n c : Nat) (xs : List (Int × Int)) (i r : Int) (w : World) (h : Prs w a n xs) (hc : n ≤ c) (hn : n ≤ 4611686018427387904) (hcm : c ≤ maxLen) (hs : isS xs = false) :
    Calls Try.prog 39 #[.slice a n c, .int .i64 i, .int .i64 r] w fun e w' => e = .returned (.tuple #[.slice none 0 0, .int .i64 2]) ∧ Below w.heap.size w w' := by
  have H := Lib.hid h
  have HL := Lib.hid h.1
  have HV := Lib.hid (valid_any a n c xs w h hn)
  rw [hs] at HV
  clear h hs
  go_enter Try.func39, Try.ntmps39
  go_wp2_with fail
  refine (HV.out).mono ?_
  rintro e w1 ⟨rfl, hb⟩
  have HR1 := Lib.hid hb
  have HB1 := Lib.hid hb
  clear hb
  go_wp2
  go_ret2
  exact ⟨rfl, HB1.out⟩
set_option maxRecDepth 100000 in
set_option maxHeartbeats 4000000 in
theorem Refine_i0 (a : Option Addr) (n c : Nat) (xs : List (Int × Int)) (i r : Int) (w : World) (h : Prs w a n xs) (hc : n ≤ c) (hn : n ≤ 4611686018427387904) (hcm : c ≤ maxLen) (hs : isS xs = true) (hi : i < 0) :
    Calls Try.prog 39 #[.slice a n c, .int .i64 i, .int .i64 r] w fun e w' => e = .returned (.tuple #[.slice none 0 0, .int .i64 2]) ∧ Below w.heap.size w w' := by
  have H := Lib.hid h
  have HL := Lib.hid h.1
  have HV := Lib.hid (valid_any a n c xs w h hn)
  rw [hs] at HV
  have k1 : decide (i < 0) = true := by simpa using hi
  clear h hs
  go_enter Try.func39, Try.ntmps39
  go_wp2_with fail
  refine (HV.out).mono ?_
  rintro e w1 ⟨rfl, hb⟩
  have HR1 := Lib.hid hb
  have HB1 := Lib.hid hb
  clear hb
  go_wp2
  go_ret2
  exact ⟨rfl, HB1.out⟩
set_option maxRecDepth 100000 in
set_option maxHeartbeats 4000000 in
theorem Refine_in (a : Option Addr) (n c : Nat) (xs : List (Int × Int)) (i r : Int) (w : World) (h : Prs w a n xs) (hc : n ≤ c) (hn : n ≤ 4611686018427387904) (hcm : c ≤ maxLen) (hs : isS xs = true) (hi0 : 0 ≤ i) (hi : (n : Int) ≤ i) :
    Calls Try.prog 39 #[.slice a n c, .int .i64 i, .int .i64 r] w fun e w' => e = .returned (.tuple #[.slice none 0 0, .int .i64 2]) ∧ Below w.heap.size w w' := by
  have H := Lib.hid h
  have HL := Lib.hid h.1
  have HV := Lib.hid (valid_any a n c xs w h hn)
  rw [hs] at HV
  have k1 : decide (i < 0) = false := by simp; omega
  have k2 : decide ((n : Int) ≤ i) = true := by simpa using hi
  clear h hs
  go_enter Try.func39, Try.ntmps39
  go_wp2_with fail
  refine (HV.out).mono ?_
  rintro e w1 ⟨rfl, hb⟩
  have HR1 := Lib.hid hb
  have HB1 := Lib.hid hb
  clear hb
  go_wp2
  go_ret2
  exact ⟨rfl, HB1.out⟩
set_option maxRecDepth 100000 in
set_option maxHeartbeats 4000000 in
theorem Refine_r2 (a : Option Addr) (n c : Nat) (xs : List (Int × Int)) (i r : Int) (w : World) (h : Prs w a n xs) (hc : n ≤ c) (hn : n ≤ 4611686018427387904) (hcm : c ≤ maxLen) (hs : isS xs = true) (hi0 : 0 ≤ i) (hi : i < (n : Int)) (hr : r < 2) :
    Calls Try.prog 39 #[.slice a n c, .int .i64 i, .int .i64 r] w fun e w' => e = .returned (.tuple #[.slice none 0 0, .int .i64 2]) ∧ Below w.heap.size w w' := by
  have H := Lib.hid h
  have HL := Lib.hid h.1
  have HV := Lib.hid (valid_any a n c xs w h hn)
  rw [hs] at HV
  have k1 : decide (i < 0) = false := by simp; omega
  have k2 : decide ((n : Int) ≤ i) = false := by simp; omega
  have k3 : decide (r < 2) = true := by simpa using hr
  clear h hs
  go_enter Try.func39, Try.ntmps39
  go_wp2_with fail
  refine (HV.out).mono ?_
  rintro e w1 ⟨rfl, hb⟩
  have HR1 := Lib.hid hb
  have HB1 := Lib.hid hb
  clear hb
  go_wp2
  go_ret2
  exact ⟨rfl, HB1.out⟩
set_option maxRecDepth 100000 in
set_option maxHeartbeats 4000000 in
theorem Refine_r5 (a : Option Addr) (n c : Nat) (xs : List (Int × Int)) (i r : Int) (w : World) (h : Prs w a n xs) (hc : n ≤ c) (hn : n ≤ 4611686018427387904) (hcm : c ≤ maxLen) (hs : isS xs = true) (hi0 : 0 ≤ i) (hi : i < (n : Int)) (hr2 : 2 ≤ r) (hr : 5 < r) :
    Calls Try.prog 39 #[.slice a n c, .int .i64 i, .int .i64 r] w fun e w' => e = .returned (.tuple #[.slice none 0 0, .int .i64 2]) ∧ Below w.heap.size w w' := by
  have H := Lib.hid h
  have HL := Lib.hid h.1
  have HV := Lib.hid (valid_any a n c xs w h hn)
  rw [hs] at HV
  have k1 : decide (i < 0) = false := by simp; omega
  have k2 : decide ((n : Int) ≤ i) = false := by simp; omega
  have k3 : decide (r < 2) = false := by simp; omega
  have k4 : decide (5 < r) = true := by simpa using hr
  clear h hs
  go_enter Try.func39, Try.ntmps39
  go_wp2_with fail
  refine (HV.out).mono ?_
  rintro e w1 ⟨rfl, hb⟩
  have HR1 := Lib.hid hb
  have HB1 := Lib.hid hb
  clear hb
  go_wp2
  go_ret2
  exact ⟨rfl, HB1.out⟩
set_option maxRecDepth 100000 in
set_option maxHeartbeats 4000000 in
theorem Refine_no (a : Option Addr) (n c : Nat) (xs : List (Int × Int)) (i r : Int) (w : World) (h : Prs w a n xs) (hc : n ≤ c) (hn : n ≤ 4611686018427387904) (hcm : c ≤ maxLen) (hs : isS xs = true) (hi0 : 0 ≤ i) (hi : i < (n : Int)) (hr2 : 2 ≤ r) (hr5 : r ≤ 5) (hA : isS (refA xs i.toNat r) = false) :
    Calls Try.prog 39 #[.slice a n c, .int .i64 i, .int .i64 r] w fun e w' => e = .returned (.tuple #[.slice none 0 0, .int .i64 2]) ∧ Below w.heap.size w w' := by
  have H := Lib.hid h
  have HL := Lib.hid h.1
  have HV := Lib.hid (valid_any a n c xs w h hn)
  rw [hs] at HV
  have HY := Lib.hid (isS_spec.1 hs)
  obtain ⟨I, rfl⟩ := Int.eq_ofNat_of_zero_le hi0
  obtain ⟨R, rfl⟩ := Int.eq_ofNat_of_zero_le (show 0 ≤ r by omega)
  have k1 : decide ((I : Int) < 0) = false := by simp
  have k2 : decide ((n : Int) ≤ (I : Int)) = false := by simp; omega
  have k2' : decide (n ≤ I) = false := by simp; omega
  have k3 : decide ((R : Int) < 2) = false := by simp; omega
  have k4 : decide (5 < (R : Int)) = false := by simp; omega
  have hn2 : n ≤ 10 := by have := HY.out.len2; have := HL.out; omega
  have hIn : I < n := by omega
  have hr : (nth xs I).2 = (nth xs I).2 := rfl
  rw [Int.toNat_natCast] at hA
  try rw [Int.toNat_natCast]
  have R5 : R ≤ 5 := by omega
  have hAl : (refA xs I (R : Int)).length ≤ 1000 := by
    unfold refA
    rw [List.length_append, List.length_append, List.length_take, List.length_drop, refL_len, HL.out, Int.toNat_natCast]
    omega
  obtain ⟨b, off, rfl, hbl, hcell⟩ := h.at (by omega)
  have hcell1 : ∀ W, Below w.heap.size w W → W.cell? ⟨b, off + I * 2, none⟩ = some (.int .i64 (nth xs I).1) ∧ W.cell? ⟨b, off + I * 2 + 1, none⟩ = some (.int .i64 (nth xs I).2) := fun W hW => ⟨(hW.cell (p := ⟨b, off + I * 2, none⟩) hbl).trans (hcell I hIn).1, (hW.cell (p := ⟨b, off + I * 2 + 1, none⟩) hbl).trans (hcell I hIn).2⟩
  have HC := Lib.hid hcell1
  have hok := HY.out.nth (j := I) (by have := HL.out; omega)
  have HRR := Lib.hid (fun w => refined_any (nth xs I).1 (nth xs I).2 R w ⟨hok.2.2.1, hok.2.2.2⟩ ⟨hok.1, hok.2.1⟩ (by omega))
  have e0 : ((nth xs I).1, (nth xs I).2) = nth xs I := rfl
  rw [e0] at HRR
  have hAe : refA xs I (R : Int) = xs.take I ++ refL (nth xs I) (R : Int) R ++ xs.drop (I + 1) := by unfold refA; rw [Int.toNat_natCast]
  have HAE := Lib.hid hAe
  have HA := Lib.hid hA
  have HAL := Lib.hid hAl
  have HRL := Lib.hid (refL_len (nth xs I) (R : Int) R)
  obtain ⟨A, hAA⟩ : ∃ A, refA xs I (R : Int) = A := ⟨_, rfl⟩
  rw [hAA] at HA HAL HAE
  try rw [hAA]
  obtain ⟨N, hN⟩ : ∃ N, A.length = N := ⟨_, rfl⟩
  try rw [hN]
  have HNN := Lib.hid hN
  obtain ⟨x, hx⟩ : ∃ x, (nth xs I).1 = x := ⟨_, rfl⟩
  obtain ⟨y, hy⟩ : ∃ y, (nth xs I).2 = y := ⟨_, rfl⟩
  rw [hx, hy] at HRR HC
  have I0 : (0 : Int) ≤ (I : Int) := by omega
  have I1 : (I : Int) < (n : Int) := by omega
  clear h hs hi0 hi hr2 hr5 hA hAl hcell hcell1 hok e0 hAe hAA hx hy hr hN
  go_enter Try.func39, Try.ntmps39
  go_wp2_with fail
  refine (HV.out).mono ?_
  rintro e w1 ⟨rfl, hb⟩
  have HR1 := Lib.hid hb
  have HB1 := Lib.hid hb
  clear hb
  obtain ⟨c0, c1⟩ := HC.out w1 HB1.out
  go_wp2_with fail
  refine (HRR.out _).mono ?_
  rintro e w2 ⟨v2, rfl, hr2, hb⟩
  have HR2 := Lib.hid hb
  have HB2 := Lib.hid (HB1.out.trans (hb.mono HB1.out.size))
  clear hb
  obtain ⟨a2, c2, rfl, hl2, hm2, hp2⟩ := hr2.prs
  rw [HRL.out] at hp2 hl2 ⊢
  have HP2 := Lib.hid hp2
  clear hr2 hp2 c0 c1
  go_wp2_with fail
  refine (replaced_any _ n c I xs a2 R c2 (refL (nth xs I) (R : Int) R) _ (H.out.below HB2.out) hIn hc (by omega) hcm HP2.out (by omega)).mono ?_
  rintro e w3 ⟨v3, rfl, hb3, hb⟩
  have HR3 := Lib.hid hb
  have HB3 := Lib.hid (HB2.out.trans (hb.mono HB2.out.size))
  clear hb
  rw [← HAE.out] at hb3
  obtain ⟨a3, c3, rfl, hl3, hm3, hp3⟩ := hb3.prs (by have := HAL.out; omega)
  have HP3 := Lib.hid hp3
  clear hb3 hp3
  have hV2 := valid_any a3 A.length c3 A w3 HP3.out (by have := HAL.out; omega)
  rw [HA.out] at hV2
  have HV2 := Lib.hid hV2
  clear hV2
  rw [HNN.out] at HV2 HP3 hl3 ⊢
  go_wp2_with fail
  refine (HV2.out).mono ?_
  rintro e w4 ⟨rfl, hb⟩
  have HR4 := Lib.hid hb
  have HB4 := Lib.hid (HB3.out.trans (hb.mono HB3.out.size))
  clear hb
  go_wp2
  go_ret2
  exact ⟨rfl, HB4.out⟩
set_option maxRecDepth 100000 in
set_option maxHeartbeats 4000000 in
theorem Refine_yes (a : Option Addr) (n c : Nat) (xs : List (Int × Int)) (i r : Int) (w : World) (h : Prs w a n xs) (hc : n ≤ c) (hn : n ≤ 4611686018427387904) (hcm : c ≤ maxLen) (hs : isS xs = true) (hi0 : 0 ≤ i) (hi : i < (n : Int)) (hr2 : 2 ≤ r) (hr5 : r ≤ 5) (hA : isS (refA xs i.toNat r) = true) :
    Calls Try.prog 39 #[.slice a n c, .int .i64 i, .int .i64 r] w fun e w' => ∃ a' c', e = .returned (.tuple #[.slice a' (refA xs i.toNat r).length c', .int .i64 0]) ∧ Prs w' a' (refA xs i.toNat r).length (refA xs i.toNat r) ∧ (refA xs i.toNat r).length ≤ c' ∧ c' ≤ maxLen ∧ Below w.heap.size w w' := by
  have H := Lib.hid h
  have HL := Lib.hid h.1
  have HV := Lib.hid (valid_any a n c xs w h hn)
  rw [hs] at HV
  have HY := Lib.hid (isS_spec.1 hs)
  obtain ⟨I, rfl⟩ := Int.eq_ofNat_of_zero_le hi0
  obtain ⟨R, rfl⟩ := Int.eq_ofNat_of_zero_le (show 0 ≤ r by omega)
  have k1 : decide ((I : Int) < 0) = false := by simp
  have k2 : decide ((n : Int) ≤ (I : Int)) = false := by simp; omega
  have k2' : decide (n ≤ I) = false := by simp; omega
  have k3 : decide ((R : Int) < 2) = false := by simp; omega
  have k4 : decide (5 < (R : Int)) = false := by simp; omega
  have hn2 : n ≤ 10 := by have := HY.out.len2; have := HL.out; omega
  have hIn : I < n := by omega
  have hr : (nth xs I).2 = (nth xs I).2 := rfl
  rw [Int.toNat_natCast] at hA
  try rw [Int.toNat_natCast]
  have R5 : R ≤ 5 := by omega
  have hAl : (refA xs I (R : Int)).length ≤ 1000 := by
    unfold refA
    rw [List.length_append, List.length_append, List.length_take, List.length_drop, refL_len, HL.out, Int.toNat_natCast]
    omega
  obtain ⟨b, off, rfl, hbl, hcell⟩ := h.at (by omega)
  have hcell1 : ∀ W, Below w.heap.size w W → W.cell? ⟨b, off + I * 2, none⟩ = some (.int .i64 (nth xs I).1) ∧ W.cell? ⟨b, off + I * 2 + 1, none⟩ = some (.int .i64 (nth xs I).2) := fun W hW => ⟨(hW.cell (p := ⟨b, off + I * 2, none⟩) hbl).trans (hcell I hIn).1, (hW.cell (p := ⟨b, off + I * 2 + 1, none⟩) hbl).trans (hcell I hIn).2⟩
  have HC := Lib.hid hcell1
  have hok := HY.out.nth (j := I) (by have := HL.out; omega)
  have HRR := Lib.hid (fun w => refined_any (nth xs I).1 (nth xs I).2 R w ⟨hok.2.2.1, hok.2.2.2⟩ ⟨hok.1, hok.2.1⟩ (by omega))
  have e0 : ((nth xs I).1, (nth xs I).2) = nth xs I := rfl
  rw [e0] at HRR
  have hAe : refA xs I (R : Int) = xs.take I ++ refL (nth xs I) (R : Int) R ++ xs.drop (I + 1) := by unfold refA; rw [Int.toNat_natCast]
  have HAE := Lib.hid hAe
  have HA := Lib.hid hA
  have HAL := Lib.hid hAl
  have HRL := Lib.hid (refL_len (nth xs I) (R : Int) R)
  obtain ⟨A, hAA⟩ : ∃ A, refA xs I (R : Int) = A := ⟨_, rfl⟩
  rw [hAA] at HA HAL HAE
  try rw [hAA]
  obtain ⟨N, hN⟩ : ∃ N, A.length = N := ⟨_, rfl⟩
  try rw [hN]
  have HNN := Lib.hid hN
  obtain ⟨x, hx⟩ : ∃ x, (nth xs I).1 = x := ⟨_, rfl⟩
  obtain ⟨y, hy⟩ : ∃ y, (nth xs I).2 = y := ⟨_, rfl⟩
  rw [hx, hy] at HRR HC
  have I0 : (0 : Int) ≤ (I : Int) := by omega
  have I1 : (I : Int) < (n : Int) := by omega
  clear h hs hi0 hi hr2 hr5 hA hAl hcell hcell1 hok e0 hAe hAA hx hy hr hN
  go_enter Try.func39, Try.ntmps39
  go_wp2_with fail
  refine (HV.out).mono ?_
  rintro e w1 ⟨rfl, hb⟩
  have HR1 := Lib.hid hb
  have HB1 := Lib.hid hb
  clear hb
  obtain ⟨c0, c1⟩ := HC.out w1 HB1.out
  go_wp2_with fail
  refine (HRR.out _).mono ?_
  rintro e w2 ⟨v2, rfl, hr2, hb⟩
  have HR2 := Lib.hid hb
  have HB2 := Lib.hid (HB1.out.trans (hb.mono HB1.out.size))
  clear hb
  obtain ⟨a2, c2, rfl, hl2, hm2, hp2⟩ := hr2.prs
  rw [HRL.out] at hp2 hl2 ⊢
  have HP2 := Lib.hid hp2
  clear hr2 hp2 c0 c1
  go_wp2_with fail
  refine (replaced_any _ n c I xs a2 R c2 (refL (nth xs I) (R : Int) R) _ (H.out.below HB2.out) hIn hc (by omega) hcm HP2.out (by omega)).mono ?_
  rintro e w3 ⟨v3, rfl, hb3, hb⟩
  have HR3 := Lib.hid hb
  have HB3 := Lib.hid (HB2.out.trans (hb.mono HB2.out.size))
  clear hb
  rw [← HAE.out] at hb3
  obtain ⟨a3, c3, rfl, hl3, hm3, hp3⟩ := hb3.prs (by have := HAL.out; omega)
  have HP3 := Lib.hid hp3
  clear hb3 hp3
  have hV2 := valid_any a3 A.length c3 A w3 HP3.out (by have := HAL.out; omega)
  rw [HA.out] at hV2
  have HV2 := Lib.hid hV2
  clear hV2
  rw [HNN.out] at HV2 HP3 hl3 ⊢
  unfold maxLen at hm3
  go_wp2_with fail
  refine (HV2.out).mono ?_
  rintro e w4 ⟨rfl, hb⟩
  have HR4 := Lib.hid hb
  have HP4 := Lib.hid (HP3.out.below hb)
  have HB4 := Lib.hid (HB3.out.trans (hb.mono HB3.out.size))
  clear hb
  go_wp2
  go_ret2
  exact ⟨a3, c3, rfl, HP4.out, hl3, hm3, HB4.out⟩

/-- Is what Refine is given valid? -/
def refOk (xs : List (Int × Int)) (i r : Int) : Bool := isS xs && decide (0 ≤ i) && decide (i < (xs.length : Int)) && decide (2 ≤ r) && decide (r ≤ 5) && isS (refA xs i.toNat r)
theorem refOk_spec {xs : List (Int × Int)} {i r : Int} : refOk xs i r = true ↔ isS xs = true ∧ 0 ≤ i ∧ i < (xs.length : Int) ∧ 2 ≤ r ∧ r ≤ 5 ∧ isS (refA xs i.toNat r) = true := by
  unfold refOk
  simp only [Bool.and_eq_true, decide_eq_true_eq]
  exact ⟨fun ⟨⟨⟨⟨⟨a, b⟩, c⟩, d⟩, e⟩, f⟩ => ⟨a, b, c, d, e, f⟩, fun ⟨a, b, c, d, e, f⟩ => ⟨⟨⟨⟨⟨a, b⟩, c⟩, d⟩, e⟩, f⟩⟩
theorem Refine_not (a : Option Addr) (n c : Nat) (xs : List (Int × Int)) (i r : Int) (w : World) (h : Prs w a n xs) (hc : n ≤ c) (hn : n ≤ 4611686018427387904) (hcm : c ≤ maxLen) (hs : refOk xs i r = false) :
    Calls Try.prog 39 #[.slice a n c, .int .i64 i, .int .i64 r] w fun e w' => e = .returned (.tuple #[.slice none 0 0, .int .i64 2]) ∧ Below w.heap.size w w' := by
  cases h1 : isS xs with
  | false => exact Refine_bad a n c xs i r w h hc hn hcm h1
  | true =>
    by_cases h2 : i < 0
    · exact Refine_i0 a n c xs i r w h hc hn hcm h1 h2
    · by_cases h3 : (n : Int) ≤ i
      · exact Refine_in a n c xs i r w h hc hn hcm h1 (by omega) h3
      · by_cases h4 : r < 2
        · exact Refine_r2 a n c xs i r w h hc hn hcm h1 (by omega) (by omega) h4
        · by_cases h5 : 5 < r
          · exact Refine_r5 a n c xs i r w h hc hn hcm h1 (by omega) (by omega) (by omega) h5
          · cases h6 : isS (refA xs i.toNat r) with
            | false => exact Refine_no a n c xs i r w h hc hn hcm h1 (by omega) (by omega) (by omega) (by omega) h6
            | true =>
              have := refOk_spec.2 ⟨h1, by omega, by have := h.1; omega, by omega, by omega, h6⟩
              rw [this] at hs; cases hs
end Go.Proofs.Ytanhjgneaaenpaa
