/- The walk of the law CoversSums, in every case. No condition. -/
import Derived.Test.YtanhjgneaaenpaaSay
namespace Go.Proofs.Ytanhjgneaaenpaa
open Go.RowKit
attribute [local go_sem] Oper.semAt_some

set_option maxRecDepth 100000 in
set_option maxHeartbeats 4000000 in
theorem lawSums_no (a : Option Addr) (n c : Nat) (xs : List (Int × Int)) (w : World) (h : Prs w a n xs) (hc : n ≤ c) (hn : n ≤ 4611686018427387904) (hcm : c ≤ maxLen) (hs : isS xs = false) :
    Calls Try.prog 7 #[.slice a n c] w fun e w' => e = .returned (.bool true) ∧ Below w.heap.size w w' := by
  have H := Lib.hid h
  have HT := Lib.hid (take12_no hs)
  have HW := Lib.hid (fun w h => wholeR_any a n c xs w h hn)
  obtain ⟨W, hW⟩ : ∃ W, wholeF xs = W := ⟨_, rfl⟩
  rw [hW] at HW
  clear h hs hW
  go_enter Try.func7, Try.ntmps7
  go_wp2_with fail
  refine (pairs_any a n c xs _ H.out hc hn hcm).mono ?_
  rintro e w1 ⟨a1, c1, m1, rfl, hm1, hp1, hc1, hcm1, hb⟩
  have HB1 := Lib.hid hb
  clear hb
  have HP1 := Lib.hid hp1
  clear hp1
  unfold maxLen at hcm1
  go_wp2_with fail
  refine (Left_no HT.out a1 m1 c1 _ HP1.out (by omega)).mono ?_
  rintro e w2 ⟨rfl, hb⟩
  have HB2 := Lib.hid (HB1.out.trans (hb.mono HB1.out.size))
  clear hb
  go_wp2_with fail
  refine (pairs_any a n c xs _ (H.out.below HB2.out) hc hn hcm).mono ?_
  rintro e w3 ⟨a3, c3, m3, rfl, hm3, hp3, hc3, hcm3, hb⟩
  have HB3 := Lib.hid (HB2.out.trans (hb.mono HB2.out.size))
  clear hb
  have HP3 := Lib.hid hp3
  clear hp3
  unfold maxLen at hcm3
  go_wp2_with fail
  refine (Twice_no HT.out a3 m3 c3 _ HP3.out (by omega)).mono ?_
  rintro e w4 ⟨rfl, hb⟩
  have HB4 := Lib.hid (HB3.out.trans (hb.mono HB3.out.size))
  clear hb
  go_wp2_with fail
  refine (pairs_any a n c xs _ (H.out.below HB4.out) hc hn hcm).mono ?_
  rintro e w5 ⟨a5, c5, m5, rfl, hm5, hp5, hc5, hcm5, hb⟩
  have HB5 := Lib.hid (HB4.out.trans (hb.mono HB4.out.size))
  clear hb
  have HP5 := Lib.hid hp5
  clear hp5
  unfold maxLen at hcm5
  go_wp2_with fail
  refine (Share_no HT.out a5 m5 c5 _ HP5.out (by omega)).mono ?_
  rintro e w6 ⟨rfl, hb⟩
  have HB6 := Lib.hid (HB5.out.trans (hb.mono HB5.out.size))
  clear hb
  have HB7 := Lib.hid (HB6.out.alloc HB6.out.size (.cells #[.int .i64 0, .int .i64 0] 28))
  go_wp2_with fail
  refine (HW.out _ (H.out.below HB7.out)).mono ?_
  rintro e w8 ⟨rfl, hb⟩
  have HB8 := Lib.hid (HB7.out.trans (hb.mono HB7.out.size))
  clear hb
  go_wp2_with fail
  refine (awake_any _).mono ?_
  rintro e w9 ⟨rfl, hb⟩
  have HB9 := Lib.hid (HB8.out.trans (hb.mono HB8.out.size))
  clear hb
  go_wp2
  go_ret
  exact ⟨rfl, HB9.out⟩

set_option maxRecDepth 100000 in
set_option maxHeartbeats 8000000 in
theorem lawSums_A (a : Option Addr) (n c : Nat) (xs : List (Int × Int)) (w : World) (h : Prs w a n xs) (hc : n ≤ c) (hn : n ≤ 4611686018427387904) (hcm : c ≤ maxLen) (hs : isS xs = true) (S W : Nat) (hS : sumW (wl xs) xs = S) (hW : wl xs = W) (l1 t1 u v : Int) (hl : leftF xs = (l1, 4)) (ht : twiceF xs = (t1, 4)) (hu : numF xs = u) (hv : denF xs = v) (hu1 : u = 1) (hv1 : v = 1) (hyp : W = S) :
    Calls Try.prog 7 #[.slice a n c] w fun e w' => e = .returned (.bool true) ∧ Below w.heap.size w w' := by
  have H := Lib.hid h
  have HL := Lib.hid h.1
  have HT := Lib.hid (take12_yes hs)
  have HI := Lib.hid hs
  have HW := Lib.hid (fun w h => wholeR_any a n c xs w h hn)
  have HY := Lib.hid (isS_spec.1 hs)
  have hwf : wholeF xs = W := by
    rw [← hW]
    exact wholeF_good (fun j hj => ⟨(HY.out.nth hj).1, (HY.out.nth hj).2.1⟩) HY.out.wl2
  rw [hwf] at HW
  have hW1 : 1 ≤ W := by rw [← hW]; exact HY.out.wl1
  have hW2 : W ≤ 10080 := by rw [← hW]; exact HY.out.wl2
  rw [hW] at hS
  have HS := Lib.hid hS
  have HLL := Lib.hid hl
  have HTT := Lib.hid ht
  have HU := Lib.hid hu
  have HV := Lib.hid hv
  have hn2 : n ≤ 10 := by have := HY.out.len2; have := HL.out; omega
  have wz : ((W : Int) == 0) = false := by simp; omega
  have HYP := Lib.hid hyp
  subst hu1 hv1
  clear h hs hwf hW hS hl ht hu hv hyp
  go_enter Try.func7, Try.ntmps7
  go_wp2_with fail
  refine (pairs_any a n c xs _ H.out hc hn hcm).mono ?_
  rintro e w1 ⟨a1, c1, m1, rfl, hm1, hp1, hc1, hcm1, hb⟩
  have HB1 := Lib.hid hb
  clear hb
  have HP1 := Lib.hid hp1
  clear hp1
  unfold maxLen at hcm1
  have hq1 := HP1.out
  rw [HT.out] at hq1
  have HQ1 := Lib.hid hq1
  clear hq1
  go_wp2_with fail
  refine (Left_yes HI.out l1 4 HLL.out a1 m1 c1 _ HQ1.out (by omega)).mono ?_
  rintro e w2 ⟨rfl, hb⟩
  have HB2 := Lib.hid (HB1.out.trans (hb.mono HB1.out.size))
  clear hb
  go_wp2_with fail
  refine (pairs_any a n c xs _ (H.out.below HB2.out) hc hn hcm).mono ?_
  rintro e w3 ⟨a3, c3, m3, rfl, hm3, hp3, hc3, hcm3, hb⟩
  have HB3 := Lib.hid (HB2.out.trans (hb.mono HB2.out.size))
  clear hb
  have HP3 := Lib.hid hp3
  clear hp3
  unfold maxLen at hcm3
  have hq3 := HP3.out
  rw [HT.out] at hq3
  have HQ3 := Lib.hid hq3
  clear hq3
  go_wp2_with fail
  refine (Twice_yes HI.out t1 4 HTT.out a3 m3 c3 _ HQ3.out (by omega)).mono ?_
  rintro e w4 ⟨rfl, hb⟩
  have HB4 := Lib.hid (HB3.out.trans (hb.mono HB3.out.size))
  clear hb
  go_wp2_with fail
  refine (pairs_any a n c xs _ (H.out.below HB4.out) hc hn hcm).mono ?_
  rintro e w5 ⟨a5, c5, m5, rfl, hm5, hp5, hc5, hcm5, hb⟩
  have HB5 := Lib.hid (HB4.out.trans (hb.mono HB4.out.size))
  clear hb
  have HP5 := Lib.hid hp5
  clear hp5
  unfold maxLen at hcm5
  have hq5 := HP5.out
  rw [HT.out] at hq5
  have HQ5 := Lib.hid hq5
  clear hq5
  go_wp2_with fail
  refine (Share_yes HI.out 1 1 HU.out HV.out a5 m5 c5 _ HQ5.out (by omega)).mono ?_
  rintro e w6 ⟨rfl, hb⟩
  have HB6 := Lib.hid (HB5.out.trans (hb.mono HB5.out.size))
  clear hb
  have HB7 := Lib.hid (HB6.out.alloc HB6.out.size (.cells #[.int .i64 1, .int .i64 1] 28))
  go_wp2_with fail
  refine (HW.out _ (H.out.below HB7.out)).mono ?_
  rintro e w8 ⟨rfl, hbx⟩
  have HB8 := Lib.hid (HB7.out.trans (hbx.mono HB7.out.size))
  have hz : w6.heap.size < (w6.alloc (.cells #[.int .i64 1, .int .i64 1] 28)).heap.size := by simp
  have hz1 := Nat.lt_of_lt_of_le hz hbx.size
  have hh0 := heap_alloc_last w6 (.cells #[.int .i64 1, .int .i64 1] 28)
  have cu : w8.cell? ⟨w6.heap.size, 0, none⟩ = some (.int .i64 1) := (hbx.cell (p := ⟨w6.heap.size, 0, none⟩) hz).trans (by unfold World.cell?; rw [hh0]; rfl)
  have cv : w8.cell? ⟨w6.heap.size, 1, none⟩ = some (.int .i64 1) := (hbx.cell (p := ⟨w6.heap.size, 1, none⟩) hz).trans (by unfold World.cell?; rw [hh0]; rfl)
  have HCU := Lib.hid cu
  have HCV := Lib.hid cv
  clear hbx hh0 hz cu cv
  go_wp2
  go_loopg [10, 54] n (fun gk s10 s54 wr => ∃ (j T : Nat), j + gk = n ∧ s54 = .int .i64 (j : Int) ∧ s10 = .int .i64 (T : Int) ∧ sumW W (xs.take j) = T ∧ Below w8.heap.size w8 wr)
  case atStart => exact ⟨0, 0, by omega, rfl, rfl, rfl, Below.refl _ _⟩
  case round =>
    obtain ⟨j, T, hj, rfl, rfl, hT, hb⟩ := hrel
    have HBX := Lib.hid hb
    have HB := Lib.hid (HB8.out.trans (hb.mono HB8.out.size))
    have HJ := Lib.hid hj
    have HSJ := Lib.hid hT
    clear hb hT
    by_cases hjn : j = n
    · have hge : ¬ (j : Int) < (n : Int) := by omega
      have hge2 : ¬ j < n := by omega
      have e : xs.take j = xs := by rw [List.take_of_length_le]; have := HL.out; omega
      have e2 : T = S := by rw [← HSJ.out, e]; exact HS.out
      subst e2
      have cu := (HBX.out.cell (p := ⟨w6.heap.size, 0, none⟩) hz1).trans HCU.out
      have cv := (HBX.out.cell (p := ⟨w6.heap.size, 1, none⟩) hz1).trans HCV.out
      have e28 := eql28
      have g28 := guard28
      have hST : decide (W ≤ T) = true := by simp; have := HYP.out; omega
      have hSE : ((T : Int) == (W : Int)) = true := by simp; have := HYP.out; omega
      clear hjn hj e
      go_wp2_with fail
      refine (awake_any _).mono ?_
      rintro e wz ⟨rfl, hb⟩
      have HZ := Lib.hid (HB.out.trans (hb.mono HB.out.size))
      clear hb
      go_wp2
      go_ret
      exact ⟨rfl, HZ.out⟩
    · have hlt : (j : Int) < (n : Int) := by omega
      have hlt2 : j < n := by omega
      have j0 : (0 : Int) ≤ (j : Int) := by omega
      obtain ⟨b, off, rfl, hbl, hc'⟩ := (H.out.below HB.out).at (by omega)
      obtain ⟨c0, c1⟩ := hc' j hlt2
      have hs := sumW_take (W := W) (L := xs) (k := j) (by have := HL.out; omega)
      have hle := sumW_le W (xs.take j)
      have hle2 : (xs.take j).length ≤ j := List.length_take_le _ _
      have hle3 : W * (xs.take j).length ≤ 10080 * 10 := Nat.mul_le_mul hW2 (by omega)
      rw [HSJ.out] at hle hs
      obtain ⟨k1, k2, -, -⟩ := HY.out.nth (j := j) (by have := HL.out; omega)
      obtain ⟨x, hx⟩ : ∃ x, (nth xs j).1 = x := ⟨_, rfl⟩
      obtain ⟨y, hy⟩ : ∃ y, (nth xs j).2 = y := ⟨_, rfl⟩
      rw [hx] at c0
      rw [hy] at c1 k1 k2 hs
      obtain ⟨m, rfl⟩ := Int.eq_ofNat_of_zero_le (show 0 ≤ y by omega)
      rw [Int.toNat_natCast] at hs
      have hdl := Nat.div_le_self W m
      have hT2 : (T : Int) ≤ 100800 := by omega
      have HS2 := Lib.hid hs
      have q0 : 0 ≤ (W : Int) / (m : Int) ∧ (W : Int) / (m : Int) ≤ 10080 := by
        rw [← Int.natCast_ediv]
        generalize W / m = t at hdl ⊢
        omega
      have q1 := q0.1
      have q2 := q0.2
      have m0 : ¬ (m : Int) = 0 := by omega
      have HBX2 := Lib.hid (HBX.out.alloc HBX.out.size (.cells #[.int .i64 x, .int .i64 (m : Int)] 44))
      clear hjn hj hc' hs hx hy hle hle2 hle3 hdl q0
      go_wp2
      go_roundg (gk - 1)
      case rel => exact ⟨j + 1, T + W / m, by have := HJ.out; omega, by go_num, by rw [Int.natCast_add, Int.natCast_ediv], HS2.out, HBX2.out⟩
      case measure => have := HJ.out; omega

set_option maxRecDepth 100000 in
set_option maxHeartbeats 8000000 in
theorem lawSums_B (a : Option Addr) (n c : Nat) (xs : List (Int × Int)) (w : World) (h : Prs w a n xs) (hc : n ≤ c) (hn : n ≤ 4611686018427387904) (hcm : c ≤ maxLen) (hs : isS xs = true) (S W : Nat) (hS : sumW (wl xs) xs = S) (hW : wl xs = W) (l1 t1 u v : Int) (hl : leftF xs = (l1, 4)) (ht : twiceF xs = (t1, 0)) (hu : numF xs = u) (hv : denF xs = v) (hu1 : u = 1) (hv1 : v = 1) (hyp : W < S) :
    Calls Try.prog 7 #[.slice a n c] w fun e w' => e = .returned (.bool true) ∧ Below w.heap.size w w' := by
  have H := Lib.hid h
  have HL := Lib.hid h.1
  have HT := Lib.hid (take12_yes hs)
  have HI := Lib.hid hs
  have HW := Lib.hid (fun w h => wholeR_any a n c xs w h hn)
  have HY := Lib.hid (isS_spec.1 hs)
  have hwf : wholeF xs = W := by
    rw [← hW]
    exact wholeF_good (fun j hj => ⟨(HY.out.nth hj).1, (HY.out.nth hj).2.1⟩) HY.out.wl2
  rw [hwf] at HW
  have hW1 : 1 ≤ W := by rw [← hW]; exact HY.out.wl1
  have hW2 : W ≤ 10080 := by rw [← hW]; exact HY.out.wl2
  rw [hW] at hS
  have HS := Lib.hid hS
  have HLL := Lib.hid hl
  have HTT := Lib.hid ht
  have HU := Lib.hid hu
  have HV := Lib.hid hv
  have hn2 : n ≤ 10 := by have := HY.out.len2; have := HL.out; omega
  have wz : ((W : Int) == 0) = false := by simp; omega
  have HYP := Lib.hid hyp
  subst hu1 hv1
  clear h hs hwf hW hS hl ht hu hv hyp
  go_enter Try.func7, Try.ntmps7
  go_wp2_with fail
  refine (pairs_any a n c xs _ H.out hc hn hcm).mono ?_
  rintro e w1 ⟨a1, c1, m1, rfl, hm1, hp1, hc1, hcm1, hb⟩
  have HB1 := Lib.hid hb
  clear hb
  have HP1 := Lib.hid hp1
  clear hp1
  unfold maxLen at hcm1
  have hq1 := HP1.out
  rw [HT.out] at hq1
  have HQ1 := Lib.hid hq1
  clear hq1
  go_wp2_with fail
  refine (Left_yes HI.out l1 4 HLL.out a1 m1 c1 _ HQ1.out (by omega)).mono ?_
  rintro e w2 ⟨rfl, hb⟩
  have HB2 := Lib.hid (HB1.out.trans (hb.mono HB1.out.size))
  clear hb
  go_wp2_with fail
  refine (pairs_any a n c xs _ (H.out.below HB2.out) hc hn hcm).mono ?_
  rintro e w3 ⟨a3, c3, m3, rfl, hm3, hp3, hc3, hcm3, hb⟩
  have HB3 := Lib.hid (HB2.out.trans (hb.mono HB2.out.size))
  clear hb
  have HP3 := Lib.hid hp3
  clear hp3
  unfold maxLen at hcm3
  have hq3 := HP3.out
  rw [HT.out] at hq3
  have HQ3 := Lib.hid hq3
  clear hq3
  go_wp2_with fail
  refine (Twice_yes HI.out t1 0 HTT.out a3 m3 c3 _ HQ3.out (by omega)).mono ?_
  rintro e w4 ⟨rfl, hb⟩
  have HB4 := Lib.hid (HB3.out.trans (hb.mono HB3.out.size))
  clear hb
  go_wp2_with fail
  refine (pairs_any a n c xs _ (H.out.below HB4.out) hc hn hcm).mono ?_
  rintro e w5 ⟨a5, c5, m5, rfl, hm5, hp5, hc5, hcm5, hb⟩
  have HB5 := Lib.hid (HB4.out.trans (hb.mono HB4.out.size))
  clear hb
  have HP5 := Lib.hid hp5
  clear hp5
  unfold maxLen at hcm5
  have hq5 := HP5.out
  rw [HT.out] at hq5
  have HQ5 := Lib.hid hq5
  clear hq5
  go_wp2_with fail
  refine (Share_yes HI.out 1 1 HU.out HV.out a5 m5 c5 _ HQ5.out (by omega)).mono ?_
  rintro e w6 ⟨rfl, hb⟩
  have HB6 := Lib.hid (HB5.out.trans (hb.mono HB5.out.size))
  clear hb
  have HB7 := Lib.hid (HB6.out.alloc HB6.out.size (.cells #[.int .i64 1, .int .i64 1] 28))
  go_wp2_with fail
  refine (HW.out _ (H.out.below HB7.out)).mono ?_
  rintro e w8 ⟨rfl, hbx⟩
  have HB8 := Lib.hid (HB7.out.trans (hbx.mono HB7.out.size))
  have hz : w6.heap.size < (w6.alloc (.cells #[.int .i64 1, .int .i64 1] 28)).heap.size := by simp
  have hz1 := Nat.lt_of_lt_of_le hz hbx.size
  have hh0 := heap_alloc_last w6 (.cells #[.int .i64 1, .int .i64 1] 28)
  have cu : w8.cell? ⟨w6.heap.size, 0, none⟩ = some (.int .i64 1) := (hbx.cell (p := ⟨w6.heap.size, 0, none⟩) hz).trans (by unfold World.cell?; rw [hh0]; rfl)
  have cv : w8.cell? ⟨w6.heap.size, 1, none⟩ = some (.int .i64 1) := (hbx.cell (p := ⟨w6.heap.size, 1, none⟩) hz).trans (by unfold World.cell?; rw [hh0]; rfl)
  have HCU := Lib.hid cu
  have HCV := Lib.hid cv
  clear hbx hh0 hz cu cv
  go_wp2
  go_loopg [10, 54] n (fun gk s10 s54 wr => ∃ (j T : Nat), j + gk = n ∧ s54 = .int .i64 (j : Int) ∧ s10 = .int .i64 (T : Int) ∧ sumW W (xs.take j) = T ∧ Below w8.heap.size w8 wr)
  case atStart => exact ⟨0, 0, by omega, rfl, rfl, rfl, Below.refl _ _⟩
  case round =>
    obtain ⟨j, T, hj, rfl, rfl, hT, hb⟩ := hrel
    have HBX := Lib.hid hb
    have HB := Lib.hid (HB8.out.trans (hb.mono HB8.out.size))
    have HJ := Lib.hid hj
    have HSJ := Lib.hid hT
    clear hb hT
    by_cases hjn : j = n
    · have hge : ¬ (j : Int) < (n : Int) := by omega
      have hge2 : ¬ j < n := by omega
      have e : xs.take j = xs := by rw [List.take_of_length_le]; have := HL.out; omega
      have e2 : T = S := by rw [← HSJ.out, e]; exact HS.out
      subst e2
      have cu := (HBX.out.cell (p := ⟨w6.heap.size, 0, none⟩) hz1).trans HCU.out
      have cv := (HBX.out.cell (p := ⟨w6.heap.size, 1, none⟩) hz1).trans HCV.out
      have e28 := eql28
      have g28 := guard28
      have hST : decide (W ≤ T) = true := by simp; have := HYP.out; omega
      have hSE : ((T : Int) == (W : Int)) = false := by simp; have := HYP.out; omega
      clear hjn hj e
      go_wp2_with fail
      refine (awake_any _).mono ?_
      rintro e wz ⟨rfl, hb⟩
      have HZ := Lib.hid (HB.out.trans (hb.mono HB.out.size))
      clear hb
      go_wp2
      go_ret
      exact ⟨rfl, HZ.out⟩
    · have hlt : (j : Int) < (n : Int) := by omega
      have hlt2 : j < n := by omega
      have j0 : (0 : Int) ≤ (j : Int) := by omega
      obtain ⟨b, off, rfl, hbl, hc'⟩ := (H.out.below HB.out).at (by omega)
      obtain ⟨c0, c1⟩ := hc' j hlt2
      have hs := sumW_take (W := W) (L := xs) (k := j) (by have := HL.out; omega)
      have hle := sumW_le W (xs.take j)
      have hle2 : (xs.take j).length ≤ j := List.length_take_le _ _
      have hle3 : W * (xs.take j).length ≤ 10080 * 10 := Nat.mul_le_mul hW2 (by omega)
      rw [HSJ.out] at hle hs
      obtain ⟨k1, k2, -, -⟩ := HY.out.nth (j := j) (by have := HL.out; omega)
      obtain ⟨x, hx⟩ : ∃ x, (nth xs j).1 = x := ⟨_, rfl⟩
      obtain ⟨y, hy⟩ : ∃ y, (nth xs j).2 = y := ⟨_, rfl⟩
      rw [hx] at c0
      rw [hy] at c1 k1 k2 hs
      obtain ⟨m, rfl⟩ := Int.eq_ofNat_of_zero_le (show 0 ≤ y by omega)
      rw [Int.toNat_natCast] at hs
      have hdl := Nat.div_le_self W m
      have hT2 : (T : Int) ≤ 100800 := by omega
      have HS2 := Lib.hid hs
      have q0 : 0 ≤ (W : Int) / (m : Int) ∧ (W : Int) / (m : Int) ≤ 10080 := by
        rw [← Int.natCast_ediv]
        generalize W / m = t at hdl ⊢
        omega
      have q1 := q0.1
      have q2 := q0.2
      have m0 : ¬ (m : Int) = 0 := by omega
      have HBX2 := Lib.hid (HBX.out.alloc HBX.out.size (.cells #[.int .i64 x, .int .i64 (m : Int)] 44))
      clear hjn hj hc' hs hx hy hle hle2 hle3 hdl q0
      go_wp2
      go_roundg (gk - 1)
      case rel => exact ⟨j + 1, T + W / m, by have := HJ.out; omega, by go_num, by rw [Int.natCast_add, Int.natCast_ediv], HS2.out, HBX2.out⟩
      case measure => have := HJ.out; omega

set_option maxRecDepth 100000 in
set_option maxHeartbeats 8000000 in
theorem lawSums_C (a : Option Addr) (n c : Nat) (xs : List (Int × Int)) (w : World) (h : Prs w a n xs) (hc : n ≤ c) (hn : n ≤ 4611686018427387904) (hcm : c ≤ maxLen) (hs : isS xs = true) (S W : Nat) (hS : sumW (wl xs) xs = S) (hW : wl xs = W) (l1 t1 u v : Int) (hl : leftF xs = (l1, 0)) (ht : twiceF xs = (t1, 4)) (hu : numF xs = u) (hv : denF xs = v) (huv : (u == 1 && v == 1) = false) (hyp : S < W) :
    Calls Try.prog 7 #[.slice a n c] w fun e w' => e = .returned (.bool true) ∧ Below w.heap.size w w' := by
  have H := Lib.hid h
  have HL := Lib.hid h.1
  have HT := Lib.hid (take12_yes hs)
  have HI := Lib.hid hs
  have HW := Lib.hid (fun w h => wholeR_any a n c xs w h hn)
  have HY := Lib.hid (isS_spec.1 hs)
  have hwf : wholeF xs = W := by
    rw [← hW]
    exact wholeF_good (fun j hj => ⟨(HY.out.nth hj).1, (HY.out.nth hj).2.1⟩) HY.out.wl2
  rw [hwf] at HW
  have hW1 : 1 ≤ W := by rw [← hW]; exact HY.out.wl1
  have hW2 : W ≤ 10080 := by rw [← hW]; exact HY.out.wl2
  rw [hW] at hS
  have HS := Lib.hid hS
  have HLL := Lib.hid hl
  have HTT := Lib.hid ht
  have HU := Lib.hid hu
  have HV := Lib.hid hv
  have hn2 : n ≤ 10 := by have := HY.out.len2; have := HL.out; omega
  have wz : ((W : Int) == 0) = false := by simp; omega
  have HYP := Lib.hid hyp
  clear h hs hwf hW hS hl ht hu hv hyp
  go_enter Try.func7, Try.ntmps7
  go_wp2_with fail
  refine (pairs_any a n c xs _ H.out hc hn hcm).mono ?_
  rintro e w1 ⟨a1, c1, m1, rfl, hm1, hp1, hc1, hcm1, hb⟩
  have HB1 := Lib.hid hb
  clear hb
  have HP1 := Lib.hid hp1
  clear hp1
  unfold maxLen at hcm1
  have hq1 := HP1.out
  rw [HT.out] at hq1
  have HQ1 := Lib.hid hq1
  clear hq1
  go_wp2_with fail
  refine (Left_yes HI.out l1 0 HLL.out a1 m1 c1 _ HQ1.out (by omega)).mono ?_
  rintro e w2 ⟨rfl, hb⟩
  have HB2 := Lib.hid (HB1.out.trans (hb.mono HB1.out.size))
  clear hb
  go_wp2_with fail
  refine (pairs_any a n c xs _ (H.out.below HB2.out) hc hn hcm).mono ?_
  rintro e w3 ⟨a3, c3, m3, rfl, hm3, hp3, hc3, hcm3, hb⟩
  have HB3 := Lib.hid (HB2.out.trans (hb.mono HB2.out.size))
  clear hb
  have HP3 := Lib.hid hp3
  clear hp3
  unfold maxLen at hcm3
  have hq3 := HP3.out
  rw [HT.out] at hq3
  have HQ3 := Lib.hid hq3
  clear hq3
  go_wp2_with fail
  refine (Twice_yes HI.out t1 4 HTT.out a3 m3 c3 _ HQ3.out (by omega)).mono ?_
  rintro e w4 ⟨rfl, hb⟩
  have HB4 := Lib.hid (HB3.out.trans (hb.mono HB3.out.size))
  clear hb
  go_wp2_with fail
  refine (pairs_any a n c xs _ (H.out.below HB4.out) hc hn hcm).mono ?_
  rintro e w5 ⟨a5, c5, m5, rfl, hm5, hp5, hc5, hcm5, hb⟩
  have HB5 := Lib.hid (HB4.out.trans (hb.mono HB4.out.size))
  clear hb
  have HP5 := Lib.hid hp5
  clear hp5
  unfold maxLen at hcm5
  have hq5 := HP5.out
  rw [HT.out] at hq5
  have HQ5 := Lib.hid hq5
  clear hq5
  go_wp2_with fail
  refine (Share_yes HI.out u v HU.out HV.out a5 m5 c5 _ HQ5.out (by omega)).mono ?_
  rintro e w6 ⟨rfl, hb⟩
  have HB6 := Lib.hid (HB5.out.trans (hb.mono HB5.out.size))
  clear hb
  have HB7 := Lib.hid (HB6.out.alloc HB6.out.size (.cells #[.int .i64 u, .int .i64 v] 28))
  go_wp2_with fail
  refine (HW.out _ (H.out.below HB7.out)).mono ?_
  rintro e w8 ⟨rfl, hbx⟩
  have HB8 := Lib.hid (HB7.out.trans (hbx.mono HB7.out.size))
  have hz : w6.heap.size < (w6.alloc (.cells #[.int .i64 u, .int .i64 v] 28)).heap.size := by simp
  have hz1 := Nat.lt_of_lt_of_le hz hbx.size
  have hh0 := heap_alloc_last w6 (.cells #[.int .i64 u, .int .i64 v] 28)
  have cu : w8.cell? ⟨w6.heap.size, 0, none⟩ = some (.int .i64 u) := (hbx.cell (p := ⟨w6.heap.size, 0, none⟩) hz).trans (by unfold World.cell?; rw [hh0]; rfl)
  have cv : w8.cell? ⟨w6.heap.size, 1, none⟩ = some (.int .i64 v) := (hbx.cell (p := ⟨w6.heap.size, 1, none⟩) hz).trans (by unfold World.cell?; rw [hh0]; rfl)
  have HCU := Lib.hid cu
  have HCV := Lib.hid cv
  clear hbx hh0 hz cu cv
  go_wp2
  go_loopg [10, 54] n (fun gk s10 s54 wr => ∃ (j T : Nat), j + gk = n ∧ s54 = .int .i64 (j : Int) ∧ s10 = .int .i64 (T : Int) ∧ sumW W (xs.take j) = T ∧ Below w8.heap.size w8 wr)
  case atStart => exact ⟨0, 0, by omega, rfl, rfl, rfl, Below.refl _ _⟩
  case round =>
    obtain ⟨j, T, hj, rfl, rfl, hT, hb⟩ := hrel
    have HBX := Lib.hid hb
    have HB := Lib.hid (HB8.out.trans (hb.mono HB8.out.size))
    have HJ := Lib.hid hj
    have HSJ := Lib.hid hT
    clear hb hT
    by_cases hjn : j = n
    · have hge : ¬ (j : Int) < (n : Int) := by omega
      have hge2 : ¬ j < n := by omega
      have e : xs.take j = xs := by rw [List.take_of_length_le]; have := HL.out; omega
      have e2 : T = S := by rw [← HSJ.out, e]; exact HS.out
      subst e2
      have cu := (HBX.out.cell (p := ⟨w6.heap.size, 0, none⟩) hz1).trans HCU.out
      have cv := (HBX.out.cell (p := ⟨w6.heap.size, 1, none⟩) hz1).trans HCV.out
      have e28 := eql28
      have g28 := guard28
      have hST : decide (T < W) = true := by simp; have := HYP.out; omega
      clear hjn hj e
      go_wp2_with fail
      refine (awake_any _).mono ?_
      rintro e wz ⟨rfl, hb⟩
      have HZ := Lib.hid (HB.out.trans (hb.mono HB.out.size))
      clear hb
      go_wp2
      go_ret
      exact ⟨rfl, HZ.out⟩
    · have hlt : (j : Int) < (n : Int) := by omega
      have hlt2 : j < n := by omega
      have j0 : (0 : Int) ≤ (j : Int) := by omega
      obtain ⟨b, off, rfl, hbl, hc'⟩ := (H.out.below HB.out).at (by omega)
      obtain ⟨c0, c1⟩ := hc' j hlt2
      have hs := sumW_take (W := W) (L := xs) (k := j) (by have := HL.out; omega)
      have hle := sumW_le W (xs.take j)
      have hle2 : (xs.take j).length ≤ j := List.length_take_le _ _
      have hle3 : W * (xs.take j).length ≤ 10080 * 10 := Nat.mul_le_mul hW2 (by omega)
      rw [HSJ.out] at hle hs
      obtain ⟨k1, k2, -, -⟩ := HY.out.nth (j := j) (by have := HL.out; omega)
      obtain ⟨x, hx⟩ : ∃ x, (nth xs j).1 = x := ⟨_, rfl⟩
      obtain ⟨y, hy⟩ : ∃ y, (nth xs j).2 = y := ⟨_, rfl⟩
      rw [hx] at c0
      rw [hy] at c1 k1 k2 hs
      obtain ⟨m, rfl⟩ := Int.eq_ofNat_of_zero_le (show 0 ≤ y by omega)
      rw [Int.toNat_natCast] at hs
      have hdl := Nat.div_le_self W m
      have hT2 : (T : Int) ≤ 100800 := by omega
      have HS2 := Lib.hid hs
      have q0 : 0 ≤ (W : Int) / (m : Int) ∧ (W : Int) / (m : Int) ≤ 10080 := by
        rw [← Int.natCast_ediv]
        generalize W / m = t at hdl ⊢
        omega
      have q1 := q0.1
      have q2 := q0.2
      have m0 : ¬ (m : Int) = 0 := by omega
      have HBX2 := Lib.hid (HBX.out.alloc HBX.out.size (.cells #[.int .i64 x, .int .i64 (m : Int)] 44))
      clear hjn hj hc' hs hx hy hle hle2 hle3 hdl q0
      go_wp2
      go_roundg (gk - 1)
      case rel => exact ⟨j + 1, T + W / m, by have := HJ.out; omega, by go_num, by rw [Int.natCast_add, Int.natCast_ediv], HS2.out, HBX2.out⟩
      case measure => have := HJ.out; omega

set_option maxRecDepth 100000 in
set_option maxHeartbeats 8000000 in
theorem lawSums_D (a : Option Addr) (n c : Nat) (xs : List (Int × Int)) (w : World) (h : Prs w a n xs) (hc : n ≤ c) (hn : n ≤ 4611686018427387904) (hcm : c ≤ maxLen) (hs : isS xs = true) (S W : Nat) (hS : sumW (wl xs) xs = S) (hW : wl xs = W) (l1 t1 u v : Int) (hl : leftF xs = (l1, 0)) (ht : twiceF xs = (t1, 0)) (hu : numF xs = u) (hv : denF xs = v) (huv : (u == 1 && v == 1) = false) (hyp : True) :
    Calls Try.prog 7 #[.slice a n c] w fun e w' => e = .returned (.bool true) ∧ Below w.heap.size w w' := by
  have H := Lib.hid h
  have HL := Lib.hid h.1
  have HT := Lib.hid (take12_yes hs)
  have HI := Lib.hid hs
  have HW := Lib.hid (fun w h => wholeR_any a n c xs w h hn)
  have HY := Lib.hid (isS_spec.1 hs)
  have hwf : wholeF xs = W := by
    rw [← hW]
    exact wholeF_good (fun j hj => ⟨(HY.out.nth hj).1, (HY.out.nth hj).2.1⟩) HY.out.wl2
  rw [hwf] at HW
  have hW1 : 1 ≤ W := by rw [← hW]; exact HY.out.wl1
  have hW2 : W ≤ 10080 := by rw [← hW]; exact HY.out.wl2
  rw [hW] at hS
  have HS := Lib.hid hS
  have HLL := Lib.hid hl
  have HTT := Lib.hid ht
  have HU := Lib.hid hu
  have HV := Lib.hid hv
  have hn2 : n ≤ 10 := by have := HY.out.len2; have := HL.out; omega
  have wz : ((W : Int) == 0) = false := by simp; omega
  have HYP := Lib.hid hyp
  clear h hs hwf hW hS hl ht hu hv hyp
  go_enter Try.func7, Try.ntmps7
  go_wp2_with fail
  refine (pairs_any a n c xs _ H.out hc hn hcm).mono ?_
  rintro e w1 ⟨a1, c1, m1, rfl, hm1, hp1, hc1, hcm1, hb⟩
  have HB1 := Lib.hid hb
  clear hb
  have HP1 := Lib.hid hp1
  clear hp1
  unfold maxLen at hcm1
  have hq1 := HP1.out
  rw [HT.out] at hq1
  have HQ1 := Lib.hid hq1
  clear hq1
  go_wp2_with fail
  refine (Left_yes HI.out l1 0 HLL.out a1 m1 c1 _ HQ1.out (by omega)).mono ?_
  rintro e w2 ⟨rfl, hb⟩
  have HB2 := Lib.hid (HB1.out.trans (hb.mono HB1.out.size))
  clear hb
  go_wp2_with fail
  refine (pairs_any a n c xs _ (H.out.below HB2.out) hc hn hcm).mono ?_
  rintro e w3 ⟨a3, c3, m3, rfl, hm3, hp3, hc3, hcm3, hb⟩
  have HB3 := Lib.hid (HB2.out.trans (hb.mono HB2.out.size))
  clear hb
  have HP3 := Lib.hid hp3
  clear hp3
  unfold maxLen at hcm3
  have hq3 := HP3.out
  rw [HT.out] at hq3
  have HQ3 := Lib.hid hq3
  clear hq3
  go_wp2_with fail
  refine (Twice_yes HI.out t1 0 HTT.out a3 m3 c3 _ HQ3.out (by omega)).mono ?_
  rintro e w4 ⟨rfl, hb⟩
  have HB4 := Lib.hid (HB3.out.trans (hb.mono HB3.out.size))
  clear hb
  go_wp2_with fail
  refine (pairs_any a n c xs _ (H.out.below HB4.out) hc hn hcm).mono ?_
  rintro e w5 ⟨a5, c5, m5, rfl, hm5, hp5, hc5, hcm5, hb⟩
  have HB5 := Lib.hid (HB4.out.trans (hb.mono HB4.out.size))
  clear hb
  have HP5 := Lib.hid hp5
  clear hp5
  unfold maxLen at hcm5
  have hq5 := HP5.out
  rw [HT.out] at hq5
  have HQ5 := Lib.hid hq5
  clear hq5
  go_wp2_with fail
  refine (Share_yes HI.out u v HU.out HV.out a5 m5 c5 _ HQ5.out (by omega)).mono ?_
  rintro e w6 ⟨rfl, hb⟩
  have HB6 := Lib.hid (HB5.out.trans (hb.mono HB5.out.size))
  clear hb
  have HB7 := Lib.hid (HB6.out.alloc HB6.out.size (.cells #[.int .i64 u, .int .i64 v] 28))
  go_wp2_with fail
  refine (HW.out _ (H.out.below HB7.out)).mono ?_
  rintro e w8 ⟨rfl, hbx⟩
  have HB8 := Lib.hid (HB7.out.trans (hbx.mono HB7.out.size))
  have hz : w6.heap.size < (w6.alloc (.cells #[.int .i64 u, .int .i64 v] 28)).heap.size := by simp
  have hz1 := Nat.lt_of_lt_of_le hz hbx.size
  have hh0 := heap_alloc_last w6 (.cells #[.int .i64 u, .int .i64 v] 28)
  have cu : w8.cell? ⟨w6.heap.size, 0, none⟩ = some (.int .i64 u) := (hbx.cell (p := ⟨w6.heap.size, 0, none⟩) hz).trans (by unfold World.cell?; rw [hh0]; rfl)
  have cv : w8.cell? ⟨w6.heap.size, 1, none⟩ = some (.int .i64 v) := (hbx.cell (p := ⟨w6.heap.size, 1, none⟩) hz).trans (by unfold World.cell?; rw [hh0]; rfl)
  have HCU := Lib.hid cu
  have HCV := Lib.hid cv
  clear hbx hh0 hz cu cv
  go_wp2
  go_loopg [10, 54] n (fun gk s10 s54 wr => ∃ (j T : Nat), j + gk = n ∧ s54 = .int .i64 (j : Int) ∧ s10 = .int .i64 (T : Int) ∧ sumW W (xs.take j) = T ∧ Below w8.heap.size w8 wr)
  case atStart => exact ⟨0, 0, by omega, rfl, rfl, rfl, Below.refl _ _⟩
  case round =>
    obtain ⟨j, T, hj, rfl, rfl, hT, hb⟩ := hrel
    have HBX := Lib.hid hb
    have HB := Lib.hid (HB8.out.trans (hb.mono HB8.out.size))
    have HJ := Lib.hid hj
    have HSJ := Lib.hid hT
    clear hb hT
    by_cases hjn : j = n
    · have hge : ¬ (j : Int) < (n : Int) := by omega
      have hge2 : ¬ j < n := by omega
      have e : xs.take j = xs := by rw [List.take_of_length_le]; have := HL.out; omega
      have e2 : T = S := by rw [← HSJ.out, e]; exact HS.out
      subst e2
      have cu := (HBX.out.cell (p := ⟨w6.heap.size, 0, none⟩) hz1).trans HCU.out
      have cv := (HBX.out.cell (p := ⟨w6.heap.size, 1, none⟩) hz1).trans HCV.out
      have e28 := eql28
      have g28 := guard28
      skip
      clear hjn hj e
      go_wp2_with fail
      refine (awake_any _).mono ?_
      rintro e wz ⟨rfl, hb⟩
      have HZ := Lib.hid (HB.out.trans (hb.mono HB.out.size))
      clear hb
      go_wp2
      go_ret
      exact ⟨rfl, HZ.out⟩
    · have hlt : (j : Int) < (n : Int) := by omega
      have hlt2 : j < n := by omega
      have j0 : (0 : Int) ≤ (j : Int) := by omega
      obtain ⟨b, off, rfl, hbl, hc'⟩ := (H.out.below HB.out).at (by omega)
      obtain ⟨c0, c1⟩ := hc' j hlt2
      have hs := sumW_take (W := W) (L := xs) (k := j) (by have := HL.out; omega)
      have hle := sumW_le W (xs.take j)
      have hle2 : (xs.take j).length ≤ j := List.length_take_le _ _
      have hle3 : W * (xs.take j).length ≤ 10080 * 10 := Nat.mul_le_mul hW2 (by omega)
      rw [HSJ.out] at hle hs
      obtain ⟨k1, k2, -, -⟩ := HY.out.nth (j := j) (by have := HL.out; omega)
      obtain ⟨x, hx⟩ : ∃ x, (nth xs j).1 = x := ⟨_, rfl⟩
      obtain ⟨y, hy⟩ : ∃ y, (nth xs j).2 = y := ⟨_, rfl⟩
      rw [hx] at c0
      rw [hy] at c1 k1 k2 hs
      obtain ⟨m, rfl⟩ := Int.eq_ofNat_of_zero_le (show 0 ≤ y by omega)
      rw [Int.toNat_natCast] at hs
      have hdl := Nat.div_le_self W m
      have hT2 : (T : Int) ≤ 100800 := by omega
      have HS2 := Lib.hid hs
      have q0 : 0 ≤ (W : Int) / (m : Int) ∧ (W : Int) / (m : Int) ≤ 10080 := by
        rw [← Int.natCast_ediv]
        generalize W / m = t at hdl ⊢
        omega
      have q1 := q0.1
      have q2 := q0.2
      have m0 : ¬ (m : Int) = 0 := by omega
      have HBX2 := Lib.hid (HBX.out.alloc HBX.out.size (.cells #[.int .i64 x, .int .i64 (m : Int)] 44))
      clear hjn hj hc' hs hx hy hle hle2 hle3 hdl q0
      go_wp2
      go_roundg (gk - 1)
      case rel => exact ⟨j + 1, T + W / m, by have := HJ.out; omega, by go_num, by rw [Int.natCast_add, Int.natCast_ediv], HS2.out, HBX2.out⟩
      case measure => have := HJ.out; omega

theorem lawSums_any (a : Option Addr) (n c : Nat) (xs : List (Int × Int)) (w : World) (h : Prs w a n xs) (hc : n ≤ c) (hn : n ≤ 4611686018427387904) (hcm : c ≤ maxLen) :
    Calls Try.prog 7 #[.slice a n c] w fun e w' => e = .returned (.bool true) ∧ Below w.heap.size w w' := by
  cases hs : isS xs with
  | false => exact lawSums_no a n c xs w h hc hn hcm hs
  | true =>
    have hS := isS_spec.1 hs
    have hl : leftF xs = ((leftF xs).1, (leftF xs).2) := rfl
    have ht : twiceF xs = ((twiceF xs).1, (twiceF xs).2) := rfl
    have h1 := share1 hS
    rcases left_or xs with h0 | h4
    · rw [h0] at hl h1
      have huv : (numF xs == 1 && denF xs == 1) = false := by
        cases e : (numF xs == 1 && denF xs == 1) with
        | false => rfl
        | true =>
          simp only [Bool.and_eq_true, beq_iff_eq] at e
          exact absurd (h1.1 e) (by decide)
      rcases twice_or xs with t0 | t4
      · rw [t0] at ht
        exact lawSums_D a n c xs w h hc hn hcm hs _ _ rfl rfl _ _ _ _ hl ht rfl rfl huv trivial
      · rw [t4] at ht
        exact lawSums_C a n c xs w h hc hn hcm hs _ _ rfl rfl _ _ _ _ hl ht rfl rfl huv (sums_no hS (by rw [h0]; decide) (by rw [t4]; decide))
    · rw [h4] at hl
      obtain ⟨hu, hv⟩ := h1.2 h4
      obtain ⟨g1, g2⟩ := sums_yes hS h4
      rcases twice_or xs with t0 | t4
      · have hne : ¬ sumW (wl xs) xs = wl xs := fun e => by have := g2.1 e; rw [t0] at this; cases this
        rw [t0] at ht
        exact lawSums_B a n c xs w h hc hn hcm hs _ _ rfl rfl _ _ _ _ hl ht rfl rfl hu hv (by omega)
      · have he := g2.2 t4
        rw [t4] at ht
        exact lawSums_A a n c xs w h hc hn hcm hs _ _ rfl rfl _ _ _ _ hl ht rfl rfl hu hv he.symm
end Go.Proofs.Ytanhjgneaaenpaa
