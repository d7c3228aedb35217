/- The walk of the law CoversParted, in every case. No condition. -/
import Derived.Test.YtanhjgneaaenpaaSay
import Derived.Test.YtanhjgneaaenpaaMoves
import Derived.Test.YtanhjgneaaenpaaRefine
namespace Go.Proofs.Ytanhjgneaaenpaa
open Go.RowKit
attribute [local go_sem] Oper.semAt_some

theorem cell_pair (W : World) (x y : Value) (t : TypeId) : (W.alloc (.cells #[x, y] t)).cell? ⟨W.heap.size, 0, none⟩ = some x ∧ (W.alloc (.cells #[x, y] t)).cell? ⟨W.heap.size, 1, none⟩ = some y := by
  constructor
  · unfold World.cell?; rw [heap_alloc_last]; rfl
  · unfold World.cell?; rw [heap_alloc_last]; rfl
theorem refOk_take {xs : List (Int × Int)} {i r : Int} (h : refOk (xs.take 12) i r = true) : refOk xs i r = true ∧ xs.take 12 = xs := by
  have hs := (refOk_spec.1 h).1
  cases e : isS xs with
  | false => rw [take12_no e] at hs; cases hs
  | true =>
    have := take12_yes e
    rw [this] at h
    exact ⟨h, this⟩
set_option maxRecDepth 100000 in
set_option maxHeartbeats 8000000 in
theorem lawParted_no (a : Option Addr) (n c : Nat) (xs : List (Int × Int)) (i r : Int) (w : World) (h : Prs w a n xs) (hc : n ≤ c) (hn : n ≤ 4611686018427387904) (hcm : c ≤ maxLen) (hs : refOk (xs.take 12) i r = false) :
    Calls Try.prog 9 #[.slice a n c, .int .i64 i, .int .i64 r] w fun e w' => e = .returned (.bool true) ∧ Below w.heap.size w w' := by
  have H := Lib.hid h
  have HN := Lib.hid hs
  clear h hs
  go_enter Try.func9, Try.ntmps9
  go_wp2_with fail
  refine (pairs_any a n c xs _ H.out hc hn hcm).mono ?_
  rintro e w1 ⟨a1, c1, m1, rfl, hm1, hp1, hc1, hcm1, hb⟩
  have HR1 := Lib.hid hb
  have HB1 := Lib.hid hb
  clear hb
  have HP1 := Lib.hid hp1
  clear hp1
  unfold maxLen at hcm1
  go_wp2_with fail
  refine (Refine_not a1 m1 c1 (xs.take 12) i r _ HP1.out hc1 (by omega) (by unfold maxLen; exact hcm1) HN.out).mono ?_
  rintro e w2 ⟨rfl, hb⟩
  have HR2 := Lib.hid hb
  have HB2 := Lib.hid (HB1.out.trans (hb.mono HB1.out.size))
  clear hb
  go_wp2_with fail
  refine (awake_any _).mono ?_
  rintro e w3 ⟨rfl, hb⟩
  have HR3 := Lib.hid hb
  have HB3 := Lib.hid (HB2.out.trans (hb.mono HB2.out.size))
  clear hb
  go_wp2
  go_ret
  exact ⟨rfl, HB3.out⟩
set_option maxRecDepth 100000 in
set_option maxHeartbeats 8000000 in
theorem lawParted_yes (a : Option Addr) (n c : Nat) (xs : List (Int × Int)) (i r : Int) (w : World) (h : Prs w a n xs) (hc : n ≤ c) (hn : n ≤ 4611686018427387904) (hcm : c ≤ maxLen) (hs : isS xs = true) (hr : refOk xs i r = true) (l1 l2 t1 t2 u v : Int) (hl : leftF xs = (l1, l2)) (ht : twiceF xs = (t1, t2)) (hu : numF xs = u) (hv : denF xs = v) :
    Calls Try.prog 9 #[.slice a n c, .int .i64 i, .int .i64 r] w fun e w' => e = .returned (.bool true) ∧ Below w.heap.size w w' := by
  have H := Lib.hid h
  have HL := Lib.hid h.1
  have HT := Lib.hid (take12_yes hs)
  have HI := Lib.hid hs
  have HY := Lib.hid (isS_spec.1 hs)
  have hn2 : n ≤ 10 := by have := HY.out.len2; have := HL.out; omega
  have HVR := Lib.hid (fun w h => validR_any a n c xs w h hn)
  rw [hs] at HVR
  obtain ⟨r1, r2, r3, r4, r5, r6⟩ := refOk_spec.1 hr
  have hA := alike HY.out (isS_spec.1 r6) (fun m => refine_tm (by omega) (HY.out.nth (show i.toNat < xs.length by omega)).1 r4 _)
  obtain ⟨A, hAA⟩ : ∃ A, refA xs i.toNat r = A := ⟨_, rfl⟩
  have hRY := fun (a : Option Addr) (n c : Nat) (w : World) (h : Prs w a n xs) hc hn hcm => Refine_yes a n c xs i r w h hc hn hcm hs r2 (by have := h.1; omega) r4 r5 r6
  rw [hAA] at hA r6
  simp only [hAA] at hRY
  rw [hl, ht, hu, hv] at hA
  have HRY := Lib.hid hRY
  have HA := Lib.hid hA
  have HI2 := Lib.hid r6
  have HAL := Lib.hid (isS_spec.1 r6).len2
  have HLL := Lib.hid hl
  have HTT := Lib.hid ht
  have HU := Lib.hid hu
  have HV := Lib.hid hv
  clear h hs hr hl ht hu hv r1 r2 r3 r4 r5 r6 hA hAA hRY
  have e28 := eql28
  have g28 := guard28
  go_enter Try.func9, Try.ntmps9
  go_wp2_with fail
  refine (pairs_any a n c xs _ H.out hc hn hcm).mono ?_
  rintro e w1 ⟨a1, c1, m1, rfl, hm1, hp1, hc1, hcm1, hb⟩
  have HR1 := Lib.hid hb
  have HB1 := Lib.hid hb
  clear hb
  have HP1 := Lib.hid hp1
  clear hp1
  unfold maxLen at hcm1
  have hq1 := HP1.out
  rw [HT.out] at hq1
  have HQ1 := Lib.hid hq1
  clear hq1
  go_wp2_with fail
  refine (HRY.out a1 m1 c1 _ HQ1.out hc1 (by omega) (by unfold maxLen; exact hcm1)).mono ?_
  rintro e w2 ⟨ax, cx, rfl, hpx, hcx, hcmx, hb⟩
  have HR2 := Lib.hid hb
  have HB2 := Lib.hid (HB1.out.trans (hb.mono HB1.out.size))
  clear hb
  have HPX := Lib.hid hpx
  clear hpx
  unfold maxLen at hcmx
  obtain ⟨N, hN⟩ : ∃ N, A.length = N := ⟨_, rfl⟩
  rw [hN] at HPX hcx HAL ⊢
  have hN10 := HAL.out
  clear hN
  go_wp2_with fail
  refine (HVR.out _ (H.out.below HB2.out)).mono ?_
  rintro e w3 ⟨rfl, hb⟩
  have HR3 := Lib.hid hb
  have HB3 := Lib.hid (HB2.out.trans (hb.mono HB2.out.size))
  clear hb
  have HX3 := Lib.hid (HPX.out.below HR3.out)
  go_wp2_with fail
  refine (pairs_any a n c xs _ (H.out.below HB3.out) hc hn hcm).mono ?_
  rintro e w4 ⟨a4, c4, m4, rfl, hm4, hp4, hc4, hcm4, hb⟩
  have HR4 := Lib.hid hb
  have HB4 := Lib.hid (HB3.out.trans (hb.mono HB3.out.size))
  clear hb
  have HP4 := Lib.hid hp4
  clear hp4
  unfold maxLen at hcm4
  have hq4 := HP4.out
  rw [HT.out] at hq4
  have HQ4 := Lib.hid hq4
  clear hq4
  have HX4 := Lib.hid (HX3.out.below HR4.out)
  go_wp2_with fail
  refine (Left_yes HI.out l1 l2 HLL.out a4 m4 c4 _ HQ4.out (by omega)).mono ?_
  rintro e w5 ⟨rfl, hb⟩
  have HR5 := Lib.hid hb
  have HB5 := Lib.hid (HB4.out.trans (hb.mono HB4.out.size))
  clear hb
  have HX5 := Lib.hid (HX4.out.below HR5.out)
  go_wp2_with fail
  refine (clone2_any ax N cx A _ HX5.out (by omega)).mono ?_
  rintro e w6 ⟨vx6, rfl, hr, hb⟩
  have HR6 := Lib.hid hb
  have HB6 := Lib.hid (HB5.out.trans (hb.mono HB5.out.size))
  clear hb
  obtain ⟨b6, d6, rfl, hd6, hdm6, hp6⟩ := hr.prs
  clear hr
  unfold maxLen at hdm6
  obtain ⟨M6, hM6⟩ : ∃ M, A.length = M := ⟨_, rfl⟩
  rw [hM6] at hp6 hd6 ⊢
  have hM106 : M6 ≤ 10 := by rw [← hM6]; exact (isS_spec.1 HI2.out).len2
  have HP6 := Lib.hid hp6
  clear hp6 hM6
  have HX6 := Lib.hid (HX5.out.below HR6.out)
  go_wp2_with fail
  refine (Left_yes HI2.out l1 l2 HA.out.1 b6 M6 d6 _ HP6.out (by omega)).mono ?_
  rintro e w7 ⟨rfl, hb⟩
  have HR7 := Lib.hid hb
  have HB7 := Lib.hid (HB6.out.trans (hb.mono HB6.out.size))
  clear hb
  have HX7 := Lib.hid (HX6.out.below HR7.out)
  go_wp2_with fail
  refine (pairs_any a n c xs _ (H.out.below HB7.out) hc hn hcm).mono ?_
  rintro e w8 ⟨a8, c8, m8, rfl, hm8, hp8, hc8, hcm8, hb⟩
  have HR8 := Lib.hid hb
  have HB8 := Lib.hid (HB7.out.trans (hb.mono HB7.out.size))
  clear hb
  have HP8 := Lib.hid hp8
  clear hp8
  unfold maxLen at hcm8
  have hq8 := HP8.out
  rw [HT.out] at hq8
  have HQ8 := Lib.hid hq8
  clear hq8
  have HX8 := Lib.hid (HX7.out.below HR8.out)
  go_wp2_with fail
  refine (Twice_yes HI.out t1 t2 HTT.out a8 m8 c8 _ HQ8.out (by omega)).mono ?_
  rintro e w9 ⟨rfl, hb⟩
  have HR9 := Lib.hid hb
  have HB9 := Lib.hid (HB8.out.trans (hb.mono HB8.out.size))
  clear hb
  have HX9 := Lib.hid (HX8.out.below HR9.out)
  go_wp2_with fail
  refine (clone2_any ax N cx A _ HX9.out (by omega)).mono ?_
  rintro e w10 ⟨vx10, rfl, hr, hb⟩
  have HR10 := Lib.hid hb
  have HB10 := Lib.hid (HB9.out.trans (hb.mono HB9.out.size))
  clear hb
  obtain ⟨b10, d10, rfl, hd10, hdm10, hp10⟩ := hr.prs
  clear hr
  unfold maxLen at hdm10
  obtain ⟨M10, hM10⟩ : ∃ M, A.length = M := ⟨_, rfl⟩
  rw [hM10] at hp10 hd10 ⊢
  have hM1010 : M10 ≤ 10 := by rw [← hM10]; exact (isS_spec.1 HI2.out).len2
  have HP10 := Lib.hid hp10
  clear hp10 hM10
  have HX10 := Lib.hid (HX9.out.below HR10.out)
  go_wp2_with fail
  refine (Twice_yes HI2.out t1 t2 HA.out.2.1 b10 M10 d10 _ HP10.out (by omega)).mono ?_
  rintro e w11 ⟨rfl, hb⟩
  have HR11 := Lib.hid hb
  have HB11 := Lib.hid (HB10.out.trans (hb.mono HB10.out.size))
  clear hb
  have HX11 := Lib.hid (HX10.out.below HR11.out)
  go_wp2_with fail
  refine (pairs_any a n c xs _ (H.out.below HB11.out) hc hn hcm).mono ?_
  rintro e w12 ⟨a12, c12, m12, rfl, hm12, hp12, hc12, hcm12, hb⟩
  have HR12 := Lib.hid hb
  have HB12 := Lib.hid (HB11.out.trans (hb.mono HB11.out.size))
  clear hb
  have HP12 := Lib.hid hp12
  clear hp12
  unfold maxLen at hcm12
  have hq12 := HP12.out
  rw [HT.out] at hq12
  have HQ12 := Lib.hid hq12
  clear hq12
  have HX12 := Lib.hid (HX11.out.below HR12.out)
  go_wp2_with fail
  refine (Share_yes HI.out u v HU.out HV.out a12 m12 c12 _ HQ12.out (by omega)).mono ?_
  rintro e w13 ⟨rfl, hb⟩
  have HR13 := Lib.hid hb
  have HB13 := Lib.hid (HB12.out.trans (hb.mono HB12.out.size))
  clear hb
  have HX13 := Lib.hid (HX12.out.below HR13.out)
  have HB14 := Lib.hid (HB13.out.alloc HB13.out.size (.cells #[.int .i64 u, .int .i64 v] 28))
  have HX14 := Lib.hid (HX13.out.below ((Below.refl w13.heap.size w13).alloc (Nat.le_refl _) (.cells #[.int .i64 u, .int .i64 v] 28)))
  go_wp2_with fail
  refine (Share_yes HI2.out u v HA.out.2.2.1 HA.out.2.2.2 ax N cx _ HX14.out (by omega)).mono ?_
  rintro e w15 ⟨rfl, hb⟩
  have HR15 := Lib.hid hb
  have HB15 := Lib.hid (HB14.out.trans (hb.mono HB14.out.size))
  clear hb
  obtain ⟨f0, f1⟩ := cell_pair w13 (.int .i64 u) (.int .i64 v) 28
  have q0 := Lib.cell?_alloc_some (.cells #[.int .i64 u, .int .i64 v] 28) (cell_later f0 HR15.out)
  have q1 := Lib.cell?_alloc_some (.cells #[.int .i64 u, .int .i64 v] 28) (cell_later f1 HR15.out)
  clear f0 f1
  have HB16 := Lib.hid (HB15.out.alloc HB15.out.size (.cells #[.int .i64 u, .int .i64 v] 28))
  obtain ⟨p0, p1⟩ := cell_pair w15 (.int .i64 u) (.int .i64 v) 28
  go_wp2_with fail
  refine (awake_any _).mono ?_
  rintro e w17 ⟨rfl, hb⟩
  have HR17 := Lib.hid hb
  have HB17 := Lib.hid (HB16.out.trans (hb.mono HB16.out.size))
  clear hb
  go_wp2
  go_ret
  exact ⟨rfl, HB17.out⟩

theorem lawParted_any (a : Option Addr) (n c : Nat) (xs : List (Int × Int)) (i r : Int) (w : World) (h : Prs w a n xs) (hc : n ≤ c) (hn : n ≤ 4611686018427387904) (hcm : c ≤ maxLen) :
    Calls Try.prog 9 #[.slice a n c, .int .i64 i, .int .i64 r] w fun e w' => e = .returned (.bool true) ∧ Below w.heap.size w w' := by
  cases hs : refOk (xs.take 12) i r with
  | false => exact lawParted_no a n c xs i r w h hc hn hcm hs
  | true =>
    have hr := (refOk_take hs).1
    exact lawParted_yes a n c xs i r w h hc hn hcm (refOk_spec.1 hr).1 hr _ _ _ _ _ _ rfl rfl rfl rfl
end Go.Proofs.Ytanhjgneaaenpaa
