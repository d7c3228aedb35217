/- The walk of the law CoversMoves, in every case. No condition. -/
import Derived.Test.YtanhjgneaaenpaaLawParted
import Derived.Test.YtanhjgneaaenpaaEqI
import Derived.BigRegion
namespace Go.Proofs.Ytanhjgneaaenpaa
open Go.RowKit
attribute [local go_sem] Oper.semAt_some
set_option maxRecDepth 100000 in
set_option maxHeartbeats 8000000 in
theorem lawMoves_no (a : Option Addr) (n c : Nat) (xs : List (Int × Int)) (y : Int) (w : World) (h : Prs w a n xs) (hc : n ≤ c) (hn : n ≤ 4611686018427387904) (hcm : c ≤ maxLen) (hs : isS xs = false) :
    Calls Try.prog 13 #[.slice a n c, .int .i64 y] w fun e w' => e = .returned (.bool true) ∧ Below w.heap.size w w' := by
  have H := Lib.hid h
  have HT := Lib.hid (take12_no hs)
  have HVR := Lib.hid (fun w h => validR_any a n c xs w h hn)
  rw [hs] at HVR
  clear h hs
  go_enter Try.func13, Try.ntmps13
  go_wp2_with fail
  refine (pairs_any a n c xs _ H.out hc hn hcm).mono ?_
  rintro e w1 ⟨a1, c1, m1, rfl, hm1, hp1, hc1, hcm1, hb⟩
  have HR1 := Lib.hid hb
  have HB1 := Lib.hid hb
  clear hb
  have HP1 := Lib.hid hp1
  clear hp1
  unfold maxLen at hcm1
  go_wp2_with fail
  refine (Share_no HT.out a1 m1 c1 _ HP1.out (by omega)).mono ?_
  rintro e w2 ⟨rfl, hb⟩
  have HR2 := Lib.hid hb
  have HB2 := Lib.hid (HB1.out.trans (hb.mono HB1.out.size))
  clear hb
  have HB3 := Lib.hid (HB2.out.alloc HB2.out.size (.cells #[.int .i64 0, .int .i64 0] 28))
  go_wp2_with fail
  refine (awake_any _).mono ?_
  rintro e w4 ⟨rfl, hb⟩
  have HR4 := Lib.hid hb
  have HB4 := Lib.hid (HB3.out.trans (hb.mono HB3.out.size))
  clear hb
  go_wp2
  go_ret
  exact ⟨rfl, HB4.out⟩

theorem uint_mod (x M : Int) (hM : 0 < M) : ∃ t : Nat, (IntKind.u64.wrap x).tmod M = (t : Int) ∧ (t : Int) < M := by
  have h0 : 0 ≤ IntKind.u64.wrap x := by simp [IntKind.wrap, IntKind.bits, IntKind.signed]; omega
  have h1 := Int.emod_nonneg (IntKind.u64.wrap x) (show M ≠ 0 by omega)
  have h2 := Int.emod_lt_of_pos (IntKind.u64.wrap x) hM
  refine ⟨((IntKind.u64.wrap x) % M).toNat, ?_, by omega⟩
  rw [Int.tmod_eq_emod_of_nonneg h0]; omega
set_option maxRecDepth 100000 in
set_option maxHeartbeats 8000000 in
theorem lawMoves_yes (a : Option Addr) (n c : Nat) (xs : List (Int × Int)) (y : Int) (w : World) (h : Prs w a n xs) (hc : n ≤ c) (hn : n ≤ 4611686018427387904) (hcm : c ≤ maxLen) (hs : isS xs = true) (b : Nat) (hb : (IntKind.u64.wrap y).tmod 10080 = (b : Int)) (hb2 : (b : Int) < 10080) (l1 l2 t1 t2 u v ml1 mp1 : Int) (hl : leftF xs = (l1, l2)) (ht : twiceF xs = (t1, t2)) (hu : numF xs = u) (hv : denF xs = v)
    (hml : leftF (mov (b : Int) xs) = (ml1, l2)) (hmt : twiceF (mov (b : Int) xs) = (mp1, t2)) (hmu : numF (mov (b : Int) xs) = u) (hmv : denF (mov (b : Int) xs) = v) (hms : isS (mov (b : Int) xs) = true) (hne : needL (mov (b : Int) xs) n = needL xs n) :
    Calls Try.prog 13 #[.slice a n c, .int .i64 y] w fun e w' => e = .returned (.bool true) ∧ Below w.heap.size w w' := by
  have H := Lib.hid h
  have HL := Lib.hid h.1
  have HT := Lib.hid (take12_yes hs)
  have HI := Lib.hid hs
  have HY := Lib.hid (isS_spec.1 hs)
  have hn2 : n ≤ 10 := by have := HY.out.len2; have := HL.out; omega
  have HVR := Lib.hid (fun w h => validR_any a n c xs w h hn)
  rw [hs] at HVR
  have hn1 : 1 ≤ n := by have := HY.out.len1; have := HL.out; omega
  have HI2 := Lib.hid hms
  have HMLEN := Lib.hid (show (mov (b : Int) xs).length = n by rw [mov_len, h.1])
  have HNE := Lib.hid hne
  have HLL := Lib.hid hl
  have HTT := Lib.hid ht
  have HU := Lib.hid hu
  have HV := Lib.hid hv
  have HML := Lib.hid hml
  have HMT := Lib.hid hmt
  have HMU := Lib.hid hmu
  have HMV := Lib.hid hmv
  clear h hs hl ht hu hv hml hmt hmu hmv hms hne
  have e28 := eql28
  have g28 := guard28
  have hbi : ((b : Int)) ≤ 10079 := by omega
  go_enter Try.func13, Try.ntmps13
  go_wp2_with fail
  refine (pairs_any a n c xs _ H.out hc hn hcm).mono ?_
  rintro e w1 ⟨a1, c1, m1, rfl, hm1, hp1, hc1, hcm1, hb⟩
  have HR1 := Lib.hid hb
  have HB1 := Lib.hid hb
  clear hb
  have HP1 := Lib.hid hp1
  clear hp1
  unfold maxLen at hcm1
  have hq1 := HP1.out
  rw [HT.out] at hq1
  have HQ1 := Lib.hid hq1
  clear hq1
  go_wp2_with fail
  refine (Share_yes HI.out u v HU.out HV.out a1 m1 c1 _ HQ1.out (by omega)).mono ?_
  rintro e w2 ⟨rfl, hb⟩
  have HR2 := Lib.hid hb
  have HB2 := Lib.hid (HB1.out.trans (hb.mono HB1.out.size))
  clear hb
  have HB3 := Lib.hid (HB2.out.alloc HB2.out.size (.cells #[.int .i64 u, .int .i64 v] 28))
  go_wp2_with fail
  refine (HVR.out _ (H.out.below HB3.out)).mono ?_
  rintro e w4 ⟨rfl, hb⟩
  have HR4 := Lib.hid hb
  have HB4 := Lib.hid (HB3.out.trans (hb.mono HB3.out.size))
  clear hb
  obtain ⟨f0, f1⟩ := cell_pair w2 (.int .i64 u) (.int .i64 v) 28
  have QA := Lib.hid (And.intro (cell_later f0 HR4.out) (cell_later f1 HR4.out))
  clear f0 f1
  go_wp2_with fail
  refine (pairs_row a n c xs _ (H.out.below HB4.out) hc (by omega) hcm hn1).mono ?_
  rintro e w5 ⟨g, cg, rfl, hrow, hgl, hgc, hgm, hb⟩
  have HR5 := Lib.hid hb
  have HB5 := Lib.hid (HB4.out.trans (hb.mono HB4.out.size))
  clear hb
  have Q2 := Lib.hid (And.intro (cell_later QA.out.1 HR5.out) (cell_later QA.out.2 HR5.out))
  clear QA
  have QA := Q2
  clear Q2
  have HROW := Lib.hid hrow
  have hgl0 : w.heap.size ≤ g := Nat.le_trans HB4.out.size hgl
  unfold maxLen at hgm
  clear hrow
  go_wp2
  obtain ⟨WA, hWA⟩ : ∃ WA, w5 = WA := ⟨_, rfl⟩
  obtain ⟨BA, hBA⟩ : ∃ BA, w4.heap.size = BA := ⟨_, rfl⟩
  rw [hWA] at HB5 HROW QA ⊢
  rw [hBA] at HROW hgl
  clear hWA
  have hk0 : w2.heap.size < BA := by
    have h1 := (HR4.out).size
    rw [World.size_alloc] at h1
    omega
  go_loopg [8, 49] n (fun gk s8 s49 wr => ∃ (j : Nat), j + gk = n ∧ s49 = .int .i64 (j : Int) ∧ Row2 BA (.slice (some ⟨g, 0, none⟩) n cg) (mvl (b : Int) xs j) wr ∧ Below BA WA wr ∧ Below w.heap.size w wr ∧ WA.heap.size ≤ wr.heap.size)
  case atStart => exact ⟨0, by omega, rfl, by rw [show mvl (b : Int) xs 0 = xs by simp [mvl]]; exact HROW.out, Below.refl _ _, HB5.out, Nat.le_refl _⟩
  case round =>
    obtain ⟨j, hj, rfl, ho, hbx, hbw, hsz⟩ := hrel
    have HJ := Lib.hid hj
    have HO := Lib.hid ho
    have HBX := Lib.hid hbx
    have HBW := Lib.hid hbw
    clear ho hbx hbw
    by_cases hjn : j = n
    · have hge : ¬ (j : Int) < (n : Int) := by omega
      have hge2 : ¬ j < n := by omega
      have ho := HO.out
      rw [hjn, ← HL.out, mvl_all, HL.out] at ho
      have HF := Lib.hid ho
      have QA2 := Lib.hid (And.intro ((HBX.out.cell (p := ⟨w2.heap.size, 0, none⟩) hk0).trans QA.out.1) ((HBX.out.cell (p := ⟨w2.heap.size, 1, none⟩) hk0).trans QA.out.2))
      clear hjn hj ho QA
      obtain ⟨am, cm, hfe, hfc, hfm, hfp⟩ := HF.out.prs
      have hfe2 : am = some ⟨g, 0, none⟩ ∧ cm = cg := by
        injection hfe with h1 h2 h3
        exact ⟨h1.symm, h3.symm⟩
      obtain ⟨rfl, rfl⟩ := hfe2
      rw [HMLEN.out] at hfp
      have HFP := Lib.hid hfp
      clear hfe hfc hfm hfp
      have HB6 := Lib.hid HBW.out
      clear HBW HBX
      obtain ⟨w6, hwx⟩ : ∃ W, W = wr := ⟨_, rfl⟩
      rw [← hwx] at HB6 HF HFP QA2 ⊢
      clear hwx HF
      go_wp2_with fail
      refine (clone2_any _ n _ (mov (b : Int) xs) _ HFP.out (by omega)).mono ?_
      rintro e w7 ⟨vx, rfl, hr, hb⟩
      have HR7 := Lib.hid hb
      have HB7 := Lib.hid (HB6.out.trans (hb.mono HB6.out.size))
      clear hb
      have QA2q := Lib.hid (And.intro (cell_later QA2.out.1 HR7.out) (cell_later QA2.out.2 HR7.out))
      clear QA2
      have QA2 := QA2q
      clear QA2q
      have HFPq := Lib.hid (HFP.out.below HR7.out)
      clear HFP
      have HFP := HFPq
      clear HFPq
      obtain ⟨b7, d7, rfl, hd7, hdm7, hp7⟩ := hr.prs
      clear hr
      unfold maxLen at hdm7
      rw [HMLEN.out] at hp7 hd7 ⊢
      have HP7 := Lib.hid hp7
      clear hp7
      go_wp2_with fail
      refine (Share_yes HI2.out u v HMU.out HMV.out b7 n d7 _ HP7.out (by omega)).mono ?_
      rintro e w8 ⟨rfl, hb⟩
      have HR8 := Lib.hid hb
      have HB8 := Lib.hid (HB7.out.trans (hb.mono HB7.out.size))
      clear hb
      have QA2q := Lib.hid (And.intro (cell_later QA2.out.1 HR8.out) (cell_later QA2.out.2 HR8.out))
      clear QA2
      have QA2 := QA2q
      clear QA2q
      have HFPq := Lib.hid (HFP.out.below HR8.out)
      clear HFP
      have HFP := HFPq
      clear HFPq
      have HB9 := Lib.hid (HB8.out.alloc HB8.out.size (.cells #[.int .i64 u, .int .i64 v] 28))
      have HR9 := Lib.hid ((Below.refl w8.heap.size w8).alloc (Nat.le_refl _) (.cells #[.int .i64 u, .int .i64 v] 28))
      have QA2q := Lib.hid (And.intro (cell_later QA2.out.1 HR9.out) (cell_later QA2.out.2 HR9.out))
      clear QA2
      have QA2 := QA2q
      clear QA2q
      have HFPq := Lib.hid (HFP.out.below HR9.out)
      clear HFP
      have HFP := HFPq
      clear HFPq
      have QB := Lib.hid (cell_pair w8 (.int .i64 u) (.int .i64 v) 28)
      go_wp2_with fail
      refine (pairs_any a n c xs _ (H.out.below HB9.out) hc hn hcm).mono ?_
      rintro e w10 ⟨a10, c10, m10, rfl, hm10, hp10, hc10, hcm10, hb⟩
      have HR10 := Lib.hid hb
      have HB10 := Lib.hid (HB9.out.trans (hb.mono HB9.out.size))
      clear hb
      have QA2q := Lib.hid (And.intro (cell_later QA2.out.1 HR10.out) (cell_later QA2.out.2 HR10.out))
      clear QA2
      have QA2 := QA2q
      clear QA2q
      have HFPq := Lib.hid (HFP.out.below HR10.out)
      clear HFP
      have HFP := HFPq
      clear HFPq
      have QBq := Lib.hid (And.intro (cell_later QB.out.1 HR10.out) (cell_later QB.out.2 HR10.out))
      clear QB
      have QB := QBq
      clear QBq
      have HP10 := Lib.hid hp10
      clear hp10
      unfold maxLen at hcm10
      have hq10 := HP10.out
      rw [HT.out] at hq10
      have HQ10 := Lib.hid hq10
      clear hq10
      go_wp2_with fail
      refine (Left_yes HI.out l1 l2 HLL.out a10 m10 c10 _ HQ10.out (by omega)).mono ?_
      rintro e w11 ⟨rfl, hb⟩
      have HR11 := Lib.hid hb
      have HB11 := Lib.hid (HB10.out.trans (hb.mono HB10.out.size))
      clear hb
      have QA2q := Lib.hid (And.intro (cell_later QA2.out.1 HR11.out) (cell_later QA2.out.2 HR11.out))
      clear QA2
      have QA2 := QA2q
      clear QA2q
      have HFPq := Lib.hid (HFP.out.below HR11.out)
      clear HFP
      have HFP := HFPq
      clear HFPq
      have QBq := Lib.hid (And.intro (cell_later QB.out.1 HR11.out) (cell_later QB.out.2 HR11.out))
      clear QB
      have QB := QBq
      clear QBq
      go_wp2_with fail
      refine (clone2_any _ n _ (mov (b : Int) xs) _ HFP.out (by omega)).mono ?_
      rintro e w12 ⟨vx, rfl, hr, hb⟩
      have HR12 := Lib.hid hb
      have HB12 := Lib.hid (HB11.out.trans (hb.mono HB11.out.size))
      clear hb
      have QA2q := Lib.hid (And.intro (cell_later QA2.out.1 HR12.out) (cell_later QA2.out.2 HR12.out))
      clear QA2
      have QA2 := QA2q
      clear QA2q
      have HFPq := Lib.hid (HFP.out.below HR12.out)
      clear HFP
      have HFP := HFPq
      clear HFPq
      have QBq := Lib.hid (And.intro (cell_later QB.out.1 HR12.out) (cell_later QB.out.2 HR12.out))
      clear QB
      have QB := QBq
      clear QBq
      obtain ⟨b12, d12, rfl, hd12, hdm12, hp12⟩ := hr.prs
      clear hr
      unfold maxLen at hdm12
      rw [HMLEN.out] at hp12 hd12 ⊢
      have HP12 := Lib.hid hp12
      clear hp12
      go_wp2_with fail
      refine (Left_yes HI2.out ml1 l2 HML.out b12 n d12 _ HP12.out (by omega)).mono ?_
      rintro e w13 ⟨rfl, hb⟩
      have HR13 := Lib.hid hb
      have HB13 := Lib.hid (HB12.out.trans (hb.mono HB12.out.size))
      clear hb
      have QA2q := Lib.hid (And.intro (cell_later QA2.out.1 HR13.out) (cell_later QA2.out.2 HR13.out))
      clear QA2
      have QA2 := QA2q
      clear QA2q
      have HFPq := Lib.hid (HFP.out.below HR13.out)
      clear HFP
      have HFP := HFPq
      clear HFPq
      have QBq := Lib.hid (And.intro (cell_later QB.out.1 HR13.out) (cell_later QB.out.2 HR13.out))
      clear QB
      have QB := QBq
      clear QBq
      go_wp2_with fail
      refine (pairs_any a n c xs _ (H.out.below HB13.out) hc hn hcm).mono ?_
      rintro e w14 ⟨a14, c14, m14, rfl, hm14, hp14, hc14, hcm14, hb⟩
      have HR14 := Lib.hid hb
      have HB14 := Lib.hid (HB13.out.trans (hb.mono HB13.out.size))
      clear hb
      have QA2q := Lib.hid (And.intro (cell_later QA2.out.1 HR14.out) (cell_later QA2.out.2 HR14.out))
      clear QA2
      have QA2 := QA2q
      clear QA2q
      have HFPq := Lib.hid (HFP.out.below HR14.out)
      clear HFP
      have HFP := HFPq
      clear HFPq
      have QBq := Lib.hid (And.intro (cell_later QB.out.1 HR14.out) (cell_later QB.out.2 HR14.out))
      clear QB
      have QB := QBq
      clear QBq
      have HP14 := Lib.hid hp14
      clear hp14
      unfold maxLen at hcm14
      have hq14 := HP14.out
      rw [HT.out] at hq14
      have HQ14 := Lib.hid hq14
      clear hq14
      go_wp2_with fail
      refine (Twice_yes HI.out t1 t2 HTT.out a14 m14 c14 _ HQ14.out (by omega)).mono ?_
      rintro e w15 ⟨rfl, hb⟩
      have HR15 := Lib.hid hb
      have HB15 := Lib.hid (HB14.out.trans (hb.mono HB14.out.size))
      clear hb
      have QA2q := Lib.hid (And.intro (cell_later QA2.out.1 HR15.out) (cell_later QA2.out.2 HR15.out))
      clear QA2
      have QA2 := QA2q
      clear QA2q
      have HFPq := Lib.hid (HFP.out.below HR15.out)
      clear HFP
      have HFP := HFPq
      clear HFPq
      have QBq := Lib.hid (And.intro (cell_later QB.out.1 HR15.out) (cell_later QB.out.2 HR15.out))
      clear QB
      have QB := QBq
      clear QBq
      go_wp2_with fail
      refine (clone2_any _ n _ (mov (b : Int) xs) _ HFP.out (by omega)).mono ?_
      rintro e w16 ⟨vx, rfl, hr, hb⟩
      have HR16 := Lib.hid hb
      have HB16 := Lib.hid (HB15.out.trans (hb.mono HB15.out.size))
      clear hb
      have QA2q := Lib.hid (And.intro (cell_later QA2.out.1 HR16.out) (cell_later QA2.out.2 HR16.out))
      clear QA2
      have QA2 := QA2q
      clear QA2q
      have HFPq := Lib.hid (HFP.out.below HR16.out)
      clear HFP
      have HFP := HFPq
      clear HFPq
      have QBq := Lib.hid (And.intro (cell_later QB.out.1 HR16.out) (cell_later QB.out.2 HR16.out))
      clear QB
      have QB := QBq
      clear QBq
      obtain ⟨b16, d16, rfl, hd16, hdm16, hp16⟩ := hr.prs
      clear hr
      unfold maxLen at hdm16
      rw [HMLEN.out] at hp16 hd16 ⊢
      have HP16 := Lib.hid hp16
      clear hp16
      go_wp2_with fail
      refine (Twice_yes HI2.out mp1 t2 HMT.out b16 n d16 _ HP16.out (by omega)).mono ?_
      rintro e w17 ⟨rfl, hb⟩
      have HR17 := Lib.hid hb
      have HB17 := Lib.hid (HB16.out.trans (hb.mono HB16.out.size))
      clear hb
      have QA2q := Lib.hid (And.intro (cell_later QA2.out.1 HR17.out) (cell_later QA2.out.2 HR17.out))
      clear QA2
      have QA2 := QA2q
      clear QA2q
      have HFPq := Lib.hid (HFP.out.below HR17.out)
      clear HFP
      have HFP := HFPq
      clear HFPq
      have QBq := Lib.hid (And.intro (cell_later QB.out.1 HR17.out) (cell_later QB.out.2 HR17.out))
      clear QB
      have QB := QBq
      clear QBq
      go_wp2_with fail
      refine (pairs_any a n c xs _ (H.out.below HB17.out) hc hn hcm).mono ?_
      rintro e w18 ⟨a18, c18, m18, rfl, hm18, hp18, hc18, hcm18, hb⟩
      have HR18 := Lib.hid hb
      have HB18 := Lib.hid (HB17.out.trans (hb.mono HB17.out.size))
      clear hb
      have QA2q := Lib.hid (And.intro (cell_later QA2.out.1 HR18.out) (cell_later QA2.out.2 HR18.out))
      clear QA2
      have QA2 := QA2q
      clear QA2q
      have HFPq := Lib.hid (HFP.out.below HR18.out)
      clear HFP
      have HFP := HFPq
      clear HFPq
      have QBq := Lib.hid (And.intro (cell_later QB.out.1 HR18.out) (cell_later QB.out.2 HR18.out))
      clear QB
      have QB := QBq
      clear QBq
      have HP18 := Lib.hid hp18
      clear hp18
      unfold maxLen at hcm18
      have hq18 := HP18.out
      rw [HT.out] at hq18
      have hmn18 : m18 = n := by have h1 := hq18.1; have h2 := HL.out; omega
      subst hmn18
      have HQ18 := Lib.hid hq18
      clear hq18
      go_wp2_with fail
      refine (Needless_yes a18 m18 c18 xs _ HQ18.out hc18 (by unfold maxLen; exact hcm18) HI.out).mono ?_
      rintro e w19 ⟨vn, rfl, hrn, hb⟩
      have HR19 := Lib.hid hb
      have HB19 := Lib.hid (HB18.out.trans (hb.mono HB18.out.size))
      clear hb
      have QA2q := Lib.hid (And.intro (cell_later QA2.out.1 HR19.out) (cell_later QA2.out.2 HR19.out))
      clear QA2
      have QA2 := QA2q
      clear QA2q
      have HFPq := Lib.hid (HFP.out.below HR19.out)
      clear HFP
      have HFP := HFPq
      clear HFPq
      have QBq := Lib.hid (And.intro (cell_later QB.out.1 HR19.out) (cell_later QB.out.2 HR19.out))
      clear QB
      have QB := QBq
      clear QBq
      have HRN := Lib.hid hrn
      clear hrn
      obtain ⟨nn, hnn⟩ : ∃ nn, nn = m18 := ⟨_, rfl⟩
      go_wp2_with fail
      refine (Needless_yes _ m18 _ (mov (b : Int) xs) _ HFP.out hgc (by unfold maxLen; exact hgm) HI2.out).mono ?_
      rintro e w20 ⟨vm, rfl, hrm, hb⟩
      have HR20 := Lib.hid hb
      have HB20 := Lib.hid (HB19.out.trans (hb.mono HB19.out.size))
      clear hb
      have QA2q := Lib.hid (And.intro (cell_later QA2.out.1 HR20.out) (cell_later QA2.out.2 HR20.out))
      clear QA2
      have QA2 := QA2q
      clear QA2q
      have HFPq := Lib.hid (HFP.out.below HR20.out)
      clear HFP
      have HFP := HFPq
      clear HFPq
      have QBq := Lib.hid (And.intro (cell_later QB.out.1 HR20.out) (cell_later QB.out.2 HR20.out))
      clear QB
      have QB := QBq
      clear QBq
      have HRNq := Lib.hid (own_later HRN.out HR20.out)
      clear HRN
      have HRN := HRNq
      clear HRNq
      rw [HNE.out] at hrm
      have HRM := Lib.hid hrm
      clear hrm hnn
      have HEQ := Lib.hid (equalI_any (needL xs m18) (by have := needL_len xs m18; omega) vn vm _ _ _ HRN.out HRM.out)
      obtain ⟨f0, f1⟩ := QA2.out
      obtain ⟨p0, p1'⟩ := QB.out
      go_wp2_with fail
      refine HEQ.out.mono ?_
      rintro e we ⟨rfl, q, rfl⟩
      have HB21 := Lib.hid (below_drewN HB20.out q)
      go_wp2_with fail
      refine (awake_any _).mono ?_
      rintro e w22 ⟨rfl, hb⟩
      have HR22 := Lib.hid hb
      have HB22 := Lib.hid (HB21.out.trans (hb.mono HB21.out.size))
      clear hb
      go_wp2
      go_ret
      exact ⟨rfl, HB22.out⟩
    · have hlt : (j : Int) < (n : Int) := by omega
      have hlt2 : j < n := by omega
      have j0 : (0 : Int) ≤ (j : Int) := by omega
      have hjl : j < xs.length := by rw [HL.out]; exact hlt2
      have hjm : j < (mvl (b : Int) xs j).length := by rw [mvl_len]; exact hjl
      obtain ⟨c0, c1⟩ := HO.out.cell hjm
      rw [mvl_nth hjl] at c0 c1
      have hf := HO.out.frozen (j * 2)
      obtain ⟨k1, k2, k3, k4⟩ := HY.out.nth hjl
      have hput := HO.out.put hjm (((nth xs j).1 + (b : Int)) % (nth xs j).2)
      rw [mvl_nth hjl] at hput
      rw [show ((((nth xs j).1 + (b : Int)) % (nth xs j).2), (nth xs j).2) = movP (b : Int) (nth xs j) from rfl, mvl_succ hjl] at hput
      have hpb := HBW.out.setCell (p := ⟨g, j * 2, none⟩) hgl0 (.int .i64 (((nth xs j).1 + (b : Int)) % (nth xs j).2))
      have hpx := HBX.out.setCell (p := ⟨g, j * 2, none⟩) hgl (.int .i64 (((nth xs j).1 + (b : Int)) % (nth xs j).2))
      obtain ⟨X, hX⟩ : ∃ X, (nth xs j).1 = X := ⟨_, rfl⟩
      obtain ⟨Y, hY⟩ : ∃ Y, (nth xs j).2 = Y := ⟨_, rfl⟩
      rw [hX] at c0 k3 k4 hput hpb hpx
      rw [hY] at c1 k1 k2 k4 hput hpb hpx
      have y0 : ¬ Y = 0 := by omega
      have z1 : IntKind.i64.wrap (X + (b : Int)) = X + (b : Int) := IntWalk.i64_in _ (by omega)
      have z2 : (X + (b : Int)).tmod Y = (X + (b : Int)) % Y := Int.tmod_eq_emod_of_nonneg (by omega)
      have HPUT := Lib.hid hput
      have HPB := Lib.hid hpb
      have HPX := Lib.hid hpx
      have hsz2 : WA.heap.size ≤ (wr.setCell ⟨g, j * 2, none⟩ (.int .i64 ((X + (b : Int)) % Y))).heap.size := by simp; omega
      clear hjn hj hjl hjm hX hY hput hpb hpx
      go_wp2
      go_region
      go_wp2
      go_roundg (n - j - 1)
      case rel => exact ⟨j + 1, by have := HJ.out; omega, by go_num, HPUT.out.drew 1, below_drewN HPX.out 1, below_drewN HPB.out 1, hsz2⟩
      case measure => have := HJ.out; omega

theorem lawMoves_any (a : Option Addr) (n c : Nat) (xs : List (Int × Int)) (y : Int) (w : World) (h : Prs w a n xs) (hc : n ≤ c) (hn : n ≤ 4611686018427387904) (hcm : c ≤ maxLen) :
    Calls Try.prog 13 #[.slice a n c, .int .i64 y] w fun e w' => e = .returned (.bool true) ∧ Below w.heap.size w w' := by
  cases hs : isS xs with
  | false => exact lawMoves_no a n c xs y w h hc hn hcm hs
  | true =>
    obtain ⟨b, hb, hb2⟩ := uint_mod y 10080 (by decide)
    have hS := isS_spec.1 hs
    obtain ⟨h1, h2, h3, h4, h5⟩ := moved hS b
    exact lawMoves_yes a n c xs y w h hc hn hcm hs b hb hb2 (leftF xs).1 (leftF xs).2 (twiceF xs).1 (twiceF xs).2 _ _ (leftF (mov (b : Int) xs)).1 (twiceF (mov (b : Int) xs)).1 rfl rfl rfl rfl (Prod.ext rfl h3) (Prod.ext rfl h4) h1 h2 (isS_spec.2 (mov_sys hS)) (h5 n)
end Go.Proofs.Ytanhjgneaaenpaa
