/- The walk of the law CoversAlways, in every case. No condition. -/
import Derived.Test.YtanhjgneaaenpaaAlw
namespace Go.Proofs.Ytanhjgneaaenpaa
open Go.RowKit
attribute [local go_sem] Oper.semAt_some
set_option maxRecDepth 100000 in
set_option maxHeartbeats 8000000 in
theorem lawAlways_badK (k : Int) (a : Option Addr) (n c : Nat) (xs : List Int) (w : World) (h : Ints w a n xs) (hc : n ≤ c) (hn : n ≤ 4611686018427387904) (hcm : c ≤ maxLen) (hs : isK k = false) :
    Calls Try.prog 12 #[.int .i64 k, .slice a n c] w fun e w' => e = .returned (.bool true) ∧ Below w.heap.size w w' := by
  have H := Lib.hid h
  have HL := Lib.hid h.1
  have HSD := Lib.hid (fun w => seed_any k w)
  have HPR := Lib.hid (fun w h => primesR_any a n c xs w h hc hn)
  rw [hs] at HSD
  have HS := Lib.hid hs
  clear h hs
  go_enter Try.func12, Try.ntmps12
  go_wp2_with fail
  refine (listI_any a n c xs _ H.out hc hn hcm).mono ?_
  rintro e w1 ⟨a1, c1, m1, rfl, hm1, hp1, hc1, hcm1, hb⟩
  have HR1 := Lib.hid hb
  have HB1 := Lib.hid hb
  clear hb
  have HP1 := Lib.hid hp1
  clear hp1
  unfold maxLen at hcm1
  go_wp2_with fail
  refine (Always_badK k a1 m1 c1 _ _ HP1.out hc1 (by omega) HS.out).mono ?_
  rintro e w2 ⟨rfl, hb⟩
  have HR2 := Lib.hid hb
  have HB2 := Lib.hid (HB1.out.trans (hb.mono HB1.out.size))
  clear hb
  go_wp2_with fail
  refine (listI_any a n c xs _ (H.out.below HB2.out) hc hn hcm).mono ?_
  rintro e w3 ⟨a3, c3, m3, rfl, hm3, hp3, hc3, hcm3, hb⟩
  have HR3 := Lib.hid hb
  have HB3 := Lib.hid (HB2.out.trans (hb.mono HB2.out.size))
  clear hb
  have HP3 := Lib.hid hp3
  clear hp3
  unfold maxLen at hcm3
  go_wp2_with fail
  refine (Days_badK k a3 m3 c3 _ _ HP3.out hc3 (by omega) HS.out).mono ?_
  rintro e w4 ⟨rfl, hb⟩
  have HR4 := Lib.hid hb
  have HB4 := Lib.hid (HB3.out.trans (hb.mono HB3.out.size))
  clear hb
  go_wp2_with fail
  refine (awake_any _).mono ?_
  rintro e w5 ⟨rfl, hb⟩
  have HR5 := Lib.hid hb
  have HB5 := Lib.hid (HB4.out.trans (hb.mono HB4.out.size))
  clear hb
  go_wp2
  go_ret
  exact ⟨rfl, HB5.out⟩
set_option maxRecDepth 100000 in
set_option maxHeartbeats 8000000 in
theorem lawAlways_badP (k : Int) (a : Option Addr) (n c : Nat) (xs : List Int) (w : World) (h : Ints w a n xs) (hc : n ≤ c) (hn : n ≤ 4611686018427387904) (hcm : c ≤ maxLen) (hs : isK k = true) (hp : isPs xs = false) :
    Calls Try.prog 12 #[.int .i64 k, .slice a n c] w fun e w' => e = .returned (.bool true) ∧ Below w.heap.size w w' := by
  have H := Lib.hid h
  have HL := Lib.hid h.1
  have HSD := Lib.hid (fun w => seed_any k w)
  have HPR := Lib.hid (fun w h => primesR_any a n c xs w h hc hn)
  rw [hs] at HSD
  rw [hp] at HPR
  have HS := Lib.hid hs
  have H12 := Lib.hid (ps12_no hp)
  clear h hs hp
  go_enter Try.func12, Try.ntmps12
  go_wp2_with fail
  refine (listI_any a n c xs _ H.out hc hn hcm).mono ?_
  rintro e w1 ⟨a1, c1, m1, rfl, hm1, hp1, hc1, hcm1, hb⟩
  have HR1 := Lib.hid hb
  have HB1 := Lib.hid hb
  clear hb
  have HP1 := Lib.hid hp1
  clear hp1
  unfold maxLen at hcm1
  go_wp2_with fail
  refine (Always_badP k a1 m1 c1 _ _ HP1.out hc1 (by omega) HS.out H12.out).mono ?_
  rintro e w2 ⟨rfl, hb⟩
  have HR2 := Lib.hid hb
  have HB2 := Lib.hid (HB1.out.trans (hb.mono HB1.out.size))
  clear hb
  go_wp2_with fail
  refine (listI_any a n c xs _ (H.out.below HB2.out) hc hn hcm).mono ?_
  rintro e w3 ⟨a3, c3, m3, rfl, hm3, hp3, hc3, hcm3, hb⟩
  have HR3 := Lib.hid hb
  have HB3 := Lib.hid (HB2.out.trans (hb.mono HB2.out.size))
  clear hb
  have HP3 := Lib.hid hp3
  clear hp3
  unfold maxLen at hcm3
  go_wp2_with fail
  refine (Days_badP k a3 m3 c3 _ _ HP3.out hc3 (by omega) HS.out H12.out).mono ?_
  rintro e w4 ⟨rfl, hb⟩
  have HR4 := Lib.hid hb
  have HB4 := Lib.hid (HB3.out.trans (hb.mono HB3.out.size))
  clear hb
  go_wp2_with fail
  refine (awake_any _).mono ?_
  rintro e w5 ⟨rfl, hb⟩
  have HR5 := Lib.hid hb
  have HB5 := Lib.hid (HB4.out.trans (hb.mono HB4.out.size))
  clear hb
  go_wp2
  go_ret
  exact ⟨rfl, HB5.out⟩
set_option maxRecDepth 100000 in
set_option maxHeartbeats 8000000 in
theorem lawAlways_size (k : Int) (a : Option Addr) (n c : Nat) (xs : List Int) (w : World) (h : Ints w a n xs) (hc : n ≤ c) (hn : n ≤ 4611686018427387904) (hcm : c ≤ maxLen) (hs : isK k = true) (hp : isPs xs = true) (hd : daysB k.toNat xs = true) :
    Calls Try.prog 12 #[.int .i64 k, .slice a n c] w fun e w' => e = .returned (.bool true) ∧ Below w.heap.size w w' := by
  have H := Lib.hid h
  have HL := Lib.hid h.1
  have HSD := Lib.hid (fun w => seed_any k w)
  have HPR := Lib.hid (fun w h => primesR_any a n c xs w h hc hn)
  rw [hs] at HSD
  rw [hp] at HPR
  have HS := Lib.hid hs
  have HPP := Lib.hid hp
  have HT := Lib.hid (ps12_yes hp)
  obtain ⟨K, rfl⟩ : ∃ K : Nat, k = (K : Int) := by
    have : 1 ≤ k := by simp [isK] at hs; omega
    exact ⟨k.toNat, by omega⟩
  have hk6 : K ≤ 1000000 := by simp [isK] at hs; omega
  have HDB := Lib.hid hd
  clear h hs hp hd
  go_enter Try.func12, Try.ntmps12
  go_wp2_with fail
  refine (listI_any a n c xs _ H.out hc hn hcm).mono ?_
  rintro e w1 ⟨a1, c1, m1, rfl, hm1, hp1, hc1, hcm1, hb⟩
  have HR1 := Lib.hid hb
  have HB1 := Lib.hid hb
  clear hb
  have HP1 := Lib.hid hp1
  clear hp1
  unfold maxLen at hcm1
  have hq1 := HP1.out
  rw [HT.out] at hq1
  have HQ1 := Lib.hid hq1
  clear hq1
  go_wp2_with fail
  refine (Always_size _ a1 m1 c1 _ _ HQ1.out hc1 (by omega) HS.out HPP.out HDB.out).mono ?_
  rintro e w2 ⟨rfl, hb⟩
  have HR2 := Lib.hid hb
  have HB2 := Lib.hid (HB1.out.trans (hb.mono HB1.out.size))
  clear hb
  go_wp2_with fail
  refine (listI_any a n c xs _ (H.out.below HB2.out) hc hn hcm).mono ?_
  rintro e w3 ⟨a3, c3, m3, rfl, hm3, hp3, hc3, hcm3, hb⟩
  have HR3 := Lib.hid hb
  have HB3 := Lib.hid (HB2.out.trans (hb.mono HB2.out.size))
  clear hb
  have HP3 := Lib.hid hp3
  clear hp3
  unfold maxLen at hcm3
  have hq3 := HP3.out
  rw [HT.out] at hq3
  have HQ3 := Lib.hid hq3
  clear hq3
  go_wp2_with fail
  refine (Days_size _ a3 m3 c3 _ _ HQ3.out hc3 (by omega) HS.out HPP.out HDB.out).mono ?_
  rintro e w4 ⟨rfl, hb⟩
  have HR4 := Lib.hid hb
  have HB4 := Lib.hid (HB3.out.trans (hb.mono HB3.out.size))
  clear hb
  go_wp2_with fail
  refine (awake_any _).mono ?_
  rintro e w5 ⟨rfl, hb⟩
  have HR5 := Lib.hid hb
  have HB5 := Lib.hid (HB4.out.trans (hb.mono HB4.out.size))
  clear hb
  go_wp2
  go_ret
  exact ⟨rfl, HB5.out⟩
set_option maxRecDepth 100000 in
set_option maxHeartbeats 8000000 in
theorem lawAlways_four (k : Int) (a : Option Addr) (n c : Nat) (xs : List Int) (w : World) (h : Ints w a n xs) (hc : n ≤ c) (hn : n ≤ 4611686018427387904) (hcm : c ≤ maxLen) (hs : isK k = true) (hp : isPs xs = true) (hd : daysB k.toNat xs = false) (hln : (dyL k.toNat xs).length ≠ 0) (hr : alwF k.toNat xs = (0, 4)) :
    Calls Try.prog 12 #[.int .i64 k, .slice a n c] w fun e w' => e = .returned (.bool true) ∧ Below w.heap.size w w' := by
  have H := Lib.hid h
  have HL := Lib.hid h.1
  have HSD := Lib.hid (fun w => seed_any k w)
  have HPR := Lib.hid (fun w h => primesR_any a n c xs w h hc hn)
  rw [hs] at HSD
  rw [hp] at HPR
  have HS := Lib.hid hs
  have HPP := Lib.hid hp
  have HT := Lib.hid (ps12_yes hp)
  obtain ⟨K, rfl⟩ : ∃ K : Nat, k = (K : Int) := by
    have : 1 ≤ k := by simp [isK] at hs; omega
    exact ⟨k.toNat, by omega⟩
  have hk6 : K ≤ 1000000 := by simp [isK] at hs; omega
  have HDB := Lib.hid hd
  have HRW := Lib.hid hr
  have hd2 := hd
  rw [Int.toNat_natCast] at hd2 hr hln
  obtain ⟨f1, f2, f3⟩ := alw_facts hp hd2 hr
  obtain ⟨hok, hwl, hlen⟩ := dyL_all hp hd2
  have hnl := (isPs_len hp).2
  have hnx := h.1
  have hstep := fun (i j : Nat) (hj : j < xs.length) => day_step (k := K) (i := i) hp hj
  have hpr := fun (j : Nat) (hj : j < xs.length) => isPs_at hp hj
  have hfin : ∀ i : Nat, 1 ≤ i →  decide (0 < tm (i : Int) (dyL K (xs.take n))) = true := by
    intro i h1 
    rw [List.take_of_length_le (by omega)]
    rw [f3 i h1 (Or.inl rfl)]
    rfl
  have hDY := fun (a : Option Addr) (n c : Nat) (w : World) (h : Ints w a n xs) hc hn => Days_yes (K : Int) a n c xs w h hc hn hs hp hd
  simp only [Int.toNat_natCast] at hDY
  have HSTEP := Lib.hid hstep
  have HPJ := Lib.hid hpr
  have HFIN := Lib.hid hfin
  have hn8 : n ≤ 8 := by omega
  have hlf : (∃ l1 : Int, ∀ (a : Option Addr) (c : Nat) (w : World), Prs w a (dyL K xs).length (dyL K xs) → Calls Try.prog 14 #[.slice a (dyL K xs).length c] w fun e w' => e = .returned (.tuple #[.int .i64 l1, .int .i64 4]) ∧ Below w.heap.size w w') :=
    ⟨(leftF (dyL K xs)).1, fun a c w h => Left_yes (isS_spec.2 ⟨by omega, by omega, hok, hwl⟩) (leftF (dyL K xs)).1 4 (Prod.ext rfl f2) a _ c w h (by omega)⟩
  obtain ⟨l1, hlf⟩ := hlf
  have HLF := Lib.hid hlf
  clear hlf
  have HCL := Lib.hid (fun a c w (h : Prs w a (dyL K xs).length (dyL K xs)) => clone2_any a (dyL K xs).length c (dyL K xs) w h (by omega))
  obtain ⟨N, hN⟩ : ∃ N, (dyL K xs).length = N := ⟨_, rfl⟩
  obtain ⟨L, hL⟩ : ∃ L, dyL K xs = L := ⟨_, rfl⟩
  rw [hN] at HLF HCL hlen hln
  rw [hL] at HLF HCL hN
  simp only [hL] at hDY
  have HNN := Lib.hid hN
  have HDY := Lib.hid hDY
  have hN0 : (0 : Int) < (N : Int) := by omega
  have hN1 : ¬ (N : Int) = 0 := by omega
  clear h hs hp hd hd2 hr f1 f2 f3 hok hwl hnx hnl hstep hpr hfin hDY hL hN hln
  go_enter Try.func12, Try.ntmps12
  go_wp2_with fail
  refine (listI_any a n c xs _ H.out hc hn hcm).mono ?_
  rintro e w1 ⟨a1, c1, m1, rfl, hm1, hp1, hc1, hcm1, hb⟩
  have HR1 := Lib.hid hb
  have HB1 := Lib.hid hb
  clear hb
  have HP1 := Lib.hid hp1
  clear hp1
  unfold maxLen at hcm1
  have hq1 := HP1.out
  rw [HT.out] at hq1
  have HQ1 := Lib.hid hq1
  clear hq1
  go_wp2_with fail
  refine (Always_yes _ a1 m1 c1 _ _ HQ1.out hc1 (by omega) HS.out HPP.out HDB.out 0 4 HRW.out).mono ?_
  rintro e w2 ⟨rfl, hb⟩
  have HR2 := Lib.hid hb
  have HB2 := Lib.hid (HB1.out.trans (hb.mono HB1.out.size))
  clear hb
  go_wp2_with fail
  refine (listI_any a n c xs _ (H.out.below HB2.out) hc hn hcm).mono ?_
  rintro e w3 ⟨a3, c3, m3, rfl, hm3, hp3, hc3, hcm3, hb⟩
  have HR3 := Lib.hid hb
  have HB3 := Lib.hid (HB2.out.trans (hb.mono HB2.out.size))
  clear hb
  have HP3 := Lib.hid hp3
  clear hp3
  unfold maxLen at hcm3
  have hq3 := HP3.out
  rw [HT.out] at hq3
  have HQ3 := Lib.hid hq3
  clear hq3
  go_wp2_with fail
  refine (HDY.out a3 m3 c3 _ HQ3.out hc3 (by omega)).mono ?_
  rintro e w4 ⟨vd, rfl, hrow, hb⟩
  have HR4 := Lib.hid hb
  have HB4 := Lib.hid (HB3.out.trans (hb.mono HB3.out.size))
  clear hb
  obtain ⟨ax, cx, rfl, hcx, hcmx, hpx⟩ := hrow.prs
  rw [HNN.out] at hcx hpx ⊢
  have HPX := Lib.hid hpx
  clear hrow hpx
  unfold maxLen at hcmx
  go_wp2_with fail
  refine (HSD.out _).mono ?_
  rintro e wsd ⟨rfl, rfl⟩
  go_wp2_with fail
  refine (HPR.out _ (H.out.below HB4.out)).mono ?_
  rintro e wpr ⟨rfl, rfl⟩
  go_wp2_with fail
  refine (HCL.out ax cx _ HPX.out).mono ?_
  rintro e w5 ⟨vc, rfl, hrow, hb⟩
  have HR5 := Lib.hid hb
  have HB5 := Lib.hid (HB4.out.trans (hb.mono HB4.out.size))
  clear hb
  obtain ⟨ay, cy, rfl, hcy, hcmy, hpy⟩ := hrow.prs
  rw [HNN.out] at hcy hpy ⊢
  have HPY := Lib.hid hpy
  clear hrow hpy
  unfold maxLen at hcmy
  go_wp2_with fail
  refine (HLF.out ay cy _ HPY.out).mono ?_
  rintro e w6 ⟨rfl, hb⟩
  have HR6 := Lib.hid hb
  have HB6 := Lib.hid (HB5.out.trans (hb.mono HB5.out.size))
  clear hb
  go_wp2
  go_loopg [12] 200 (fun gk s12 wr => ∃ i : Nat, i + gk = 200 + 1 ∧ 1 ≤ i ∧ s12 = .int .i64 (i : Int) ∧ Below w.heap.size w wr)
  case atStart => exact ⟨1, by omega, Nat.le_refl _, rfl, HB6.out⟩
  case round =>
    obtain ⟨i, hi, hi1, rfl, hbr⟩ := hrel
    have HI := Lib.hid hi
    have HX := Lib.hid hbr
    have i200 : (i : Int) ≤ 10081 := by omega
    have i0 : (0 : Int) ≤ (i : Int) := by omega
    clear hbr
    by_cases hend : i = 200 + 1
    · have hge : ¬ (i : Int) ≤ 200 := by omega
      have hge2 : ¬ i ≤ 200 := by omega
      clear hend hi
      go_wp2_with fail
      refine (awake_any _).mono ?_
      rintro e we ⟨rfl, hb⟩
      have HF := Lib.hid (HX.out.trans (hb.mono HX.out.size))
      clear hb
      go_wp2
      go_ret
      exact ⟨rfl, HF.out⟩
    · have hlt : (i : Int) ≤ 200 := by omega
      have hlt2 : i ≤ 200 := by omega
      have HFI := Lib.hid (HFIN.out i hi1)
      clear hend hi
      go_wp2
      go_loopg [13, 110] n (fun gk s13 s110 wr => ∃ j : Nat, j + gk = n ∧ s110 = .int .i64 (j : Int) ∧ s13 = .bool (decide (0 < tm (i : Int) (dyL K (xs.take j)))) ∧ Below w.heap.size w wr)
      case atStart => exact ⟨0, by omega, rfl, rfl, HX.out⟩
      case round =>
        obtain ⟨j, hj, rfl, rfl, hbr⟩ := hrel
        have HJ := Lib.hid hj
        have HY := Lib.hid hbr
        clear hbr
        by_cases hjn : j = n
        · have hge : ¬ (j : Int) < (n : Int) := by omega
          have hge2 : ¬ j < n := by omega
          rw [hjn, HFI.out]
          clear hj
          subst hjn
          go_wp2
          go_roundg (200 - i)
          case rel => exact ⟨i + 1, by have := HI.out; omega, by omega, by go_num, HY.out⟩
          case measure => have := HI.out; omega
        · have hjlt : (j : Int) < (n : Int) := by omega
          have hjlt2 : j < n := by omega
          have j0 : (0 : Int) ≤ (j : Int) := by omega
          obtain ⟨b, off, hab, hbl, hcc⟩ := (H.out.below HY.out).at (by omega)
          subst hab
          have hcj := hcc j hjlt2
          obtain ⟨p1, p2, p3⟩ := HPJ.out j (by have := HL.out; omega)
          have hds := HSTEP.out i j (by have := HL.out; omega)
          obtain ⟨p, hpp⟩ : ∃ p, xs.getD j 0 = p := ⟨_, rfl⟩
          rw [hpp] at hcj p1 p2 p3 hds
          obtain ⟨P, rfl⟩ := Int.eq_ofNat_of_zero_le (show 0 ≤ p by omega)
          rw [Int.toNat_natCast] at hds
          have HDS := Lib.hid hds
          have HKS := Lib.hid (fun t => kx_succ K P t)
          have HHK := Lib.hid (hit_kx K P i)
          have P0 : ¬ (P : Int) = 0 := by omega
          have PP : (0 : Int) < (P : Int) := by omega
          have P300 : (P : Int) < 300 := by omega
          obtain ⟨S, hS⟩ : ∃ S, decide (0 < tm (i : Int) (dyL K (xs.take j))) = S := ⟨_, rfl⟩
          rw [hS] at HDS ⊢
          have ek : (K : Int) % (P : Int) = ((K * 2 ^ 0 % P : Nat) : Int) := by rw [Nat.pow_zero, Nat.mul_one, Int.natCast_emod]
          obtain ⟨k0, hk0⟩ : ∃ k0, K * 2 ^ 0 % P = k0 := ⟨_, rfl⟩
          rw [hk0] at ek
          have HK0 := Lib.hid hk0
          clear hk0 hjn hj hcc hds hpp p1 p2 p3 hS
          go_wp2
          go_loopg [16, 118] i (fun gk s16 s118 wr => ∃ t : Nat, t + gk = i ∧ s118 = .int .i64 (t : Int) ∧ s16 = .int .i64 ((K * 2 ^ t % P : Nat) : Int) ∧ Below w.heap.size w wr)
          case atStart => exact ⟨0, by omega, rfl, by rw [HK0.out, ek], HY.out⟩
          case round =>
            obtain ⟨t, ht, rfl, rfl, hbr⟩ := hrel
            have HTT := Lib.hid ht
            have HZ := Lib.hid hbr
            clear hbr ek
            have hxlt : K * 2 ^ t % P < P := Nat.mod_lt _ (by omega)
            have hks := HKS.out t
            have HXX := Lib.hid (fun (e : t = i) => (show hit K P i = decide ((K * 2 ^ t % P + 1) % P = 0) by rw [e]; exact HHK.out))
            obtain ⟨x, hx⟩ : ∃ x, K * 2 ^ t % P = x := ⟨_, rfl⟩
            rw [hx] at hxlt hks HXX ⊢
            have x300 : (x : Int) < 300 := by omega
            have HKS2 := Lib.hid hks
            by_cases hti : t = i
            · have hge : ¬ (t : Int) < (i : Int) := by omega
              have hge2 : ¬ t < i := by omega
              have e2 : ((x : Int) + 1) % (P : Int) = (((x + 1) % P : Nat) : Int) := by rw [Int.natCast_emod, Int.natCast_add]; rfl
              have hhe2 : (((x : Int) + 1) % (P : Int) == 0) = hit K P i := by
                rw [e2, HXX.out hti, Bool.eq_iff_iff]
                simp only [beq_iff_eq, decide_eq_true_eq]
                omega
              clear hx hks hti ht e2 hxlt
              cases S with
              | true =>
                have HS2 := Lib.hid (show decide (0 < tm (i : Int) (dyL K (xs.take (j + 1)))) = true by rw [HDS.out]; rfl)
                clear hhe2
                go_wp2
                go_roundg (n - j - 1)
                case rel => exact ⟨j + 1, by have := HJ.out; omega, by go_num, by rw [HS2.out], HZ.out⟩
                case measure => have := HJ.out; omega
              | false =>
                have HS2 := Lib.hid (show decide (0 < tm (i : Int) (dyL K (xs.take (j + 1)))) = hit K P i by rw [HDS.out]; rfl)
                go_wp2
                go_roundg (n - j - 1)
                case rel => exact ⟨j + 1, by have := HJ.out; omega, by go_num, by rw [HS2.out], HZ.out⟩
                case measure => have := HJ.out; omega
            · have hlt3 : (t : Int) < (i : Int) := by omega
              have hlt4 : t < i := by omega
              have e1 : 2 * (x : Int) % (P : Int) = ((2 * x % P : Nat) : Int) := by rw [Int.natCast_emod, Int.natCast_mul]; rfl
              obtain ⟨y, hy⟩ : ∃ y, 2 * x % P = y := ⟨_, rfl⟩
              rw [hy] at e1
              rw [hy] at HKS2
              clear hx hks hy hti ht
              go_wp2
              go_roundg (i - t - 1)
              case rel => exact ⟨t + 1, by have := HTT.out; omega, by go_num, by rw [HKS2.out, ← e1], HZ.out⟩
              case measure => have := HTT.out; omega
set_option maxRecDepth 100000 in
set_option maxHeartbeats 8000000 in
theorem lawAlways_zero (k : Int) (a : Option Addr) (n c : Nat) (xs : List Int) (w : World) (h : Ints w a n xs) (hc : n ≤ c) (hn : n ≤ 4611686018427387904) (hcm : c ≤ maxLen) (hs : isK k = true) (hp : isPs xs = true) (hd : daysB k.toNat xs = false) (R : Nat) (hR1 : 1 ≤ R) (hR2 : R ≤ 10080) (hln : (dyL k.toNat xs).length ≠ 0) (hr : alwF k.toNat xs = ((R : Int), 0)) :
    Calls Try.prog 12 #[.int .i64 k, .slice a n c] w fun e w' => e = .returned (.bool true) ∧ Below w.heap.size w w' := by
  have H := Lib.hid h
  have HL := Lib.hid h.1
  have HSD := Lib.hid (fun w => seed_any k w)
  have HPR := Lib.hid (fun w h => primesR_any a n c xs w h hc hn)
  rw [hs] at HSD
  rw [hp] at HPR
  have HS := Lib.hid hs
  have HPP := Lib.hid hp
  have HT := Lib.hid (ps12_yes hp)
  obtain ⟨K, rfl⟩ : ∃ K : Nat, k = (K : Int) := by
    have : 1 ≤ k := by simp [isK] at hs; omega
    exact ⟨k.toNat, by omega⟩
  have hk6 : K ≤ 1000000 := by simp [isK] at hs; omega
  have HDB := Lib.hid hd
  have HRW := Lib.hid hr
  have hd2 := hd
  rw [Int.toNat_natCast] at hd2 hr hln
  obtain ⟨f1, f2, f3⟩ := alw_facts hp hd2 hr
  obtain ⟨hok, hwl, hlen⟩ := dyL_all hp hd2
  have hnl := (isPs_len hp).2
  have hnx := h.1
  have hstep := fun (i j : Nat) (hj : j < xs.length) => day_step (k := K) (i := i) hp hj
  have hpr := fun (j : Nat) (hj : j < xs.length) => isPs_at hp hj
  have hfin : ∀ i : Nat, 1 ≤ i → i ≤ R → decide (0 < tm (i : Int) (dyL K (xs.take n))) = decide ((i : Int) < (R : Int)) := by
    intro i h1 h2
    rw [List.take_of_length_le (by omega)]
    rw [f3 i h1 (Or.inr (by omega))]
    rfl
  have hDY := fun (a : Option Addr) (n c : Nat) (w : World) (h : Ints w a n xs) hc hn => Days_yes (K : Int) a n c xs w h hc hn hs hp hd
  simp only [Int.toNat_natCast] at hDY
  have HSTEP := Lib.hid hstep
  have HPJ := Lib.hid hpr
  have HFIN := Lib.hid hfin
  have hn8 : n ≤ 8 := by omega
  have hlf : (∃ l1 : Int, ∀ (a : Option Addr) (c : Nat) (w : World), Prs w a (dyL K xs).length (dyL K xs) → Calls Try.prog 14 #[.slice a (dyL K xs).length c] w fun e w' => e = .returned (.tuple #[.int .i64 l1, .int .i64 0]) ∧ Below w.heap.size w w') :=
    ⟨(leftF (dyL K xs)).1, fun a c w h => Left_yes (isS_spec.2 ⟨by omega, by omega, hok, hwl⟩) (leftF (dyL K xs)).1 0 (Prod.ext rfl f2) a _ c w h (by omega)⟩
  obtain ⟨l1, hlf⟩ := hlf
  have HLF := Lib.hid hlf
  clear hlf
  have HCL := Lib.hid (fun a c w (h : Prs w a (dyL K xs).length (dyL K xs)) => clone2_any a (dyL K xs).length c (dyL K xs) w h (by omega))
  obtain ⟨N, hN⟩ : ∃ N, (dyL K xs).length = N := ⟨_, rfl⟩
  obtain ⟨L, hL⟩ : ∃ L, dyL K xs = L := ⟨_, rfl⟩
  rw [hN] at HLF HCL hlen hln
  rw [hL] at HLF HCL hN
  simp only [hL] at hDY
  have HNN := Lib.hid hN
  have HDY := Lib.hid hDY
  have hN0 : (0 : Int) < (N : Int) := by omega
  have hN1 : ¬ (N : Int) = 0 := by omega
  have hRi : (R : Int) ≤ 10080 := by omega
  have hRj : (1 : Int) ≤ (R : Int) := by omega
  clear h hs hp hd hd2 hr f1 f2 f3 hok hwl hnx hnl hstep hpr hfin hDY hL hN hln
  go_enter Try.func12, Try.ntmps12
  go_wp2_with fail
  refine (listI_any a n c xs _ H.out hc hn hcm).mono ?_
  rintro e w1 ⟨a1, c1, m1, rfl, hm1, hp1, hc1, hcm1, hb⟩
  have HR1 := Lib.hid hb
  have HB1 := Lib.hid hb
  clear hb
  have HP1 := Lib.hid hp1
  clear hp1
  unfold maxLen at hcm1
  have hq1 := HP1.out
  rw [HT.out] at hq1
  have HQ1 := Lib.hid hq1
  clear hq1
  go_wp2_with fail
  refine (Always_yes _ a1 m1 c1 _ _ HQ1.out hc1 (by omega) HS.out HPP.out HDB.out (R : Int) 0 HRW.out).mono ?_
  rintro e w2 ⟨rfl, hb⟩
  have HR2 := Lib.hid hb
  have HB2 := Lib.hid (HB1.out.trans (hb.mono HB1.out.size))
  clear hb
  go_wp2_with fail
  refine (listI_any a n c xs _ (H.out.below HB2.out) hc hn hcm).mono ?_
  rintro e w3 ⟨a3, c3, m3, rfl, hm3, hp3, hc3, hcm3, hb⟩
  have HR3 := Lib.hid hb
  have HB3 := Lib.hid (HB2.out.trans (hb.mono HB2.out.size))
  clear hb
  have HP3 := Lib.hid hp3
  clear hp3
  unfold maxLen at hcm3
  have hq3 := HP3.out
  rw [HT.out] at hq3
  have HQ3 := Lib.hid hq3
  clear hq3
  go_wp2_with fail
  refine (HDY.out a3 m3 c3 _ HQ3.out hc3 (by omega)).mono ?_
  rintro e w4 ⟨vd, rfl, hrow, hb⟩
  have HR4 := Lib.hid hb
  have HB4 := Lib.hid (HB3.out.trans (hb.mono HB3.out.size))
  clear hb
  obtain ⟨ax, cx, rfl, hcx, hcmx, hpx⟩ := hrow.prs
  rw [HNN.out] at hcx hpx ⊢
  have HPX := Lib.hid hpx
  clear hrow hpx
  unfold maxLen at hcmx
  go_wp2_with fail
  refine (HSD.out _).mono ?_
  rintro e wsd ⟨rfl, rfl⟩
  go_wp2_with fail
  refine (HPR.out _ (H.out.below HB4.out)).mono ?_
  rintro e wpr ⟨rfl, rfl⟩
  go_wp2_with fail
  refine (HCL.out ax cx _ HPX.out).mono ?_
  rintro e w5 ⟨vc, rfl, hrow, hb⟩
  have HR5 := Lib.hid hb
  have HB5 := Lib.hid (HB4.out.trans (hb.mono HB4.out.size))
  clear hb
  obtain ⟨ay, cy, rfl, hcy, hcmy, hpy⟩ := hrow.prs
  rw [HNN.out] at hcy hpy ⊢
  have HPY := Lib.hid hpy
  clear hrow hpy
  unfold maxLen at hcmy
  go_wp2_with fail
  refine (HLF.out ay cy _ HPY.out).mono ?_
  rintro e w6 ⟨rfl, hb⟩
  have HR6 := Lib.hid hb
  have HB6 := Lib.hid (HB5.out.trans (hb.mono HB5.out.size))
  clear hb
  go_wp2
  go_loopg [12] R (fun gk s12 wr => ∃ i : Nat, i + gk = R + 1 ∧ 1 ≤ i ∧ s12 = .int .i64 (i : Int) ∧ Below w.heap.size w wr)
  case atStart => exact ⟨1, by omega, Nat.le_refl _, rfl, HB6.out⟩
  case round =>
    obtain ⟨i, hi, hi1, rfl, hbr⟩ := hrel
    have HI := Lib.hid hi
    have HX := Lib.hid hbr
    have i200 : (i : Int) ≤ 10081 := by omega
    have i0 : (0 : Int) ≤ (i : Int) := by omega
    clear hbr
    by_cases hend : i = R + 1
    · have hge : ¬ (i : Int) ≤ (R : Int) := by omega
      have hge2 : ¬ i ≤ R := by omega
      clear hend hi
      go_wp2_with fail
      refine (awake_any _).mono ?_
      rintro e we ⟨rfl, hb⟩
      have HF := Lib.hid (HX.out.trans (hb.mono HX.out.size))
      clear hb
      go_wp2
      go_ret
      exact ⟨rfl, HF.out⟩
    · have hlt : (i : Int) ≤ (R : Int) := by omega
      have hlt2 : i ≤ R := by omega
      have HFI := Lib.hid (HFIN.out i hi1 hlt2)
      clear hend hi
      go_wp2
      go_loopg [13, 110] n (fun gk s13 s110 wr => ∃ j : Nat, j + gk = n ∧ s110 = .int .i64 (j : Int) ∧ s13 = .bool (decide (0 < tm (i : Int) (dyL K (xs.take j)))) ∧ Below w.heap.size w wr)
      case atStart => exact ⟨0, by omega, rfl, rfl, HX.out⟩
      case round =>
        obtain ⟨j, hj, rfl, rfl, hbr⟩ := hrel
        have HJ := Lib.hid hj
        have HY := Lib.hid hbr
        clear hbr
        by_cases hjn : j = n
        · have hge : ¬ (j : Int) < (n : Int) := by omega
          have hge2 : ¬ j < n := by omega
          rw [hjn, HFI.out]
          clear hj
          subst hjn
          by_cases hiR : i < R
          · have hiR2 : (i : Int) < (R : Int) := by omega
            rw [decide_eq_true hiR2]
            go_wp2
            go_roundg (R - i)
            case rel => exact ⟨i + 1, by have := HI.out; omega, by omega, by go_num, HY.out⟩
            case measure => have := HI.out; omega
          · have hiR2 : ¬ (i : Int) < (R : Int) := by omega
            rw [decide_eq_false hiR2]
            go_wp2
            go_roundg (R - i)
            case rel => exact ⟨i + 1, by have := HI.out; omega, by omega, by go_num, HY.out⟩
            case measure => have := HI.out; omega
        · have hjlt : (j : Int) < (n : Int) := by omega
          have hjlt2 : j < n := by omega
          have j0 : (0 : Int) ≤ (j : Int) := by omega
          obtain ⟨b, off, hab, hbl, hcc⟩ := (H.out.below HY.out).at (by omega)
          subst hab
          have hcj := hcc j hjlt2
          obtain ⟨p1, p2, p3⟩ := HPJ.out j (by have := HL.out; omega)
          have hds := HSTEP.out i j (by have := HL.out; omega)
          obtain ⟨p, hpp⟩ : ∃ p, xs.getD j 0 = p := ⟨_, rfl⟩
          rw [hpp] at hcj p1 p2 p3 hds
          obtain ⟨P, rfl⟩ := Int.eq_ofNat_of_zero_le (show 0 ≤ p by omega)
          rw [Int.toNat_natCast] at hds
          have HDS := Lib.hid hds
          have HKS := Lib.hid (fun t => kx_succ K P t)
          have HHK := Lib.hid (hit_kx K P i)
          have P0 : ¬ (P : Int) = 0 := by omega
          have PP : (0 : Int) < (P : Int) := by omega
          have P300 : (P : Int) < 300 := by omega
          obtain ⟨S, hS⟩ : ∃ S, decide (0 < tm (i : Int) (dyL K (xs.take j))) = S := ⟨_, rfl⟩
          rw [hS] at HDS ⊢
          have ek : (K : Int) % (P : Int) = ((K * 2 ^ 0 % P : Nat) : Int) := by rw [Nat.pow_zero, Nat.mul_one, Int.natCast_emod]
          obtain ⟨k0, hk0⟩ : ∃ k0, K * 2 ^ 0 % P = k0 := ⟨_, rfl⟩
          rw [hk0] at ek
          have HK0 := Lib.hid hk0
          clear hk0 hjn hj hcc hds hpp p1 p2 p3 hS
          go_wp2
          go_loopg [16, 118] i (fun gk s16 s118 wr => ∃ t : Nat, t + gk = i ∧ s118 = .int .i64 (t : Int) ∧ s16 = .int .i64 ((K * 2 ^ t % P : Nat) : Int) ∧ Below w.heap.size w wr)
          case atStart => exact ⟨0, by omega, rfl, by rw [HK0.out, ek], HY.out⟩
          case round =>
            obtain ⟨t, ht, rfl, rfl, hbr⟩ := hrel
            have HTT := Lib.hid ht
            have HZ := Lib.hid hbr
            clear hbr ek
            have hxlt : K * 2 ^ t % P < P := Nat.mod_lt _ (by omega)
            have hks := HKS.out t
            have HXX := Lib.hid (fun (e : t = i) => (show hit K P i = decide ((K * 2 ^ t % P + 1) % P = 0) by rw [e]; exact HHK.out))
            obtain ⟨x, hx⟩ : ∃ x, K * 2 ^ t % P = x := ⟨_, rfl⟩
            rw [hx] at hxlt hks HXX ⊢
            have x300 : (x : Int) < 300 := by omega
            have HKS2 := Lib.hid hks
            by_cases hti : t = i
            · have hge : ¬ (t : Int) < (i : Int) := by omega
              have hge2 : ¬ t < i := by omega
              have e2 : ((x : Int) + 1) % (P : Int) = (((x + 1) % P : Nat) : Int) := by rw [Int.natCast_emod, Int.natCast_add]; rfl
              have hhe2 : (((x : Int) + 1) % (P : Int) == 0) = hit K P i := by
                rw [e2, HXX.out hti, Bool.eq_iff_iff]
                simp only [beq_iff_eq, decide_eq_true_eq]
                omega
              clear hx hks hti ht e2 hxlt
              cases S with
              | true =>
                have HS2 := Lib.hid (show decide (0 < tm (i : Int) (dyL K (xs.take (j + 1)))) = true by rw [HDS.out]; rfl)
                clear hhe2
                go_wp2
                go_roundg (n - j - 1)
                case rel => exact ⟨j + 1, by have := HJ.out; omega, by go_num, by rw [HS2.out], HZ.out⟩
                case measure => have := HJ.out; omega
              | false =>
                have HS2 := Lib.hid (show decide (0 < tm (i : Int) (dyL K (xs.take (j + 1)))) = hit K P i by rw [HDS.out]; rfl)
                go_wp2
                go_roundg (n - j - 1)
                case rel => exact ⟨j + 1, by have := HJ.out; omega, by go_num, by rw [HS2.out], HZ.out⟩
                case measure => have := HJ.out; omega
            · have hlt3 : (t : Int) < (i : Int) := by omega
              have hlt4 : t < i := by omega
              have e1 : 2 * (x : Int) % (P : Int) = ((2 * x % P : Nat) : Int) := by rw [Int.natCast_emod, Int.natCast_mul]; rfl
              obtain ⟨y, hy⟩ : ∃ y, 2 * x % P = y := ⟨_, rfl⟩
              rw [hy] at e1
              rw [hy] at HKS2
              clear hx hks hy hti ht
              go_wp2
              go_roundg (i - t - 1)
              case rel => exact ⟨t + 1, by have := HTT.out; omega, by go_num, by rw [HKS2.out, ← e1], HZ.out⟩
              case measure => have := HTT.out; omega
set_option maxRecDepth 100000 in
set_option maxHeartbeats 8000000 in
theorem lawAlways_none (k : Int) (a : Option Addr) (n c : Nat) (xs : List Int) (w : World) (h : Ints w a n xs) (hc : n ≤ c) (hn : n ≤ 4611686018427387904) (hcm : c ≤ maxLen) (hs : isK k = true) (hp : isPs xs = true) (hd : daysB k.toNat xs = false) (R : Nat) (hR1 : 1 ≤ R) (hR2 : R ≤ 10080) (hln : (dyL k.toNat xs).length = 0) (hr : alwF k.toNat xs = ((R : Int), 0)) :
    Calls Try.prog 12 #[.int .i64 k, .slice a n c] w fun e w' => e = .returned (.bool true) ∧ Below w.heap.size w w' := by
  have H := Lib.hid h
  have HL := Lib.hid h.1
  have HSD := Lib.hid (fun w => seed_any k w)
  have HPR := Lib.hid (fun w h => primesR_any a n c xs w h hc hn)
  rw [hs] at HSD
  rw [hp] at HPR
  have HS := Lib.hid hs
  have HPP := Lib.hid hp
  have HT := Lib.hid (ps12_yes hp)
  obtain ⟨K, rfl⟩ : ∃ K : Nat, k = (K : Int) := by
    have : 1 ≤ k := by simp [isK] at hs; omega
    exact ⟨k.toNat, by omega⟩
  have hk6 : K ≤ 1000000 := by simp [isK] at hs; omega
  have HDB := Lib.hid hd
  have HRW := Lib.hid hr
  have hd2 := hd
  rw [Int.toNat_natCast] at hd2 hr hln
  obtain ⟨f1, f2, f3⟩ := alw_facts hp hd2 hr
  obtain ⟨hok, hwl, hlen⟩ := dyL_all hp hd2
  have hnl := (isPs_len hp).2
  have hnx := h.1
  have hstep := fun (i j : Nat) (hj : j < xs.length) => day_step (k := K) (i := i) hp hj
  have hpr := fun (j : Nat) (hj : j < xs.length) => isPs_at hp hj
  have hfin : ∀ i : Nat, 1 ≤ i → i ≤ R → decide (0 < tm (i : Int) (dyL K (xs.take n))) = decide ((i : Int) < (R : Int)) := by
    intro i h1 h2
    rw [List.take_of_length_le (by omega)]
    rw [f3 i h1 (Or.inr (by omega))]
    rfl
  have hDY := fun (a : Option Addr) (n c : Nat) (w : World) (h : Ints w a n xs) hc hn => Days_yes (K : Int) a n c xs w h hc hn hs hp hd
  simp only [Int.toNat_natCast] at hDY
  have HSTEP := Lib.hid hstep
  have HPJ := Lib.hid hpr
  have HFIN := Lib.hid hfin
  have hn8 : n ≤ 8 := by omega
  have hlf : (∃ l1 : Int, ∀ (a : Option Addr) (c : Nat) (w : World), Prs w a (dyL K xs).length (dyL K xs) → Calls Try.prog 14 #[.slice a (dyL K xs).length c] w fun e w' => e = .returned (.tuple #[.int .i64 l1, .int .i64 2]) ∧ Below w.heap.size w w') :=
    ⟨0, fun a c w h => Left_no (isS_len (.inl (by omega))) a _ c w h (by omega)⟩
  obtain ⟨l1, hlf⟩ := hlf
  have HLF := Lib.hid hlf
  clear hlf
  have HCL := Lib.hid (fun a c w (h : Prs w a (dyL K xs).length (dyL K xs)) => clone2_any a (dyL K xs).length c (dyL K xs) w h (by omega))
  obtain ⟨N, hN⟩ : ∃ N, (dyL K xs).length = N := ⟨_, rfl⟩
  obtain ⟨L, hL⟩ : ∃ L, dyL K xs = L := ⟨_, rfl⟩
  rw [hN] at HLF HCL hlen hln
  rw [hL] at HLF HCL hN
  simp only [hL] at hDY
  have HNN := Lib.hid hN
  have HDY := Lib.hid hDY
  subst hln
  have hRi : (R : Int) ≤ 10080 := by omega
  have hRj : (1 : Int) ≤ (R : Int) := by omega
  clear h hs hp hd hd2 hr f1 f2 f3 hok hwl hnx hnl hstep hpr hfin hDY hL hN
  go_enter Try.func12, Try.ntmps12
  go_wp2_with fail
  refine (listI_any a n c xs _ H.out hc hn hcm).mono ?_
  rintro e w1 ⟨a1, c1, m1, rfl, hm1, hp1, hc1, hcm1, hb⟩
  have HR1 := Lib.hid hb
  have HB1 := Lib.hid hb
  clear hb
  have HP1 := Lib.hid hp1
  clear hp1
  unfold maxLen at hcm1
  have hq1 := HP1.out
  rw [HT.out] at hq1
  have HQ1 := Lib.hid hq1
  clear hq1
  go_wp2_with fail
  refine (Always_yes _ a1 m1 c1 _ _ HQ1.out hc1 (by omega) HS.out HPP.out HDB.out (R : Int) 0 HRW.out).mono ?_
  rintro e w2 ⟨rfl, hb⟩
  have HR2 := Lib.hid hb
  have HB2 := Lib.hid (HB1.out.trans (hb.mono HB1.out.size))
  clear hb
  go_wp2_with fail
  refine (listI_any a n c xs _ (H.out.below HB2.out) hc hn hcm).mono ?_
  rintro e w3 ⟨a3, c3, m3, rfl, hm3, hp3, hc3, hcm3, hb⟩
  have HR3 := Lib.hid hb
  have HB3 := Lib.hid (HB2.out.trans (hb.mono HB2.out.size))
  clear hb
  have HP3 := Lib.hid hp3
  clear hp3
  unfold maxLen at hcm3
  have hq3 := HP3.out
  rw [HT.out] at hq3
  have HQ3 := Lib.hid hq3
  clear hq3
  go_wp2_with fail
  refine (HDY.out a3 m3 c3 _ HQ3.out hc3 (by omega)).mono ?_
  rintro e w4 ⟨vd, rfl, hrow, hb⟩
  have HR4 := Lib.hid hb
  have HB4 := Lib.hid (HB3.out.trans (hb.mono HB3.out.size))
  clear hb
  obtain ⟨ax, cx, rfl, hcx, hcmx, hpx⟩ := hrow.prs
  rw [HNN.out] at hcx hpx ⊢
  have HPX := Lib.hid hpx
  clear hrow hpx
  unfold maxLen at hcmx
  go_wp2_with fail
  refine (HSD.out _).mono ?_
  rintro e wsd ⟨rfl, rfl⟩
  go_wp2_with fail
  refine (HPR.out _ (H.out.below HB4.out)).mono ?_
  rintro e wpr ⟨rfl, rfl⟩
  go_wp2_with fail
  refine (HCL.out ax cx _ HPX.out).mono ?_
  rintro e w5 ⟨vc, rfl, hrow, hb⟩
  have HR5 := Lib.hid hb
  have HB5 := Lib.hid (HB4.out.trans (hb.mono HB4.out.size))
  clear hb
  obtain ⟨ay, cy, rfl, hcy, hcmy, hpy⟩ := hrow.prs
  rw [HNN.out] at hcy hpy ⊢
  have HPY := Lib.hid hpy
  clear hrow hpy
  unfold maxLen at hcmy
  go_wp2_with fail
  refine (HLF.out ay cy _ HPY.out).mono ?_
  rintro e w6 ⟨rfl, hb⟩
  have HR6 := Lib.hid hb
  have HB6 := Lib.hid (HB5.out.trans (hb.mono HB5.out.size))
  clear hb
  go_wp2
  go_loopg [12] R (fun gk s12 wr => ∃ i : Nat, i + gk = R + 1 ∧ 1 ≤ i ∧ s12 = .int .i64 (i : Int) ∧ Below w.heap.size w wr)
  case atStart => exact ⟨1, by omega, Nat.le_refl _, rfl, HB6.out⟩
  case round =>
    obtain ⟨i, hi, hi1, rfl, hbr⟩ := hrel
    have HI := Lib.hid hi
    have HX := Lib.hid hbr
    have i200 : (i : Int) ≤ 10081 := by omega
    have i0 : (0 : Int) ≤ (i : Int) := by omega
    clear hbr
    by_cases hend : i = R + 1
    · have hge : ¬ (i : Int) ≤ (R : Int) := by omega
      have hge2 : ¬ i ≤ R := by omega
      clear hend hi
      go_wp2_with fail
      refine (awake_any _).mono ?_
      rintro e we ⟨rfl, hb⟩
      have HF := Lib.hid (HX.out.trans (hb.mono HX.out.size))
      clear hb
      go_wp2
      go_ret
      exact ⟨rfl, HF.out⟩
    · have hlt : (i : Int) ≤ (R : Int) := by omega
      have hlt2 : i ≤ R := by omega
      have HFI := Lib.hid (HFIN.out i hi1 hlt2)
      clear hend hi
      go_wp2
      go_loopg [13, 110] n (fun gk s13 s110 wr => ∃ j : Nat, j + gk = n ∧ s110 = .int .i64 (j : Int) ∧ s13 = .bool (decide (0 < tm (i : Int) (dyL K (xs.take j)))) ∧ Below w.heap.size w wr)
      case atStart => exact ⟨0, by omega, rfl, rfl, HX.out⟩
      case round =>
        obtain ⟨j, hj, rfl, rfl, hbr⟩ := hrel
        have HJ := Lib.hid hj
        have HY := Lib.hid hbr
        clear hbr
        by_cases hjn : j = n
        · have hge : ¬ (j : Int) < (n : Int) := by omega
          have hge2 : ¬ j < n := by omega
          rw [hjn, HFI.out]
          clear hj
          subst hjn
          by_cases hiR : i < R
          · have hiR2 : (i : Int) < (R : Int) := by omega
            rw [decide_eq_true hiR2]
            go_wp2
            go_roundg (R - i)
            case rel => exact ⟨i + 1, by have := HI.out; omega, by omega, by go_num, HY.out⟩
            case measure => have := HI.out; omega
          · have hiR2 : ¬ (i : Int) < (R : Int) := by omega
            rw [decide_eq_false hiR2]
            go_wp2
            go_roundg (R - i)
            case rel => exact ⟨i + 1, by have := HI.out; omega, by omega, by go_num, HY.out⟩
            case measure => have := HI.out; omega
        · have hjlt : (j : Int) < (n : Int) := by omega
          have hjlt2 : j < n := by omega
          have j0 : (0 : Int) ≤ (j : Int) := by omega
          obtain ⟨b, off, hab, hbl, hcc⟩ := (H.out.below HY.out).at (by omega)
          subst hab
          have hcj := hcc j hjlt2
          obtain ⟨p1, p2, p3⟩ := HPJ.out j (by have := HL.out; omega)
          have hds := HSTEP.out i j (by have := HL.out; omega)
          obtain ⟨p, hpp⟩ : ∃ p, xs.getD j 0 = p := ⟨_, rfl⟩
          rw [hpp] at hcj p1 p2 p3 hds
          obtain ⟨P, rfl⟩ := Int.eq_ofNat_of_zero_le (show 0 ≤ p by omega)
          rw [Int.toNat_natCast] at hds
          have HDS := Lib.hid hds
          have HKS := Lib.hid (fun t => kx_succ K P t)
          have HHK := Lib.hid (hit_kx K P i)
          have P0 : ¬ (P : Int) = 0 := by omega
          have PP : (0 : Int) < (P : Int) := by omega
          have P300 : (P : Int) < 300 := by omega
          obtain ⟨S, hS⟩ : ∃ S, decide (0 < tm (i : Int) (dyL K (xs.take j))) = S := ⟨_, rfl⟩
          rw [hS] at HDS ⊢
          have ek : (K : Int) % (P : Int) = ((K * 2 ^ 0 % P : Nat) : Int) := by rw [Nat.pow_zero, Nat.mul_one, Int.natCast_emod]
          obtain ⟨k0, hk0⟩ : ∃ k0, K * 2 ^ 0 % P = k0 := ⟨_, rfl⟩
          rw [hk0] at ek
          have HK0 := Lib.hid hk0
          clear hk0 hjn hj hcc hds hpp p1 p2 p3 hS
          go_wp2
          go_loopg [16, 118] i (fun gk s16 s118 wr => ∃ t : Nat, t + gk = i ∧ s118 = .int .i64 (t : Int) ∧ s16 = .int .i64 ((K * 2 ^ t % P : Nat) : Int) ∧ Below w.heap.size w wr)
          case atStart => exact ⟨0, by omega, rfl, by rw [HK0.out, ek], HY.out⟩
          case round =>
            obtain ⟨t, ht, rfl, rfl, hbr⟩ := hrel
            have HTT := Lib.hid ht
            have HZ := Lib.hid hbr
            clear hbr ek
            have hxlt : K * 2 ^ t % P < P := Nat.mod_lt _ (by omega)
            have hks := HKS.out t
            have HXX := Lib.hid (fun (e : t = i) => (show hit K P i = decide ((K * 2 ^ t % P + 1) % P = 0) by rw [e]; exact HHK.out))
            obtain ⟨x, hx⟩ : ∃ x, K * 2 ^ t % P = x := ⟨_, rfl⟩
            rw [hx] at hxlt hks HXX ⊢
            have x300 : (x : Int) < 300 := by omega
            have HKS2 := Lib.hid hks
            by_cases hti : t = i
            · have hge : ¬ (t : Int) < (i : Int) := by omega
              have hge2 : ¬ t < i := by omega
              have e2 : ((x : Int) + 1) % (P : Int) = (((x + 1) % P : Nat) : Int) := by rw [Int.natCast_emod, Int.natCast_add]; rfl
              have hhe2 : (((x : Int) + 1) % (P : Int) == 0) = hit K P i := by
                rw [e2, HXX.out hti, Bool.eq_iff_iff]
                simp only [beq_iff_eq, decide_eq_true_eq]
                omega
              clear hx hks hti ht e2 hxlt
              cases S with
              | true =>
                have HS2 := Lib.hid (show decide (0 < tm (i : Int) (dyL K (xs.take (j + 1)))) = true by rw [HDS.out]; rfl)
                clear hhe2
                go_wp2
                go_roundg (n - j - 1)
                case rel => exact ⟨j + 1, by have := HJ.out; omega, by go_num, by rw [HS2.out], HZ.out⟩
                case measure => have := HJ.out; omega
              | false =>
                have HS2 := Lib.hid (show decide (0 < tm (i : Int) (dyL K (xs.take (j + 1)))) = hit K P i by rw [HDS.out]; rfl)
                go_wp2
                go_roundg (n - j - 1)
                case rel => exact ⟨j + 1, by have := HJ.out; omega, by go_num, by rw [HS2.out], HZ.out⟩
                case measure => have := HJ.out; omega
            · have hlt3 : (t : Int) < (i : Int) := by omega
              have hlt4 : t < i := by omega
              have e1 : 2 * (x : Int) % (P : Int) = ((2 * x % P : Nat) : Int) := by rw [Int.natCast_emod, Int.natCast_mul]; rfl
              obtain ⟨y, hy⟩ : ∃ y, 2 * x % P = y := ⟨_, rfl⟩
              rw [hy] at e1
              rw [hy] at HKS2
              clear hx hks hy hti ht
              go_wp2
              go_roundg (i - t - 1)
              case rel => exact ⟨t + 1, by have := HTT.out; omega, by go_num, by rw [HKS2.out, ← e1], HZ.out⟩
              case measure => have := HTT.out; omega

theorem lawAlways_any (k : Int) (a : Option Addr) (n c : Nat) (xs : List Int) (w : World) (h : Ints w a n xs) (hc : n ≤ c) (hn : n ≤ 4611686018427387904) (hcm : c ≤ maxLen) :
    Calls Try.prog 12 #[.int .i64 k, .slice a n c] w fun e w' => e = .returned (.bool true) ∧ Below w.heap.size w w' := by
  cases hs : isK k with
  | false => exact lawAlways_badK k a n c xs w h hc hn hcm hs
  | true =>
    cases hp : isPs xs with
    | false => exact lawAlways_badP k a n c xs w h hc hn hcm hs hp
    | true =>
      cases hd : daysB k.toNat xs with
      | true => exact lawAlways_size k a n c xs w h hc hn hcm hs hp hd
      | false =>
        obtain ⟨r1, r2, hr⟩ : ∃ r1 r2, alwF k.toNat xs = (r1, r2) := ⟨_, _, rfl⟩
        obtain ⟨f1, f2, f3⟩ := alw_facts hp hd hr
        rcases f1 with ⟨rfl, g1, g2⟩ | ⟨rfl, rfl, g⟩
        · obtain ⟨R, rfl⟩ := Int.eq_ofNat_of_zero_le (show 0 ≤ r1 by omega)
          by_cases hl : (dyL k.toNat xs).length = 0
          · exact lawAlways_none k a n c xs w h hc hn hcm hs hp hd R (by omega) (by omega) hl hr
          · exact lawAlways_zero k a n c xs w h hc hn hcm hs hp hd R (by omega) (by omega) hl hr
        · exact lawAlways_four k a n c xs w h hc hn hcm hs hp hd g hr
end Go.Proofs.Ytanhjgneaaenpaa
