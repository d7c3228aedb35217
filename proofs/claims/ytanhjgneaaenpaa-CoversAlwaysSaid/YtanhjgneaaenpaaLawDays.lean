/- The walk of the law CoversDays, in every case. No condition. -/
import Derived.Test.YtanhjgneaaenpaaLawRefines
import Derived.Test.YtanhjgneaaenpaaRefA
namespace Go.Proofs.Ytanhjgneaaenpaa
open Go.RowKit
attribute [local go_sem] Oper.semAt_some

theorem Ints.own {w : World} {B n m : Nat} {a : Option Addr} {c : Nat} {xs : List Int} (h : w.ownsRow B 3 1 (.slice a m c) n (xs.map (Value.int .i64))) : Ints w a n xs ∧ m = n := by
  have hl : xs.length = n := by simpa using h.1
  rcases h.2 with ⟨h1, h2⟩ | ⟨g, cap, cur, h1, h2, h3, h4, h5, h6, h7⟩
  · cases h1
    exact ⟨⟨hl, .inl h2⟩, h2.symm⟩
  · cases h1
    refine ⟨⟨hl, .inr ⟨g, 0, rfl, (Array.getElem?_eq_some_iff.1 h3).1, fun j hj => ?_⟩⟩, rfl⟩
    rw [Nat.zero_add, h.cellAt j (by omega)]
    simp [List.getD, hj, hl]
theorem listI_any (a : Option Addr) (n c : Nat) (xs : List Int) (w : World) (h : Ints w a n xs) (hc : n ≤ c) (hn : n ≤ 4611686018427387904) (hcm : c ≤ maxLen) :
    Calls Try.prog 27 #[.slice a n c] w fun e w' => ∃ ao co m, e = .returned (.slice ao m co) ∧ m ≤ 12 ∧ Ints w' ao m (xs.take 12) ∧ m ≤ co ∧ co ≤ maxLen ∧ Below w.heap.size w w' := by
  refine (list_any a n c xs w h hc hn hcm).mono ?_
  rintro e w' ⟨ao, co, m, rfl, h1, h2, h3, h4, h5⟩
  exact ⟨ao, co, m, rfl, h1, (Ints.own h2).1, h3, h4, h5⟩
theorem ps12_yes {xs : List Int} (h : isPs xs = true) : xs.take 12 = xs := List.take_of_length_le (by have := (isPs_len h).2; omega)
theorem ps12_no {xs : List Int} (h : isPs xs = false) : isPs (xs.take 12) = false := by
  by_cases hl : xs.length ≤ 12
  · rw [List.take_of_length_le hl]; exact h
  · cases e : isPs (xs.take 12) with
    | false => rfl
    | true =>
      have := (isPs_len e).2
      rw [List.length_take] at this
      omega
set_option maxRecDepth 100000 in
set_option maxHeartbeats 8000000 in
theorem lawDays_badK (k : Int) (a : Option Addr) (n c : Nat) (xs : List Int) (w : World) (h : Ints w a n xs) (hc : n ≤ c) (hn : n ≤ 4611686018427387904) (hcm : c ≤ maxLen) (hs : isK k = false) :
    Calls Try.prog 5 #[.int .i64 k, .slice a n c] w fun e w' => e = .returned (.bool true) ∧ Below w.heap.size w w' := by
  have H := Lib.hid h
  have HL := Lib.hid h.1
  have HSD := Lib.hid (fun w => seed_any k w)
  have HPR := Lib.hid (fun w h => primesR_any a n c xs w h hc hn)
  rw [hs] at HSD
  have HS := Lib.hid hs
  clear h hs
  go_enter Try.func5, Try.ntmps5
  go_wp2_with fail
  refine (listI_any a n c xs _ H.out hc hn hcm).mono ?_
  rintro e w1 ⟨a1, c1, m1, rfl, hm1, hp1, hc1, hcm1, hb⟩
  have HR1 := Lib.hid hb
  have HB1 := Lib.hid hb
  clear hb
  have HP1 := Lib.hid hp1
  clear hp1
  unfold maxLen at hcm1
  go_wp2_with fail
  refine (Days_badK k a1 m1 c1 _ _ HP1.out hc1 (by omega) HS.out).mono ?_
  rintro e w2 ⟨rfl, hb⟩
  have HR2 := Lib.hid hb
  have HB2 := Lib.hid (HB1.out.trans (hb.mono HB1.out.size))
  clear hb
  go_wp2_with fail
  refine (listI_any a n c xs _ (H.out.below HB2.out) hc hn hcm).mono ?_
  rintro e w3 ⟨a3, c3, m3, rfl, hm3, hp3, hc3, hcm3, hb⟩
  have HR3 := Lib.hid hb
  have HB3 := Lib.hid (HB2.out.trans (hb.mono HB2.out.size))
  clear hb
  have HP3 := Lib.hid hp3
  clear hp3
  unfold maxLen at hcm3
  go_wp2_with fail
  refine (Always_badK k a3 m3 c3 _ _ HP3.out hc3 (by omega) HS.out).mono ?_
  rintro e w4 ⟨rfl, hb⟩
  have HR4 := Lib.hid hb
  have HB4 := Lib.hid (HB3.out.trans (hb.mono HB3.out.size))
  clear hb
  go_wp2_with fail
  refine (HSD.out _).mono ?_
  rintro e wsd ⟨rfl, rfl⟩
  go_wp2_with fail
  refine (awake_any _).mono ?_
  rintro e w5 ⟨rfl, hb⟩
  have HR5 := Lib.hid hb
  have HB5 := Lib.hid (HB4.out.trans (hb.mono HB4.out.size))
  clear hb
  go_wp2
  go_ret
  exact ⟨rfl, HB5.out⟩
set_option maxRecDepth 100000 in
set_option maxHeartbeats 8000000 in
theorem lawDays_badP (k : Int) (a : Option Addr) (n c : Nat) (xs : List Int) (w : World) (h : Ints w a n xs) (hc : n ≤ c) (hn : n ≤ 4611686018427387904) (hcm : c ≤ maxLen) (hs : isK k = true) (hp : isPs xs = false) :
    Calls Try.prog 5 #[.int .i64 k, .slice a n c] w fun e w' => e = .returned (.bool true) ∧ Below w.heap.size w w' := by
  have H := Lib.hid h
  have HL := Lib.hid h.1
  have HSD := Lib.hid (fun w => seed_any k w)
  have HPR := Lib.hid (fun w h => primesR_any a n c xs w h hc hn)
  rw [hs] at HSD
  rw [hp] at HPR
  have HS := Lib.hid hs
  have H12 := Lib.hid (ps12_no hp)
  clear h hs hp
  go_enter Try.func5, Try.ntmps5
  go_wp2_with fail
  refine (listI_any a n c xs _ H.out hc hn hcm).mono ?_
  rintro e w1 ⟨a1, c1, m1, rfl, hm1, hp1, hc1, hcm1, hb⟩
  have HR1 := Lib.hid hb
  have HB1 := Lib.hid hb
  clear hb
  have HP1 := Lib.hid hp1
  clear hp1
  unfold maxLen at hcm1
  go_wp2_with fail
  refine (Days_badP k a1 m1 c1 _ _ HP1.out hc1 (by omega) HS.out H12.out).mono ?_
  rintro e w2 ⟨rfl, hb⟩
  have HR2 := Lib.hid hb
  have HB2 := Lib.hid (HB1.out.trans (hb.mono HB1.out.size))
  clear hb
  go_wp2_with fail
  refine (listI_any a n c xs _ (H.out.below HB2.out) hc hn hcm).mono ?_
  rintro e w3 ⟨a3, c3, m3, rfl, hm3, hp3, hc3, hcm3, hb⟩
  have HR3 := Lib.hid hb
  have HB3 := Lib.hid (HB2.out.trans (hb.mono HB2.out.size))
  clear hb
  have HP3 := Lib.hid hp3
  clear hp3
  unfold maxLen at hcm3
  go_wp2_with fail
  refine (Always_badP k a3 m3 c3 _ _ HP3.out hc3 (by omega) HS.out H12.out).mono ?_
  rintro e w4 ⟨rfl, hb⟩
  have HR4 := Lib.hid hb
  have HB4 := Lib.hid (HB3.out.trans (hb.mono HB3.out.size))
  clear hb
  go_wp2_with fail
  refine (HSD.out _).mono ?_
  rintro e wsd ⟨rfl, rfl⟩
  go_wp2_with fail
  refine (HPR.out _ (H.out.below HB4.out)).mono ?_
  rintro e wpr ⟨rfl, rfl⟩
  go_wp2_with fail
  refine (awake_any _).mono ?_
  rintro e w5 ⟨rfl, hb⟩
  have HR5 := Lib.hid hb
  have HB5 := Lib.hid (HB4.out.trans (hb.mono HB4.out.size))
  clear hb
  go_wp2
  go_ret
  exact ⟨rfl, HB5.out⟩
set_option maxRecDepth 100000 in
set_option maxHeartbeats 8000000 in
theorem lawDays_size (k : Int) (a : Option Addr) (n c : Nat) (xs : List Int) (w : World) (h : Ints w a n xs) (hc : n ≤ c) (hn : n ≤ 4611686018427387904) (hcm : c ≤ maxLen) (hs : isK k = true) (hp : isPs xs = true) (hd : daysB k.toNat xs = true) :
    Calls Try.prog 5 #[.int .i64 k, .slice a n c] w fun e w' => e = .returned (.bool true) ∧ Below w.heap.size w w' := by
  have H := Lib.hid h
  have HL := Lib.hid h.1
  have HSD := Lib.hid (fun w => seed_any k w)
  have HPR := Lib.hid (fun w h => primesR_any a n c xs w h hc hn)
  rw [hs] at HSD
  rw [hp] at HPR
  have HS := Lib.hid hs
  have HPP := Lib.hid hp
  have HT := Lib.hid (ps12_yes hp)
  obtain ⟨K, rfl⟩ : ∃ K : Nat, k = (K : Int) := by
    have : 1 ≤ k := by simp [isK] at hs; omega
    exact ⟨k.toNat, by omega⟩
  have hk6 : K ≤ 1000000 := by simp [isK] at hs; omega
  have HDB := Lib.hid hd
  have hd2 := hd
  rw [Int.toNat_natCast] at hd2
  have HDB2 := Lib.hid hd2
  clear hd2
  clear h hs hp hd
  go_enter Try.func5, Try.ntmps5
  go_wp2_with fail
  refine (listI_any a n c xs _ H.out hc hn hcm).mono ?_
  rintro e w1 ⟨a1, c1, m1, rfl, hm1, hp1, hc1, hcm1, hb⟩
  have HR1 := Lib.hid hb
  have HB1 := Lib.hid hb
  clear hb
  have HP1 := Lib.hid hp1
  clear hp1
  unfold maxLen at hcm1
  have hq1 := HP1.out
  rw [HT.out] at hq1
  have HQ1 := Lib.hid hq1
  clear hq1
  go_wp2_with fail
  refine (Days_size _ a1 m1 c1 _ _ HQ1.out hc1 (by omega) HS.out HPP.out HDB.out).mono ?_
  rintro e w2 ⟨rfl, hb⟩
  have HR2 := Lib.hid hb
  have HB2 := Lib.hid (HB1.out.trans (hb.mono HB1.out.size))
  clear hb
  go_wp2_with fail
  refine (listI_any a n c xs _ (H.out.below HB2.out) hc hn hcm).mono ?_
  rintro e w3 ⟨a3, c3, m3, rfl, hm3, hp3, hc3, hcm3, hb⟩
  have HR3 := Lib.hid hb
  have HB3 := Lib.hid (HB2.out.trans (hb.mono HB2.out.size))
  clear hb
  have HP3 := Lib.hid hp3
  clear hp3
  unfold maxLen at hcm3
  have hq3 := HP3.out
  rw [HT.out] at hq3
  have HQ3 := Lib.hid hq3
  clear hq3
  go_wp2_with fail
  refine (Always_size _ a3 m3 c3 _ _ HQ3.out hc3 (by omega) HS.out HPP.out HDB.out).mono ?_
  rintro e w4 ⟨rfl, hb⟩
  have HR4 := Lib.hid hb
  have HB4 := Lib.hid (HB3.out.trans (hb.mono HB3.out.size))
  clear hb
  go_wp2_with fail
  refine (HSD.out _).mono ?_
  rintro e wsd ⟨rfl, rfl⟩
  go_wp2_with fail
  refine (HPR.out _ (H.out.below HB4.out)).mono ?_
  rintro e wpr ⟨rfl, rfl⟩
  go_wp2_with fail
  refine (refDays_no K a n c xs _ hk6 (H.out.below HB4.out) HPP.out HDB2.out).mono ?_
  rintro e w5 ⟨rfl, hb⟩
  have HR5 := Lib.hid hb
  have HB5 := Lib.hid (HB4.out.trans (hb.mono HB4.out.size))
  clear hb
  go_wp2_with fail
  refine (refAlways_no K a n c xs _ hk6 (H.out.below HB5.out) HPP.out HDB2.out).mono ?_
  rintro e w6 ⟨rfl, hb⟩
  have HR6 := Lib.hid hb
  have HB6 := Lib.hid (HB5.out.trans (hb.mono HB5.out.size))
  clear hb
  go_wp2_with fail
  refine (equal2_any [] (by decide) none none 0 0 _ (Prs.nil _ _) (Prs.nil _ _)).mono ?_
  rintro e we ⟨rfl, q, rfl⟩
  have HB7 := Lib.hid (below_drewN HB6.out q)
  go_wp2_with fail
  refine (awake_any _).mono ?_
  rintro e w8 ⟨rfl, hb⟩
  have HR8 := Lib.hid hb
  have HB8 := Lib.hid (HB7.out.trans (hb.mono HB7.out.size))
  clear hb
  go_wp2
  go_ret
  exact ⟨rfl, HB8.out⟩
set_option maxRecDepth 100000 in
set_option maxHeartbeats 8000000 in
theorem lawDays_yes (k : Int) (a : Option Addr) (n c : Nat) (xs : List Int) (w : World) (h : Ints w a n xs) (hc : n ≤ c) (hn : n ≤ 4611686018427387904) (hcm : c ≤ maxLen) (hs : isK k = true) (hp : isPs xs = true) (hd : daysB k.toNat xs = false) (r1 r2 : Int) (hr : alwF k.toNat xs = (r1, r2)) :
    Calls Try.prog 5 #[.int .i64 k, .slice a n c] w fun e w' => e = .returned (.bool true) ∧ Below w.heap.size w w' := by
  have H := Lib.hid h
  have HL := Lib.hid h.1
  have HSD := Lib.hid (fun w => seed_any k w)
  have HPR := Lib.hid (fun w h => primesR_any a n c xs w h hc hn)
  rw [hs] at HSD
  rw [hp] at HPR
  have HS := Lib.hid hs
  have HPP := Lib.hid hp
  have HT := Lib.hid (ps12_yes hp)
  obtain ⟨K, rfl⟩ : ∃ K : Nat, k = (K : Int) := by
    have : 1 ≤ k := by simp [isK] at hs; omega
    exact ⟨k.toNat, by omega⟩
  have hk6 : K ≤ 1000000 := by simp [isK] at hs; omega
  have HDB := Lib.hid hd
  have hd2 := hd
  rw [Int.toNat_natCast] at hd2
  have HDB2 := Lib.hid hd2
  clear hd2
  have HRW := Lib.hid hr
  have hr2 := hr
  rw [Int.toNat_natCast] at hr2
  have HRX := Lib.hid hr2
  have hlen := (dyL_all hp HDB2.out).2.2
  have hDY := fun (a : Option Addr) (n c : Nat) (w : World) (h : Ints w a n xs) hc hn => Days_yes (K : Int) a n c xs w h hc hn hs hp hd
  simp only [Int.toNat_natCast] at hDY
  have hRD := fun w h => refDays_yes K a n c xs w hk6 h hp HDB2.out
  obtain ⟨L, hL⟩ : ∃ L, dyL K xs = L := ⟨_, rfl⟩
  rw [hL] at hlen
  simp only [hL] at hDY hRD
  have hEQ := fun a1 a2 c1 c2 w h1 h2 => equal2_any L (by omega) a1 a2 c1 c2 w h1 h2
  obtain ⟨N, hN⟩ : ∃ N, L.length = N := ⟨_, rfl⟩
  rw [hN] at hlen hEQ
  have HNN := Lib.hid hN
  have HDY := Lib.hid hDY
  have HRD := Lib.hid hRD
  have HEQ := Lib.hid hEQ
  clear h hs hp hd hr hr2 hDY hRD hEQ hL hN
  go_enter Try.func5, Try.ntmps5
  go_wp2_with fail
  refine (listI_any a n c xs _ H.out hc hn hcm).mono ?_
  rintro e w1 ⟨a1, c1, m1, rfl, hm1, hp1, hc1, hcm1, hb⟩
  have HR1 := Lib.hid hb
  have HB1 := Lib.hid hb
  clear hb
  have HP1 := Lib.hid hp1
  clear hp1
  unfold maxLen at hcm1
  have hq1 := HP1.out
  rw [HT.out] at hq1
  have HQ1 := Lib.hid hq1
  clear hq1
  go_wp2_with fail
  refine (HDY.out a1 m1 c1 _ HQ1.out hc1 (by omega)).mono ?_
  rintro e w2 ⟨vd, rfl, hrow, hb⟩
  have HR2 := Lib.hid hb
  have HB2 := Lib.hid (HB1.out.trans (hb.mono HB1.out.size))
  clear hb
  obtain ⟨ax, cx, rfl, hcx, hcmx, hpx⟩ := hrow.prs
  rw [HNN.out] at hcx hpx ⊢
  have HPX := Lib.hid hpx
  clear hrow hpx
  unfold maxLen at hcmx
  go_wp2_with fail
  refine (listI_any a n c xs _ (H.out.below HB2.out) hc hn hcm).mono ?_
  rintro e w3 ⟨a3, c3, m3, rfl, hm3, hp3, hc3, hcm3, hb⟩
  have HR3 := Lib.hid hb
  have HB3 := Lib.hid (HB2.out.trans (hb.mono HB2.out.size))
  clear hb
  have HPXq := Lib.hid (HPX.out.below HR3.out)
  clear HPX
  have HPX := HPXq
  clear HPXq
  have HP3 := Lib.hid hp3
  clear hp3
  unfold maxLen at hcm3
  have hq3 := HP3.out
  rw [HT.out] at hq3
  have HQ3 := Lib.hid hq3
  clear hq3
  go_wp2_with fail
  refine (Always_yes _ a3 m3 c3 _ _ HQ3.out hc3 (by omega) HS.out HPP.out HDB.out r1 r2 HRW.out).mono ?_
  rintro e w4 ⟨rfl, hb⟩
  have HR4 := Lib.hid hb
  have HB4 := Lib.hid (HB3.out.trans (hb.mono HB3.out.size))
  clear hb
  have HPXq := Lib.hid (HPX.out.below HR4.out)
  clear HPX
  have HPX := HPXq
  clear HPXq
  go_wp2_with fail
  refine (HSD.out _).mono ?_
  rintro e wsd ⟨rfl, rfl⟩
  go_wp2_with fail
  refine (HPR.out _ (H.out.below HB4.out)).mono ?_
  rintro e wpr ⟨rfl, rfl⟩
  go_wp2_with fail
  refine (HRD.out _ (H.out.below HB4.out)).mono ?_
  rintro e w5 ⟨vr, rfl, hrow, hb⟩
  have HR5 := Lib.hid hb
  have HB5 := Lib.hid (HB4.out.trans (hb.mono HB4.out.size))
  clear hb
  have HPXq := Lib.hid (HPX.out.below HR5.out)
  clear HPX
  have HPX := HPXq
  clear HPXq
  obtain ⟨ay, cy, rfl, hcy, hcmy, hpy⟩ := hrow.prs
  rw [HNN.out] at hcy hpy ⊢
  have HPY := Lib.hid hpy
  clear hrow hpy
  unfold maxLen at hcmy
  go_wp2_with fail
  refine (refAlways_yes K a n c xs _ hk6 (H.out.below HB5.out) HPP.out HDB2.out r1 r2 HRX.out).mono ?_
  rintro e w6 ⟨rfl, hb⟩
  have HR6 := Lib.hid hb
  have HB6 := Lib.hid (HB5.out.trans (hb.mono HB5.out.size))
  clear hb
  have HPXq := Lib.hid (HPX.out.below HR6.out)
  clear HPX
  have HPX := HPXq
  clear HPXq
  have HPYq := Lib.hid (HPY.out.below HR6.out)
  clear HPY
  have HPY := HPYq
  clear HPYq
  go_wp2_with fail
  refine (HEQ.out ax ay cx cy _ HPX.out HPY.out).mono ?_
  rintro e we ⟨rfl, q, rfl⟩
  have HB7 := Lib.hid (below_drewN HB6.out q)
  go_wp2_with fail
  refine (awake_any _).mono ?_
  rintro e w8 ⟨rfl, hb⟩
  have HR8 := Lib.hid hb
  have HB8 := Lib.hid (HB7.out.trans (hb.mono HB7.out.size))
  clear hb
  go_wp2
  go_ret
  exact ⟨rfl, HB8.out⟩

theorem lawDays_any (k : Int) (a : Option Addr) (n c : Nat) (xs : List Int) (w : World) (h : Ints w a n xs) (hc : n ≤ c) (hn : n ≤ 4611686018427387904) (hcm : c ≤ maxLen) :
    Calls Try.prog 5 #[.int .i64 k, .slice a n c] w fun e w' => e = .returned (.bool true) ∧ Below w.heap.size w w' := by
  cases hs : isK k with
  | false => exact lawDays_badK k a n c xs w h hc hn hcm hs
  | true =>
    cases hp : isPs xs with
    | false => exact lawDays_badP k a n c xs w h hc hn hcm hs hp
    | true =>
      cases hd : daysB k.toNat xs with
      | true => exact lawDays_size k a n c xs w h hc hn hcm hs hp hd
      | false => exact lawDays_yes k a n c xs w h hc hn hcm hs hp hd _ _ rfl
end Go.Proofs.Ytanhjgneaaenpaa
