/- The walk of the law CoversApart, in every case. No condition. -/
import Derived.Test.YtanhjgneaaenpaaSay
import Derived.Test.YtanhjgneaaenpaaApart
namespace Go.Proofs.Ytanhjgneaaenpaa
open Go.RowKit
attribute [local go_sem] Oper.semAt_some
set_option maxRecDepth 100000 in
set_option maxHeartbeats 8000000 in
theorem lawApart_no (a : Option Addr) (n c : Nat) (xs : List (Int × Int)) (w : World) (h : Prs w a n xs) (hc : n ≤ c) (hn : n ≤ 4611686018427387904) (hcm : c ≤ maxLen) (hs : isS xs = false) :
    Calls Try.prog 10 #[.slice a n c] w fun e w' => e = .returned (.bool true) ∧ Below w.heap.size w w' := by
  have H := Lib.hid h
  have HT := Lib.hid (take12_no hs)
  have HVR := Lib.hid (fun w h => validR_any a n c xs w h hn)
  rw [hs] at HVR
  clear h hs
  go_enter Try.func10, Try.ntmps10
  go_wp2_with fail
  refine (pairs_any a n c xs _ H.out hc hn hcm).mono ?_
  rintro e w1 ⟨a1, c1, m1, rfl, hm1, hp1, hc1, hcm1, hb⟩
  have HB1 := Lib.hid hb
  clear hb
  have HP1 := Lib.hid hp1
  clear hp1
  unfold maxLen at hcm1
  go_wp2_with fail
  refine (Twice_no HT.out a1 m1 c1 _ HP1.out (by omega)).mono ?_
  rintro e w2 ⟨rfl, hb⟩
  have HB2 := Lib.hid (HB1.out.trans (hb.mono HB1.out.size))
  clear hb
  go_wp2_with fail
  refine (HVR.out _ (H.out.below HB2.out)).mono ?_
  rintro e w3 ⟨rfl, hb⟩
  have HB3 := Lib.hid (HB2.out.trans (hb.mono HB2.out.size))
  clear hb
  go_wp2_with fail
  refine (awake_any _).mono ?_
  rintro e w4 ⟨rfl, hb⟩
  have HB4 := Lib.hid (HB3.out.trans (hb.mono HB3.out.size))
  clear hb
  go_wp2
  go_ret
  exact ⟨rfl, HB4.out⟩

theorem tmod_ap (p q : Int × Int) (b : Bool) (h : apB p q = b) : ((p.1 - q.1).tmod ((Nat.gcd p.2.toNat q.2.toNat : Nat) : Int) != 0) = b := by
  rw [← h]
  unfold apB
  rw [Bool.eq_iff_iff]
  simp only [bne_iff_ne, ne_eq, decide_eq_true_eq]
  exact ⟨fun h1 h2 => h1 (Int.tmod_eq_zero_of_dvd h2), fun h1 h2 => h1 (Int.dvd_of_tmod_eq_zero h2)⟩
set_option maxRecDepth 100000 in
set_option maxHeartbeats 8000000 in
theorem lawApart_yes (a : Option Addr) (n c : Nat) (xs : List (Int × Int)) (w : World) (h : Prs w a n xs) (hc : n ≤ c) (hn : n ≤ 4611686018427387904) (hcm : c ≤ maxLen) (hs : isS xs = true) (t1 t2 : Int) (ht : twiceF xs = (t1, t2)) (h04 : t2 = 0 ∨ t2 = 4) (hfin : apO xs n = (t2 == 4)) :
    Calls Try.prog 10 #[.slice a n c] w fun e w' => e = .returned (.bool true) ∧ Below w.heap.size w w' := by
  have H := Lib.hid h
  have HL := Lib.hid h.1
  have HT := Lib.hid (take12_yes hs)
  have HI := Lib.hid hs
  have HY := Lib.hid (isS_spec.1 hs)
  have hn2 : n ≤ 10 := by have := HY.out.len2; have := HL.out; omega
  have HVR := Lib.hid (fun w h => validR_any a n c xs w h hn)
  rw [hs] at HVR
  have HTT := Lib.hid ht
  have HF := Lib.hid hfin
  have t2a : (t2 == 2) = false := by rcases h04 with h | h <;> rw [h] <;> rfl
  have H04 := Lib.hid h04
  clear h hs ht hfin h04
  go_enter Try.func10, Try.ntmps10
  go_wp2_with fail
  refine (pairs_any a n c xs _ H.out hc hn hcm).mono ?_
  rintro e w1 ⟨a1, c1, m1, rfl, hm1, hp1, hc1, hcm1, hb⟩
  have HB1 := Lib.hid hb
  clear hb
  have HP1 := Lib.hid hp1
  clear hp1
  unfold maxLen at hcm1
  have hq1 := HP1.out
  rw [HT.out] at hq1
  have HQ1 := Lib.hid hq1
  clear hq1
  go_wp2_with fail
  refine (Twice_yes HI.out t1 t2 HTT.out a1 m1 c1 _ HQ1.out (by omega)).mono ?_
  rintro e w2 ⟨rfl, hb⟩
  have HB2 := Lib.hid (HB1.out.trans (hb.mono HB1.out.size))
  clear hb
  go_wp2_with fail
  refine (HVR.out _ (H.out.below HB2.out)).mono ?_
  rintro e w3 ⟨rfl, hb⟩
  have HB3 := Lib.hid (HB2.out.trans (hb.mono HB2.out.size))
  clear hb
  go_wp2
  go_loopg [5, 6, 7, 9, 35] n (fun gk s5 s6 s7 s9 s35 wr => ∃ (j : Nat), j + gk = n ∧ s35 = .int .i64 (j : Int) ∧ s5 = .bool (apO xs j) ∧ Below w.heap.size w wr)
  case atStart => exact ⟨0, by omega, rfl, rfl, HB3.out⟩
  case round =>
    obtain ⟨j, hj, rfl, rfl, hb⟩ := hrel
    have HB := Lib.hid hb
    have HJ := Lib.hid hj
    clear hb
    obtain ⟨B0, hB0⟩ : ∃ B0, apO xs j = B0 := ⟨_, rfl⟩
    rw [hB0]
    have HB0 := Lib.hid hB0
    clear hB0
    by_cases hjn : j = n
    · have hge : ¬ (j : Int) < (n : Int) := by omega
      have hge2 : ¬ j < n := by omega
      have e := HF.out
      rw [← hjn, HB0.out] at e
      subst e
      have h04 := H04.out
      clear hjn hj t2a
      rcases h04 with h | h
      · subst h
        go_wp2_with fail
        refine (awake_any _).mono ?_
        rintro e wz ⟨rfl, hb⟩
        have HZ := Lib.hid (HB.out.trans (hb.mono HB.out.size))
        clear hb
        go_wp2
        go_ret
        exact ⟨rfl, HZ.out⟩
      · subst h
        go_wp2_with fail
        refine (awake_any _).mono ?_
        rintro e wz ⟨rfl, hb⟩
        have HZ := Lib.hid (HB.out.trans (hb.mono HB.out.size))
        clear hb
        go_wp2
        go_ret
        exact ⟨rfl, HZ.out⟩
    · have hlt : (j : Int) < (n : Int) := by omega
      have hlt2 : j < n := by omega
      have j0 : (0 : Int) ≤ (j : Int) := by omega
      obtain ⟨b, off, rfl, hbl, hc'⟩ := (H.out.below HB.out).at (by omega)
      obtain ⟨c0, c1⟩ := hc' j hlt2
      have hmin : min (j : Int) (n : Int) = (j : Int) := by omega
      have hok := HY.out.nth (j := j) (by have := HL.out; omega)
      obtain ⟨p, hp⟩ : ∃ p, nth xs j = p := ⟨_, rfl⟩
      rw [hp] at c0 c1 hok
      obtain ⟨x0, x1⟩ := p
      simp only at hok c0 c1
      have HP := Lib.hid hp
      have HOK := Lib.hid hok
      have HBA := Lib.hid (HB.out.alloc HB.out.size (.cells #[.int .i64 x0, .int .i64 x1] 44))
      have HCR := Lib.hid hc'
      clear hjn hj hc' hp hok
      obtain ⟨W0, hW0⟩ : ∃ W0, wr = W0 := ⟨_, rfl⟩
      rw [hW0] at HB HBA c0 c1 hbl HCR ⊢
      clear hW0
      go_wp2
      have hx0 : (W0.alloc (.cells #[.int .i64 x0, .int .i64 x1] 44)).cell? ⟨W0.heap.size, 0, none⟩ = some (.int .i64 x0) := by
        unfold World.cell?; rw [heap_alloc_last]; rfl
      have hx1 : (W0.alloc (.cells #[.int .i64 x0, .int .i64 x1] 44)).cell? ⟨W0.heap.size, 1, none⟩ = some (.int .i64 x1) := by
        unfold World.cell?; rw [heap_alloc_last]; rfl
      have hl1 : W0.heap.size < (W0.alloc (.cells #[.int .i64 x0, .int .i64 x1] 44)).heap.size := by simp
      have hl2 : b < (W0.alloc (.cells #[.int .i64 x0, .int .i64 x1] 44)).heap.size := by simp; omega
      have hcw : ∀ t, t < n → (W0.alloc (.cells #[.int .i64 x0, .int .i64 x1] 44)).cell? ⟨b, off + t * 2, none⟩ = some (.int .i64 (nth xs t).1) ∧ (W0.alloc (.cells #[.int .i64 x0, .int .i64 x1] 44)).cell? ⟨b, off + t * 2 + 1, none⟩ = some (.int .i64 (nth xs t).2) := fun t ht => ⟨Lib.cell?_alloc_some _ (HCR.out t ht).1, Lib.cell?_alloc_some _ (HCR.out t ht).2⟩
      obtain ⟨W1, hW1⟩ : ∃ W1, W0.alloc (.cells #[.int .i64 x0, .int .i64 x1] 44) = W1 := ⟨_, rfl⟩
      obtain ⟨g, hg⟩ : ∃ g, W0.heap.size = g := ⟨_, rfl⟩
      rw [hW1] at HBA hx0 hx1 hl1 hl2 hcw ⊢
      rw [hg] at hx0 hx1 hl1 ⊢
      have HX0 := Lib.hid hx0
      have HX1 := Lib.hid hx1
      have HCW := Lib.hid hcw
      clear hW1 hg hx0 hx1 hcw c0 c1
      go_loopg [5, 9, 47] j (fun gk s5 s9 s47 wr => ∃ (k : Nat), k + gk = j ∧ s47 = .int .i64 (k : Int) ∧ s5 = .bool (B0 && apI xs j k) ∧ Below W1.heap.size W1 wr)
      case atStart => exact ⟨0, by omega, rfl, by simp [apI], Below.refl _ _⟩
      case round =>
        obtain ⟨k, hk, rfl, rfl, hb⟩ := hrel
        have HBI := Lib.hid hb
        have HK := Lib.hid hk
        obtain ⟨B1, hB1⟩ : ∃ B1, (B0 && apI xs j k) = B1 := ⟨_, rfl⟩
        rw [hB1]
        have HB1 := Lib.hid hB1
        clear hb hB1
        by_cases hkj : k = j
        · have hge : ¬ (k : Int) < (j : Int) := by omega
          have hge2 : ¬ k < j := by omega
          have HZ := Lib.hid (HBA.out.trans (HBI.out.mono HBA.out.size))
          have HE := Lib.hid (show apO xs (j + 1) = B1 by rw [apO_succ, HB0.out, ← HB1.out, hkj])
          clear hkj hk
          go_wp2
          go_roundg (n - j - 1)
          case rel => exact ⟨j + 1, by have := HJ.out; omega, by go_num, by rw [HE.out], HZ.out⟩
          case measure => have := HJ.out; omega
        · have hltk : (k : Int) < (j : Int) := by omega
          have hltk2 : k < j := by omega
          have k0 : (0 : Int) ≤ (k : Int) := by omega
          obtain ⟨y0, hy0⟩ : ∃ y0, (nth xs k).1 = y0 := ⟨_, rfl⟩
          obtain ⟨y1, hy1⟩ : ∃ y1, (nth xs k).2 = y1 := ⟨_, rfl⟩
          have d0 : wr.cell? ⟨b, off + k * 2, none⟩ = some (.int .i64 y0) := by
            rw [← hy0]; exact (HBI.out.cell (p := ⟨b, off + k * 2, none⟩) hl2).trans (HCW.out k (by omega)).1
          have d1 : wr.cell? ⟨b, off + k * 2 + 1, none⟩ = some (.int .i64 y1) := by
            rw [← hy1]; exact (HBI.out.cell (p := ⟨b, off + k * 2 + 1, none⟩) hl2).trans (HCW.out k (by omega)).2
          have f0 := (HBI.out.cell (p := ⟨g, 0, none⟩) hl1).trans HX0.out
          have f1 := (HBI.out.cell (p := ⟨g, 1, none⟩) hl1).trans HX1.out
          have q0 := Lib.cell?_alloc_some (.cells #[.int .i64 y0, .int .i64 y1] 44) f0
          have q1 := Lib.cell?_alloc_some (.cells #[.int .i64 y0, .int .i64 y1] 44) f1
          obtain ⟨x2, x3, x4, x5⟩ := HOK.out
          obtain ⟨y2, y3, y4, y5⟩ := HY.out.nth (j := k) (by have := HL.out; omega)
          rw [hy1] at y2 y3 y5
          rw [hy0] at y4 y5
          have hs := apI_succ xs j k
          have hpk : nth xs k = (y0, y1) := by rw [← hy0, ← hy1]
          rw [HP.out, hpk] at hs
          obtain ⟨X, rfl⟩ := Int.eq_ofNat_of_zero_le (show 0 ≤ x1 by omega)
          obtain ⟨Y, rfl⟩ := Int.eq_ofNat_of_zero_le (show 0 ≤ y1 by omega)
          obtain ⟨t, ht⟩ : ∃ t, apB (x0, (X : Int)) (y0, (Y : Int)) = t := ⟨_, rfl⟩
          rw [ht] at hs
          have hm := tmod_ap _ _ _ ht
          simp only [Int.toNat_natCast] at hm
          have hG := gcdL_any X Y (by omega) (by omega)
          have hg1 := Nat.gcd_pos_of_pos_right X (show 0 < Y by omega)
          obtain ⟨G, hG2⟩ : ∃ G, Nat.gcd X Y = G := ⟨_, rfl⟩
          rw [hG2] at hm hG hg1
          have G0 : ¬ (G : Int) = 0 := by omega
          have wr1 : IntKind.i64.wrap (x0 - y0) = x0 - y0 := IntWalk.i64_in _ (by omega)
          have HS := Lib.hid (show (B0 && apI xs j (k + 1)) = (B1 && t) by rw [hs, ← HB1.out, Bool.and_assoc])
          have HZ := Lib.hid (HBI.out.alloc HBI.out.size (.cells #[.int .i64 y0, .int .i64 (Y : Int)] 44))
          clear hk hkj hy0 hy1 hs hpk ht hG2 x2 x3 x4 x5 y2 y3 y4 y5
          cases B1 with
          | false =>
            clear hm hG wr1
            go_wp2
            go_quiet (fail)
            go_wp2
            go_roundg (j - k - 1)
            case rel => exact ⟨k + 1, by have := HK.out; omega, by go_num, by rw [HS.out]; rfl, below_drewN HZ.out _⟩
            case measure => have := HK.out; omega
          | true =>
            go_wp2
            go_quiet ((go_at_call 43; exact Calls.quiet_of (hG _)))
            go_wp2
            go_roundg (j - k - 1)
            case rel => exact ⟨k + 1, by have := HK.out; omega, by go_num, by rw [HS.out, Bool.true_and], below_drewN HZ.out _⟩
            case measure => have := HK.out; omega

theorem lawApart_any (a : Option Addr) (n c : Nat) (xs : List (Int × Int)) (w : World) (h : Prs w a n xs) (hc : n ≤ c) (hn : n ≤ 4611686018427387904) (hcm : c ≤ maxLen) :
    Calls Try.prog 10 #[.slice a n c] w fun e w' => e = .returned (.bool true) ∧ Below w.heap.size w w' := by
  cases hs : isS xs with
  | false => exact lawApart_no a n c xs w h hc hn hcm hs
  | true =>
    have ha := apart_twice (isS_spec.1 hs)
    rw [h.1] at ha
    refine lawApart_yes a n c xs w h hc hn hcm hs _ _ rfl (twice_or xs) ?_
    rw [Bool.eq_iff_iff, ha, beq_iff_eq]
    exact Iff.rfl
end Go.Proofs.Ytanhjgneaaenpaa
