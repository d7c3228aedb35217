/- The walk of the reference's Always. Condition: the slice lies in memory, k is one, the primes are. -/
import Derived.Test.YtanhjgneaaenpaaRefD
namespace Go.Proofs.Ytanhjgneaaenpaa
open Go.RowKit
attribute [local go_sem] Oper.semAt_some
set_option maxRecDepth 100000 in
set_option maxHeartbeats 8000000 in
theorem refAlways_no (k : Nat) (a : Option Addr) (n c : Nat) (xs : List Int) (w : World) (hk : k ≤ 1000000) (h : Ints w a n xs) (hp : isPs xs = true) (hd : daysB k xs = true) :
    Calls Try.prog 38 #[.int .i64 (k : Int), .slice a n c] w fun e w' => e = .returned (.tuple #[.int .i64 0, .int .i64 6]) ∧ Below w.heap.size w w' := by
  have HD := Lib.hid (refDays_no k a n c xs w hk h hp hd)
  clear h hp hd
  go_enter Try.func38, Try.ntmps38
  go_wp2_with fail
  refine HD.out.mono ?_
  rintro e w1 ⟨rfl, hb⟩
  have HB := Lib.hid hb
  clear hb
  go_wp2
  go_ret2
  exact ⟨rfl, HB.out⟩
set_option maxRecDepth 100000 in
set_option maxHeartbeats 8000000 in
theorem refAlways_yes (k : Nat) (a : Option Addr) (n c : Nat) (xs : List Int) (w : World) (hk : k ≤ 1000000) (h : Ints w a n xs) (hp : isPs xs = true) (hd : daysB k xs = false) (r1 r2 : Int) (hr : alwF k xs = (r1, r2)) :
    Calls Try.prog 38 #[.int .i64 (k : Int), .slice a n c] w fun e w' => e = .returned (.tuple #[.int .i64 r1, .int .i64 r2]) ∧ Below w.heap.size w w' := by
  have HD := Lib.hid (refDays_yes k a n c xs w hk h hp hd)
  obtain ⟨hok, hwl, hlen⟩ := dyL_all hp hd
  have hwp := wl_pos (L := dyL k xs) fun p hp => (hok p hp).1
  have hwf : wholeF (dyL k xs) = wl (dyL k xs) := wholeF_good (fun i hi => ⟨(hok.nth hi).1, (hok.nth hi).2.1⟩) hwl
  unfold alwF at hr
  obtain ⟨L, hL⟩ : ∃ L, dyL k xs = L := ⟨_, rfl⟩
  rw [hL] at HD hok hwl hlen hwp hwf hr
  obtain ⟨W, hW⟩ : ∃ W, wl L = W := ⟨_, rfl⟩
  rw [hW] at hwl hwp hwf hr
  have HOK := Lib.hid hok
  have HR := Lib.hid hr
  have HWF := Lib.hid hwf
  clear h hp hd hr hL hW hok hwf
  go_enter Try.func38, Try.ntmps38
  go_wp2_with fail
  refine HD.out.mono ?_
  rintro e w1 ⟨v, rfl, ho, hb⟩
  obtain ⟨al, cl, rfl, h1, h2, h3⟩ := ho.prs
  obtain ⟨N, hN⟩ : ∃ N, L.length = N := ⟨_, rfl⟩
  rw [hN] at h1 h3 hlen ⊢
  have HN := Lib.hid hN
  have HP := Lib.hid h3
  have HB := Lib.hid hb
  clear ho hb h1 h2 h3 hN HD
  go_wp2
  go_loopg [8] W (fun gk s8 wr => ∃ d : Nat, d + gk = W + 1 ∧ s8 = .int .i64 (d : Int) ∧ lst (fun d => decide (tm (d : Int) L = 0)) d gk = (r1, r2) ∧ Below w1.heap.size w1 wr)
  case atStart => exact ⟨1, by omega, rfl, HR.out, Below.refl _ _⟩
  case round =>
    obtain ⟨d, hd, rfl, hl, hbr⟩ := hrel
    have HDD := Lib.hid hd
    have HL := Lib.hid hl
    have HX := Lib.hid hbr
    have HW := wholeR_any al N cl L wr (HP.out.below hbr) (by omega)
    rw [HWF.out] at HW
    have HWW := Lib.hid HW
    have hd1 : (d : Int) ≤ 10081 := by omega
    clear hl hbr HW
    go_wp2_with fail
    refine HWW.out.mono ?_
    rintro e w2 ⟨rfl, hb2⟩
    have HX2 := Lib.hid (HX.out.trans (hb2.mono HX.out.size))
    clear hb2 HWW
    cases gk with
    | zero =>
      have hge : ¬ (d : Int) ≤ (W : Int) := by omega
      have hge2 : ¬ d ≤ W := by omega
      have e := HL.out
      rw [lst_end] at e
      obtain ⟨rfl, rfl⟩ : r1 = 0 ∧ r2 = 4 := by simp at e; omega
      have HF := Lib.hid (HB.out.trans (HX2.out.mono HB.out.size))
      clear e hd
      go_wp2
      go_ret2
      exact ⟨rfl, HF.out⟩
    | succ g =>
      have hlt : (d : Int) ≤ (W : Int) := by omega
      have hlt2 : d ≤ W := by omega
      have d0 : (0 : Int) ≤ (d : Int) := by omega
      clear hd
      go_wp2
      go_loopg [9, 29] N (fun gk s9 s29 wr => ∃ j : Nat, j + gk = N ∧ s29 = .int .i64 (j : Int) ∧ s9 = .bool (decide (0 < tm (d : Int) (L.take j))) ∧ Below w1.heap.size w1 wr)
      case atStart => exact ⟨0, by omega, rfl, rfl, HX2.out⟩
      case round =>
        obtain ⟨j, hj, rfl, rfl, hbr⟩ := hrel
        have HJ := Lib.hid hj
        have HY := Lib.hid hbr
        clear hbr
        by_cases hjn : j = N
        · have hge : ¬ (j : Int) < (N : Int) := by omega
          have hge2 : ¬ j < N := by omega
          rw [List.take_of_length_le (by have := HN.out; omega)]
          obtain ⟨T, hT⟩ : ∃ T, tm (d : Int) L = T := ⟨_, rfl⟩
          rw [hT]
          have HT := Lib.hid hT
          have HF := Lib.hid (HB.out.trans (HY.out.mono HB.out.size))
          clear hjn hj hT
          by_cases h0 : 0 < T
          · have e := HL.out
            rw [lst_no g (by rw [HT.out]; exact decide_eq_false (by omega))] at e
            have HE := Lib.hid e
            rw [decide_eq_true h0]
            clear e h0
            go_wp2
            go_roundg g
            case rel => exact ⟨d + 1, by have := HDD.out; omega, by go_num, HE.out, HY.out⟩
            case measure => omega
          · have e := HL.out
            rw [lst_yes g (by rw [HT.out]; exact decide_eq_true (by omega))] at e
            obtain ⟨rfl, rfl⟩ : (d : Int) = r1 ∧ (0 : Int) = r2 := by simpa using e
            rw [decide_eq_false h0]
            clear e h0
            go_wp2
            go_ret2
            exact ⟨rfl, HF.out⟩
        · have hjlt : (j : Int) < (N : Int) := by omega
          have hjlt2 : j < N := by omega
          have j0 : (0 : Int) ≤ (j : Int) := by omega
          obtain ⟨b, off, hab, hbl, hc⟩ := (HP.out.below HY.out).at (by omega)
          subst hab
          obtain ⟨c0, c1⟩ := hc j hjlt2
          have hst := tm_take (n := (d : Int)) (L := L) (k := j) (by have := HN.out; omega)
          obtain ⟨k1, k2, k3, k4⟩ := HOK.out.nth (j := j) (by have := HN.out; omega)
          obtain ⟨x, hx⟩ : ∃ x, (nth L j).1 = x := ⟨_, rfl⟩
          obtain ⟨y, hy⟩ : ∃ y, (nth L j).2 = y := ⟨_, rfl⟩
          have hpn : nth L j = (x, y) := by rw [← hx, ← hy]
          rw [hpn] at hst
          rw [hx] at c0 k3 k4
          rw [hy] at c1 k1 k2 k4
          obtain ⟨t, htt⟩ : ∃ t, cvB (d : Int) (x, y) = t := ⟨_, rfl⟩
          rw [htt] at hst
          obtain ⟨m1, m2⟩ := cv_tmod k3 k4 t htt
          have y0 : ¬ y = 0 := by omega
          obtain ⟨T, hT⟩ : ∃ T, tm (d : Int) (L.take j) = T := ⟨_, rfl⟩
          rw [hT] at hst ⊢
          have HST := Lib.hid hst
          have HY2 := Lib.hid (HY.out.alloc HY.out.size (.cells #[.int .i64 x, .int .i64 y] 44))
          clear hjn hj hc hst hx hy hpn htt hT
          by_cases h0 : 0 < T
          · rw [decide_eq_true h0]
            have HN2 := Lib.hid (show decide (0 < tm (d : Int) (L.take (j + 1))) = true from decide_eq_true (by rw [HST.out]; omega))
            clear h0 m1 m2
            go_wp2
            go_quiet (fail)
            go_wp2
            go_roundg (N - j - 1)
            case rel => exact ⟨j + 1, by have := HJ.out; omega, by go_num, by rw [HN2.out], below_drewN HY2.out _⟩
            case measure => have := HJ.out; omega
          · rw [decide_eq_false h0]
            have HN2 := Lib.hid (show decide (0 < tm (d : Int) (L.take (j + 1))) = t by
              rw [HST.out]
              cases t with
              | true => exact decide_eq_true (by rw [if_pos rfl]; omega)
              | false => exact decide_eq_false (by rw [if_neg (by decide)]; omega))
            clear h0
            go_wp2
            go_quiet (fail)
            go_wp2
            go_roundg (N - j - 1)
            case rel => exact ⟨j + 1, by have := HJ.out; omega, by go_num, by rw [HN2.out], below_drewN HY2.out _⟩
            case measure => have := HJ.out; omega
end Go.Proofs.Ytanhjgneaaenpaa
