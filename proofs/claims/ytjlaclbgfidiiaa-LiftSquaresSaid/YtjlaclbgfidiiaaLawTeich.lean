/- The walk of the law LiftTeich. No condition. -/
import Derived.Test.YtjlaclbgfidiiaaSq
namespace Go.Proofs.Ytjlaclbgfidiiaa
open Go.RowKit
attribute [local go_sem] Oper.semAt_some

def inR (a p : Int) : Bool := decide (0 ≤ a) && decide (a < p)
def inS (a : Int) : Bool := decide (-1000000 ≤ a) && decide (a ≤ 1000000)

set_option maxHeartbeats 8000000 in
set_option maxRecDepth 100000 in
theorem lawTeich_any (a p k : Int) (w : World) :
    Calls Try.prog 6 #[.int .i64 a, .int .i64 p, .int .i64 k] w fun e w' => e = .returned (.bool true) ∧ Below w.heap.size w w' := by
  have hPW := fun w => powerR_any p k w
  cases hpk : isPK p k with
  | false =>
    have HT := Lib.hid (fun w => Teich_no a p k w (by rw [hpk]; rfl))
    have HS := Lib.hid (fun w => Square_no a p k w (by rw [hpk]; rfl))
    rw [pkN_no hpk] at hPW
    have HPW := Lib.hid hPW
    clear hPW hpk
    go_enter Try.func6, Try.ntmps6
    go_wp2_with fail
    refine (HT.out _).mono ?_
    rintro e w1 ⟨rfl, rfl⟩
    go_wp2_with fail
    refine (HS.out _).mono ?_
    rintro e w1 ⟨rfl, rfl⟩
    go_wp2_with fail
    refine (HPW.out _).mono ?_
    rintro e w1 ⟨rfl, rfl⟩
    go_wp2_with fail
    refine (awake_any _).mono ?_
    rintro e w1 ⟨rfl, hb⟩
    have HB := Lib.hid hb
    clear hb
    go_wp2
    go_ret
    exact ⟨rfl, HB.out⟩
  | true =>
    obtain ⟨q, j, rfl, rfl, hq, hk1, -, hM⟩ := isPK_spec hpk
    obtain ⟨q2, q13⟩ := pr_bounds hq
    have HTN := Lib.hid (fun w h => Teich_no a (q : Int) (j : Int) w h)
    have HTY := Lib.hid (fun w r0 r1 => Teich_yes a q j w hpk r0 r1)
    have HTR := Lib.hid (fun X w r0 r1 hX => teichR_any a X q j w hpk r0 r1 hX)
    have HSN := Lib.hid (fun w h => Square_no a (q : Int) (j : Int) w h)
    have HSY := Lib.hid (fun w a0 a1 => Square_yes a q j w hpk a0 a1)
    have hMp := pow_pos_of q2 j
    have HSR := Lib.hid (fun w a0 a1 => squareR_any a (q ^ j) w a0 a1 hMp hM)
    have HLEN := Lib.hid (show (rts [-a, 0, 1] (q ^ j)).length ≤ 1000000 from Nat.le_trans (rts_len _ _) (by omega))
    rw [hpk] at HTN HSN
    rw [pkN_yes hpk] at hPW
    obtain ⟨M, hMM⟩ : ∃ M, q ^ j = M := ⟨_, rfl⟩
    rw [hMM] at hPW hMp hM HTR HSY HSR HLEN
    have HPW := Lib.hid hPW
    have mne : ¬ (M : Int) = 0 := by omega
    clear hPW hpk hq hMM
    by_cases r0 : a < 0
    · by_cases a0 : -1000000 ≤ a
      · by_cases a1 : a ≤ 1000000
        · have HF := Lib.hid (show (true && (decide (0 ≤ a) && decide (a < (q : Int)))) = false by simp; omega)
          go_enter Try.func6, Try.ntmps6
          go_wp2_with fail
          refine (HTN.out _ HF.out).mono ?_
          rintro e w2 ⟨rfl, rfl⟩
          have HB2 := Lib.hid (Below.refl w.heap.size w)
          go_wp2_with fail
          refine (HSY.out _ a0 a1).mono ?_
          rintro e w3 ⟨⟨l, rfl, hl⟩, hb⟩
          have HB3 := Lib.hid (HB2.out.trans (hb.mono HB2.out.size))
          have HL := Lib.hid hl
          clear hb hl
          go_wp2_with fail
          refine (HPW.out _).mono ?_
          rintro e w4 ⟨rfl, rfl⟩
          go_wp2_with fail
          refine (HSR.out _ a0 a1).mono ?_
          rintro e w5 ⟨⟨l2, rfl, hr⟩, hb⟩
          have HB5 := Lib.hid (HB3.out.trans (hb.mono HB3.out.size))
          have HL5 := Lib.hid (HL.out.later hb)
          have HR5 := Lib.hid hr
          clear hb hr
          go_wp2_with fail
          refine (equal_rows _ HL5.out HR5.out HLEN.out HLEN.out).mono ?_
          rintro e w6 ⟨rfl, hq⟩
          have HB6 := Lib.hid (below_drew HB5.out hq)
          have ht : (rts [-a, 0, 1] M == rts [-a, 0, 1] M) = true := by simp
          rw [ht]
          clear ht hq
          go_wp2_with fail
          refine (awake_any _).mono ?_
          rintro e w7 ⟨rfl, hb⟩
          have HB7 := Lib.hid (HB6.out.trans (hb.mono HB6.out.size))
          clear hb
          go_wp2
          go_ret
          exact ⟨rfl, HB7.out⟩
        · exact absurd a1 (by omega)
      · have HSF := Lib.hid (show (true && (decide (-1000000 ≤ a) && decide (a ≤ 1000000))) = false by simp; omega)
        have HF := Lib.hid (show (true && (decide (0 ≤ a) && decide (a < (q : Int)))) = false by simp; omega)
        go_enter Try.func6, Try.ntmps6
        go_wp2_with fail
        refine (HTN.out _ HF.out).mono ?_
        rintro e w2 ⟨rfl, rfl⟩
        have HB2 := Lib.hid (Below.refl w.heap.size w)
        go_wp2_with fail
        refine (HSN.out _ HSF.out).mono ?_
        rintro e w3 ⟨rfl, rfl⟩
        have HB3 := Lib.hid HB2.out
        go_wp2_with fail
        refine (HPW.out _).mono ?_
        rintro e w4 ⟨rfl, rfl⟩
        go_wp2_with fail
        refine (awake_any _).mono ?_
        rintro e w5 ⟨rfl, hb⟩
        have HB5 := Lib.hid (HB3.out.trans (hb.mono HB3.out.size))
        clear hb
        go_wp2
        go_ret
        exact ⟨rfl, HB5.out⟩
    · by_cases r1 : (q : Int) ≤ a
      · by_cases a0 : -1000000 ≤ a
        · by_cases a1 : a ≤ 1000000
          · have HF := Lib.hid (show (true && (decide (0 ≤ a) && decide (a < (q : Int)))) = false by simp; omega)
            go_enter Try.func6, Try.ntmps6
            go_wp2_with fail
            refine (HTN.out _ HF.out).mono ?_
            rintro e w2 ⟨rfl, rfl⟩
            have HB2 := Lib.hid (Below.refl w.heap.size w)
            go_wp2_with fail
            refine (HSY.out _ a0 a1).mono ?_
            rintro e w3 ⟨⟨l, rfl, hl⟩, hb⟩
            have HB3 := Lib.hid (HB2.out.trans (hb.mono HB2.out.size))
            have HL := Lib.hid hl
            clear hb hl
            go_wp2_with fail
            refine (HPW.out _).mono ?_
            rintro e w4 ⟨rfl, rfl⟩
            go_wp2_with fail
            refine (HSR.out _ a0 a1).mono ?_
            rintro e w5 ⟨⟨l2, rfl, hr⟩, hb⟩
            have HB5 := Lib.hid (HB3.out.trans (hb.mono HB3.out.size))
            have HL5 := Lib.hid (HL.out.later hb)
            have HR5 := Lib.hid hr
            clear hb hr
            go_wp2_with fail
            refine (equal_rows _ HL5.out HR5.out HLEN.out HLEN.out).mono ?_
            rintro e w6 ⟨rfl, hq⟩
            have HB6 := Lib.hid (below_drew HB5.out hq)
            have ht : (rts [-a, 0, 1] M == rts [-a, 0, 1] M) = true := by simp
            rw [ht]
            clear ht hq
            go_wp2_with fail
            refine (awake_any _).mono ?_
            rintro e w7 ⟨rfl, hb⟩
            have HB7 := Lib.hid (HB6.out.trans (hb.mono HB6.out.size))
            clear hb
            go_wp2
            go_ret
            exact ⟨rfl, HB7.out⟩
          · have HSF := Lib.hid (show (true && (decide (-1000000 ≤ a) && decide (a ≤ 1000000))) = false by simp; omega)
            have HF := Lib.hid (show (true && (decide (0 ≤ a) && decide (a < (q : Int)))) = false by simp; omega)
            go_enter Try.func6, Try.ntmps6
            go_wp2_with fail
            refine (HTN.out _ HF.out).mono ?_
            rintro e w2 ⟨rfl, rfl⟩
            have HB2 := Lib.hid (Below.refl w.heap.size w)
            go_wp2_with fail
            refine (HSN.out _ HSF.out).mono ?_
            rintro e w3 ⟨rfl, rfl⟩
            have HB3 := Lib.hid HB2.out
            go_wp2_with fail
            refine (HPW.out _).mono ?_
            rintro e w4 ⟨rfl, rfl⟩
            go_wp2_with fail
            refine (awake_any _).mono ?_
            rintro e w5 ⟨rfl, hb⟩
            have HB5 := Lib.hid (HB3.out.trans (hb.mono HB3.out.size))
            clear hb
            go_wp2
            go_ret
            exact ⟨rfl, HB5.out⟩
        · exact absurd a0 (by omega)
      · have a0 : -1000000 ≤ a := by omega
        have a1 : a ≤ 1000000 := by omega
        go_enter Try.func6, Try.ntmps6
        go_wp2_with fail
        refine (HTY.out _ (by omega) (by omega)).mono ?_
        rintro e w2 ⟨⟨X, rfl, hX⟩, hb⟩
        have HB2 := Lib.hid hb
        have HX := Lib.hid hX
        clear hb hX
        go_wp2_with fail
        refine (HSY.out _ a0 a1).mono ?_
        rintro e w3 ⟨⟨l, rfl, hl⟩, hb⟩
        have HB3 := Lib.hid (HB2.out.trans (hb.mono HB2.out.size))
        have HL := Lib.hid hl
        clear hb hl
        go_wp2_with fail
        refine (HPW.out _).mono ?_
        rintro e w4 ⟨rfl, rfl⟩
        go_wp2_with fail
        refine (HTR.out X _ (by omega) (by omega) HX.out).mono ?_
        rintro e w5 ⟨rfl, rfl⟩
        go_wp2_with fail
        refine (HSR.out _ a0 a1).mono ?_
        rintro e w5 ⟨⟨l2, rfl, hr⟩, hb⟩
        have HB5 := Lib.hid (HB3.out.trans (hb.mono HB3.out.size))
        have HL5 := Lib.hid (HL.out.later hb)
        have HR5 := Lib.hid hr
        clear hb hr
        go_wp2_with fail
        refine (equal_rows _ HL5.out HR5.out HLEN.out HLEN.out).mono ?_
        rintro e w6 ⟨rfl, hq⟩
        have HB6 := Lib.hid (below_drew HB5.out hq)
        have ht : (rts [-a, 0, 1] M == rts [-a, 0, 1] M) = true := by simp
        rw [ht]
        clear ht hq
        go_wp2_with fail
        refine (awake_any _).mono ?_
        rintro e w7 ⟨rfl, hb⟩
        have HB7 := Lib.hid (HB6.out.trans (hb.mono HB6.out.size))
        clear hb
        go_wp2
        go_ret
        exact ⟨rfl, HB7.out⟩
end Go.Proofs.Ytjlaclbgfidiiaa
