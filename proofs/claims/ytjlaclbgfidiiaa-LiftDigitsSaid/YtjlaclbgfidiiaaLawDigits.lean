/- The walk of the law LiftDigits. No condition. -/
import Derived.Test.YtjlaclbgfidiiaaDig3
namespace Go.Proofs.Ytjlaclbgfidiiaa
open Go.RowKit
attribute [local go_sem] Oper.semAt_some

set_option maxHeartbeats 8000000 in
set_option maxRecDepth 100000 in
theorem lawDigits_any (a b p n : Int) (w : World) :
    Calls Try.prog 5 #[.int .i64 a, .int .i64 b, .int .i64 p, .int .i64 n] w fun e w' => e = .returned (.bool true) ∧ Below w.heap.size w w' := by
  have hF := fun w => fracR_any a b p w
  cases hf : isFr a b p with
  | false =>
    have HD := Lib.hid (fun w => Digits_no a b p n w (by rw [hf]; rfl))
    have HA := Lib.hid (fun w => Again_no a b p w hf)
    rw [hf] at hF
    have HF := Lib.hid hF
    clear hF hf
    go_enter Try.func5, Try.ntmps5
    go_wp2_with fail
    refine (HD.out _).mono ?_
    rintro e w1 ⟨rfl, rfl⟩
    go_wp2_with fail
    refine (HA.out _).mono ?_
    rintro e w1 ⟨rfl, rfl⟩
    go_wp2_with fail
    refine (HF.out _).mono ?_
    rintro e w1 ⟨rfl, rfl⟩
    go_wp2_with fail
    refine (awake_any _).mono ?_
    rintro e w1 ⟨rfl, hb⟩
    have HB := Lib.hid hb
    clear hb
    go_wp2
    go_ret
    exact ⟨rfl, HB.out⟩
  | true =>
    obtain ⟨q, rfl, hq, a0, a1, b0, b1, hb⟩ := isFr_spec hf
    have HDN := Lib.hid (fun w h => Digits_no a b (q : Int) n w h)
    have HDY := Lib.hid (fun w (n : Nat) hn => Digits_yes a b q n w hf hn)
    have HAY := Lib.hid (fun w => Again_yes a b q w hf)
    have HAR := Lib.hid (fun w => againR_any q hq a b w a0 a1 b0 b1 hb)
    have HDR := Lib.hid (fun w (n : Nat) hn => digitsR_any q hq a b n w a0 a1 b0 b1 hb hn)
    rw [hf] at hF HDN
    have HF := Lib.hid hF
    clear hF hf hq hb
    by_cases n0 : n < 0
    · have HNO := Lib.hid (show (true && (decide (0 ≤ n) && decide (n ≤ 40))) = false by simp; omega)
      go_enter Try.func5, Try.ntmps5
      go_wp2_with fail
      refine (HDN.out _ HNO.out).mono ?_
      rintro e w1 ⟨rfl, rfl⟩
      have HB1 := Lib.hid (Below.refl w.heap.size w)
      go_wp2_with fail
      refine (HAY.out _).mono ?_
      rintro e w2 ⟨⟨s, t, rfl, hst⟩, hb⟩
      have HB2 := Lib.hid (HB1.out.trans (hb.mono HB1.out.size))
      have HST := Lib.hid hst
      clear hb hst
      go_wp2_with fail
      refine (HF.out _).mono ?_
      rintro e w3 ⟨rfl, rfl⟩
      go_wp2_with fail
      refine (HAR.out _).mono ?_
      rintro e w4 ⟨⟨s', t', rfl, hst⟩, hb⟩
      have HB4 := Lib.hid (HB2.out.trans (hb.mono HB2.out.size))
      obtain ⟨es, et⟩ := HST.out.uniq hst
      subst es et
      clear hb hst
      go_wp2_with fail
      refine (awake_any _).mono ?_
      rintro e w5 ⟨rfl, hb⟩
      have HB5 := Lib.hid (HB4.out.trans (hb.mono HB4.out.size))
      clear hb
      go_wp2
      go_ret
      exact ⟨rfl, HB5.out⟩
    · by_cases n1 : 40 < n
      · have HNO := Lib.hid (show (true && (decide (0 ≤ n) && decide (n ≤ 40))) = false by simp; omega)
        go_enter Try.func5, Try.ntmps5
        go_wp2_with fail
        refine (HDN.out _ HNO.out).mono ?_
        rintro e w1 ⟨rfl, rfl⟩
        have HB1 := Lib.hid (Below.refl w.heap.size w)
        go_wp2_with fail
        refine (HAY.out _).mono ?_
        rintro e w2 ⟨⟨s, t, rfl, hst⟩, hb⟩
        have HB2 := Lib.hid (HB1.out.trans (hb.mono HB1.out.size))
        have HST := Lib.hid hst
        clear hb hst
        go_wp2_with fail
        refine (HF.out _).mono ?_
        rintro e w3 ⟨rfl, rfl⟩
        go_wp2_with fail
        refine (HAR.out _).mono ?_
        rintro e w4 ⟨⟨s', t', rfl, hst⟩, hb⟩
        have HB4 := Lib.hid (HB2.out.trans (hb.mono HB2.out.size))
        obtain ⟨es, et⟩ := HST.out.uniq hst
        subst es et
        clear hb hst
        go_wp2_with fail
        refine (awake_any _).mono ?_
        rintro e w5 ⟨rfl, hb⟩
        have HB5 := Lib.hid (HB4.out.trans (hb.mono HB4.out.size))
        clear hb
        go_wp2
        go_ret
        exact ⟨rfl, HB5.out⟩
      · obtain ⟨N, rfl⟩ : ∃ N : Nat, n = (N : Int) := ⟨n.toNat, by omega⟩
        have hN : N ≤ 40 := by omega
        have HLEN : RowKit.Hid ((digL q a b N).length ≤ 1000000) := Lib.hid (by rw [digL_len]; omega)
        go_enter Try.func5, Try.ntmps5
        go_wp2_with fail
        refine (HDY.out _ N hN).mono ?_
        rintro e w1 ⟨⟨l, rfl, hl⟩, hb⟩
        have HB1 := Lib.hid hb
        have HL1 := Lib.hid hl
        clear hb hl
        go_wp2_with fail
        refine (HAY.out _).mono ?_
        rintro e w2 ⟨⟨s, t, rfl, hst⟩, hb⟩
        have HB2 := Lib.hid (HB1.out.trans (hb.mono HB1.out.size))
        have HST := Lib.hid hst
        have HL2 := Lib.hid (HL1.out.later hb)
        clear hb hst
        go_wp2_with fail
        refine (HF.out _).mono ?_
        rintro e w3 ⟨rfl, rfl⟩
        go_wp2_with fail
        refine (HAR.out _).mono ?_
        rintro e w4 ⟨⟨s', t', rfl, hst⟩, hb⟩
        have HB4 := Lib.hid (HB2.out.trans (hb.mono HB2.out.size))
        obtain ⟨es, et⟩ := HST.out.uniq hst
        have HL4 := Lib.hid (HL2.out.later hb)
        subst es et
        clear hb hst
        go_wp2_with fail
        refine (awake_any _).mono ?_
        rintro e w5 ⟨rfl, hb⟩
        have HB5 := Lib.hid (HB4.out.trans (hb.mono HB4.out.size))
        have HL5 := Lib.hid (HL4.out.later hb)
        clear hb
        go_wp2_with fail
        refine (HDR.out _ N hN).mono ?_
        rintro e w6 ⟨⟨l2, rfl, hr⟩, hb⟩
        have HB6 := Lib.hid (HB5.out.trans (hb.mono HB5.out.size))
        have HL6 := Lib.hid (HL5.out.later hb)
        have HR6 := Lib.hid hr
        clear hb hr
        go_wp2_with fail
        refine (equal_rows _ HL6.out HR6.out HLEN.out HLEN.out).mono ?_
        rintro e w7 ⟨rfl, hq⟩
        have HB7 := Lib.hid (below_drew HB6.out hq)
        have ht : (digL q a b N == digL q a b N) = true := by simp
        rw [ht]
        clear ht hq
        go_wp2
        go_ret
        exact ⟨rfl, HB7.out⟩
end Go.Proofs.Ytjlaclbgfidiiaa
