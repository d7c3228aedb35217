/- The walk of the reference's Short and of the law SharesShort. No condition. -/
import Derived.Test.YtbdiknlbmjdpeaaShortR
import Derived.Test.YtbdiknlbmjdpeaaLawGreedy
namespace Go.Proofs.Ytbdiknlbmjdpeaa
open Go.RowKit
attribute [local go_sem] Oper.semAt_some


/-- A share is below 1, so no term is 1. -/
theorem fnd_12 {most t a b : Nat} (ha : 0 < a) (hab : a < b) : fnd 1 most t a b 1 = fnd 1 most t a b 2 := by
  have h1 : 1 ≤ b / a := Nat.div_pos (Nat.le_of_lt hab) ha
  cases t with
  | zero =>
    unfold fnd
    by_cases h : b % a = 0
    · have h2 : 2 ≤ b / a := by
        apply Decidable.byContradiction
        intro hn
        have h3 : b / a = 1 := by omega
        have := Nat.div_add_mod b a
        rw [h3, h] at this
        omega
      by_cases h3 : b / a ≤ most
      · rw [if_pos ⟨h, h1, h3⟩, if_pos ⟨h, h2, h3⟩]
      · rw [if_neg (by omega), if_neg (by omega)]
    · rw [if_neg (by omega), if_neg (by omega)]
  | succ t =>
    unfold fnd
    rw [show max 1 (b / a + 1) = b / a + 1 by omega, show max 2 (b / a + 1) = b / a + 1 by omega]

set_option maxHeartbeats 4000000 in
set_option maxRecDepth 100000 in
theorem ShortRef_any (a b t m : Nat) (ha : 0 < a) (hab : a < b) (hb : b ≤ 60) (ht1 : 1 ≤ t) (ht : t ≤ 4) (hm : m ≤ 300) (w : World) :
    Calls Try.prog 23 #[.int .i64 (a : Int), .int .i64 (b : Int), .int .i64 (t : Int), .int .i64 (m : Int)] w fun e w' => SRes (shF m t a b) w.heap.size e w' ∧ Below w.heap.size w w' := by
  obtain ⟨R, hR⟩ : ∃ R, shF m t a b = R := ⟨_, rfl⟩
  rw [hR]
  unfold shF at hR
  have HR := Lib.hid hR
  clear hR
  go_enter Try.func23, Try.ntmps23
  go_wp2
  go_loopg [10] t (fun gk s11 wr => ∃ c : Nat, s11 = .int .i64 (c : Int) ∧ c + gk = t + 1 ∧ 1 ≤ c ∧ fs (shC m a b) c gk = R ∧ Below w.heap.size w wr)
  case atStart => exact ⟨1, rfl, by omega, Nat.le_refl _, HR.out, Below.refl _ _⟩
  case round =>
    obtain ⟨c, rfl, hgk, hc1, hfs, hb⟩ := hrel
    have HFS := Lib.hid hfs
    have HB := Lib.hid hb
    have HGK := Lib.hid hgk
    clear hfs hb
    by_cases hct : c ≤ t
    · obtain ⟨k, rfl⟩ : ∃ k, gk = k + 1 := ⟨gk - 1, by omega⟩
      have l1 : (c : Int) ≤ (t : Int) := by omega
      obtain ⟨d, hd⟩ : ∃ d, c = d + 1 := ⟨c - 1, by omega⟩
      have hF := shortR_any m hm d a b 1 wr (by omega) ha (by omega) (by have := Nat.le_mul_of_pos_left b (show 0 < d + 1 by omega); omega) (fit_short hm (by omega) (by assumption)) (by omega)
      have hfn : shC m a b c = fnd 1 m d a b 2 := by unfold shC; rw [hd, fnd_12 ha hab]; rfl
      rw [← hd] at hF
      obtain ⟨R', hR'⟩ : ∃ R', fnd 1 m d a b (1 + 1) = R' := ⟨_, rfl⟩
      rw [hR'] at hF
      rw [show fnd 1 m d a b 2 = R' from hR'] at hfn
      have HF := Lib.hid hF
      have HFN := Lib.hid hfn
      clear hgk hd hF hfn hR'
      go_wp2_with fail
      refine HF.out.mono ?_
      rintro e w2 ⟨hf, hb2⟩
      have HB2 := Lib.hid (HB.out.trans (hb2.mono HB.out.size))
      clear hb2
      cases R' with
      | none =>
        have he : e = .returned (.slice none 0 0) := hf
        subst he
        have hfs := HFS.out
        rw [fs_no k HFN.out] at hfs
        have HFX := Lib.hid hfs
        clear hf hfs
        go_wp2
        go_roundg k
        case rel => exact ⟨c + 1, by go_num, by have := HGK.out; omega, by omega, HFX.out, HB2.out⟩
        case measure => omega
      | some L =>
        obtain ⟨g, cc, rfl, hr⟩ := hf
        have hfs := HFS.out
        rw [fs_yes k HFN.out] at hfs
        have HFX := Lib.hid hfs
        have HR2 := Lib.hid (hr.mono HB.out.size)
        clear hr hfs
        go_wp2
        go_ret2
        refine ⟨?_, HB2.out⟩
        rw [← HFX.out]
        exact ⟨g, cc, rfl, HR2.out⟩
    · have l1 : ¬ (c : Int) ≤ (t : Int) := by omega
      obtain rfl : gk = 0 := by omega
      have hfs := HFS.out
      rw [fs_zero] at hfs
      have HFX := Lib.hid hfs
      clear hgk hfs
      go_wp2
      go_ret2
      refine ⟨?_, HB.out⟩
      rw [← HFX.out]
      exact rfl
theorem shF_len {m t a b : Nat} {L : List Nat} (ha : 0 < a) (hb : 0 < b) (h : shF m t a b = some L) : L.length ≤ t := by
  obtain ⟨c, h1, h2, h3, -⟩ := fs_some h
  have := (fnd_sound 1 m (c - 1) ha hb h3).1
  omega

set_option maxHeartbeats 8000000 in
set_option maxRecDepth 100000 in
theorem lawShort_any (a b t m : Int) (w : World) : Calls Try.prog 4 #[.int .i64 a, .int .i64 b, .int .i64 t, .int .i64 m] w fun e w' => e = .returned (.bool true) ∧ Below w.heap.size w w' := by
  cases hs : shortOk a b t m with
  | false =>
    have HN := Lib.hid (fun w => Short_no a b t m hs w)
    have h := hs
    unfold shortOk at h
    have hV := fun w => validR_any a b w
    obtain ⟨B, hB⟩ : ∃ B, isSh a b = B := ⟨_, rfl⟩
    rw [hB] at hV h
    have HV := Lib.hid hV
    clear hV hB hs
    cases B with
    | false =>
      clear h
      go_enter Try.func4, Try.ntmps4
      go_wp2_with fail
      refine (HN.out _).mono ?_
      rintro e w1 ⟨rfl, rfl⟩
      go_wp2_with fail
      refine (HV.out _).mono ?_
      rintro e w1 ⟨rfl, rfl⟩
      go_wp2_with fail
      refine (awake_any _).mono ?_
      rintro e w1 ⟨rfl, hb⟩
      have HB := Lib.hid hb
      clear hb
      go_wp2
      go_ret
      exact ⟨rfl, HB.out⟩
    | true =>
      by_cases h1 : t < 1
      · have b1 : decide (t < 1) = true := by simpa using h1
        clear h
        go_enter Try.func4, Try.ntmps4
        go_wp2_with fail
        refine (HN.out _).mono ?_
        rintro e w1 ⟨rfl, rfl⟩
        go_wp2_with fail
        refine (HV.out _).mono ?_
        rintro e w1 ⟨rfl, rfl⟩
        go_wp2_with fail
        refine (awake_any _).mono ?_
        rintro e w1 ⟨rfl, hb⟩
        have HB := Lib.hid hb
        clear hb
        go_wp2
        go_ret
        exact ⟨rfl, HB.out⟩
      · have b1 : decide (t < 1) = false := by simpa using h1
        by_cases h2 : 4 < t
        · have b2 : decide (4 < t) = true := by simpa using h2
          clear h
          go_enter Try.func4, Try.ntmps4
          go_wp2_with fail
          refine (HN.out _).mono ?_
          rintro e w1 ⟨rfl, rfl⟩
          go_wp2_with fail
          refine (HV.out _).mono ?_
          rintro e w1 ⟨rfl, rfl⟩
          go_wp2_with fail
          refine (awake_any _).mono ?_
          rintro e w1 ⟨rfl, hb⟩
          have HB := Lib.hid hb
          clear hb
          go_wp2
          go_ret
          exact ⟨rfl, HB.out⟩
        · have b2 : decide (4 < t) = false := by simpa using h2
          by_cases h3 : m < 2
          · have b3 : decide (m < 2) = true := by simpa using h3
            clear h
            go_enter Try.func4, Try.ntmps4
            go_wp2_with fail
            refine (HN.out _).mono ?_
            rintro e w1 ⟨rfl, rfl⟩
            go_wp2_with fail
            refine (HV.out _).mono ?_
            rintro e w1 ⟨rfl, rfl⟩
            go_wp2_with fail
            refine (awake_any _).mono ?_
            rintro e w1 ⟨rfl, hb⟩
            have HB := Lib.hid hb
            clear hb
            go_wp2
            go_ret
            exact ⟨rfl, HB.out⟩
          · have b3 : decide (m < 2) = false := by simpa using h3
            by_cases h4 : 300 < m
            · have b4 : decide (300 < m) = true := by simpa using h4
              clear h
              go_enter Try.func4, Try.ntmps4
              go_wp2_with fail
              refine (HN.out _).mono ?_
              rintro e w1 ⟨rfl, rfl⟩
              go_wp2_with fail
              refine (HV.out _).mono ?_
              rintro e w1 ⟨rfl, rfl⟩
              go_wp2_with fail
              refine (awake_any _).mono ?_
              rintro e w1 ⟨rfl, hb⟩
              have HB := Lib.hid hb
              clear hb
              go_wp2
              go_ret
              exact ⟨rfl, HB.out⟩
            · exfalso
              have g1 : decide (1 ≤ t) = true := by simp; omega
              have g2 : decide (t ≤ 4) = true := by simp; omega
              have g3 : decide (2 ≤ m) = true := by simp; omega
              have g4 : decide (m ≤ 300) = true := by simp; omega
              rw [g1, g2, g3, g4] at h
              cases h
  | true =>
    unfold shortOk at hs
    simp only [Bool.and_eq_true, decide_eq_true_eq] at hs
    obtain ⟨⟨⟨⟨hs, g1⟩, g2⟩, g3⟩, g4⟩ := hs
    obtain ⟨x, y, rfl, rfl, h1, h2, h3⟩ := share_nat hs
    obtain ⟨t, rfl⟩ := Int.eq_ofNat_of_zero_le (show 0 ≤ t by omega)
    obtain ⟨m, rfl⟩ := Int.eq_ofNat_of_zero_le (show 0 ≤ m by omega)
    have b1 : ¬ (t : Int) < 1 := by omega
    have b2 : ¬ (4 : Int) < (t : Int) := by omega
    have b3 : ¬ (m : Int) < 2 := by omega
    have b4 : ¬ (300 : Int) < (m : Int) := by omega
    have HG := Lib.hid (fun w => Short_yes x y t m h1 h2 h3 (by omega) (by omega) (by omega) (by omega) w)
    have HGR := Lib.hid (fun w => ShortRef_any x y t m h1 h2 h3 (by omega) (by omega) (by omega) w)
    have hV := fun w => validR_any (x : Int) (y : Int) w
    rw [hs] at hV
    have HV := Lib.hid hV
    have hgl := fun L h => shF_len (m := m) (t := t) (a := x) (b := y) (L := L) h1 (by omega) h
    obtain ⟨R, hR⟩ : ∃ R, shF m t x y = R := ⟨_, rfl⟩
    rw [hR] at HG HGR hgl
    have hgl2 : ∀ M, R = some M → (nats M).length ≤ 1000000 := fun M h => by rw [nats_len]; have := hgl M h; omega
    have HGL := Lib.hid hgl2
    clear hV hs hR hgl hgl2
    go_enter Try.func4, Try.ntmps4
    go_wp2_with fail
    refine (HG.out _).mono ?_
    rintro e w1 ⟨hg, hb⟩
    have HB1 := Lib.hid hb
    clear hb
    cases R with
    | none =>
      have he : e = .returned (.tuple #[.slice none 0 0, .int .i64 4]) := hg
      subst he
      clear hg

      go_wp2_with fail
      refine (HV.out _).mono ?_
      rintro e w3 ⟨rfl, rfl⟩
      go_wp2_with fail
      refine (HGR.out _).mono ?_
      rintro e w4 ⟨hg, hb⟩
      have HB4 := Lib.hid (HB1.out.trans (hb.mono HB1.out.size))
      have he : e = .returned (.tuple #[.slice none 0 0, .int .i64 4]) := hg
      subst he
      have HX4 := Lib.hid (Row.nil 0 w4)
      have HZ4 := Lib.hid (Row.nil 0 w4)
      clear hg hb
      go_wp2_with fail
      refine (equal_rows _ HX4.out HZ4.out (by simp) (by simp)).mono ?_
      rintro e w5 ⟨rfl, q, rfl⟩
      have HB5 := Lib.hid (below_drewN HB4.out q)
      obtain ⟨w5, hw5⟩ : ∃ w5, w4.drewN q = w5 := ⟨_, rfl⟩
      rw [hw5] at HB5 ⊢
      have ht : (([] : List Int) == ([] : List Int)) = true := by simp
      rw [ht]
      clear hw5 ht
      go_wp2_with fail
      refine (awake_any _).mono ?_
      rintro e w8 ⟨rfl, hb⟩
      have HB8 := Lib.hid (HB5.out.trans (hb.mono HB5.out.size))
      clear hb
      go_wp2
      go_ret
      exact ⟨rfl, HB8.out⟩
    | some M =>
      obtain ⟨g, c, rfl, hv⟩ := hg
      have HX1 := Lib.hid hv
      have HML := Lib.hid (HGL.out M rfl)
      clear hv

      go_wp2_with fail
      refine (HV.out _).mono ?_
      rintro e w3 ⟨rfl, rfl⟩
      go_wp2_with fail
      refine (HGR.out _).mono ?_
      rintro e w4 ⟨hg, hb⟩
      have HB4 := Lib.hid (HB1.out.trans (hb.mono HB1.out.size))
      have HX4 := Lib.hid (HX1.out.later hb)
      obtain ⟨g2, c2, rfl, hz⟩ := hg
      have HZ4 := Lib.hid hz
      clear hz hb
      go_wp2_with fail
      refine (equal_rows _ HX4.out HZ4.out HML.out HML.out).mono ?_
      rintro e w5 ⟨rfl, q, rfl⟩
      have HB5 := Lib.hid (below_drewN HB4.out q)
      obtain ⟨w5, hw5⟩ : ∃ w5, w4.drewN q = w5 := ⟨_, rfl⟩
      rw [hw5] at HB5 ⊢
      have ht : (nats M == nats M) = true := by simp
      rw [ht]
      clear hw5 ht
      go_wp2_with fail
      refine (awake_any _).mono ?_
      rintro e w8 ⟨rfl, hb⟩
      have HB8 := Lib.hid (HB5.out.trans (hb.mono HB5.out.size))
      clear hb
      go_wp2
      go_ret
      exact ⟨rfl, HB8.out⟩
end Go.Proofs.Ytbdiknlbmjdpeaa
