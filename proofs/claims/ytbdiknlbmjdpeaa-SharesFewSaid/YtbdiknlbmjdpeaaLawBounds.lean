/- The walk of the law SharesBounds. No condition. -/
import Derived.Test.YtbdiknlbmjdpeaaBoundL
namespace Go.Proofs.Ytbdiknlbmjdpeaa
open Go.RowKit
attribute [local go_sem] Oper.semAt_some


theorem BoundRef_any (t a b : Nat) (ht : t ≤ 2) (ha : 0 < a) (hab : a < b) (hb : b ≤ 60) (w : World) :
    Calls Try.prog 36 #[.int .i64 (a : Int), .int .i64 (b : Int), .int .i64 ((t + 1 : Nat) : Int)] w fun e w' => BRes (bndO t a b) e ∧ ∃ q, w' = w.drewN q := by
  cases t with
  | zero => exact BoundRef_1 a b ha hab hb w
  | succ t => exact BoundRef_more t a b (by omega) ha hab hb w
set_option maxHeartbeats 8000000 in
set_option maxRecDepth 100000 in
theorem lawBounds_any (a b t : Int) (w : World) : Calls Try.prog 8 #[.int .i64 a, .int .i64 b, .int .i64 t] w fun e w' => e = .returned (.bool true) ∧ Below w.heap.size w w' := by
  cases hs : boundOk a b t with
  | false =>
    have HN := Lib.hid (fun w => Bound_no a b t hs w)
    have h := hs
    unfold boundOk at h
    have hV := fun w => validR_any a b w
    obtain ⟨B, hB⟩ : ∃ B, isSh a b = B := ⟨_, rfl⟩
    rw [hB] at hV h
    have HV := Lib.hid hV
    clear hV hB hs
    cases B with
    | false =>
      clear h
      go_enter Try.func8, Try.ntmps8
      go_wp2_with fail
      refine (HN.out _).mono ?_
      rintro e w1 ⟨rfl, rfl⟩
      go_wp2_with fail
      refine (HV.out _).mono ?_
      rintro e w1 ⟨rfl, rfl⟩
      go_wp2_with fail
      refine (awake_any _).mono ?_
      rintro e w1 ⟨rfl, hb⟩
      have HB := Lib.hid hb
      clear hb
      go_wp2
      go_ret
      exact ⟨rfl, HB.out⟩
    | true =>
      by_cases h1 : t < 1
      · have b1 : decide (t < 1) = true := by simpa using h1
        clear h
        go_enter Try.func8, Try.ntmps8
        go_wp2_with fail
        refine (HN.out _).mono ?_
        rintro e w1 ⟨rfl, rfl⟩
        go_wp2_with fail
        refine (HV.out _).mono ?_
        rintro e w1 ⟨rfl, rfl⟩
        go_wp2_with fail
        refine (awake_any _).mono ?_
        rintro e w1 ⟨rfl, hb⟩
        have HB := Lib.hid hb
        clear hb
        go_wp2
        go_ret
        exact ⟨rfl, HB.out⟩
      · have b1 : decide (t < 1) = false := by simpa using h1
        by_cases h2 : 3 < t
        · have b2 : decide (3 < t) = true := by simpa using h2
          clear h
          go_enter Try.func8, Try.ntmps8
          go_wp2_with fail
          refine (HN.out _).mono ?_
          rintro e w1 ⟨rfl, rfl⟩
          go_wp2_with fail
          refine (HV.out _).mono ?_
          rintro e w1 ⟨rfl, rfl⟩
          go_wp2_with fail
          refine (awake_any _).mono ?_
          rintro e w1 ⟨rfl, hb⟩
          have HB := Lib.hid hb
          clear hb
          go_wp2
          go_ret
          exact ⟨rfl, HB.out⟩
        · exfalso
          have g1 : decide (1 ≤ t) = true := by simp; omega
          have g2 : decide (t ≤ 3) = true := by simp; omega
          rw [g1, g2] at h
          cases h
  | true =>
    unfold boundOk at hs
    simp only [Bool.and_eq_true, decide_eq_true_eq] at hs
    obtain ⟨⟨hs, g1⟩, g2⟩ := hs
    obtain ⟨x, y, rfl, rfl, h1, h2, h3⟩ := share_nat hs
    obtain ⟨t, rfl⟩ : ∃ n : Nat, t = ((n + 1 : Nat) : Int) := ⟨(t - 1).toNat, by omega⟩
    have HG := Lib.hid (fun w => Bound_yes x y t h1 h2 h3 (by omega) w)
    have HGR := Lib.hid (fun w => BoundRef_any t x y (by omega) h1 h2 h3 w)
    have hV := fun w => validR_any (x : Int) (y : Int) w
    rw [hs] at hV
    have HV := Lib.hid hV
    obtain ⟨T, hT⟩ : ∃ T, t + 1 = T := ⟨_, rfl⟩
    obtain ⟨R, hR⟩ : ∃ R, bndO t x y = R := ⟨_, rfl⟩
    rw [hR, hT] at HG HGR
    rw [hT] at g1 g2 ⊢
    have b1 : ¬ (T : Int) < 1 := by omega
    have b2 : ¬ (3 : Int) < (T : Int) := by omega
    clear hV hs hR hT
    go_enter Try.func8, Try.ntmps8
    go_wp2_with fail
    refine (HG.out _).mono ?_
    rintro e w1 ⟨hg, hb⟩
    have HB1 := Lib.hid hb
    clear hb
    cases R with
    | none =>
      have he : e = .returned (.tuple #[.int .i64 0, .int .i64 4]) := hg
      subst he
      clear hg
      go_wp2_with fail
      refine (HV.out _).mono ?_
      rintro e w3 ⟨rfl, rfl⟩
      go_wp2_with fail
      refine (HGR.out _).mono ?_
      rintro e w4 ⟨hg, q, rfl⟩
      have he : e = .returned (.tuple #[.int .i64 0, .int .i64 4]) := hg
      subst he
      have HB4 := Lib.hid (below_drewN HB1.out q)
      clear hg
      go_wp2_with fail
      refine (awake_any _).mono ?_
      rintro e w8 ⟨rfl, hb⟩
      have HB8 := Lib.hid (HB4.out.trans (hb.mono HB4.out.size))
      clear hb
      go_wp2
      go_ret
      exact ⟨rfl, HB8.out⟩
    | some n =>
      have he : e = .returned (.tuple #[.int .i64 (n : Int), .int .i64 0]) := hg
      subst he
      clear hg
      go_wp2_with fail
      refine (HV.out _).mono ?_
      rintro e w3 ⟨rfl, rfl⟩
      go_wp2_with fail
      refine (HGR.out _).mono ?_
      rintro e w4 ⟨hg, q, rfl⟩
      have he : e = .returned (.tuple #[.int .i64 (n : Int), .int .i64 0]) := hg
      subst he
      have HB4 := Lib.hid (below_drewN HB1.out q)
      clear hg
      go_wp2_with fail
      refine (awake_any _).mono ?_
      rintro e w8 ⟨rfl, hb⟩
      have HB8 := Lib.hid (HB4.out.trans (hb.mono HB4.out.size))
      clear hb
      go_wp2
      go_ret
      exact ⟨rfl, HB8.out⟩
end Go.Proofs.Ytbdiknlbmjdpeaa
