/- The walk of the law SharesGreedy. No condition. -/
import Derived.Test.YtbdiknlbmjdpeaaAwake
namespace Go.Proofs.Ytbdiknlbmjdpeaa
open Go.RowKit
attribute [local go_sem] Oper.semAt_some


theorem eng_len : ∀ (k left b : Nat), 0 < b → (eng k left b).length ≤ left
  | 0, left, b, _ => Nat.zero_le _
  | k + 1, left, b, hb => by
    by_cases h : left = 0
    · subst h; rw [eng_zero]; exact Nat.zero_le _
    · have := ceil_left (show 0 < left by omega) hb
      have ih := eng_len k (left * ceilD left b - b) b hb
      rw [eng_step (by omega), List.length_cons]
      omega
theorem grd_len {a b : Nat} {L : List Nat} (hb : 0 < b) (h : grd a a b = some L) : L.length ≤ a :=
  (grd_props a (p := 1) (Nat.le_refl _) hb (fun _ => by simp; omega) h).1

set_option maxHeartbeats 8000000 in
set_option maxRecDepth 100000 in
theorem lawGreedy_any (a b : Int) (w : World) : Calls Try.prog 3 #[.int .i64 a, .int .i64 b] w fun e w' => e = .returned (.bool true) ∧ Below w.heap.size w w' := by
  cases hs : isSh a b with
  | false =>
    have HG := Lib.hid (fun w => Greedy_no a b hs w)
    have HE := Lib.hid (fun w => Engel_no a b hs w)
    have hV := fun w => validR_any a b w
    rw [hs] at hV
    have HV := Lib.hid hV
    clear hV hs
    go_enter Try.func3, Try.ntmps3
    go_wp2_with fail
    refine (HG.out _).mono ?_
    rintro e w1 ⟨rfl, rfl⟩
    go_wp2_with fail
    refine (HE.out _).mono ?_
    rintro e w1 ⟨rfl, rfl⟩
    go_wp2_with fail
    refine (HV.out _).mono ?_
    rintro e w1 ⟨rfl, rfl⟩
    go_wp2_with fail
    refine (awake_any _).mono ?_
    rintro e w1 ⟨rfl, hb⟩
    have HB := Lib.hid hb
    clear hb
    go_wp2
    go_ret
    exact ⟨rfl, HB.out⟩
  | true =>
    obtain ⟨x, y, rfl, rfl, h1, h2, h3⟩ := share_nat hs
    have HG := Lib.hid (fun w => Greedy_yes x y h1 h2 h3 w)
    have HE := Lib.hid (fun w => Engel_yes x y h1 h2 h3 w)
    have HGR := Lib.hid (fun w => greedyR_any x y h1 h2 h3 w)
    have HER := Lib.hid (fun w => engelR_any x y h1 h2 h3 w)
    have hV := fun w => validR_any (x : Int) (y : Int) w
    rw [hs] at hV
    have HV := Lib.hid hV
    have hel := eng_len x x y (by omega)
    have hgl := fun L h => grd_len (a := x) (b := y) (L := L) (by omega) h
    obtain ⟨L, hL⟩ : ∃ L, eng x x y = L := ⟨_, rfl⟩
    obtain ⟨R, hR⟩ : ∃ R, grd x x y = R := ⟨_, rfl⟩
    rw [hL] at HE HER hel
    rw [hR] at HG HGR hgl
    have hel2 : (nats L).length ≤ 1000000 := by rw [nats_len]; omega
    have hgl2 : ∀ M, R = some M → (nats M).length ≤ 1000000 := fun M h => by rw [nats_len]; have := hgl M h; omega
    have HEL := Lib.hid hel2
    have HGL := Lib.hid hgl2
    clear hV hs hL hR hel hel2 hgl hgl2
    go_enter Try.func3, Try.ntmps3
    go_wp2_with fail
    refine (HG.out _).mono ?_
    rintro e w1 ⟨hg, hb⟩
    have HB1 := Lib.hid hb
    clear hb
    cases R with
    | none =>
      have he : e = .returned (.tuple #[.slice none 0 0, .int .i64 6]) := hg
      subst he
      clear hg

      go_wp2_with fail
      refine (HE.out _).mono ?_
      rintro e w2 ⟨⟨u, rfl, hu⟩, hb⟩
      have HB2 := Lib.hid (HB1.out.trans (hb.mono HB1.out.size))
      have HU2 := Lib.hid hu

      clear hb hu
      go_wp2_with fail
      refine (HV.out _).mono ?_
      rintro e w3 ⟨rfl, rfl⟩
      go_wp2_with fail
      refine (HGR.out _).mono ?_
      rintro e w4 ⟨hg, hb⟩
      have HB4 := Lib.hid (HB2.out.trans (hb.mono HB2.out.size))
      have HU4 := Lib.hid (HU2.out.later hb)
      have he : e = .returned (.tuple #[.slice none 0 0, .int .i64 6]) := hg
      subst he
      have HX4 := Lib.hid (Row.nil 0 w4)
      have HZ4 := Lib.hid (Row.nil 0 w4)
      clear hg hb
      go_wp2_with fail
      refine (equal_rows _ HX4.out HZ4.out (by simp) (by simp)).mono ?_
      rintro e w5 ⟨rfl, q, rfl⟩
      have HB5 := Lib.hid (below_drewN HB4.out q)
      have HU5 := Lib.hid (HU4.out.drew q)
      obtain ⟨w5, hw5⟩ : ∃ w5, w4.drewN q = w5 := ⟨_, rfl⟩
      rw [hw5] at HB5 HU5 ⊢
      have ht : (([] : List Int) == ([] : List Int)) = true := by simp
      rw [ht]
      clear hw5 ht
      go_wp2_with fail
      refine (HER.out _).mono ?_
      rintro e w6 ⟨⟨t, rfl, ht⟩, hb⟩
      have HB6 := Lib.hid (HB5.out.trans (hb.mono HB5.out.size))
      have HU6 := Lib.hid (HU5.out.later hb)
      have HT6 := Lib.hid ht
      clear hb ht
      go_wp2_with fail
      refine (equal_rows _ HU6.out HT6.out HEL.out HEL.out).mono ?_
      rintro e w7 ⟨rfl, q, rfl⟩
      have HB7 := Lib.hid (below_drewN HB6.out q)
      obtain ⟨w7, hw7⟩ : ∃ w7, w6.drewN q = w7 := ⟨_, rfl⟩
      rw [hw7] at HB7 ⊢
      have ht : (nats L == nats L) = true := by simp
      rw [ht]
      clear hw7 ht
      go_wp2_with fail
      refine (awake_any _).mono ?_
      rintro e w8 ⟨rfl, hb⟩
      have HB8 := Lib.hid (HB7.out.trans (hb.mono HB7.out.size))
      clear hb
      go_wp2
      go_ret
      exact ⟨rfl, HB8.out⟩
    | some M =>
      obtain ⟨v, rfl, hv⟩ := hg
      have HX1 := Lib.hid hv
      have HML := Lib.hid (HGL.out M rfl)
      clear hv

      go_wp2_with fail
      refine (HE.out _).mono ?_
      rintro e w2 ⟨⟨u, rfl, hu⟩, hb⟩
      have HB2 := Lib.hid (HB1.out.trans (hb.mono HB1.out.size))
      have HU2 := Lib.hid hu
      have HX2 := Lib.hid (HX1.out.later hb)
      clear hb hu
      go_wp2_with fail
      refine (HV.out _).mono ?_
      rintro e w3 ⟨rfl, rfl⟩
      go_wp2_with fail
      refine (HGR.out _).mono ?_
      rintro e w4 ⟨hg, hb⟩
      have HB4 := Lib.hid (HB2.out.trans (hb.mono HB2.out.size))
      have HU4 := Lib.hid (HU2.out.later hb)
      have HX4 := Lib.hid (HX2.out.later hb)
      obtain ⟨z, rfl, hz⟩ := hg
      have HZ4 := Lib.hid hz
      clear hz hb
      go_wp2_with fail
      refine (equal_rows _ HX4.out HZ4.out HML.out HML.out).mono ?_
      rintro e w5 ⟨rfl, q, rfl⟩
      have HB5 := Lib.hid (below_drewN HB4.out q)
      have HU5 := Lib.hid (HU4.out.drew q)
      obtain ⟨w5, hw5⟩ : ∃ w5, w4.drewN q = w5 := ⟨_, rfl⟩
      rw [hw5] at HB5 HU5 ⊢
      have ht : (nats M == nats M) = true := by simp
      rw [ht]
      clear hw5 ht
      go_wp2_with fail
      refine (HER.out _).mono ?_
      rintro e w6 ⟨⟨t, rfl, ht⟩, hb⟩
      have HB6 := Lib.hid (HB5.out.trans (hb.mono HB5.out.size))
      have HU6 := Lib.hid (HU5.out.later hb)
      have HT6 := Lib.hid ht
      clear hb ht
      go_wp2_with fail
      refine (equal_rows _ HU6.out HT6.out HEL.out HEL.out).mono ?_
      rintro e w7 ⟨rfl, q, rfl⟩
      have HB7 := Lib.hid (below_drewN HB6.out q)
      obtain ⟨w7, hw7⟩ : ∃ w7, w6.drewN q = w7 := ⟨_, rfl⟩
      rw [hw7] at HB7 ⊢
      have ht : (nats L == nats L) = true := by simp
      rw [ht]
      clear hw7 ht
      go_wp2_with fail
      refine (awake_any _).mono ?_
      rintro e w8 ⟨rfl, hb⟩
      have HB8 := Lib.hid (HB7.out.trans (hb.mono HB7.out.size))
      clear hb
      go_wp2
      go_ret
      exact ⟨rfl, HB8.out⟩
end Go.Proofs.Ytbdiknlbmjdpeaa
