/- The walk of the law SharesFew. No condition. -/
import Derived.Test.YtbdiknlbmjdpeaaFewMath
import Derived.Test.YtbdiknlbmjdpeaaThree
namespace Go.Proofs.Ytbdiknlbmjdpeaa
open Go.RowKit
attribute [local go_sem] Oper.semAt_some


/-- Whatever Short answers, it is a tuple of a slice and a code. -/
theorem short_any (a b t m : Nat) (ha : 0 < a) (hab : a < b) (hb : b ≤ 60) (ht1 : 1 ≤ t) (ht : t ≤ 4) (hm2 : 2 ≤ m) (hm : m ≤ 300) (w : World) :
    Calls Try.prog 22 #[.int .i64 (a : Int), .int .i64 (b : Int), .int .i64 (t : Int), .int .i64 (m : Int)] w fun e w' => (∃ v c, e = .returned (.tuple #[v, .int .i64 c])) ∧ Below w.heap.size w w' := by
  refine (Short_yes a b t m ha hab hb ht1 ht hm2 hm w).mono fun e w' h => ⟨?_, h.2⟩
  have h1 := h.1
  cases hR : shF m t a b with
  | none => rw [hR] at h1; exact ⟨_, _, h1⟩
  | some L => rw [hR] at h1; obtain ⟨g, c, rfl, -⟩ := h1; exact ⟨_, _, rfl⟩
set_option maxHeartbeats 64000000 in
set_option maxRecDepth 100000 in
theorem few_none (x y t m : Nat) (h1 : 0 < x) (h2 : x < y) (h3 : y ≤ 60) (ht1 : 1 ≤ t) (ht : t ≤ 4) (hm2 : 2 ≤ m) (hm : m ≤ 300) (hS : shF m t x y = none) (w : World) : Calls Try.prog 10 #[.int .i64 (x : Int), .int .i64 (y : Int), .int .i64 (t : Int), .int .i64 (m : Int)] w fun e w' => e = .returned (.bool true) ∧ Below w.heap.size w w' := by
  have hg := fun w => Short_yes x y t m h1 h2 h3 ht1 ht hm2 hm w
  rw [hS] at hg
  have HG := Lib.hid hg
  have HSH := Lib.hid hS
  have hV := fun w => validR_any (x : Int) (y : Int) w
  rw [isSh_spec.2 ⟨by omega, by omega, by omega⟩] at hV
  have HV := Lib.hid hV
  clear hg hS hV
  cases hG : grd x x y with
  | none =>
    have hgr := fun w => Greedy_yes x y h1 h2 h3 w
    rw [hG] at hgr
    have HGR := Lib.hid hgr
    clear hgr hG
    by_cases ht3 : 3 < t
    · have k5 : (3 : Int) < (t : Int) := by omega
      have k5d : decide ((3 : Int) < (t : Int)) = true := decide_eq_true k5
      go_enter Try.func10, Try.ntmps10
      go_wp2_with fail
      refine (HG.out _).mono ?_
      rintro e w1 ⟨hq, hb⟩
      have HB1 := Lib.hid hb
      have he : e = .returned (.tuple #[.slice none 0 0, .int .i64 4]) := hq
      subst he
      clear hq hb
      go_wp2_with fail
      refine (HV.out _).mono ?_
      rintro e wv0 ⟨rfl, rfl⟩
      go_wp2_with fail
      refine (HGR.out _).mono ?_
      rintro e w2 ⟨hq, hb⟩
      have HB2 := Lib.hid (HB1.out.trans (hb.mono HB1.out.size))
      have he : e = .returned (.tuple #[.slice none 0 0, .int .i64 6]) := hq
      subst he
      clear hq hb
      go_wp2_with fail
      refine (awake_any _).mono ?_
      rintro e w3 ⟨rfl, hb⟩
      have HB3 := Lib.hid (HB2.out.trans (hb.mono HB2.out.size))
      clear hb
      go_wp2
      go_ret
      exact ⟨rfl, HB3.out⟩
    · have k5 : ¬ (3 : Int) < (t : Int) := by omega
      have k5d : decide ((3 : Int) < (t : Int)) = false := decide_eq_false k5
      by_cases hm3 : 299 < m
      · have k6 : (299 : Int) < (m : Int) := by omega
        have k6d : decide ((299 : Int) < (m : Int)) = true := decide_eq_true k6
        go_enter Try.func10, Try.ntmps10
        go_wp2_with fail
        refine (HG.out _).mono ?_
        rintro e w1 ⟨hq, hb⟩
        have HB1 := Lib.hid hb
        have he : e = .returned (.tuple #[.slice none 0 0, .int .i64 4]) := hq
        subst he
        clear hq hb
        go_wp2_with fail
        refine (HV.out _).mono ?_
        rintro e wv0 ⟨rfl, rfl⟩
        go_wp2_with fail
        refine (HGR.out _).mono ?_
        rintro e w2 ⟨hq, hb⟩
        have HB2 := Lib.hid (HB1.out.trans (hb.mono HB1.out.size))
        have he : e = .returned (.tuple #[.slice none 0 0, .int .i64 6]) := hq
        subst he
        clear hq hb
        go_wp2_with fail
        refine (awake_any _).mono ?_
        rintro e w3 ⟨rfl, hb⟩
        have HB3 := Lib.hid (HB2.out.trans (hb.mono HB2.out.size))
        clear hb
        go_wp2
        go_ret
        exact ⟨rfl, HB3.out⟩
      · have k6 : ¬ (299 : Int) < (m : Int) := by omega
        have k6d : decide ((299 : Int) < (m : Int)) = false := decide_eq_false k6
        have HX := Lib.hid (fun w => short_any x y (t + 1) m h1 h2 h3 (by omega) (by omega) (by omega) (by omega) w)
        have HY := Lib.hid (fun w => short_any x y t (m + 1) h1 h2 h3 (by omega) (by omega) (by omega) (by omega) w)
        go_enter Try.func10, Try.ntmps10
        go_wp2_with fail
        refine (HG.out _).mono ?_
        rintro e w1 ⟨hq, hb⟩
        have HB1 := Lib.hid hb
        have he : e = .returned (.tuple #[.slice none 0 0, .int .i64 4]) := hq
        subst he
        clear hq hb
        go_wp2_with fail
        refine (HV.out _).mono ?_
        rintro e wv0 ⟨rfl, rfl⟩
        go_wp2_with fail
        refine (HGR.out _).mono ?_
        rintro e w2 ⟨hq, hb⟩
        have HB2 := Lib.hid (HB1.out.trans (hb.mono HB1.out.size))
        have he : e = .returned (.tuple #[.slice none 0 0, .int .i64 6]) := hq
        subst he
        clear hq hb
        go_wp2_with fail
        refine (HX.out _).mono ?_
        rintro e w3 ⟨⟨vHX, cHX, rfl⟩, hb⟩
        have HB3 := Lib.hid (HB2.out.trans (hb.mono HB2.out.size))
        clear hb
        go_wp2_with fail
        refine (HY.out _).mono ?_
        rintro e w4 ⟨⟨vHY, cHY, rfl⟩, hb⟩
        have HB4 := Lib.hid (HB3.out.trans (hb.mono HB3.out.size))
        clear hb
        go_wp2_with fail
        refine (awake_any _).mono ?_
        rintro e w5 ⟨rfl, hb⟩
        have HB5 := Lib.hid (HB4.out.trans (hb.mono HB4.out.size))
        clear hb
        go_wp2
        go_ret
        exact ⟨rfl, HB5.out⟩
  | some G =>
    have hgr := fun w => Greedy_yes x y h1 h2 h3 w
    rw [hG] at hgr
    have HGR := Lib.hid hgr
    have hgf := grd_facts h1 h2 hG
    have hfew := fun k1 k2 => few_le (m := m) (t := t) h1 h2 hG k1 k2
    have hgl1 := hgf.len1
    have hgl2 := hgf.len2
    have hgel := (hgf.el (G.length - 1) (by omega)).2
    obtain ⟨M, hM⟩ : ∃ M, G.length = M := ⟨_, rfl⟩
    rw [hM] at hgl1 hgl2 hfew hgel
    obtain ⟨M1, hM1⟩ : ∃ M1, M = M1 + 1 := ⟨M - 1, by omega⟩
    have hM2 : M - 1 = M1 := by omega
    rw [hM2] at hfew hgel
    obtain ⟨ga, hga⟩ : ∃ ga, G.getD M1 0 = ga := ⟨_, rfl⟩
    rw [hga] at hfew hgel
    have HM := Lib.hid hM
    have HGA := Lib.hid hga
    have z1 : ((M : Int) == 0) = false := by rw [beq_eq_false_iff_ne]; omega
    have z2 : (M : Int) - 1 = (M1 : Int) := by omega
    have z3 : (M1 : Int) < (M : Int) := by omega
    have z4 : (0 : Int) ≤ (M1 : Int) := by omega
    have z5 : (M : Int) ≤ 60 := by omega
    have M60 : M ≤ 60 := by omega
    have M1M : M1 < M := by omega
    clear hgr hG hgf hgl1 hgl2 hM hM1 hM2 hga
    by_cases hp1 : M ≤ t
    · have u1 : (M : Int) ≤ (t : Int) := by omega
      have u1d : decide ((M : Int) ≤ (t : Int)) = true := decide_eq_true u1
      by_cases hp2 : ga ≤ m
      · have u2 : (ga : Int) ≤ (m : Int) := by omega
        have u2d : decide ((ga : Int) ≤ (m : Int)) = true := decide_eq_true u2
        exfalso
        obtain ⟨L', q1, q2⟩ := hfew hp1 hp2
        rw [HSH.out] at q1
        cases q1
      · have u2 : ¬ (ga : Int) ≤ (m : Int) := by omega
        have u2d : decide ((ga : Int) ≤ (m : Int)) = false := decide_eq_false u2
        clear hfew hp1 hp2
        by_cases ht3 : 3 < t
        · have k5 : (3 : Int) < (t : Int) := by omega
          have k5d : decide ((3 : Int) < (t : Int)) = true := decide_eq_true k5
          go_enter Try.func10, Try.ntmps10
          go_wp2_with fail
          refine (HG.out _).mono ?_
          rintro e w1 ⟨hq, hb⟩
          have HB1 := Lib.hid hb
          have he : e = .returned (.tuple #[.slice none 0 0, .int .i64 4]) := hq
          subst he
          clear hq hb
          go_wp2_with fail
          refine (HV.out _).mono ?_
          rintro e wv0 ⟨rfl, rfl⟩
          go_wp2_with fail
          refine (HGR.out _).mono ?_
          rintro e w2 ⟨hq, hb⟩
          have HB2 := Lib.hid (HB1.out.trans (hb.mono HB1.out.size))
          obtain ⟨vg, rfl, hr⟩ := hq
          obtain ⟨ga, gn, gc, rfl, hgi, hgn⟩ := Row.ints hr
          rw [nats_len, HM.out] at hgn
          have hgn2 := hgn.symm
          subst hgn2
          clear hgn
          obtain ⟨gb, go, hga, hgl, hgc⟩ := hgi.at (by omega)
          have hcg := hgc M1 (by omega)
          rw [nats_at (by have := HM.out; omega), HGA.out] at hcg
          subst hga
          clear hr hgi hgl hgc hb
          go_wp2_with fail
          refine (awake_any _).mono ?_
          rintro e w3 ⟨rfl, hb⟩
          have HB3 := Lib.hid (HB2.out.trans (hb.mono HB2.out.size))
          have hcgq := cell_later hcg hb
          clear hcg
          have hcg := hcgq
          clear hcgq
          clear hb
          go_wp2
          go_ret
          exact ⟨rfl, HB3.out⟩
        · have k5 : ¬ (3 : Int) < (t : Int) := by omega
          have k5d : decide ((3 : Int) < (t : Int)) = false := decide_eq_false k5
          by_cases hm3 : 299 < m
          · have k6 : (299 : Int) < (m : Int) := by omega
            have k6d : decide ((299 : Int) < (m : Int)) = true := decide_eq_true k6
            go_enter Try.func10, Try.ntmps10
            go_wp2_with fail
            refine (HG.out _).mono ?_
            rintro e w1 ⟨hq, hb⟩
            have HB1 := Lib.hid hb
            have he : e = .returned (.tuple #[.slice none 0 0, .int .i64 4]) := hq
            subst he
            clear hq hb
            go_wp2_with fail
            refine (HV.out _).mono ?_
            rintro e wv0 ⟨rfl, rfl⟩
            go_wp2_with fail
            refine (HGR.out _).mono ?_
            rintro e w2 ⟨hq, hb⟩
            have HB2 := Lib.hid (HB1.out.trans (hb.mono HB1.out.size))
            obtain ⟨vg, rfl, hr⟩ := hq
            obtain ⟨ga, gn, gc, rfl, hgi, hgn⟩ := Row.ints hr
            rw [nats_len, HM.out] at hgn
            have hgn2 := hgn.symm
            subst hgn2
            clear hgn
            obtain ⟨gb, go, hga, hgl, hgc⟩ := hgi.at (by omega)
            have hcg := hgc M1 (by omega)
            rw [nats_at (by have := HM.out; omega), HGA.out] at hcg
            subst hga
            clear hr hgi hgl hgc hb
            go_wp2_with fail
            refine (awake_any _).mono ?_
            rintro e w3 ⟨rfl, hb⟩
            have HB3 := Lib.hid (HB2.out.trans (hb.mono HB2.out.size))
            have hcgq := cell_later hcg hb
            clear hcg
            have hcg := hcgq
            clear hcgq
            clear hb
            go_wp2
            go_ret
            exact ⟨rfl, HB3.out⟩
          · have k6 : ¬ (299 : Int) < (m : Int) := by omega
            have k6d : decide ((299 : Int) < (m : Int)) = false := decide_eq_false k6
            have HX := Lib.hid (fun w => short_any x y (t + 1) m h1 h2 h3 (by omega) (by omega) (by omega) (by omega) w)
            have HY := Lib.hid (fun w => short_any x y t (m + 1) h1 h2 h3 (by omega) (by omega) (by omega) (by omega) w)
            go_enter Try.func10, Try.ntmps10
            go_wp2_with fail
            refine (HG.out _).mono ?_
            rintro e w1 ⟨hq, hb⟩
            have HB1 := Lib.hid hb
            have he : e = .returned (.tuple #[.slice none 0 0, .int .i64 4]) := hq
            subst he
            clear hq hb
            go_wp2_with fail
            refine (HV.out _).mono ?_
            rintro e wv0 ⟨rfl, rfl⟩
            go_wp2_with fail
            refine (HGR.out _).mono ?_
            rintro e w2 ⟨hq, hb⟩
            have HB2 := Lib.hid (HB1.out.trans (hb.mono HB1.out.size))
            obtain ⟨vg, rfl, hr⟩ := hq
            obtain ⟨ga, gn, gc, rfl, hgi, hgn⟩ := Row.ints hr
            rw [nats_len, HM.out] at hgn
            have hgn2 := hgn.symm
            subst hgn2
            clear hgn
            obtain ⟨gb, go, hga, hgl, hgc⟩ := hgi.at (by omega)
            have hcg := hgc M1 (by omega)
            rw [nats_at (by have := HM.out; omega), HGA.out] at hcg
            subst hga
            clear hr hgi hgl hgc hb
            go_wp2_with fail
            refine (HX.out _).mono ?_
            rintro e w3 ⟨⟨vHX, cHX, rfl⟩, hb⟩
            have HB3 := Lib.hid (HB2.out.trans (hb.mono HB2.out.size))
            have hcgq := cell_later hcg hb
            clear hcg
            have hcg := hcgq
            clear hcgq
            clear hb
            go_wp2_with fail
            refine (HY.out _).mono ?_
            rintro e w4 ⟨⟨vHY, cHY, rfl⟩, hb⟩
            have HB4 := Lib.hid (HB3.out.trans (hb.mono HB3.out.size))
            have hcgq := cell_later hcg hb
            clear hcg
            have hcg := hcgq
            clear hcgq
            clear hb
            go_wp2_with fail
            refine (awake_any _).mono ?_
            rintro e w5 ⟨rfl, hb⟩
            have HB5 := Lib.hid (HB4.out.trans (hb.mono HB4.out.size))
            have hcgq := cell_later hcg hb
            clear hcg
            have hcg := hcgq
            clear hcgq
            clear hb
            go_wp2
            go_ret
            exact ⟨rfl, HB5.out⟩
    · have u1 : ¬ (M : Int) ≤ (t : Int) := by omega
      have u1d : decide ((M : Int) ≤ (t : Int)) = false := decide_eq_false u1
      clear hfew hp1
      by_cases ht3 : 3 < t
      · have k5 : (3 : Int) < (t : Int) := by omega
        have k5d : decide ((3 : Int) < (t : Int)) = true := decide_eq_true k5
        go_enter Try.func10, Try.ntmps10
        go_wp2_with fail
        refine (HG.out _).mono ?_
        rintro e w1 ⟨hq, hb⟩
        have HB1 := Lib.hid hb
        have he : e = .returned (.tuple #[.slice none 0 0, .int .i64 4]) := hq
        subst he
        clear hq hb
        go_wp2_with fail
        refine (HV.out _).mono ?_
        rintro e wv0 ⟨rfl, rfl⟩
        go_wp2_with fail
        refine (HGR.out _).mono ?_
        rintro e w2 ⟨hq, hb⟩
        have HB2 := Lib.hid (HB1.out.trans (hb.mono HB1.out.size))
        obtain ⟨vg, rfl, hr⟩ := hq
        obtain ⟨ga, gn, gc, rfl, hgi, hgn⟩ := Row.ints hr
        rw [nats_len, HM.out] at hgn
        have hgn2 := hgn.symm
        subst hgn2
        clear hgn
        obtain ⟨gb, go, hga, hgl, hgc⟩ := hgi.at (by omega)
        have hcg := hgc M1 (by omega)
        rw [nats_at (by have := HM.out; omega), HGA.out] at hcg
        subst hga
        clear hr hgi hgl hgc hb
        go_wp2_with fail
        refine (awake_any _).mono ?_
        rintro e w3 ⟨rfl, hb⟩
        have HB3 := Lib.hid (HB2.out.trans (hb.mono HB2.out.size))
        have hcgq := cell_later hcg hb
        clear hcg
        have hcg := hcgq
        clear hcgq
        clear hb
        go_wp2
        go_ret
        exact ⟨rfl, HB3.out⟩
      · have k5 : ¬ (3 : Int) < (t : Int) := by omega
        have k5d : decide ((3 : Int) < (t : Int)) = false := decide_eq_false k5
        by_cases hm3 : 299 < m
        · have k6 : (299 : Int) < (m : Int) := by omega
          have k6d : decide ((299 : Int) < (m : Int)) = true := decide_eq_true k6
          go_enter Try.func10, Try.ntmps10
          go_wp2_with fail
          refine (HG.out _).mono ?_
          rintro e w1 ⟨hq, hb⟩
          have HB1 := Lib.hid hb
          have he : e = .returned (.tuple #[.slice none 0 0, .int .i64 4]) := hq
          subst he
          clear hq hb
          go_wp2_with fail
          refine (HV.out _).mono ?_
          rintro e wv0 ⟨rfl, rfl⟩
          go_wp2_with fail
          refine (HGR.out _).mono ?_
          rintro e w2 ⟨hq, hb⟩
          have HB2 := Lib.hid (HB1.out.trans (hb.mono HB1.out.size))
          obtain ⟨vg, rfl, hr⟩ := hq
          obtain ⟨ga, gn, gc, rfl, hgi, hgn⟩ := Row.ints hr
          rw [nats_len, HM.out] at hgn
          have hgn2 := hgn.symm
          subst hgn2
          clear hgn
          obtain ⟨gb, go, hga, hgl, hgc⟩ := hgi.at (by omega)
          have hcg := hgc M1 (by omega)
          rw [nats_at (by have := HM.out; omega), HGA.out] at hcg
          subst hga
          clear hr hgi hgl hgc hb
          go_wp2_with fail
          refine (awake_any _).mono ?_
          rintro e w3 ⟨rfl, hb⟩
          have HB3 := Lib.hid (HB2.out.trans (hb.mono HB2.out.size))
          have hcgq := cell_later hcg hb
          clear hcg
          have hcg := hcgq
          clear hcgq
          clear hb
          go_wp2
          go_ret
          exact ⟨rfl, HB3.out⟩
        · have k6 : ¬ (299 : Int) < (m : Int) := by omega
          have k6d : decide ((299 : Int) < (m : Int)) = false := decide_eq_false k6
          have HX := Lib.hid (fun w => short_any x y (t + 1) m h1 h2 h3 (by omega) (by omega) (by omega) (by omega) w)
          have HY := Lib.hid (fun w => short_any x y t (m + 1) h1 h2 h3 (by omega) (by omega) (by omega) (by omega) w)
          go_enter Try.func10, Try.ntmps10
          go_wp2_with fail
          refine (HG.out _).mono ?_
          rintro e w1 ⟨hq, hb⟩
          have HB1 := Lib.hid hb
          have he : e = .returned (.tuple #[.slice none 0 0, .int .i64 4]) := hq
          subst he
          clear hq hb
          go_wp2_with fail
          refine (HV.out _).mono ?_
          rintro e wv0 ⟨rfl, rfl⟩
          go_wp2_with fail
          refine (HGR.out _).mono ?_
          rintro e w2 ⟨hq, hb⟩
          have HB2 := Lib.hid (HB1.out.trans (hb.mono HB1.out.size))
          obtain ⟨vg, rfl, hr⟩ := hq
          obtain ⟨ga, gn, gc, rfl, hgi, hgn⟩ := Row.ints hr
          rw [nats_len, HM.out] at hgn
          have hgn2 := hgn.symm
          subst hgn2
          clear hgn
          obtain ⟨gb, go, hga, hgl, hgc⟩ := hgi.at (by omega)
          have hcg := hgc M1 (by omega)
          rw [nats_at (by have := HM.out; omega), HGA.out] at hcg
          subst hga
          clear hr hgi hgl hgc hb
          go_wp2_with fail
          refine (HX.out _).mono ?_
          rintro e w3 ⟨⟨vHX, cHX, rfl⟩, hb⟩
          have HB3 := Lib.hid (HB2.out.trans (hb.mono HB2.out.size))
          have hcgq := cell_later hcg hb
          clear hcg
          have hcg := hcgq
          clear hcgq
          clear hb
          go_wp2_with fail
          refine (HY.out _).mono ?_
          rintro e w4 ⟨⟨vHY, cHY, rfl⟩, hb⟩
          have HB4 := Lib.hid (HB3.out.trans (hb.mono HB3.out.size))
          have hcgq := cell_later hcg hb
          clear hcg
          have hcg := hcgq
          clear hcgq
          clear hb
          go_wp2_with fail
          refine (awake_any _).mono ?_
          rintro e w5 ⟨rfl, hb⟩
          have HB5 := Lib.hid (HB4.out.trans (hb.mono HB4.out.size))
          have hcgq := cell_later hcg hb
          clear hcg
          have hcg := hcgq
          clear hcgq
          clear hb
          go_wp2
          go_ret
          exact ⟨rfl, HB5.out⟩

set_option maxHeartbeats 64000000 in
set_option maxRecDepth 100000 in
theorem few_some (x y t m : Nat) (h1 : 0 < x) (h2 : x < y) (h3 : y ≤ 60) (ht1 : 1 ≤ t) (ht : t ≤ 4) (hm2 : 2 ≤ m) (hm : m ≤ 300) (L : List Nat) (hS : shF m t x y = some L) (w : World) : Calls Try.prog 10 #[.int .i64 (x : Int), .int .i64 (y : Int), .int .i64 (t : Int), .int .i64 (m : Int)] w fun e w' => e = .returned (.bool true) ∧ Below w.heap.size w w' := by
  have hg := fun w => Short_yes x y t m h1 h2 h3 ht1 ht hm2 hm w
  rw [hS] at hg
  have hmo := few_more h1 h2 ht hm hS
  obtain ⟨f1, f2, f3, f4, f5, f6⟩ := shF_facts h1 h2 ht hm hS
  have HG := Lib.hid hg
  have HSH := Lib.hid hS
  have HMO := Lib.hid hmo
  have HCH := Lib.hid f5
  have hsh : isSh (x : Int) (y : Int) = true := isSh_spec.2 ⟨by omega, by omega, by omega⟩
  have HCK := Lib.hid (fun ad n c xs w h hn => Check_yes (x : Int) (y : Int) hsh ad n c xs w h hn)
  have hV := fun w => validR_any (x : Int) (y : Int) w
  rw [hsh] at hV
  have HV := Lib.hid hV
  obtain ⟨N, hN⟩ : ∃ N, L.length = N := ⟨_, rfl⟩
  rw [hN] at f3 f4
  obtain ⟨N1, hN1⟩ : ∃ N1, N = N1 + 1 := ⟨N - 1, by omega⟩
  have hla := f6 N1 (by omega)
  have hlx : L[N1]? = some (L.getD N1 0) := by
    have : N1 < L.length := by omega
    simp [List.getD, this]
  obtain ⟨la, hlae⟩ : ∃ la, L.getD N1 0 = la := ⟨_, rfl⟩
  rw [hlae] at hla hlx
  have HLA := Lib.hid hlx
  have HN := Lib.hid hN
  have n1 : ((N : Int) == 0) = false := by rw [beq_eq_false_iff_ne]; omega
  have n2 : (N : Int) - 1 = (N1 : Int) := by omega
  have n3 : (N1 : Int) < (N : Int) := by omega
  have n4 : (0 : Int) ≤ (N1 : Int) := by omega
  have n5 : (N : Int) ≤ 4 := by omega
  have n6 : ¬ (t : Int) < (N : Int) := by omega
  have n7 : ¬ (m : Int) < (la : Int) := by omega
  have N4 : N ≤ 4 := by omega
  clear hg hmo hS hV f1 f2 f5 f6 hN hN1 hlx hlae hsh
  cases hG : grd x x y with
  | none =>
    have hgr := fun w => Greedy_yes x y h1 h2 h3 w
    rw [hG] at hgr
    have HGR := Lib.hid hgr
    clear hgr hG
    by_cases ht3 : 3 < t
    · have k5 : (3 : Int) < (t : Int) := by omega
      have k5d : decide ((3 : Int) < (t : Int)) = true := decide_eq_true k5
      go_enter Try.func10, Try.ntmps10
      go_wp2_with fail
      refine (HG.out _).mono ?_
      rintro e w1 ⟨hq, hb⟩
      have HB1 := Lib.hid hb
      obtain ⟨gl, cl, rfl, hr⟩ := hq
      have hcl := Row.cell1 hr N1 la HLA.out
      have HLI := Lib.hid (Ints.own (show w1.ownsRow _ 3 1 (.slice (some ⟨gl, 0, none⟩) N cl) N ((nats L).map (Value.int .i64)) by have := hr; unfold Row at this; rw [nats_len, HN.out] at this; exact this)).1
      rw [HN.out]
      clear hr hb
      go_wp2_with fail
      refine (HV.out _).mono ?_
      rintro e wv0 ⟨rfl, rfl⟩
      go_wp2_with fail
      refine (HGR.out _).mono ?_
      rintro e w2 ⟨hq, hb⟩
      have HB2 := Lib.hid (HB1.out.trans (hb.mono HB1.out.size))
      have hclq := cell_later hcl hb
      clear hcl
      have hcl := hclq
      clear hclq
      have HLIq := Lib.hid (HLI.out.below hb)
      clear HLI
      have HLI := Lib.hid HLIq.out
      clear HLIq
      have he : e = .returned (.tuple #[.slice none 0 0, .int .i64 6]) := hq
      subst he
      clear hq hb
      go_wp2_with fail
      refine (clone_any (some ⟨gl, 0, none⟩) N cl (nats L) _ HLI.out (by omega)).mono ?_
      rintro e w3 ⟨ao, co, rfl, how, hc1, hc2, hb⟩
      have HB3 := Lib.hid (HB2.out.trans (hb.mono HB2.out.size))
      have HCI := Lib.hid (Ints.own how).1
      have hclq := cell_later hcl hb
      clear hcl
      have hcl := hclq
      clear hclq
      have HLIq := Lib.hid (HLI.out.below hb)
      clear HLI
      have HLI := Lib.hid HLIq.out
      clear HLIq
      clear how hc1 hc2 hb
      go_wp2_with fail
      refine (HCK.out ao N co (nats L) _ HCI.out (by omega)).mono ?_
      rintro e w4 ⟨rfl, hb⟩
      have HB4 := Lib.hid (HB3.out.trans (hb.mono HB3.out.size))
      have hclq := cell_later hcl hb
      clear hcl
      have hcl := hclq
      clear hclq
      have HLIq := Lib.hid (HLI.out.below hb)
      clear HLI
      have HLI := Lib.hid HLIq.out
      clear HLIq
      rw [HCH.out]
      clear hb
      go_wp2_with fail
      refine (awake_any _).mono ?_
      rintro e w5 ⟨rfl, hb⟩
      have HB5 := Lib.hid (HB4.out.trans (hb.mono HB4.out.size))
      have hclq := cell_later hcl hb
      clear hcl
      have hcl := hclq
      clear hclq
      have HLIq := Lib.hid (HLI.out.below hb)
      clear HLI
      have HLI := Lib.hid HLIq.out
      clear HLIq
      clear hb
      go_wp2
      go_ret
      exact ⟨rfl, HB5.out⟩
    · have k5 : ¬ (3 : Int) < (t : Int) := by omega
      have k5d : decide ((3 : Int) < (t : Int)) = false := decide_eq_false k5
      by_cases hm3 : 299 < m
      · have k6 : (299 : Int) < (m : Int) := by omega
        have k6d : decide ((299 : Int) < (m : Int)) = true := decide_eq_true k6
        go_enter Try.func10, Try.ntmps10
        go_wp2_with fail
        refine (HG.out _).mono ?_
        rintro e w1 ⟨hq, hb⟩
        have HB1 := Lib.hid hb
        obtain ⟨gl, cl, rfl, hr⟩ := hq
        have hcl := Row.cell1 hr N1 la HLA.out
        have HLI := Lib.hid (Ints.own (show w1.ownsRow _ 3 1 (.slice (some ⟨gl, 0, none⟩) N cl) N ((nats L).map (Value.int .i64)) by have := hr; unfold Row at this; rw [nats_len, HN.out] at this; exact this)).1
        rw [HN.out]
        clear hr hb
        go_wp2_with fail
        refine (HV.out _).mono ?_
        rintro e wv0 ⟨rfl, rfl⟩
        go_wp2_with fail
        refine (HGR.out _).mono ?_
        rintro e w2 ⟨hq, hb⟩
        have HB2 := Lib.hid (HB1.out.trans (hb.mono HB1.out.size))
        have hclq := cell_later hcl hb
        clear hcl
        have hcl := hclq
        clear hclq
        have HLIq := Lib.hid (HLI.out.below hb)
        clear HLI
        have HLI := Lib.hid HLIq.out
        clear HLIq
        have he : e = .returned (.tuple #[.slice none 0 0, .int .i64 6]) := hq
        subst he
        clear hq hb
        go_wp2_with fail
        refine (clone_any (some ⟨gl, 0, none⟩) N cl (nats L) _ HLI.out (by omega)).mono ?_
        rintro e w3 ⟨ao, co, rfl, how, hc1, hc2, hb⟩
        have HB3 := Lib.hid (HB2.out.trans (hb.mono HB2.out.size))
        have HCI := Lib.hid (Ints.own how).1
        have hclq := cell_later hcl hb
        clear hcl
        have hcl := hclq
        clear hclq
        have HLIq := Lib.hid (HLI.out.below hb)
        clear HLI
        have HLI := Lib.hid HLIq.out
        clear HLIq
        clear how hc1 hc2 hb
        go_wp2_with fail
        refine (HCK.out ao N co (nats L) _ HCI.out (by omega)).mono ?_
        rintro e w4 ⟨rfl, hb⟩
        have HB4 := Lib.hid (HB3.out.trans (hb.mono HB3.out.size))
        have hclq := cell_later hcl hb
        clear hcl
        have hcl := hclq
        clear hclq
        have HLIq := Lib.hid (HLI.out.below hb)
        clear HLI
        have HLI := Lib.hid HLIq.out
        clear HLIq
        rw [HCH.out]
        clear hb
        go_wp2_with fail
        refine (awake_any _).mono ?_
        rintro e w5 ⟨rfl, hb⟩
        have HB5 := Lib.hid (HB4.out.trans (hb.mono HB4.out.size))
        have hclq := cell_later hcl hb
        clear hcl
        have hcl := hclq
        clear hclq
        have HLIq := Lib.hid (HLI.out.below hb)
        clear HLI
        have HLI := Lib.hid HLIq.out
        clear HLIq
        clear hb
        go_wp2
        go_ret
        exact ⟨rfl, HB5.out⟩
      · have k6 : ¬ (299 : Int) < (m : Int) := by omega
        have k6d : decide ((299 : Int) < (m : Int)) = false := decide_eq_false k6
        have hx := fun w => Short_yes x y (t + 1) m h1 h2 h3 (by omega) (by omega) (by omega) (by omega) w
        rw [HMO.out.1] at hx
        have hyy := fun w => Short_yes x y t (m + 1) h1 h2 h3 (by omega) (by omega) (by omega) (by omega) w
        obtain ⟨Y, hY, hYl⟩ := HMO.out.2
        rw [hY] at hyy
        have HX := Lib.hid hx
        have HY := Lib.hid hyy
        obtain ⟨YN, hYN⟩ : ∃ YN, Y.length = YN := ⟨_, rfl⟩
        have HYN := Lib.hid hYN
        have y1 : (YN : Int) ≤ (N : Int) := by have := HN.out; omega
        clear hx hyy hY hYl hYN
        go_enter Try.func10, Try.ntmps10
        go_wp2_with fail
        refine (HG.out _).mono ?_
        rintro e w1 ⟨hq, hb⟩
        have HB1 := Lib.hid hb
        obtain ⟨gl, cl, rfl, hr⟩ := hq
        have hcl := Row.cell1 hr N1 la HLA.out
        have HLI := Lib.hid (Ints.own (show w1.ownsRow _ 3 1 (.slice (some ⟨gl, 0, none⟩) N cl) N ((nats L).map (Value.int .i64)) by have := hr; unfold Row at this; rw [nats_len, HN.out] at this; exact this)).1
        rw [HN.out]
        clear hr hb
        go_wp2_with fail
        refine (HV.out _).mono ?_
        rintro e wv0 ⟨rfl, rfl⟩
        go_wp2_with fail
        refine (HGR.out _).mono ?_
        rintro e w2 ⟨hq, hb⟩
        have HB2 := Lib.hid (HB1.out.trans (hb.mono HB1.out.size))
        have hclq := cell_later hcl hb
        clear hcl
        have hcl := hclq
        clear hclq
        have HLIq := Lib.hid (HLI.out.below hb)
        clear HLI
        have HLI := Lib.hid HLIq.out
        clear HLIq
        have he : e = .returned (.tuple #[.slice none 0 0, .int .i64 6]) := hq
        subst he
        clear hq hb
        go_wp2_with fail
        refine (clone_any (some ⟨gl, 0, none⟩) N cl (nats L) _ HLI.out (by omega)).mono ?_
        rintro e w3 ⟨ao, co, rfl, how, hc1, hc2, hb⟩
        have HB3 := Lib.hid (HB2.out.trans (hb.mono HB2.out.size))
        have HCI := Lib.hid (Ints.own how).1
        have hclq := cell_later hcl hb
        clear hcl
        have hcl := hclq
        clear hclq
        have HLIq := Lib.hid (HLI.out.below hb)
        clear HLI
        have HLI := Lib.hid HLIq.out
        clear HLIq
        clear how hc1 hc2 hb
        go_wp2_with fail
        refine (HCK.out ao N co (nats L) _ HCI.out (by omega)).mono ?_
        rintro e w4 ⟨rfl, hb⟩
        have HB4 := Lib.hid (HB3.out.trans (hb.mono HB3.out.size))
        have hclq := cell_later hcl hb
        clear hcl
        have hcl := hclq
        clear hclq
        have HLIq := Lib.hid (HLI.out.below hb)
        clear HLI
        have HLI := Lib.hid HLIq.out
        clear HLIq
        rw [HCH.out]
        clear hb
        go_wp2_with fail
        refine (HX.out _).mono ?_
        rintro e w5 ⟨hq, hb⟩
        have HB5 := Lib.hid (HB4.out.trans (hb.mono HB4.out.size))
        have hclq := cell_later hcl hb
        clear hcl
        have hcl := hclq
        clear hclq
        have HLIq := Lib.hid (HLI.out.below hb)
        clear HLI
        have HLI := Lib.hid HLIq.out
        clear HLIq
        obtain ⟨gx, cx, rfl, hrx⟩ := hq
        rw [HN.out]
        have HXI := Lib.hid (Ints.own (show w5.ownsRow _ 3 1 (.slice (some ⟨gx, 0, none⟩) L.length cx) L.length ((nats L).map (Value.int .i64)) by have := hrx; unfold Row at this; rw [nats_len] at this; exact this)).1
        clear hrx hb
        go_wp2_with fail
        refine (HY.out _).mono ?_
        rintro e w6 ⟨hq, hb⟩
        have HB6 := Lib.hid (HB5.out.trans (hb.mono HB5.out.size))
        have hclq := cell_later hcl hb
        clear hcl
        have hcl := hclq
        clear hclq
        have HLIq := Lib.hid (HLI.out.below hb)
        clear HLI
        have HLI := Lib.hid HLIq.out
        clear HLIq
        have HXIq := Lib.hid (HXI.out.below hb)
        clear HXI
        have HXI := Lib.hid HXIq.out
        clear HXIq
        obtain ⟨gy, cy, rfl, hry⟩ := hq
        rw [HYN.out]
        clear hry hb
        go_wp2_with fail
        refine (equal_any (some ⟨gx, 0, none⟩) (some ⟨gl, 0, none⟩) N N cx cl (nats L) (nats L) _ (by have := HXI.out; rw [HN.out] at this; exact this) HLI.out (by omega) (by omega)).mono ?_
        rintro e wz ⟨rfl, q, rfl⟩
        have hq : (nats L == nats L) = true := by simp
        rw [hq]
        clear hq
        have HBz := Lib.hid (below_drewN HB6.out q)
        obtain ⟨wy, hwy⟩ : ∃ wy, w6.drewN q = wy := ⟨_, rfl⟩
        rw [hwy] at HBz ⊢
        clear hwy
        go_wp2_with fail
        refine (awake_any _).mono ?_
        rintro e wv ⟨rfl, hb⟩
        have HBv := Lib.hid (HBz.out.trans (hb.mono HBz.out.size))
        clear hb
        go_wp2
        go_ret
        exact ⟨rfl, HBv.out⟩
  | some G =>
    have hgr := fun w => Greedy_yes x y h1 h2 h3 w
    rw [hG] at hgr
    have HGR := Lib.hid hgr
    have hgf := grd_facts h1 h2 hG
    have hfew := fun k1 k2 => few_le (m := m) (t := t) h1 h2 hG k1 k2
    have hgl1 := hgf.len1
    have hgl2 := hgf.len2
    have hgel := (hgf.el (G.length - 1) (by omega)).2
    obtain ⟨M, hM⟩ : ∃ M, G.length = M := ⟨_, rfl⟩
    rw [hM] at hgl1 hgl2 hfew hgel
    obtain ⟨M1, hM1⟩ : ∃ M1, M = M1 + 1 := ⟨M - 1, by omega⟩
    have hM2 : M - 1 = M1 := by omega
    rw [hM2] at hfew hgel
    obtain ⟨ga, hga⟩ : ∃ ga, G.getD M1 0 = ga := ⟨_, rfl⟩
    rw [hga] at hfew hgel
    have HM := Lib.hid hM
    have HGA := Lib.hid hga
    have z1 : ((M : Int) == 0) = false := by rw [beq_eq_false_iff_ne]; omega
    have z2 : (M : Int) - 1 = (M1 : Int) := by omega
    have z3 : (M1 : Int) < (M : Int) := by omega
    have z4 : (0 : Int) ≤ (M1 : Int) := by omega
    have z5 : (M : Int) ≤ 60 := by omega
    have M60 : M ≤ 60 := by omega
    have M1M : M1 < M := by omega
    clear hgr hG hgf hgl1 hgl2 hM hM1 hM2 hga
    by_cases hp1 : M ≤ t
    · have u1 : (M : Int) ≤ (t : Int) := by omega
      have u1d : decide ((M : Int) ≤ (t : Int)) = true := decide_eq_true u1
      by_cases hp2 : ga ≤ m
      · have u2 : (ga : Int) ≤ (m : Int) := by omega
        have u2d : decide ((ga : Int) ≤ (m : Int)) = true := decide_eq_true u2
        have u3 : ¬ (M : Int) < (N : Int) := by
          obtain ⟨L', q1, q2⟩ := hfew hp1 hp2
          rw [HSH.out] at q1
          cases q1
          have := HN.out
          omega
        have u3d : decide ((M : Int) < (N : Int)) = false := decide_eq_false u3
        clear hfew hp1 hp2
        by_cases ht3 : 3 < t
        · have k5 : (3 : Int) < (t : Int) := by omega
          have k5d : decide ((3 : Int) < (t : Int)) = true := decide_eq_true k5
          go_enter Try.func10, Try.ntmps10
          go_wp2_with fail
          refine (HG.out _).mono ?_
          rintro e w1 ⟨hq, hb⟩
          have HB1 := Lib.hid hb
          obtain ⟨gl, cl, rfl, hr⟩ := hq
          have hcl := Row.cell1 hr N1 la HLA.out
          have HLI := Lib.hid (Ints.own (show w1.ownsRow _ 3 1 (.slice (some ⟨gl, 0, none⟩) N cl) N ((nats L).map (Value.int .i64)) by have := hr; unfold Row at this; rw [nats_len, HN.out] at this; exact this)).1
          rw [HN.out]
          clear hr hb
          go_wp2_with fail
          refine (HV.out _).mono ?_
          rintro e wv0 ⟨rfl, rfl⟩
          go_wp2_with fail
          refine (HGR.out _).mono ?_
          rintro e w2 ⟨hq, hb⟩
          have HB2 := Lib.hid (HB1.out.trans (hb.mono HB1.out.size))
          have hclq := cell_later hcl hb
          clear hcl
          have hcl := hclq
          clear hclq
          have HLIq := Lib.hid (HLI.out.below hb)
          clear HLI
          have HLI := Lib.hid HLIq.out
          clear HLIq
          obtain ⟨vg, rfl, hr⟩ := hq
          obtain ⟨ga, gn, gc, rfl, hgi, hgn⟩ := Row.ints hr
          rw [nats_len, HM.out] at hgn
          have hgn2 := hgn.symm
          subst hgn2
          clear hgn
          obtain ⟨gb, go, hga, hgl, hgc⟩ := hgi.at (by omega)
          have hcg := hgc M1 (by omega)
          rw [nats_at (by have := HM.out; omega), HGA.out] at hcg
          subst hga
          clear hr hgi hgl hgc hb
          go_wp2_with fail
          refine (clone_any (some ⟨gl, 0, none⟩) N cl (nats L) _ HLI.out (by omega)).mono ?_
          rintro e w3 ⟨ao, co, rfl, how, hc1, hc2, hb⟩
          have HB3 := Lib.hid (HB2.out.trans (hb.mono HB2.out.size))
          have HCI := Lib.hid (Ints.own how).1
          have hclq := cell_later hcl hb
          clear hcl
          have hcl := hclq
          clear hclq
          have HLIq := Lib.hid (HLI.out.below hb)
          clear HLI
          have HLI := Lib.hid HLIq.out
          clear HLIq
          have hcgq := cell_later hcg hb
          clear hcg
          have hcg := hcgq
          clear hcgq
          clear how hc1 hc2 hb
          go_wp2_with fail
          refine (HCK.out ao N co (nats L) _ HCI.out (by omega)).mono ?_
          rintro e w4 ⟨rfl, hb⟩
          have HB4 := Lib.hid (HB3.out.trans (hb.mono HB3.out.size))
          have hclq := cell_later hcl hb
          clear hcl
          have hcl := hclq
          clear hclq
          have HLIq := Lib.hid (HLI.out.below hb)
          clear HLI
          have HLI := Lib.hid HLIq.out
          clear HLIq
          have hcgq := cell_later hcg hb
          clear hcg
          have hcg := hcgq
          clear hcgq
          rw [HCH.out]
          clear hb
          go_wp2_with fail
          refine (awake_any _).mono ?_
          rintro e w5 ⟨rfl, hb⟩
          have HB5 := Lib.hid (HB4.out.trans (hb.mono HB4.out.size))
          have hclq := cell_later hcl hb
          clear hcl
          have hcl := hclq
          clear hclq
          have HLIq := Lib.hid (HLI.out.below hb)
          clear HLI
          have HLI := Lib.hid HLIq.out
          clear HLIq
          have hcgq := cell_later hcg hb
          clear hcg
          have hcg := hcgq
          clear hcgq
          clear hb
          go_wp2
          go_ret
          exact ⟨rfl, HB5.out⟩
        · have k5 : ¬ (3 : Int) < (t : Int) := by omega
          have k5d : decide ((3 : Int) < (t : Int)) = false := decide_eq_false k5
          by_cases hm3 : 299 < m
          · have k6 : (299 : Int) < (m : Int) := by omega
            have k6d : decide ((299 : Int) < (m : Int)) = true := decide_eq_true k6
            go_enter Try.func10, Try.ntmps10
            go_wp2_with fail
            refine (HG.out _).mono ?_
            rintro e w1 ⟨hq, hb⟩
            have HB1 := Lib.hid hb
            obtain ⟨gl, cl, rfl, hr⟩ := hq
            have hcl := Row.cell1 hr N1 la HLA.out
            have HLI := Lib.hid (Ints.own (show w1.ownsRow _ 3 1 (.slice (some ⟨gl, 0, none⟩) N cl) N ((nats L).map (Value.int .i64)) by have := hr; unfold Row at this; rw [nats_len, HN.out] at this; exact this)).1
            rw [HN.out]
            clear hr hb
            go_wp2_with fail
            refine (HV.out _).mono ?_
            rintro e wv0 ⟨rfl, rfl⟩
            go_wp2_with fail
            refine (HGR.out _).mono ?_
            rintro e w2 ⟨hq, hb⟩
            have HB2 := Lib.hid (HB1.out.trans (hb.mono HB1.out.size))
            have hclq := cell_later hcl hb
            clear hcl
            have hcl := hclq
            clear hclq
            have HLIq := Lib.hid (HLI.out.below hb)
            clear HLI
            have HLI := Lib.hid HLIq.out
            clear HLIq
            obtain ⟨vg, rfl, hr⟩ := hq
            obtain ⟨ga, gn, gc, rfl, hgi, hgn⟩ := Row.ints hr
            rw [nats_len, HM.out] at hgn
            have hgn2 := hgn.symm
            subst hgn2
            clear hgn
            obtain ⟨gb, go, hga, hgl, hgc⟩ := hgi.at (by omega)
            have hcg := hgc M1 (by omega)
            rw [nats_at (by have := HM.out; omega), HGA.out] at hcg
            subst hga
            clear hr hgi hgl hgc hb
            go_wp2_with fail
            refine (clone_any (some ⟨gl, 0, none⟩) N cl (nats L) _ HLI.out (by omega)).mono ?_
            rintro e w3 ⟨ao, co, rfl, how, hc1, hc2, hb⟩
            have HB3 := Lib.hid (HB2.out.trans (hb.mono HB2.out.size))
            have HCI := Lib.hid (Ints.own how).1
            have hclq := cell_later hcl hb
            clear hcl
            have hcl := hclq
            clear hclq
            have HLIq := Lib.hid (HLI.out.below hb)
            clear HLI
            have HLI := Lib.hid HLIq.out
            clear HLIq
            have hcgq := cell_later hcg hb
            clear hcg
            have hcg := hcgq
            clear hcgq
            clear how hc1 hc2 hb
            go_wp2_with fail
            refine (HCK.out ao N co (nats L) _ HCI.out (by omega)).mono ?_
            rintro e w4 ⟨rfl, hb⟩
            have HB4 := Lib.hid (HB3.out.trans (hb.mono HB3.out.size))
            have hclq := cell_later hcl hb
            clear hcl
            have hcl := hclq
            clear hclq
            have HLIq := Lib.hid (HLI.out.below hb)
            clear HLI
            have HLI := Lib.hid HLIq.out
            clear HLIq
            have hcgq := cell_later hcg hb
            clear hcg
            have hcg := hcgq
            clear hcgq
            rw [HCH.out]
            clear hb
            go_wp2_with fail
            refine (awake_any _).mono ?_
            rintro e w5 ⟨rfl, hb⟩
            have HB5 := Lib.hid (HB4.out.trans (hb.mono HB4.out.size))
            have hclq := cell_later hcl hb
            clear hcl
            have hcl := hclq
            clear hclq
            have HLIq := Lib.hid (HLI.out.below hb)
            clear HLI
            have HLI := Lib.hid HLIq.out
            clear HLIq
            have hcgq := cell_later hcg hb
            clear hcg
            have hcg := hcgq
            clear hcgq
            clear hb
            go_wp2
            go_ret
            exact ⟨rfl, HB5.out⟩
          · have k6 : ¬ (299 : Int) < (m : Int) := by omega
            have k6d : decide ((299 : Int) < (m : Int)) = false := decide_eq_false k6
            have hx := fun w => Short_yes x y (t + 1) m h1 h2 h3 (by omega) (by omega) (by omega) (by omega) w
            rw [HMO.out.1] at hx
            have hyy := fun w => Short_yes x y t (m + 1) h1 h2 h3 (by omega) (by omega) (by omega) (by omega) w
            obtain ⟨Y, hY, hYl⟩ := HMO.out.2
            rw [hY] at hyy
            have HX := Lib.hid hx
            have HY := Lib.hid hyy
            obtain ⟨YN, hYN⟩ : ∃ YN, Y.length = YN := ⟨_, rfl⟩
            have HYN := Lib.hid hYN
            have y1 : (YN : Int) ≤ (N : Int) := by have := HN.out; omega
            clear hx hyy hY hYl hYN
            go_enter Try.func10, Try.ntmps10
            go_wp2_with fail
            refine (HG.out _).mono ?_
            rintro e w1 ⟨hq, hb⟩
            have HB1 := Lib.hid hb
            obtain ⟨gl, cl, rfl, hr⟩ := hq
            have hcl := Row.cell1 hr N1 la HLA.out
            have HLI := Lib.hid (Ints.own (show w1.ownsRow _ 3 1 (.slice (some ⟨gl, 0, none⟩) N cl) N ((nats L).map (Value.int .i64)) by have := hr; unfold Row at this; rw [nats_len, HN.out] at this; exact this)).1
            rw [HN.out]
            clear hr hb
            go_wp2_with fail
            refine (HV.out _).mono ?_
            rintro e wv0 ⟨rfl, rfl⟩
            go_wp2_with fail
            refine (HGR.out _).mono ?_
            rintro e w2 ⟨hq, hb⟩
            have HB2 := Lib.hid (HB1.out.trans (hb.mono HB1.out.size))
            have hclq := cell_later hcl hb
            clear hcl
            have hcl := hclq
            clear hclq
            have HLIq := Lib.hid (HLI.out.below hb)
            clear HLI
            have HLI := Lib.hid HLIq.out
            clear HLIq
            obtain ⟨vg, rfl, hr⟩ := hq
            obtain ⟨ga, gn, gc, rfl, hgi, hgn⟩ := Row.ints hr
            rw [nats_len, HM.out] at hgn
            have hgn2 := hgn.symm
            subst hgn2
            clear hgn
            obtain ⟨gb, go, hga, hgl, hgc⟩ := hgi.at (by omega)
            have hcg := hgc M1 (by omega)
            rw [nats_at (by have := HM.out; omega), HGA.out] at hcg
            subst hga
            clear hr hgi hgl hgc hb
            go_wp2_with fail
            refine (clone_any (some ⟨gl, 0, none⟩) N cl (nats L) _ HLI.out (by omega)).mono ?_
            rintro e w3 ⟨ao, co, rfl, how, hc1, hc2, hb⟩
            have HB3 := Lib.hid (HB2.out.trans (hb.mono HB2.out.size))
            have HCI := Lib.hid (Ints.own how).1
            have hclq := cell_later hcl hb
            clear hcl
            have hcl := hclq
            clear hclq
            have HLIq := Lib.hid (HLI.out.below hb)
            clear HLI
            have HLI := Lib.hid HLIq.out
            clear HLIq
            have hcgq := cell_later hcg hb
            clear hcg
            have hcg := hcgq
            clear hcgq
            clear how hc1 hc2 hb
            go_wp2_with fail
            refine (HCK.out ao N co (nats L) _ HCI.out (by omega)).mono ?_
            rintro e w4 ⟨rfl, hb⟩
            have HB4 := Lib.hid (HB3.out.trans (hb.mono HB3.out.size))
            have hclq := cell_later hcl hb
            clear hcl
            have hcl := hclq
            clear hclq
            have HLIq := Lib.hid (HLI.out.below hb)
            clear HLI
            have HLI := Lib.hid HLIq.out
            clear HLIq
            have hcgq := cell_later hcg hb
            clear hcg
            have hcg := hcgq
            clear hcgq
            rw [HCH.out]
            clear hb
            go_wp2_with fail
            refine (HX.out _).mono ?_
            rintro e w5 ⟨hq, hb⟩
            have HB5 := Lib.hid (HB4.out.trans (hb.mono HB4.out.size))
            have hclq := cell_later hcl hb
            clear hcl
            have hcl := hclq
            clear hclq
            have HLIq := Lib.hid (HLI.out.below hb)
            clear HLI
            have HLI := Lib.hid HLIq.out
            clear HLIq
            have hcgq := cell_later hcg hb
            clear hcg
            have hcg := hcgq
            clear hcgq
            obtain ⟨gx, cx, rfl, hrx⟩ := hq
            rw [HN.out]
            have HXI := Lib.hid (Ints.own (show w5.ownsRow _ 3 1 (.slice (some ⟨gx, 0, none⟩) L.length cx) L.length ((nats L).map (Value.int .i64)) by have := hrx; unfold Row at this; rw [nats_len] at this; exact this)).1
            clear hrx hb
            go_wp2_with fail
            refine (HY.out _).mono ?_
            rintro e w6 ⟨hq, hb⟩
            have HB6 := Lib.hid (HB5.out.trans (hb.mono HB5.out.size))
            have hclq := cell_later hcl hb
            clear hcl
            have hcl := hclq
            clear hclq
            have HLIq := Lib.hid (HLI.out.below hb)
            clear HLI
            have HLI := Lib.hid HLIq.out
            clear HLIq
            have hcgq := cell_later hcg hb
            clear hcg
            have hcg := hcgq
            clear hcgq
            have HXIq := Lib.hid (HXI.out.below hb)
            clear HXI
            have HXI := Lib.hid HXIq.out
            clear HXIq
            obtain ⟨gy, cy, rfl, hry⟩ := hq
            rw [HYN.out]
            clear hry hb
            go_wp2_with fail
            refine (equal_any (some ⟨gx, 0, none⟩) (some ⟨gl, 0, none⟩) N N cx cl (nats L) (nats L) _ (by have := HXI.out; rw [HN.out] at this; exact this) HLI.out (by omega) (by omega)).mono ?_
            rintro e wz ⟨rfl, q, rfl⟩
            have hq : (nats L == nats L) = true := by simp
            rw [hq]
            clear hq
            have HBz := Lib.hid (below_drewN HB6.out q)
            obtain ⟨wy, hwy⟩ : ∃ wy, w6.drewN q = wy := ⟨_, rfl⟩
            rw [hwy] at HBz ⊢
            clear hwy
            go_wp2_with fail
            refine (awake_any _).mono ?_
            rintro e wv ⟨rfl, hb⟩
            have HBv := Lib.hid (HBz.out.trans (hb.mono HBz.out.size))
            clear hb
            go_wp2
            go_ret
            exact ⟨rfl, HBv.out⟩
      · have u2 : ¬ (ga : Int) ≤ (m : Int) := by omega
        have u2d : decide ((ga : Int) ≤ (m : Int)) = false := decide_eq_false u2
        clear hfew hp1 hp2
        by_cases ht3 : 3 < t
        · have k5 : (3 : Int) < (t : Int) := by omega
          have k5d : decide ((3 : Int) < (t : Int)) = true := decide_eq_true k5
          go_enter Try.func10, Try.ntmps10
          go_wp2_with fail
          refine (HG.out _).mono ?_
          rintro e w1 ⟨hq, hb⟩
          have HB1 := Lib.hid hb
          obtain ⟨gl, cl, rfl, hr⟩ := hq
          have hcl := Row.cell1 hr N1 la HLA.out
          have HLI := Lib.hid (Ints.own (show w1.ownsRow _ 3 1 (.slice (some ⟨gl, 0, none⟩) N cl) N ((nats L).map (Value.int .i64)) by have := hr; unfold Row at this; rw [nats_len, HN.out] at this; exact this)).1
          rw [HN.out]
          clear hr hb
          go_wp2_with fail
          refine (HV.out _).mono ?_
          rintro e wv0 ⟨rfl, rfl⟩
          go_wp2_with fail
          refine (HGR.out _).mono ?_
          rintro e w2 ⟨hq, hb⟩
          have HB2 := Lib.hid (HB1.out.trans (hb.mono HB1.out.size))
          have hclq := cell_later hcl hb
          clear hcl
          have hcl := hclq
          clear hclq
          have HLIq := Lib.hid (HLI.out.below hb)
          clear HLI
          have HLI := Lib.hid HLIq.out
          clear HLIq
          obtain ⟨vg, rfl, hr⟩ := hq
          obtain ⟨ga, gn, gc, rfl, hgi, hgn⟩ := Row.ints hr
          rw [nats_len, HM.out] at hgn
          have hgn2 := hgn.symm
          subst hgn2
          clear hgn
          obtain ⟨gb, go, hga, hgl, hgc⟩ := hgi.at (by omega)
          have hcg := hgc M1 (by omega)
          rw [nats_at (by have := HM.out; omega), HGA.out] at hcg
          subst hga
          clear hr hgi hgl hgc hb
          go_wp2_with fail
          refine (clone_any (some ⟨gl, 0, none⟩) N cl (nats L) _ HLI.out (by omega)).mono ?_
          rintro e w3 ⟨ao, co, rfl, how, hc1, hc2, hb⟩
          have HB3 := Lib.hid (HB2.out.trans (hb.mono HB2.out.size))
          have HCI := Lib.hid (Ints.own how).1
          have hclq := cell_later hcl hb
          clear hcl
          have hcl := hclq
          clear hclq
          have HLIq := Lib.hid (HLI.out.below hb)
          clear HLI
          have HLI := Lib.hid HLIq.out
          clear HLIq
          have hcgq := cell_later hcg hb
          clear hcg
          have hcg := hcgq
          clear hcgq
          clear how hc1 hc2 hb
          go_wp2_with fail
          refine (HCK.out ao N co (nats L) _ HCI.out (by omega)).mono ?_
          rintro e w4 ⟨rfl, hb⟩
          have HB4 := Lib.hid (HB3.out.trans (hb.mono HB3.out.size))
          have hclq := cell_later hcl hb
          clear hcl
          have hcl := hclq
          clear hclq
          have HLIq := Lib.hid (HLI.out.below hb)
          clear HLI
          have HLI := Lib.hid HLIq.out
          clear HLIq
          have hcgq := cell_later hcg hb
          clear hcg
          have hcg := hcgq
          clear hcgq
          rw [HCH.out]
          clear hb
          go_wp2_with fail
          refine (awake_any _).mono ?_
          rintro e w5 ⟨rfl, hb⟩
          have HB5 := Lib.hid (HB4.out.trans (hb.mono HB4.out.size))
          have hclq := cell_later hcl hb
          clear hcl
          have hcl := hclq
          clear hclq
          have HLIq := Lib.hid (HLI.out.below hb)
          clear HLI
          have HLI := Lib.hid HLIq.out
          clear HLIq
          have hcgq := cell_later hcg hb
          clear hcg
          have hcg := hcgq
          clear hcgq
          clear hb
          go_wp2
          go_ret
          exact ⟨rfl, HB5.out⟩
        · have k5 : ¬ (3 : Int) < (t : Int) := by omega
          have k5d : decide ((3 : Int) < (t : Int)) = false := decide_eq_false k5
          by_cases hm3 : 299 < m
          · have k6 : (299 : Int) < (m : Int) := by omega
            have k6d : decide ((299 : Int) < (m : Int)) = true := decide_eq_true k6
            go_enter Try.func10, Try.ntmps10
            go_wp2_with fail
            refine (HG.out _).mono ?_
            rintro e w1 ⟨hq, hb⟩
            have HB1 := Lib.hid hb
            obtain ⟨gl, cl, rfl, hr⟩ := hq
            have hcl := Row.cell1 hr N1 la HLA.out
            have HLI := Lib.hid (Ints.own (show w1.ownsRow _ 3 1 (.slice (some ⟨gl, 0, none⟩) N cl) N ((nats L).map (Value.int .i64)) by have := hr; unfold Row at this; rw [nats_len, HN.out] at this; exact this)).1
            rw [HN.out]
            clear hr hb
            go_wp2_with fail
            refine (HV.out _).mono ?_
            rintro e wv0 ⟨rfl, rfl⟩
            go_wp2_with fail
            refine (HGR.out _).mono ?_
            rintro e w2 ⟨hq, hb⟩
            have HB2 := Lib.hid (HB1.out.trans (hb.mono HB1.out.size))
            have hclq := cell_later hcl hb
            clear hcl
            have hcl := hclq
            clear hclq
            have HLIq := Lib.hid (HLI.out.below hb)
            clear HLI
            have HLI := Lib.hid HLIq.out
            clear HLIq
            obtain ⟨vg, rfl, hr⟩ := hq
            obtain ⟨ga, gn, gc, rfl, hgi, hgn⟩ := Row.ints hr
            rw [nats_len, HM.out] at hgn
            have hgn2 := hgn.symm
            subst hgn2
            clear hgn
            obtain ⟨gb, go, hga, hgl, hgc⟩ := hgi.at (by omega)
            have hcg := hgc M1 (by omega)
            rw [nats_at (by have := HM.out; omega), HGA.out] at hcg
            subst hga
            clear hr hgi hgl hgc hb
            go_wp2_with fail
            refine (clone_any (some ⟨gl, 0, none⟩) N cl (nats L) _ HLI.out (by omega)).mono ?_
            rintro e w3 ⟨ao, co, rfl, how, hc1, hc2, hb⟩
            have HB3 := Lib.hid (HB2.out.trans (hb.mono HB2.out.size))
            have HCI := Lib.hid (Ints.own how).1
            have hclq := cell_later hcl hb
            clear hcl
            have hcl := hclq
            clear hclq
            have HLIq := Lib.hid (HLI.out.below hb)
            clear HLI
            have HLI := Lib.hid HLIq.out
            clear HLIq
            have hcgq := cell_later hcg hb
            clear hcg
            have hcg := hcgq
            clear hcgq
            clear how hc1 hc2 hb
            go_wp2_with fail
            refine (HCK.out ao N co (nats L) _ HCI.out (by omega)).mono ?_
            rintro e w4 ⟨rfl, hb⟩
            have HB4 := Lib.hid (HB3.out.trans (hb.mono HB3.out.size))
            have hclq := cell_later hcl hb
            clear hcl
            have hcl := hclq
            clear hclq
            have HLIq := Lib.hid (HLI.out.below hb)
            clear HLI
            have HLI := Lib.hid HLIq.out
            clear HLIq
            have hcgq := cell_later hcg hb
            clear hcg
            have hcg := hcgq
            clear hcgq
            rw [HCH.out]
            clear hb
            go_wp2_with fail
            refine (awake_any _).mono ?_
            rintro e w5 ⟨rfl, hb⟩
            have HB5 := Lib.hid (HB4.out.trans (hb.mono HB4.out.size))
            have hclq := cell_later hcl hb
            clear hcl
            have hcl := hclq
            clear hclq
            have HLIq := Lib.hid (HLI.out.below hb)
            clear HLI
            have HLI := Lib.hid HLIq.out
            clear HLIq
            have hcgq := cell_later hcg hb
            clear hcg
            have hcg := hcgq
            clear hcgq
            clear hb
            go_wp2
            go_ret
            exact ⟨rfl, HB5.out⟩
          · have k6 : ¬ (299 : Int) < (m : Int) := by omega
            have k6d : decide ((299 : Int) < (m : Int)) = false := decide_eq_false k6
            have hx := fun w => Short_yes x y (t + 1) m h1 h2 h3 (by omega) (by omega) (by omega) (by omega) w
            rw [HMO.out.1] at hx
            have hyy := fun w => Short_yes x y t (m + 1) h1 h2 h3 (by omega) (by omega) (by omega) (by omega) w
            obtain ⟨Y, hY, hYl⟩ := HMO.out.2
            rw [hY] at hyy
            have HX := Lib.hid hx
            have HY := Lib.hid hyy
            obtain ⟨YN, hYN⟩ : ∃ YN, Y.length = YN := ⟨_, rfl⟩
            have HYN := Lib.hid hYN
            have y1 : (YN : Int) ≤ (N : Int) := by have := HN.out; omega
            clear hx hyy hY hYl hYN
            go_enter Try.func10, Try.ntmps10
            go_wp2_with fail
            refine (HG.out _).mono ?_
            rintro e w1 ⟨hq, hb⟩
            have HB1 := Lib.hid hb
            obtain ⟨gl, cl, rfl, hr⟩ := hq
            have hcl := Row.cell1 hr N1 la HLA.out
            have HLI := Lib.hid (Ints.own (show w1.ownsRow _ 3 1 (.slice (some ⟨gl, 0, none⟩) N cl) N ((nats L).map (Value.int .i64)) by have := hr; unfold Row at this; rw [nats_len, HN.out] at this; exact this)).1
            rw [HN.out]
            clear hr hb
            go_wp2_with fail
            refine (HV.out _).mono ?_
            rintro e wv0 ⟨rfl, rfl⟩
            go_wp2_with fail
            refine (HGR.out _).mono ?_
            rintro e w2 ⟨hq, hb⟩
            have HB2 := Lib.hid (HB1.out.trans (hb.mono HB1.out.size))
            have hclq := cell_later hcl hb
            clear hcl
            have hcl := hclq
            clear hclq
            have HLIq := Lib.hid (HLI.out.below hb)
            clear HLI
            have HLI := Lib.hid HLIq.out
            clear HLIq
            obtain ⟨vg, rfl, hr⟩ := hq
            obtain ⟨ga, gn, gc, rfl, hgi, hgn⟩ := Row.ints hr
            rw [nats_len, HM.out] at hgn
            have hgn2 := hgn.symm
            subst hgn2
            clear hgn
            obtain ⟨gb, go, hga, hgl, hgc⟩ := hgi.at (by omega)
            have hcg := hgc M1 (by omega)
            rw [nats_at (by have := HM.out; omega), HGA.out] at hcg
            subst hga
            clear hr hgi hgl hgc hb
            go_wp2_with fail
            refine (clone_any (some ⟨gl, 0, none⟩) N cl (nats L) _ HLI.out (by omega)).mono ?_
            rintro e w3 ⟨ao, co, rfl, how, hc1, hc2, hb⟩
            have HB3 := Lib.hid (HB2.out.trans (hb.mono HB2.out.size))
            have HCI := Lib.hid (Ints.own how).1
            have hclq := cell_later hcl hb
            clear hcl
            have hcl := hclq
            clear hclq
            have HLIq := Lib.hid (HLI.out.below hb)
            clear HLI
            have HLI := Lib.hid HLIq.out
            clear HLIq
            have hcgq := cell_later hcg hb
            clear hcg
            have hcg := hcgq
            clear hcgq
            clear how hc1 hc2 hb
            go_wp2_with fail
            refine (HCK.out ao N co (nats L) _ HCI.out (by omega)).mono ?_
            rintro e w4 ⟨rfl, hb⟩
            have HB4 := Lib.hid (HB3.out.trans (hb.mono HB3.out.size))
            have hclq := cell_later hcl hb
            clear hcl
            have hcl := hclq
            clear hclq
            have HLIq := Lib.hid (HLI.out.below hb)
            clear HLI
            have HLI := Lib.hid HLIq.out
            clear HLIq
            have hcgq := cell_later hcg hb
            clear hcg
            have hcg := hcgq
            clear hcgq
            rw [HCH.out]
            clear hb
            go_wp2_with fail
            refine (HX.out _).mono ?_
            rintro e w5 ⟨hq, hb⟩
            have HB5 := Lib.hid (HB4.out.trans (hb.mono HB4.out.size))
            have hclq := cell_later hcl hb
            clear hcl
            have hcl := hclq
            clear hclq
            have HLIq := Lib.hid (HLI.out.below hb)
            clear HLI
            have HLI := Lib.hid HLIq.out
            clear HLIq
            have hcgq := cell_later hcg hb
            clear hcg
            have hcg := hcgq
            clear hcgq
            obtain ⟨gx, cx, rfl, hrx⟩ := hq
            rw [HN.out]
            have HXI := Lib.hid (Ints.own (show w5.ownsRow _ 3 1 (.slice (some ⟨gx, 0, none⟩) L.length cx) L.length ((nats L).map (Value.int .i64)) by have := hrx; unfold Row at this; rw [nats_len] at this; exact this)).1
            clear hrx hb
            go_wp2_with fail
            refine (HY.out _).mono ?_
            rintro e w6 ⟨hq, hb⟩
            have HB6 := Lib.hid (HB5.out.trans (hb.mono HB5.out.size))
            have hclq := cell_later hcl hb
            clear hcl
            have hcl := hclq
            clear hclq
            have HLIq := Lib.hid (HLI.out.below hb)
            clear HLI
            have HLI := Lib.hid HLIq.out
            clear HLIq
            have hcgq := cell_later hcg hb
            clear hcg
            have hcg := hcgq
            clear hcgq
            have HXIq := Lib.hid (HXI.out.below hb)
            clear HXI
            have HXI := Lib.hid HXIq.out
            clear HXIq
            obtain ⟨gy, cy, rfl, hry⟩ := hq
            rw [HYN.out]
            clear hry hb
            go_wp2_with fail
            refine (equal_any (some ⟨gx, 0, none⟩) (some ⟨gl, 0, none⟩) N N cx cl (nats L) (nats L) _ (by have := HXI.out; rw [HN.out] at this; exact this) HLI.out (by omega) (by omega)).mono ?_
            rintro e wz ⟨rfl, q, rfl⟩
            have hq : (nats L == nats L) = true := by simp
            rw [hq]
            clear hq
            have HBz := Lib.hid (below_drewN HB6.out q)
            obtain ⟨wy, hwy⟩ : ∃ wy, w6.drewN q = wy := ⟨_, rfl⟩
            rw [hwy] at HBz ⊢
            clear hwy
            go_wp2_with fail
            refine (awake_any _).mono ?_
            rintro e wv ⟨rfl, hb⟩
            have HBv := Lib.hid (HBz.out.trans (hb.mono HBz.out.size))
            clear hb
            go_wp2
            go_ret
            exact ⟨rfl, HBv.out⟩
    · have u1 : ¬ (M : Int) ≤ (t : Int) := by omega
      have u1d : decide ((M : Int) ≤ (t : Int)) = false := decide_eq_false u1
      clear hfew hp1
      by_cases ht3 : 3 < t
      · have k5 : (3 : Int) < (t : Int) := by omega
        have k5d : decide ((3 : Int) < (t : Int)) = true := decide_eq_true k5
        go_enter Try.func10, Try.ntmps10
        go_wp2_with fail
        refine (HG.out _).mono ?_
        rintro e w1 ⟨hq, hb⟩
        have HB1 := Lib.hid hb
        obtain ⟨gl, cl, rfl, hr⟩ := hq
        have hcl := Row.cell1 hr N1 la HLA.out
        have HLI := Lib.hid (Ints.own (show w1.ownsRow _ 3 1 (.slice (some ⟨gl, 0, none⟩) N cl) N ((nats L).map (Value.int .i64)) by have := hr; unfold Row at this; rw [nats_len, HN.out] at this; exact this)).1
        rw [HN.out]
        clear hr hb
        go_wp2_with fail
        refine (HV.out _).mono ?_
        rintro e wv0 ⟨rfl, rfl⟩
        go_wp2_with fail
        refine (HGR.out _).mono ?_
        rintro e w2 ⟨hq, hb⟩
        have HB2 := Lib.hid (HB1.out.trans (hb.mono HB1.out.size))
        have hclq := cell_later hcl hb
        clear hcl
        have hcl := hclq
        clear hclq
        have HLIq := Lib.hid (HLI.out.below hb)
        clear HLI
        have HLI := Lib.hid HLIq.out
        clear HLIq
        obtain ⟨vg, rfl, hr⟩ := hq
        obtain ⟨ga, gn, gc, rfl, hgi, hgn⟩ := Row.ints hr
        rw [nats_len, HM.out] at hgn
        have hgn2 := hgn.symm
        subst hgn2
        clear hgn
        obtain ⟨gb, go, hga, hgl, hgc⟩ := hgi.at (by omega)
        have hcg := hgc M1 (by omega)
        rw [nats_at (by have := HM.out; omega), HGA.out] at hcg
        subst hga
        clear hr hgi hgl hgc hb
        go_wp2_with fail
        refine (clone_any (some ⟨gl, 0, none⟩) N cl (nats L) _ HLI.out (by omega)).mono ?_
        rintro e w3 ⟨ao, co, rfl, how, hc1, hc2, hb⟩
        have HB3 := Lib.hid (HB2.out.trans (hb.mono HB2.out.size))
        have HCI := Lib.hid (Ints.own how).1
        have hclq := cell_later hcl hb
        clear hcl
        have hcl := hclq
        clear hclq
        have HLIq := Lib.hid (HLI.out.below hb)
        clear HLI
        have HLI := Lib.hid HLIq.out
        clear HLIq
        have hcgq := cell_later hcg hb
        clear hcg
        have hcg := hcgq
        clear hcgq
        clear how hc1 hc2 hb
        go_wp2_with fail
        refine (HCK.out ao N co (nats L) _ HCI.out (by omega)).mono ?_
        rintro e w4 ⟨rfl, hb⟩
        have HB4 := Lib.hid (HB3.out.trans (hb.mono HB3.out.size))
        have hclq := cell_later hcl hb
        clear hcl
        have hcl := hclq
        clear hclq
        have HLIq := Lib.hid (HLI.out.below hb)
        clear HLI
        have HLI := Lib.hid HLIq.out
        clear HLIq
        have hcgq := cell_later hcg hb
        clear hcg
        have hcg := hcgq
        clear hcgq
        rw [HCH.out]
        clear hb
        go_wp2_with fail
        refine (awake_any _).mono ?_
        rintro e w5 ⟨rfl, hb⟩
        have HB5 := Lib.hid (HB4.out.trans (hb.mono HB4.out.size))
        have hclq := cell_later hcl hb
        clear hcl
        have hcl := hclq
        clear hclq
        have HLIq := Lib.hid (HLI.out.below hb)
        clear HLI
        have HLI := Lib.hid HLIq.out
        clear HLIq
        have hcgq := cell_later hcg hb
        clear hcg
        have hcg := hcgq
        clear hcgq
        clear hb
        go_wp2
        go_ret
        exact ⟨rfl, HB5.out⟩
      · have k5 : ¬ (3 : Int) < (t : Int) := by omega
        have k5d : decide ((3 : Int) < (t : Int)) = false := decide_eq_false k5
        by_cases hm3 : 299 < m
        · have k6 : (299 : Int) < (m : Int) := by omega
          have k6d : decide ((299 : Int) < (m : Int)) = true := decide_eq_true k6
          go_enter Try.func10, Try.ntmps10
          go_wp2_with fail
          refine (HG.out _).mono ?_
          rintro e w1 ⟨hq, hb⟩
          have HB1 := Lib.hid hb
          obtain ⟨gl, cl, rfl, hr⟩ := hq
          have hcl := Row.cell1 hr N1 la HLA.out
          have HLI := Lib.hid (Ints.own (show w1.ownsRow _ 3 1 (.slice (some ⟨gl, 0, none⟩) N cl) N ((nats L).map (Value.int .i64)) by have := hr; unfold Row at this; rw [nats_len, HN.out] at this; exact this)).1
          rw [HN.out]
          clear hr hb
          go_wp2_with fail
          refine (HV.out _).mono ?_
          rintro e wv0 ⟨rfl, rfl⟩
          go_wp2_with fail
          refine (HGR.out _).mono ?_
          rintro e w2 ⟨hq, hb⟩
          have HB2 := Lib.hid (HB1.out.trans (hb.mono HB1.out.size))
          have hclq := cell_later hcl hb
          clear hcl
          have hcl := hclq
          clear hclq
          have HLIq := Lib.hid (HLI.out.below hb)
          clear HLI
          have HLI := Lib.hid HLIq.out
          clear HLIq
          obtain ⟨vg, rfl, hr⟩ := hq
          obtain ⟨ga, gn, gc, rfl, hgi, hgn⟩ := Row.ints hr
          rw [nats_len, HM.out] at hgn
          have hgn2 := hgn.symm
          subst hgn2
          clear hgn
          obtain ⟨gb, go, hga, hgl, hgc⟩ := hgi.at (by omega)
          have hcg := hgc M1 (by omega)
          rw [nats_at (by have := HM.out; omega), HGA.out] at hcg
          subst hga
          clear hr hgi hgl hgc hb
          go_wp2_with fail
          refine (clone_any (some ⟨gl, 0, none⟩) N cl (nats L) _ HLI.out (by omega)).mono ?_
          rintro e w3 ⟨ao, co, rfl, how, hc1, hc2, hb⟩
          have HB3 := Lib.hid (HB2.out.trans (hb.mono HB2.out.size))
          have HCI := Lib.hid (Ints.own how).1
          have hclq := cell_later hcl hb
          clear hcl
          have hcl := hclq
          clear hclq
          have HLIq := Lib.hid (HLI.out.below hb)
          clear HLI
          have HLI := Lib.hid HLIq.out
          clear HLIq
          have hcgq := cell_later hcg hb
          clear hcg
          have hcg := hcgq
          clear hcgq
          clear how hc1 hc2 hb
          go_wp2_with fail
          refine (HCK.out ao N co (nats L) _ HCI.out (by omega)).mono ?_
          rintro e w4 ⟨rfl, hb⟩
          have HB4 := Lib.hid (HB3.out.trans (hb.mono HB3.out.size))
          have hclq := cell_later hcl hb
          clear hcl
          have hcl := hclq
          clear hclq
          have HLIq := Lib.hid (HLI.out.below hb)
          clear HLI
          have HLI := Lib.hid HLIq.out
          clear HLIq
          have hcgq := cell_later hcg hb
          clear hcg
          have hcg := hcgq
          clear hcgq
          rw [HCH.out]
          clear hb
          go_wp2_with fail
          refine (awake_any _).mono ?_
          rintro e w5 ⟨rfl, hb⟩
          have HB5 := Lib.hid (HB4.out.trans (hb.mono HB4.out.size))
          have hclq := cell_later hcl hb
          clear hcl
          have hcl := hclq
          clear hclq
          have HLIq := Lib.hid (HLI.out.below hb)
          clear HLI
          have HLI := Lib.hid HLIq.out
          clear HLIq
          have hcgq := cell_later hcg hb
          clear hcg
          have hcg := hcgq
          clear hcgq
          clear hb
          go_wp2
          go_ret
          exact ⟨rfl, HB5.out⟩
        · have k6 : ¬ (299 : Int) < (m : Int) := by omega
          have k6d : decide ((299 : Int) < (m : Int)) = false := decide_eq_false k6
          have hx := fun w => Short_yes x y (t + 1) m h1 h2 h3 (by omega) (by omega) (by omega) (by omega) w
          rw [HMO.out.1] at hx
          have hyy := fun w => Short_yes x y t (m + 1) h1 h2 h3 (by omega) (by omega) (by omega) (by omega) w
          obtain ⟨Y, hY, hYl⟩ := HMO.out.2
          rw [hY] at hyy
          have HX := Lib.hid hx
          have HY := Lib.hid hyy
          obtain ⟨YN, hYN⟩ : ∃ YN, Y.length = YN := ⟨_, rfl⟩
          have HYN := Lib.hid hYN
          have y1 : (YN : Int) ≤ (N : Int) := by have := HN.out; omega
          clear hx hyy hY hYl hYN
          go_enter Try.func10, Try.ntmps10
          go_wp2_with fail
          refine (HG.out _).mono ?_
          rintro e w1 ⟨hq, hb⟩
          have HB1 := Lib.hid hb
          obtain ⟨gl, cl, rfl, hr⟩ := hq
          have hcl := Row.cell1 hr N1 la HLA.out
          have HLI := Lib.hid (Ints.own (show w1.ownsRow _ 3 1 (.slice (some ⟨gl, 0, none⟩) N cl) N ((nats L).map (Value.int .i64)) by have := hr; unfold Row at this; rw [nats_len, HN.out] at this; exact this)).1
          rw [HN.out]
          clear hr hb
          go_wp2_with fail
          refine (HV.out _).mono ?_
          rintro e wv0 ⟨rfl, rfl⟩
          go_wp2_with fail
          refine (HGR.out _).mono ?_
          rintro e w2 ⟨hq, hb⟩
          have HB2 := Lib.hid (HB1.out.trans (hb.mono HB1.out.size))
          have hclq := cell_later hcl hb
          clear hcl
          have hcl := hclq
          clear hclq
          have HLIq := Lib.hid (HLI.out.below hb)
          clear HLI
          have HLI := Lib.hid HLIq.out
          clear HLIq
          obtain ⟨vg, rfl, hr⟩ := hq
          obtain ⟨ga, gn, gc, rfl, hgi, hgn⟩ := Row.ints hr
          rw [nats_len, HM.out] at hgn
          have hgn2 := hgn.symm
          subst hgn2
          clear hgn
          obtain ⟨gb, go, hga, hgl, hgc⟩ := hgi.at (by omega)
          have hcg := hgc M1 (by omega)
          rw [nats_at (by have := HM.out; omega), HGA.out] at hcg
          subst hga
          clear hr hgi hgl hgc hb
          go_wp2_with fail
          refine (clone_any (some ⟨gl, 0, none⟩) N cl (nats L) _ HLI.out (by omega)).mono ?_
          rintro e w3 ⟨ao, co, rfl, how, hc1, hc2, hb⟩
          have HB3 := Lib.hid (HB2.out.trans (hb.mono HB2.out.size))
          have HCI := Lib.hid (Ints.own how).1
          have hclq := cell_later hcl hb
          clear hcl
          have hcl := hclq
          clear hclq
          have HLIq := Lib.hid (HLI.out.below hb)
          clear HLI
          have HLI := Lib.hid HLIq.out
          clear HLIq
          have hcgq := cell_later hcg hb
          clear hcg
          have hcg := hcgq
          clear hcgq
          clear how hc1 hc2 hb
          go_wp2_with fail
          refine (HCK.out ao N co (nats L) _ HCI.out (by omega)).mono ?_
          rintro e w4 ⟨rfl, hb⟩
          have HB4 := Lib.hid (HB3.out.trans (hb.mono HB3.out.size))
          have hclq := cell_later hcl hb
          clear hcl
          have hcl := hclq
          clear hclq
          have HLIq := Lib.hid (HLI.out.below hb)
          clear HLI
          have HLI := Lib.hid HLIq.out
          clear HLIq
          have hcgq := cell_later hcg hb
          clear hcg
          have hcg := hcgq
          clear hcgq
          rw [HCH.out]
          clear hb
          go_wp2_with fail
          refine (HX.out _).mono ?_
          rintro e w5 ⟨hq, hb⟩
          have HB5 := Lib.hid (HB4.out.trans (hb.mono HB4.out.size))
          have hclq := cell_later hcl hb
          clear hcl
          have hcl := hclq
          clear hclq
          have HLIq := Lib.hid (HLI.out.below hb)
          clear HLI
          have HLI := Lib.hid HLIq.out
          clear HLIq
          have hcgq := cell_later hcg hb
          clear hcg
          have hcg := hcgq
          clear hcgq
          obtain ⟨gx, cx, rfl, hrx⟩ := hq
          rw [HN.out]
          have HXI := Lib.hid (Ints.own (show w5.ownsRow _ 3 1 (.slice (some ⟨gx, 0, none⟩) L.length cx) L.length ((nats L).map (Value.int .i64)) by have := hrx; unfold Row at this; rw [nats_len] at this; exact this)).1
          clear hrx hb
          go_wp2_with fail
          refine (HY.out _).mono ?_
          rintro e w6 ⟨hq, hb⟩
          have HB6 := Lib.hid (HB5.out.trans (hb.mono HB5.out.size))
          have hclq := cell_later hcl hb
          clear hcl
          have hcl := hclq
          clear hclq
          have HLIq := Lib.hid (HLI.out.below hb)
          clear HLI
          have HLI := Lib.hid HLIq.out
          clear HLIq
          have hcgq := cell_later hcg hb
          clear hcg
          have hcg := hcgq
          clear hcgq
          have HXIq := Lib.hid (HXI.out.below hb)
          clear HXI
          have HXI := Lib.hid HXIq.out
          clear HXIq
          obtain ⟨gy, cy, rfl, hry⟩ := hq
          rw [HYN.out]
          clear hry hb
          go_wp2_with fail
          refine (equal_any (some ⟨gx, 0, none⟩) (some ⟨gl, 0, none⟩) N N cx cl (nats L) (nats L) _ (by have := HXI.out; rw [HN.out] at this; exact this) HLI.out (by omega) (by omega)).mono ?_
          rintro e wz ⟨rfl, q, rfl⟩
          have hq : (nats L == nats L) = true := by simp
          rw [hq]
          clear hq
          have HBz := Lib.hid (below_drewN HB6.out q)
          obtain ⟨wy, hwy⟩ : ∃ wy, w6.drewN q = wy := ⟨_, rfl⟩
          rw [hwy] at HBz ⊢
          clear hwy
          go_wp2_with fail
          refine (awake_any _).mono ?_
          rintro e wv ⟨rfl, hb⟩
          have HBv := Lib.hid (HBz.out.trans (hb.mono HBz.out.size))
          clear hb
          go_wp2
          go_ret
          exact ⟨rfl, HBv.out⟩

set_option maxHeartbeats 8000000 in
set_option maxRecDepth 100000 in
theorem lawFew_any (a b t m : Int) (w : World) : Calls Try.prog 10 #[.int .i64 a, .int .i64 b, .int .i64 t, .int .i64 m] w fun e w' => e = .returned (.bool true) ∧ Below w.heap.size w w' := by
  cases hs : shortOk a b t m with
  | false =>
    have HN := Lib.hid (fun w => Short_no a b t m hs w)
    clear hs
    go_enter Try.func10, Try.ntmps10
    go_wp2_with fail
    refine (HN.out _).mono ?_
    rintro e w1 ⟨rfl, rfl⟩
    go_wp2_with fail
    refine (awake_any _).mono ?_
    rintro e w1 ⟨rfl, hb⟩
    have HB := Lib.hid hb
    clear hb
    go_wp2
    go_ret
    exact ⟨rfl, HB.out⟩
  | true =>
    unfold shortOk at hs
    simp only [Bool.and_eq_true, decide_eq_true_eq] at hs
    obtain ⟨⟨⟨⟨hs, g1⟩, g2⟩, g3⟩, g4⟩ := hs
    obtain ⟨x, y, rfl, rfl, h1, h2, h3⟩ := share_nat hs
    obtain ⟨t, rfl⟩ := Int.eq_ofNat_of_zero_le (show 0 ≤ t by omega)
    obtain ⟨m, rfl⟩ := Int.eq_ofNat_of_zero_le (show 0 ≤ m by omega)
    cases hS : shF m t x y with
    | none => exact few_none x y t m h1 h2 h3 (by omega) (by omega) (by omega) (by omega) hS w
    | some L => exact few_some x y t m h1 h2 h3 (by omega) (by omega) (by omega) (by omega) L hS w
end Go.Proofs.Ytbdiknlbmjdpeaa
