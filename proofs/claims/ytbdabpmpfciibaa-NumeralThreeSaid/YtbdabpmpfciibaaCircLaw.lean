/- The laws NumeralCircles and NumeralGolden: their walks in every case (written by tools/lawcirc.py). No condition. -/
import Derived.Test.YtbdabpmpfciibaaGold
import Derived.Test.YtbdabpmpfciibaaShiftsLaw
namespace Go.Proofs.Ytbdabpmpfciibaa
open Go.RowKit

theorem sz_vals (n : Int) : (szE n = 0 ∧ szV n = n ∧ n ≤ 1000000000000) ∨ (szE n = 6 ∧ szV n = 0 ∧ 1000000000000 < n) := by
  unfold szE szV
  by_cases h : 1000000000000 < n
  · rw [if_pos h, if_pos h]; exact .inr ⟨rfl, rfl, h⟩
  · rw [if_neg h, if_neg h]; exact .inl ⟨rfl, rfl, by omega⟩
theorem ci_vals (a b : Int) : (ciE a b = 0 ∧ ciV a b = ciN a b ∧ isNum a = true ∧ isNum b = true ∧ isNum (ciN a b) = true) ∨ ciE a b = 6 ∨ ciE a b = 2 := by
  unfold ciE ciV
  by_cases h : isNum a = true ∧ isNum b = true
  · rw [if_pos h, if_pos h]
    rcases sz_vals (ciN a b) with ⟨h1, h2, h3⟩ | ⟨h1, -, -⟩
    · exact .inl ⟨h1, h2, h.1, h.2, isNum_mk (cirS_nonneg _ _) h3⟩
    · exact .inr (.inl h1)
  · rw [if_neg h]; exact .inr (.inr rfl)
theorem sh_vals (a : Int) : (shE a = 0 ∧ shV a = shN a ∧ isNum a = true ∧ isNum (shN a) = true) ∨ (shE a = 6 ∧ isNum a = true ∧ 1000000000000 < shN a) ∨ (shE a = 2 ∧ isNum a = false) := by
  unfold shE shV
  by_cases h : isNum a = true
  · rw [if_pos h, if_pos h]
    rcases sz_vals (shN a) with ⟨h1, h2, h3⟩ | ⟨h1, -, h3⟩
    · exact .inl ⟨h1, h2, h, isNum_mk (shN_bd h).1 h3⟩
    · exact .inr (.inl ⟨h1, h, h3⟩)
  · rw [if_neg h]; exact .inr (.inr ⟨rfl, by simpa using h⟩)
theorem ciN_comm (a b : Int) : ciN a b = ciN b a := cirS_comm _ _
theorem ciV_comm (a b : Int) : ciV a b = ciV b a := by
  unfold ciV
  rw [ciN_comm]
  by_cases h : isNum a = true ∧ isNum b = true
  · rw [if_pos h, if_pos ⟨h.2, h.1⟩]
  · rw [if_neg h, if_neg (fun g => h ⟨g.2, g.1⟩)]
theorem ciE_comm (a b : Int) : ciE a b = ciE b a := by
  unfold ciE
  rw [ciN_comm]
  by_cases h : isNum a = true ∧ isNum b = true
  · rw [if_pos h, if_pos ⟨h.2, h.1⟩]
  · rw [if_neg h, if_neg (fun g => h ⟨g.2, g.1⟩)]
theorem pair_assoc (a0 a1 b0 b1 c0 c1 x0 x1 z0 z1 : Int) (hx0 : x0 = b0 * a1 + (b1 - b0) * a0) (hx1 : x1 = b1 * a1 + b0 * a0) (hz0 : z0 = c0 * b1 + (c1 - c0) * b0) (hz1 : z1 = c1 * b1 + c0 * b0) :
    c0 * x1 + (c1 - c0) * x0 = z0 * a1 + (z1 - z0) * a0 := by
  subst hx0 hx1 hz0 hz1
  grind
theorem ciN_assoc {a b c : Int} (ha : isNum a = true) (hb : isNum b = true) (hc : isNum c = true) (h1 : isNum (ciN a b) = true) (h2 : isNum (ciN b c) = true) : ciN (ciN a b) c = ciN a (ciN b c) := by
  rw [ciN_mul h1 hc, ciN_mul ha h2]
  have e1 := shN_ciN ha hb (isNum_yes h1).2
  have e2 := shN_ciN hb hc (isNum_yes h2).2
  exact pair_assoc a (shN a) b (shN b) c (shN c) _ _ _ _ (ciN_mul ha hb) e1 (ciN_mul hb hc) e2
theorem isNum_1 : isNum 1 = true := rfl
theorem shN_1 : shN 1 = 2 := by decide +kernel
theorem ciN_one {a : Int} (ha : isNum a = true) : ciN 1 a = shN a + a := by
  rw [ciN_mul isNum_1 ha, shN_1]
  omega
/-- The last part of the law. -/
theorem one_vals {a : Int} (ha : isNum a = true) : (shE a = 6 ∧ ciE 1 a = 6) ∨ (shE a = 0 ∧ ciV 1 a = shV (shV a) ∧ ciE 1 a = shE (shV a)) := by
  have h1 : ciV 1 a = szV (shN a + a) := by unfold ciV; rw [if_pos ⟨isNum_1, ha⟩, ciN_one ha]
  have h2 : ciE 1 a = szE (shN a + a) := by unfold ciE; rw [if_pos ⟨isNum_1, ha⟩, ciN_one ha]
  have hb := isNum_yes ha
  rcases sh_vals a with ⟨g1, g2, -, g3⟩ | ⟨g1, -, g3⟩ | ⟨-, g3⟩
  · refine .inr ⟨g1, ?_, ?_⟩
    · rw [h1, g2]; unfold shV; rw [if_pos g3, shN_shN ha]
    · rw [h2, g2]; unfold shE; rw [if_pos g3, shN_shN ha]
  · refine .inl ⟨g1, ?_⟩
    rw [h2]
    exact (sz_big (by omega)).2
  · rw [ha] at g3; cases g3

set_option maxHeartbeats 8000000 in
set_option maxRecDepth 100000 in
theorem lawCircles_any (a b c : Int) (w : World) :
    Calls Try.prog 12 #[.int .i64 a, .int .i64 b, .int .i64 c] w fun e w' => e = .returned (.bool true) ∧ Below w.heap.size w w' := by
  have HC := Lib.hid (And.intro (ciV_comm b a) (ciE_comm b a))
  obtain ⟨X, hX⟩ : ∃ X, ciV a b = X := ⟨_, rfl⟩
  obtain ⟨E, hE⟩ : ∃ E, ciE a b = E := ⟨_, rfl⟩
  rw [hX, hE] at HC
  have HX := Lib.hid (And.intro hX hE)
  clear hX hE
  go_enter Try.func12, Try.ntmps12
  go_wp2_with fail
  refine (Circle_any a b _).mono ?_
  rintro e w1 ⟨rfl, hb1⟩
  rw [HX.out.1, HX.out.2]
  have B1 := Lib.hid hb1
  clear hb1
  go_wp2_with fail
  refine (Circle_any b a _).mono ?_
  rintro e w2 ⟨rfl, hb2⟩
  rw [HC.out.1, HC.out.2]
  have B2 := Lib.hid (B1.out.trans (hb2.mono B1.out.size))
  clear hb2 B1
  rcases ci_vals a b with ⟨h1, h2, h3, h4, h5⟩ | h1 | h1
  · rw [HX.out.2] at h1
    rw [HX.out.1] at h2
    subst h1
    have HA := Lib.hid h3
    have H5 := Lib.hid (And.intro h2 (And.intro h4 h5))
    clear h2 h3 h4 h5
    go_wp2_with fail
    refine (Circle_any X c _).mono ?_
    rintro e w3 ⟨rfl, hb3⟩
    have B3 := Lib.hid (B2.out.trans (hb3.mono B2.out.size))
    clear hb3 B2
    go_wp2_with fail
    refine (Circle_any b c _).mono ?_
    rintro e w4 ⟨rfl, hb4⟩
    have B4 := Lib.hid (B3.out.trans (hb4.mono B3.out.size))
    clear hb4 B3
    rcases ci_vals b c with ⟨k1, k2, k3, k4, k5⟩ | k1 | k1
    · rcases ci_vals X c with ⟨m1, m2, m3, m4, m5⟩ | m1 | m1
      · have hass : ciE a (ciN b c) = 0 ∧ ciV a (ciN b c) = ciV X c := by
          have e := ciN_assoc HA.out k3 k4 H5.out.2.2 k5
          rw [← H5.out.1] at e
          rcases ci_vals a (ciN b c) with ⟨t1, t2, -, -, -⟩ | t1 | t1
          · exact ⟨t1, by rw [t2, m2, e]⟩
          · unfold ciE at t1
            rw [if_pos ⟨HA.out, k5⟩, ← e] at t1
            have := isNum_yes m5
            rcases sz_vals (ciN X c) with ⟨y1, -, -⟩ | ⟨-, -, y1⟩
            · rw [y1] at t1; omega
            · omega
          · unfold ciE at t1
            rw [if_pos ⟨HA.out, k5⟩] at t1
            rcases sz_vals (ciN a (ciN b c)) with ⟨y1, -, -⟩ | ⟨y1, -, -⟩ <;> omega
        rw [k1, k2, m1]
        obtain ⟨Z, hZ⟩ : ∃ Z, ciN b c = Z := ⟨_, rfl⟩
        obtain ⟨Pq, hP⟩ : ∃ Pq, ciV X c = Pq := ⟨_, rfl⟩
        rw [hZ, hP] at hass
        rw [hZ, hP]
        have HAS := Lib.hid hass
        clear k1 k2 k3 k4 k5 m1 m2 m3 m4 m5 hass hZ hP
        go_wp2_with fail
        refine (Circle_any a Z _).mono ?_
        rintro e w5 ⟨rfl, hb5⟩
        rw [HAS.out.1, HAS.out.2]
        have BL := Lib.hid (B4.out.trans (hb5.mono B4.out.size))
        clear hb5 B4
        go_wp2_with fail
        refine (Circle_any 1 a _).mono ?_
        rintro e w6 ⟨rfl, hb6⟩
        have B6 := Lib.hid (BL.out.trans (hb6.mono BL.out.size))
        clear hb6 BL
        go_wp2_with fail
        refine (Shift_any a _).mono ?_
        rintro e w7 ⟨rfl, hb7⟩
        have B7 := Lib.hid (B6.out.trans (hb7.mono B6.out.size))
        clear hb7 B6
        rcases one_vals HA.out with ⟨q1, q2⟩ | ⟨q1, q2, q3⟩
        · rw [q1, q2]
          obtain ⟨U, hU⟩ : ∃ U, ciV 1 a = U := ⟨_, rfl⟩
          obtain ⟨U2, hU2⟩ : ∃ U2, shV a = U2 := ⟨_, rfl⟩
          rw [hU, hU2]
          clear q1 q2 hU hU2
          go_wp2_with fail
          refine (awake_any _).mono ?_
          rintro e w8 ⟨rfl, hb8⟩
          have B8 := Lib.hid (B7.out.trans (hb8.mono B7.out.size))
          clear hb8 B7
          go_wp2
          go_ret
          exact ⟨rfl, B8.out⟩
        · rw [q1, q2, q3]
          obtain ⟨U2, hU2⟩ : ∃ U2, shV a = U2 := ⟨_, rfl⟩
          rw [hU2]
          obtain ⟨U3, hU3⟩ : ∃ U3, shV U2 = U3 := ⟨_, rfl⟩
          obtain ⟨U4, hU4⟩ : ∃ U4, shE U2 = U4 := ⟨_, rfl⟩
          rw [hU3, hU4]
          have HU := Lib.hid (And.intro hU3 hU4)
          clear q1 q2 q3 hU2 hU3 hU4
          go_wp2_with fail
          refine (Shift_any U2 _).mono ?_
          rintro e w8 ⟨rfl, hb8⟩
          rw [HU.out.1, HU.out.2]
          have B8 := Lib.hid (B7.out.trans (hb8.mono B7.out.size))
          clear hb8 B7
          go_wp2_with fail
          refine (awake_any _).mono ?_
          rintro e w9 ⟨rfl, hb9⟩
          have B9 := Lib.hid (B8.out.trans (hb9.mono B8.out.size))
          clear hb9 B8
          go_wp2
          go_ret
          exact ⟨rfl, B9.out⟩
      · rw [k1, m1]
        obtain ⟨Z, hZ⟩ : ∃ Z, ciV b c = Z := ⟨_, rfl⟩
        obtain ⟨Pq, hP⟩ : ∃ Pq, ciV X c = Pq := ⟨_, rfl⟩
        rw [hZ, hP]
        have BL := B4
        clear k1 k2 k3 k4 k5 m1 B4 hZ hP
        go_wp2_with fail
        refine (Circle_any 1 a _).mono ?_
        rintro e w6 ⟨rfl, hb6⟩
        have B6 := Lib.hid (BL.out.trans (hb6.mono BL.out.size))
        clear hb6 BL
        go_wp2_with fail
        refine (Shift_any a _).mono ?_
        rintro e w7 ⟨rfl, hb7⟩
        have B7 := Lib.hid (B6.out.trans (hb7.mono B6.out.size))
        clear hb7 B6
        rcases one_vals HA.out with ⟨q1, q2⟩ | ⟨q1, q2, q3⟩
        · rw [q1, q2]
          obtain ⟨U, hU⟩ : ∃ U, ciV 1 a = U := ⟨_, rfl⟩
          obtain ⟨U2, hU2⟩ : ∃ U2, shV a = U2 := ⟨_, rfl⟩
          rw [hU, hU2]
          clear q1 q2 hU hU2
          go_wp2_with fail
          refine (awake_any _).mono ?_
          rintro e w8 ⟨rfl, hb8⟩
          have B8 := Lib.hid (B7.out.trans (hb8.mono B7.out.size))
          clear hb8 B7
          go_wp2
          go_ret
          exact ⟨rfl, B8.out⟩
        · rw [q1, q2, q3]
          obtain ⟨U2, hU2⟩ : ∃ U2, shV a = U2 := ⟨_, rfl⟩
          rw [hU2]
          obtain ⟨U3, hU3⟩ : ∃ U3, shV U2 = U3 := ⟨_, rfl⟩
          obtain ⟨U4, hU4⟩ : ∃ U4, shE U2 = U4 := ⟨_, rfl⟩
          rw [hU3, hU4]
          have HU := Lib.hid (And.intro hU3 hU4)
          clear q1 q2 q3 hU2 hU3 hU4
          go_wp2_with fail
          refine (Shift_any U2 _).mono ?_
          rintro e w8 ⟨rfl, hb8⟩
          rw [HU.out.1, HU.out.2]
          have B8 := Lib.hid (B7.out.trans (hb8.mono B7.out.size))
          clear hb8 B7
          go_wp2_with fail
          refine (awake_any _).mono ?_
          rintro e w9 ⟨rfl, hb9⟩
          have B9 := Lib.hid (B8.out.trans (hb9.mono B8.out.size))
          clear hb9 B8
          go_wp2
          go_ret
          exact ⟨rfl, B9.out⟩
      · rw [k1, m1]
        obtain ⟨Z, hZ⟩ : ∃ Z, ciV b c = Z := ⟨_, rfl⟩
        obtain ⟨Pq, hP⟩ : ∃ Pq, ciV X c = Pq := ⟨_, rfl⟩
        rw [hZ, hP]
        have BL := B4
        clear k1 k2 k3 k4 k5 m1 B4 hZ hP
        go_wp2_with fail
        refine (Circle_any 1 a _).mono ?_
        rintro e w6 ⟨rfl, hb6⟩
        have B6 := Lib.hid (BL.out.trans (hb6.mono BL.out.size))
        clear hb6 BL
        go_wp2_with fail
        refine (Shift_any a _).mono ?_
        rintro e w7 ⟨rfl, hb7⟩
        have B7 := Lib.hid (B6.out.trans (hb7.mono B6.out.size))
        clear hb7 B6
        rcases one_vals HA.out with ⟨q1, q2⟩ | ⟨q1, q2, q3⟩
        · rw [q1, q2]
          obtain ⟨U, hU⟩ : ∃ U, ciV 1 a = U := ⟨_, rfl⟩
          obtain ⟨U2, hU2⟩ : ∃ U2, shV a = U2 := ⟨_, rfl⟩
          rw [hU, hU2]
          clear q1 q2 hU hU2
          go_wp2_with fail
          refine (awake_any _).mono ?_
          rintro e w8 ⟨rfl, hb8⟩
          have B8 := Lib.hid (B7.out.trans (hb8.mono B7.out.size))
          clear hb8 B7
          go_wp2
          go_ret
          exact ⟨rfl, B8.out⟩
        · rw [q1, q2, q3]
          obtain ⟨U2, hU2⟩ : ∃ U2, shV a = U2 := ⟨_, rfl⟩
          rw [hU2]
          obtain ⟨U3, hU3⟩ : ∃ U3, shV U2 = U3 := ⟨_, rfl⟩
          obtain ⟨U4, hU4⟩ : ∃ U4, shE U2 = U4 := ⟨_, rfl⟩
          rw [hU3, hU4]
          have HU := Lib.hid (And.intro hU3 hU4)
          clear q1 q2 q3 hU2 hU3 hU4
          go_wp2_with fail
          refine (Shift_any U2 _).mono ?_
          rintro e w8 ⟨rfl, hb8⟩
          rw [HU.out.1, HU.out.2]
          have B8 := Lib.hid (B7.out.trans (hb8.mono B7.out.size))
          clear hb8 B7
          go_wp2_with fail
          refine (awake_any _).mono ?_
          rintro e w9 ⟨rfl, hb9⟩
          have B9 := Lib.hid (B8.out.trans (hb9.mono B8.out.size))
          clear hb9 B8
          go_wp2
          go_ret
          exact ⟨rfl, B9.out⟩
    · rw [k1]
      obtain ⟨Z, hZ⟩ : ∃ Z, ciV b c = Z := ⟨_, rfl⟩
      obtain ⟨Pq, hP⟩ : ∃ Pq, ciV X c = Pq := ⟨_, rfl⟩
      obtain ⟨Pe, hPe⟩ : ∃ Pe, ciE X c = Pe := ⟨_, rfl⟩
      rw [hZ, hP, hPe]
      have BL := B4
      clear k1 B4 hZ hP hPe
      go_wp2_with fail
      refine (Circle_any 1 a _).mono ?_
      rintro e w6 ⟨rfl, hb6⟩
      have B6 := Lib.hid (BL.out.trans (hb6.mono BL.out.size))
      clear hb6 BL
      go_wp2_with fail
      refine (Shift_any a _).mono ?_
      rintro e w7 ⟨rfl, hb7⟩
      have B7 := Lib.hid (B6.out.trans (hb7.mono B6.out.size))
      clear hb7 B6
      rcases one_vals HA.out with ⟨q1, q2⟩ | ⟨q1, q2, q3⟩
      · rw [q1, q2]
        obtain ⟨U, hU⟩ : ∃ U, ciV 1 a = U := ⟨_, rfl⟩
        obtain ⟨U2, hU2⟩ : ∃ U2, shV a = U2 := ⟨_, rfl⟩
        rw [hU, hU2]
        clear q1 q2 hU hU2
        go_wp2_with fail
        refine (awake_any _).mono ?_
        rintro e w8 ⟨rfl, hb8⟩
        have B8 := Lib.hid (B7.out.trans (hb8.mono B7.out.size))
        clear hb8 B7
        go_wp2
        go_ret
        exact ⟨rfl, B8.out⟩
      · rw [q1, q2, q3]
        obtain ⟨U2, hU2⟩ : ∃ U2, shV a = U2 := ⟨_, rfl⟩
        rw [hU2]
        obtain ⟨U3, hU3⟩ : ∃ U3, shV U2 = U3 := ⟨_, rfl⟩
        obtain ⟨U4, hU4⟩ : ∃ U4, shE U2 = U4 := ⟨_, rfl⟩
        rw [hU3, hU4]
        have HU := Lib.hid (And.intro hU3 hU4)
        clear q1 q2 q3 hU2 hU3 hU4
        go_wp2_with fail
        refine (Shift_any U2 _).mono ?_
        rintro e w8 ⟨rfl, hb8⟩
        rw [HU.out.1, HU.out.2]
        have B8 := Lib.hid (B7.out.trans (hb8.mono B7.out.size))
        clear hb8 B7
        go_wp2_with fail
        refine (awake_any _).mono ?_
        rintro e w9 ⟨rfl, hb9⟩
        have B9 := Lib.hid (B8.out.trans (hb9.mono B8.out.size))
        clear hb9 B8
        go_wp2
        go_ret
        exact ⟨rfl, B9.out⟩
    · rw [k1]
      obtain ⟨Z, hZ⟩ : ∃ Z, ciV b c = Z := ⟨_, rfl⟩
      obtain ⟨Pq, hP⟩ : ∃ Pq, ciV X c = Pq := ⟨_, rfl⟩
      obtain ⟨Pe, hPe⟩ : ∃ Pe, ciE X c = Pe := ⟨_, rfl⟩
      rw [hZ, hP, hPe]
      have BL := B4
      clear k1 B4 hZ hP hPe
      go_wp2_with fail
      refine (Circle_any 1 a _).mono ?_
      rintro e w6 ⟨rfl, hb6⟩
      have B6 := Lib.hid (BL.out.trans (hb6.mono BL.out.size))
      clear hb6 BL
      go_wp2_with fail
      refine (Shift_any a _).mono ?_
      rintro e w7 ⟨rfl, hb7⟩
      have B7 := Lib.hid (B6.out.trans (hb7.mono B6.out.size))
      clear hb7 B6
      rcases one_vals HA.out with ⟨q1, q2⟩ | ⟨q1, q2, q3⟩
      · rw [q1, q2]
        obtain ⟨U, hU⟩ : ∃ U, ciV 1 a = U := ⟨_, rfl⟩
        obtain ⟨U2, hU2⟩ : ∃ U2, shV a = U2 := ⟨_, rfl⟩
        rw [hU, hU2]
        clear q1 q2 hU hU2
        go_wp2_with fail
        refine (awake_any _).mono ?_
        rintro e w8 ⟨rfl, hb8⟩
        have B8 := Lib.hid (B7.out.trans (hb8.mono B7.out.size))
        clear hb8 B7
        go_wp2
        go_ret
        exact ⟨rfl, B8.out⟩
      · rw [q1, q2, q3]
        obtain ⟨U2, hU2⟩ : ∃ U2, shV a = U2 := ⟨_, rfl⟩
        rw [hU2]
        obtain ⟨U3, hU3⟩ : ∃ U3, shV U2 = U3 := ⟨_, rfl⟩
        obtain ⟨U4, hU4⟩ : ∃ U4, shE U2 = U4 := ⟨_, rfl⟩
        rw [hU3, hU4]
        have HU := Lib.hid (And.intro hU3 hU4)
        clear q1 q2 q3 hU2 hU3 hU4
        go_wp2_with fail
        refine (Shift_any U2 _).mono ?_
        rintro e w8 ⟨rfl, hb8⟩
        rw [HU.out.1, HU.out.2]
        have B8 := Lib.hid (B7.out.trans (hb8.mono B7.out.size))
        clear hb8 B7
        go_wp2_with fail
        refine (awake_any _).mono ?_
        rintro e w9 ⟨rfl, hb9⟩
        have B9 := Lib.hid (B8.out.trans (hb9.mono B8.out.size))
        clear hb9 B8
        go_wp2
        go_ret
        exact ⟨rfl, B9.out⟩
  · rw [HX.out.2] at h1
    subst h1
    have BL := B2
    clear B2
    go_wp2_with fail
    refine (awake_any _).mono ?_
    rintro e w9 ⟨rfl, hb9⟩
    have B9 := Lib.hid (BL.out.trans (hb9.mono BL.out.size))
    clear hb9 BL
    go_wp2
    go_ret
    exact ⟨rfl, B9.out⟩
  · rw [HX.out.2] at h1
    subst h1
    have BL := B2
    clear B2
    go_wp2_with fail
    refine (awake_any _).mono ?_
    rintro e w9 ⟨rfl, hb9⟩
    have B9 := Lib.hid (BL.out.trans (hb9.mono BL.out.size))
    clear hb9 BL
    go_wp2
    go_ret
    exact ⟨rfl, B9.out⟩

/-- The square of a number less than another one's. -/
theorem sq_lt {x y : Int} (h0 : 0 ≤ x) (h : x < y) : x * x < y * y := by
  have h1 : x * x ≤ x * y := Int.mul_le_mul_of_nonneg_left (by omega) h0
  have h2 : x * y < y * y := Int.mul_lt_mul_of_pos_right h (by omega)
  omega
theorem mmc (a b c d : Int) : a * b * (c * d) = a * c * (b * d) := by grind
theorem gold_high {n a : Int} (h0 : 0 ≤ n) (hx : -1100087778366101931 < 2880067194370816120 * a - 4660046610375530309 * n) : 5 * n * n < (2 * a - n + 2) * (2 * a - n + 2) := by
  have h1 : n * 6440026026380244498 < 2880067194370816120 * (2 * a - n + 2) := by omega
  have h2 := sq_lt (by omega) h1
  rw [mmc, mmc 2880067194370816120] at h2
  rw [Int.mul_assoc]
  have h3 : 0 ≤ n * n := Int.mul_nonneg h0 h0
  generalize n * n = N at *
  generalize (2 * a - n + 2) * (2 * a - n + 2) = A at *
  omega
theorem gold_low {n a : Int} (h0 : 0 ≤ n) (h4 : n ≤ 400000000) (hx : 2880067194370816120 * a - 4660046610375530309 * n < 1779979416004714189) (hb : 0 ≤ 2 * a - n - 2) : (2 * a - n - 2) * (2 * a - n - 2) < 5 * n * n := by
  have h1 : 2880067194370816120 * (2 * a - n - 2) < n * 6440026026380244498 - 2200175556732203862 := by omega
  have h2 := sq_lt (by omega) h1
  rw [mmc] at h2
  rw [Int.mul_assoc]
  have h3 : n * n ≤ n * 400000000 := Int.mul_le_mul_of_nonneg_left h4 h0
  have e : (n * 6440026026380244498 - 2200175556732203862) * (n * 6440026026380244498 - 2200175556732203862) = 41473935220454921602871195774259272004 * (n * n) - 28338375695922074067398439579879702552 * n + 4840772480441863214898517039527715044 := by grind
  rw [e] at h2
  generalize n * n = N at *
  generalize (2 * a - n - 2) * (2 * a - n - 2) = A at *
  omega
end Go.Proofs.Ytbdabpmpfciibaa
