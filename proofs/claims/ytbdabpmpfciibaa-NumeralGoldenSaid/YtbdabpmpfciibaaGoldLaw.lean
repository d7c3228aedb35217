/- The law NumeralGolden: its walk in every case. No condition. -/
import Derived.Test.YtbdabpmpfciibaaCircLaw
namespace Go.Proofs.Ytbdabpmpfciibaa
open Go.RowKit

/-- The last test of the law. -/
theorem gold_tail {n a : Int} (h0 : 0 ≤ n) (h1 : n ≤ 400000000) (ha0 : 0 ≤ a) (ha1 : a ≤ 1000000000) (hx : -1100087778366101931 < 2880067194370816120 * a - 4660046610375530309 * n) (hy : 2880067194370816120 * a - 4660046610375530309 * n < 1779979416004714189) :
    ∃ A B C : Int, wrap64 ((2 * a - n - 2) * (2 * a - n - 2)) = A ∧ wrap64 (wrap64 (5 * n) * n) = B ∧ wrap64 (5 * n * n) = B ∧ wrap64 ((2 * a - n + 2) * (2 * a - n + 2)) = C ∧ (2 * a - n - 2 < 0 ∨ A < B) ∧ B < C := by
  have hn : n * n ≤ 400000000 * 400000000 := Int.mul_le_mul h1 h1 h0 (by omega)
  have hn0 : 0 ≤ n * n := Int.mul_nonneg h0 h0
  have e5 : 5 * n * n = 5 * (n * n) := Int.mul_assoc _ _ _
  have w5 : wrap64 (5 * n) = 5 * n := by unfold wrap64; omega
  have hw : ∀ t : Int, -2000000000 ≤ t → t ≤ 2000000000 → wrap64 (t * t) = t * t := by
    intro t t0 t1
    have : t * t ≤ 4000000000000000000 := by
      rcases Int.le_total 0 t with h | h
      · have := Int.mul_le_mul t1 t1 h (by omega); omega
      · have := Int.mul_le_mul (show -t ≤ 2000000000 by omega) (show -t ≤ 2000000000 by omega) (by omega) (by omega)
        rw [Int.neg_mul_neg] at this; omega
    have h2 : 0 ≤ t * t := by
      rcases Int.le_total 0 t with h | h
      · exact Int.mul_nonneg h h
      · have := Int.mul_nonneg (show 0 ≤ -t by omega) (show 0 ≤ -t by omega)
        rw [Int.neg_mul_neg] at this; exact this
    generalize t * t = T at *
    unfold wrap64; omega
  refine ⟨_, _, _, rfl, rfl, by rw [w5], rfl, ?_, ?_⟩
  · by_cases hb : 0 ≤ 2 * a - n - 2
    · right
      rw [w5, hw _ (by omega) (by omega)]
      have := gold_low h0 h1 hy hb
      have e : wrap64 (5 * n * n) = 5 * n * n := by rw [e5]; generalize n * n = N at *; unfold wrap64; omega
      rw [e]
      exact this
    · left; omega
  · rw [w5, hw _ (by omega) (by omega)]
    have := gold_high h0 hx
    have e : wrap64 (5 * n * n) = 5 * n * n := by rw [e5]; generalize n * n = N at *; unfold wrap64; omega
    rw [e]
    exact this

set_option maxHeartbeats 8000000 in
set_option maxRecDepth 100000 in
theorem lawGolden_any (n : Int) (w : World) :
    Calls Try.prog 11 #[.int .i64 n] w fun e w' => e = .returned (.bool true) ∧ Below w.heap.size w w' := by
  have HV := Lib.hid (sh_vals n)
  rcases HV.out with ⟨h1, h2, h3, h4⟩ | ⟨h1, h3, h4⟩ | ⟨h1, h3⟩
  · have hb := isNum_yes h3
    have hs := isNum_yes h4
    have nr := near_num h3
    obtain ⟨a, ha⟩ : ∃ a, shN n = a := ⟨_, rfl⟩
    have hss := shN_shN h3
    rw [ha] at h2 h4 hs nr hss
    have HS := Lib.hid (And.intro h1 h2)
    have HVV := Lib.hid (sh_vals a)
    have HSS := Lib.hid hss
    have HNA := Lib.hid h4
    obtain ⟨n0, n1⟩ := hb
    obtain ⟨a0, a1⟩ := hs
    obtain ⟨r1, r2⟩ := nr
    clear h1 h2 h3 h4 ha hss HV
    have BIG : ∀ w2 : World, Below w.heap.size w w2 → True := fun _ _ => trivial
    clear BIG
    rcases HVV.out with ⟨g1, g2, g3, g4⟩ | ⟨g1, g3, g4⟩ | ⟨g1, g3⟩
    · have hle := (isNum_yes g4).2
      rw [HSS.out] at g2 hle
      have HG := Lib.hid (And.intro g1 g2)
      clear g1 g2 g3 g4 HVV
      by_cases hbig : 400000000 < n
      · go_enter Try.func11, Try.ntmps11
        go_wp2_with fail
        refine (Shift_any n _).mono ?_
        rintro e w1 ⟨rfl, hb1⟩
        rw [HS.out.1, HS.out.2]
        have B1 := Lib.hid hb1
        clear hb1
        go_wp2_with fail
        refine (Shift_any a _).mono ?_
        rintro e w2 ⟨rfl, hb2⟩
        rw [HG.out.1, HG.out.2]
        have B2 := Lib.hid (B1.out.trans (hb2.mono B1.out.size))
        clear hb2 B1
        clear r1 r2
        go_wp2_with fail
        refine (awake_any _).mono ?_
        rintro e w3 ⟨rfl, hb3⟩
        have B3 := Lib.hid (B2.out.trans (hb3.mono B2.out.size))
        clear hb3 B2
        go_wp2
        go_ret
        exact ⟨rfl, B3.out⟩
      · obtain ⟨A, B, C, e1, e2, e2', e3, e4, e5⟩ := gold_tail n0 (by omega) a0 (by omega) r2 r1
        clear r1 r2
        by_cases hlow : 2 * a - n - 2 < 0
        · clear e4
          go_enter Try.func11, Try.ntmps11
          go_wp2_with fail
          refine (Shift_any n _).mono ?_
          rintro e w1 ⟨rfl, hb1⟩
          rw [HS.out.1, HS.out.2]
          have B1 := Lib.hid hb1
          clear hb1
          go_wp2_with fail
          refine (Shift_any a _).mono ?_
          rintro e w2 ⟨rfl, hb2⟩
          rw [HG.out.1, HG.out.2]
          have B2 := Lib.hid (B1.out.trans (hb2.mono B1.out.size))
          clear hb2 B1
          go_wp2_with fail
          refine (awake_any _).mono ?_
          rintro e w3 ⟨rfl, hb3⟩
          have B3 := Lib.hid (B2.out.trans (hb3.mono B2.out.size))
          clear hb3 B2
          go_wp2
          go_ret
          exact ⟨rfl, B3.out⟩
        · have e4' : A < B := e4.resolve_left hlow
          clear e4
          go_enter Try.func11, Try.ntmps11
          go_wp2_with fail
          refine (Shift_any n _).mono ?_
          rintro e w1 ⟨rfl, hb1⟩
          rw [HS.out.1, HS.out.2]
          have B1 := Lib.hid hb1
          clear hb1
          go_wp2_with fail
          refine (Shift_any a _).mono ?_
          rintro e w2 ⟨rfl, hb2⟩
          rw [HG.out.1, HG.out.2]
          have B2 := Lib.hid (B1.out.trans (hb2.mono B1.out.size))
          clear hb2 B1
          go_wp2_with fail
          refine (awake_any _).mono ?_
          rintro e w3 ⟨rfl, hb3⟩
          have B3 := Lib.hid (B2.out.trans (hb3.mono B2.out.size))
          clear hb3 B2
          go_wp2
          go_ret
          exact ⟨rfl, B3.out⟩
    · rw [HSS.out] at g4
      have HG := Lib.hid g1
      have hgt : ¬ a + n ≤ 1000000000000 := by omega
      clear g1 g3 HVV
      have hn4 : 400000000 < n := by omega
      go_enter Try.func11, Try.ntmps11
      go_wp2_with fail
      refine (Shift_any n _).mono ?_
      rintro e w1 ⟨rfl, hb1⟩
      rw [HS.out.1, HS.out.2]
      have B1 := Lib.hid hb1
      clear hb1
      go_wp2_with fail
      refine (Shift_any a _).mono ?_
      rintro e w2 ⟨rfl, hb2⟩
      rw [HG.out]
      obtain ⟨Z, hZ⟩ : ∃ Z, shV a = Z := ⟨_, rfl⟩
      rw [hZ]
      have B2 := Lib.hid (B1.out.trans (hb2.mono B1.out.size))
      clear hb2 B1 hZ r1 r2
      go_wp2_with fail
      refine (awake_any _).mono ?_
      rintro e w3 ⟨rfl, hb3⟩
      have B3 := Lib.hid (B2.out.trans (hb3.mono B2.out.size))
      clear hb3 B2
      go_wp2
      go_ret
      exact ⟨rfl, B3.out⟩
    · have := HNA.out
      rw [this] at g3
      cases g3
  all_goals
    have HS := Lib.hid h1
    obtain ⟨Z, hZ⟩ : ∃ Z, shV n = Z := ⟨_, rfl⟩
    have HZ := Lib.hid hZ
    clear h1 h3 HV hZ
    go_enter Try.func11, Try.ntmps11
    go_wp2_with fail
    refine (Shift_any n _).mono ?_
    rintro e w1 ⟨rfl, hb1⟩
    rw [HS.out, HZ.out]
    have B1 := Lib.hid hb1
    clear hb1
    go_wp2_with fail
    refine (awake_any _).mono ?_
    rintro e w3 ⟨rfl, hb3⟩
    have B3 := Lib.hid (B1.out.trans (hb3.mono B1.out.size))
    clear hb3 B1
    go_wp2
    go_ret
    exact ⟨rfl, B3.out⟩
end Go.Proofs.Ytbdabpmpfciibaa
