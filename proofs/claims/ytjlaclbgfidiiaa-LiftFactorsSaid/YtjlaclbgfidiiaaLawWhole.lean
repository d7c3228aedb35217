/- The walk of the law LiftWhole. Condition: the slice lies in memory. -/
import Derived.Test.YtjlaclbgfidiiaaWholeMath
import Derived.Test.YtjlaclbgfidiiaaContF
namespace Go.Proofs.Ytjlaclbgfidiiaa
open Go.RowKit
attribute [local go_sem] Oper.semAt_some

theorem Slopes_no (p : Int) (a : Option Addr) (n c : Nat) (f : List Int) (w : World) (h : Ints w a n f) (hn : n ≤ 4611686018427387904) (hno : (isPr p && isPoly f) = false) :
    Calls Try.prog 27 #[.slice a n c, .int .i64 p] w fun e w' => e = .returned (.tuple #[.slice none 0 0, .int .i64 2]) ∧ ∃ q, w' = w.drewN q := by
  have HP := Lib.hid (Polygon_no p a n c f w h hn hno)
  clear h hno
  go_enter Try.func27, Try.ntmps27
  go_wp2_with fail
  refine HP.out.mono ?_
  rintro e w1 ⟨rfl, q, rfl⟩
  go_wp2
  go_ret2
  exact ⟨rfl, q, rfl⟩
theorem SlopesR_no {B : Nat} {v : Value} (p : Int) (f : List Int) (w : World) (h : Row B v f w) (hl : f.length ≤ 4611686018427387904) (hno : (isPr p && isPoly f) = false) :
    Calls Try.prog 27 #[v, .int .i64 p] w fun e w' => e = .returned (.tuple #[.slice none 0 0, .int .i64 2]) ∧ ∃ q, w' = w.drewN q := by
  obtain ⟨a, n, c, rfl, hi, hn⟩ := h.ints
  exact Slopes_no p a n c f w hi (by omega) hno
theorem SlopesR_yes {B : Nat} {v : Value} (p : Nat) (f : List Int) (w : World) (h : Row B v f w) (hp : isPr (p : Int) = true) (p2 : 2 ≤ p) (p13 : p ≤ 13) (hf : isPoly f = true) :
    Calls Try.prog 27 #[v, .int .i64 (p : Int)] w fun e w' => (∃ v, e = .returned (.tuple #[v, .int .i64 0]) ∧ RowF w.heap.size v (slopesF (polyS f p)) w') ∧ Below w.heap.size w w' := by
  obtain ⟨a, n, c, rfl, hi, hn⟩ := h.ints
  exact Slopes_yes p a n c f w hi hp p2 p13 hf
theorem slopes_len {f : List Int} {q : Nat} (hf : isPoly f = true) : (slopesF (polyS f q)).length ≤ 100000 := by
  obtain ⟨l2, l7, -⟩ := isPoly_spec hf
  obtain ⟨h1, h2⟩ := poly_ok (f := f) (q := q) (by omega)
  have := slP_len h2 _ (Nat.le_refl _)
  unfold slopesF
  omega
theorem awakeB (x : Int) (hx : (decide (x < -100) || decide (100 < x) || decide (x = 0)) = true) : x < -100 ∨ 100 < x ∨ x = 0 := by
  simp only [Bool.or_eq_true, decide_eq_true_eq] at hx
  omega

set_option maxHeartbeats 8000000 in
set_option maxRecDepth 100000 in
theorem lawWhole_out (a : Option Addr) (n c : Nat) (p x : Int) (w : World) (hx : x < -100 ∨ 100 < x ∨ x = 0) :
    Calls Try.prog 11 #[.slice a n c, .int .i64 p, .int .i64 x] w fun e w' => e = .returned (.bool true) ∧ Below w.heap.size w w' := by
  rcases hx with h | h | h
  · go_enter Try.func11, Try.ntmps11
    go_wp2_with fail
    refine (awake_any _).mono ?_
    rintro e w5 ⟨rfl, hb⟩
    have HB := Lib.hid hb
    clear hb
    go_wp2
    go_ret
    exact ⟨rfl, HB.out⟩
  · have h2 : ¬ x < -100 := by omega
    go_enter Try.func11, Try.ntmps11
    go_wp2_with fail
    refine (awake_any _).mono ?_
    rintro e w5 ⟨rfl, hb⟩
    have HB := Lib.hid hb
    clear hb
    go_wp2
    go_ret
    exact ⟨rfl, HB.out⟩
  · subst h
    go_enter Try.func11, Try.ntmps11
    go_wp2_with fail
    refine (awake_any _).mono ?_
    rintro e w5 ⟨rfl, hb⟩
    have HB := Lib.hid hb
    clear hb
    go_wp2
    go_ret
    exact ⟨rfl, HB.out⟩

set_option maxHeartbeats 8000000 in
set_option maxRecDepth 100000 in
theorem lawWhole_in (a : Option Addr) (n c : Nat) (xs : List Int) (p x : Int) (w : World) (h : Ints w a n xs) (hc : n ≤ c) (hn : n ≤ 4611686018427387904) (hcm : c ≤ maxLen) (x0 : -100 ≤ x) (x1 : x ≤ 100) (hx : x ≠ 0) :
    Calls Try.prog 11 #[.slice a n c, .int .i64 p, .int .i64 x] w fun e w' => e = .returned (.bool true) ∧ Below w.heap.size w w' := by
  have HL1 := Lib.hid (fun w1 (hb : Below w.heap.size w w1) => list_row a n c xs w1 (h.below hb) hc hn hcm)
  have k1 : ¬ x < -100 := by omega
  have k2 : ¬ 100 < x := by omega
  have k3 : (x == 0) = false := by simp; omega
  cases hT : timesOK (xs.take 9) [-x, 1] with
  | false =>
    have HTN := Lib.hid (fun B v w1 (b2 : Option Addr) (c2 : Nat) (h1 : Row B v (xs.take 9) w1) (h2 : Ints w1 b2 2 [-x, 1]) => show Calls Try.prog 45 #[v, .slice b2 2 c2] w1 fun e w' => e = .returned (.tuple #[.slice none 0 0, .int .i64 2]) ∧ Below w1.heap.size w1 w' from by
      obtain ⟨a1, n1, c1, rfl, i1, e1⟩ := h1.ints
      exact Times_no a1 b2 n1 2 c1 c2 _ _ w1 i1 h2 (by rw [e1]; exact take9_len _) (by omega) hT)
    clear h hT
    go_enter Try.func11, Try.ntmps11
    go_wp2_with fail
    refine (HL1.out w (Below.refl _ _)).mono ?_
    rintro e w1 ⟨v1, rfl, hr, hb⟩
    have HR1 := Lib.hid (hr.later ((Below.refl w1.heap.size w1).alloc (Nat.le_refl _) (.cells #[.int .i64 (-x), .int .i64 1] 3)))
    have HB1 := Lib.hid (hb.alloc hb.size (.cells #[.int .i64 (-x), .int .i64 1] 3))
    have HI := Lib.hid (Row.lit2 w1 (-x) 1)
    clear hr hb
    go_wp2_with fail
    refine (HTN.out _ _ _ _ _ HR1.out HI.out).mono ?_
    rintro e w3 ⟨rfl, hb⟩
    have HB3 := Lib.hid (HB1.out.trans (hb.mono HB1.out.size))
    clear hb
    go_wp2_with fail
    refine (awake_any _).mono ?_
    rintro e w5 ⟨rfl, hb⟩
    have HB5 := Lib.hid (HB3.out.trans (hb.mono HB3.out.size))
    clear hb
    go_wp2
    go_ret
    exact ⟨rfl, HB5.out⟩
  | true =>
    have HTY := Lib.hid (fun B v w1 (b2 : Option Addr) (c2 : Nat) (h1 : Row B v (xs.take 9) w1) (h2 : Ints w1 b2 2 [-x, 1]) => show Calls Try.prog 45 #[v, .slice b2 2 c2] w1 fun e w' => (∃ v, e = .returned (.tuple #[v, .int .i64 0]) ∧ Row w1.heap.size v (mulF (xs.take 9) [-x, 1]) w') ∧ Below w1.heap.size w1 w' from by
      obtain ⟨a1, n1, c1, rfl, i1, e1⟩ := h1.ints
      exact Times_yes a1 b2 n1 2 c1 c2 _ _ w1 i1 h2 hT)
    have hT2 := hT
    unfold timesOK at hT2
    simp only [Bool.and_eq_true] at hT2
    obtain ⟨⟨hf, hg⟩, hh⟩ := hT2
    cases hp : isPr p with
    | false =>
      have hlen : (mulF (xs.take 9) [-x, 1]).length ≤ 4611686018427387904 := by rw [mulF_len, List.length_take]; simp only [List.length_cons, List.length_nil]; omega
      have HSN := Lib.hid (fun B v w1 (hr : Row B v (mulF (xs.take 9) [-x, 1]) w1) => SlopesR_no p _ w1 hr hlen (by rw [hp]; rfl))
      clear h hT hf hg hh hlen hp
      go_enter Try.func11, Try.ntmps11
      go_wp2_with fail
      refine (HL1.out w (Below.refl _ _)).mono ?_
      rintro e w1 ⟨v1, rfl, hr, hb⟩
      have HR1 := Lib.hid (hr.later ((Below.refl w1.heap.size w1).alloc (Nat.le_refl _) (.cells #[.int .i64 (-x), .int .i64 1] 3)))
      have HB1 := Lib.hid (hb.alloc hb.size (.cells #[.int .i64 (-x), .int .i64 1] 3))
      have HI := Lib.hid (Row.lit2 w1 (-x) 1)
      clear hr hb
      go_wp2_with fail
      refine (HTY.out _ _ _ _ _ HR1.out HI.out).mono ?_
      rintro e w3 ⟨⟨v, rfl, hr⟩, hb⟩
      have HB3 := Lib.hid (HB1.out.trans (hb.mono HB1.out.size))
      have HS := Lib.hid (HSN.out _ _ _ hr)
      clear hb hr
      go_wp2_with fail
      refine HS.out.mono ?_
      rintro e w4 ⟨rfl, hq⟩
      have HB4 := Lib.hid (below_drew HB3.out hq)
      clear hq
      go_wp2_with fail
      refine (awake_any _).mono ?_
      rintro e w5 ⟨rfl, hb⟩
      have HB5 := Lib.hid (HB4.out.trans (hb.mono HB4.out.size))
      clear hb
      go_wp2
      go_ret
      exact ⟨rfl, HB5.out⟩
    | true =>
      have HPR := Lib.hid (fun w => primeR_any p w)
      rw [hp] at HPR
      obtain ⟨q, rfl, hq⟩ := isPr_mem hp
      obtain ⟨q2, q13⟩ := pr_bounds hq
      have hsl := whole_slope hq hx x0 x1 hf hg hh
      have hslen := slopes_len (q := q) hh
      have HSY := Lib.hid (fun B v w1 (hr : Row B v (mulF (xs.take 9) [-x, 1]) w1) => SlopesR_yes q _ w1 hr hp q2 q13 hh)
      obtain ⟨M, hM⟩ : ∃ M, slopesF (polyS (mulF (xs.take 9) [-x, 1]) q) = M := ⟨_, rfl⟩
      rw [hM] at HSY hsl hslen
      obtain ⟨K, hK⟩ : ∃ K, ordF q 40 x = K := ⟨_, rfl⟩
      rw [hK] at hsl
      have hK40 : K ≤ 40 := by rw [← hK]; exact ordF_le q 40 x
      have HK := Lib.hid hK
      have HOK := Lib.hid (show x.natAbs < 2 ^ 40 by have : (2 : Nat) ^ 40 = 1099511627776 := by decide
                                                     omega)
      have qne : ¬ (q : Int) = 0 := by omega
      have HSL := Lib.hid hsl
      have HSLEN := Lib.hid hslen
      clear h hT hf hg hh hp hM hK hsl hslen
      go_enter Try.func11, Try.ntmps11
      go_wp2_with fail
      refine (HL1.out w (Below.refl _ _)).mono ?_
      rintro e w1 ⟨v1, rfl, hr, hb⟩
      have HR1 := Lib.hid (hr.later ((Below.refl w1.heap.size w1).alloc (Nat.le_refl _) (.cells #[.int .i64 (-x), .int .i64 1] 3)))
      have HB1 := Lib.hid (hb.alloc hb.size (.cells #[.int .i64 (-x), .int .i64 1] 3))
      have HI := Lib.hid (Row.lit2 w1 (-x) 1)
      clear hr hb
      go_wp2_with fail
      refine (HTY.out _ _ _ _ _ HR1.out HI.out).mono ?_
      rintro e w3 ⟨⟨v, rfl, hr⟩, hb⟩
      have HB3 := Lib.hid (HB1.out.trans (hb.mono HB1.out.size))
      have HS := Lib.hid (HSY.out _ _ _ hr)
      clear hb hr
      go_wp2_with fail
      refine HS.out.mono ?_
      rintro e w4 ⟨⟨v4, rfl, hr⟩, hb⟩
      have HB4 := Lib.hid (HB3.out.trans (hb.mono HB3.out.size))
      obtain ⟨a4, c4, rfl, -, -, hp4⟩ := hr.prs
      have HCO := Lib.hid (containsF_any a4 M.length c4 M (-(K : Int)) 1 w4 hp4 HSLEN.out)
      clear hb hr hp4
      go_wp2_with fail
      refine (HPR.out _).mono ?_
      rintro e w5 ⟨rfl, rfl⟩
      go_wp2
      go_loopg [10, 11] K (fun gk s10 s11 wr => ∃ (k : Nat) (m : Int), k + gk = K ∧ s10 = .int .i64 (k : Int) ∧ s11 = .int .i64 m ∧ m ≠ 0 ∧ -1000000 ≤ m ∧ m ≤ 1000000 ∧ ordF q (40 - k) m + k = K ∧ m.natAbs < 2 ^ (40 - k) ∧ wr = w4)
      case atStart => exact ⟨0, x, by omega, rfl, rfl, hx, by omega, by omega, HK.out, HOK.out, rfl⟩
      case round =>
        obtain ⟨k, m, hk, rfl, rfl, hm, m0, m1, hord, hab, rfl⟩ := hrel
        have HKK := Lib.hid hk
        have hf : 40 - k ≠ 0 := by intro h; rw [h] at hab; simp at hab; exact hm hab
        obtain ⟨g, hg⟩ : ∃ g, 40 - k = g + 1 := ⟨40 - k - 1, by omega⟩
        have HG := Lib.hid hg
        rw [hg] at hord
        have k40 : k < 40 := by omega
        by_cases hd : (q : Int) ∣ m
        · have ho := ordF_yes (q := q) (k := g) hd
          rw [ho] at hord
          obtain ⟨y, hy⟩ := hd
          have ht : m.tdiv (q : Int) = y := by rw [hy, Int.mul_tdiv_cancel_left _ qne]
          have he : m / (q : Int) = y := by rw [hy, Int.mul_ediv_cancel_left _ qne]
          rw [he] at hord
          have hr : (m.tmod (q : Int) == 0) = true := by rw [Int.tmod_eq_zero_of_dvd ⟨y, hy⟩]; rfl
          have hy0 : y ≠ 0 := fun e => hm (by rw [hy, e, Int.mul_zero])
          obtain ⟨ya, yb, yc⟩ := part_small q2 hy m0 m1
          have HXO := Lib.hid (show ordF q (40 - (k + 1)) y + (k + 1) = K by rw [show 40 - (k + 1) = g by omega]; omega)
          have HXA := Lib.hid (show y.natAbs < 2 ^ (40 - (k + 1)) by
            rw [show 40 - (k + 1) = g by omega]
            have h2 : m.natAbs < 2 ^ (g + 1) := by rw [← hg]; exact hab
            rw [Nat.pow_succ] at h2
            omega)
          have t0 := Int.tmod_lt_of_pos m (show (0 : Int) < (q : Int) by omega)
          have t1 := Int.lt_tmod_of_pos m (show (0 : Int) < (q : Int) by omega)
          clear hk hord hab hg ho hy he hf yc
          go_wp2
          go_roundg (K - k - 1)
          case rel => exact ⟨k + 1, y, by have := HKK.out; have := HXO.out; omega, by go_num, rfl, hy0, ya, yb, HXO.out, HXA.out, rfl⟩
          case measure => have := HKK.out; have := HXO.out; omega
        · have ho := ordF_no (q := q) (k := g) hd
          rw [ho] at hord
          have hr : (m.tmod (q : Int) == 0) = false := by
            rw [beq_eq_false_iff_ne]
            exact fun h => hd (Int.dvd_of_tmod_eq_zero h)
          have hkK : k = K := by omega
          have HC := HCO.out
          rw [← hkK] at HC
          have HC2 := Lib.hid HC
          have HSL2 := Lib.hid (show (-(k : Int), (1 : Int)) ∈ M by rw [hkK]; exact HSL.out)
          have t0 := Int.tmod_lt_of_pos m (show (0 : Int) < (q : Int) by omega)
          have t1 := Int.lt_tmod_of_pos m (show (0 : Int) < (q : Int) by omega)
          clear hk hord hab hg ho hd hf hkK HC
          go_wp2_with fail
          refine HC2.out.mono ?_
          rintro e w6 ⟨rfl, hb⟩
          rw [decide_eq_true HSL2.out]
          have HB6 := Lib.hid (HB4.out.trans (hb.mono HB4.out.size))
          clear hb
          go_wp2_with fail
          refine (awake_any _).mono ?_
          rintro e w7 ⟨rfl, hb⟩
          have HB7 := Lib.hid (HB6.out.trans (hb.mono HB6.out.size))
          clear hb
          go_wp2
          go_ret
          exact ⟨rfl, HB7.out⟩
theorem lawWhole_any (a : Option Addr) (n c : Nat) (xs : List Int) (p x : Int) (w : World) (h : Ints w a n xs) (hc : n ≤ c) (hn : n ≤ 4611686018427387904) (hcm : c ≤ maxLen) :
    Calls Try.prog 11 #[.slice a n c, .int .i64 p, .int .i64 x] w fun e w' => e = .returned (.bool true) ∧ Below w.heap.size w w' := by
  by_cases hx : x < -100 ∨ 100 < x ∨ x = 0
  · exact lawWhole_out a n c p x w hx
  · exact lawWhole_in a n c xs p x w h hc hn hcm (by omega) (by omega) (by omega)
end Go.Proofs.Ytjlaclbgfidiiaa
