/- The law SumsSquares: it returns true, whatever its arguments are. -/
import Derived.Test.YtopfcppmbkidgaaLawRts
namespace Go.Proofs.Ytopfcppmbkidgaa
open Go.RowKit
attribute [local go_sem] Oper.semAt_some

theorem Prm.least_prime {p r : Nat} (h : Prm p) (h2 : 2 ≤ r) (hj : Jv (r : Int) p = -1) (hF : ∀ j : Nat, 2 ≤ j → j < r → Jv (j : Int) p = 1) : ∀ d, 2 ≤ d → d < r → r % d ≠ 0 := fun d d1 d2 e => by
  obtain ⟨c, hc⟩ := Nat.dvd_of_mod_eq_zero e
  have c2 : 2 ≤ c := by
    rcases (by omega : c = 0 ∨ c = 1 ∨ 2 ≤ c) with k | k | k
    · subst k; omega
    · subst k; omega
    · exact k
  have c3 : c < r := by
    rw [hc]
    calc c < 2 * c := by omega
      _ ≤ d * c := Nat.mul_le_mul_right _ d1
  have := Jn_mul (a := d) (b := c) h.odd
  rw [← hc, hj, hF d d1 d2, hF c c2 c3] at this
  omega
theorem Prm.half {p a z : Nat} (h : Prm p) (hz : z < p) (he : z * z % p = a) (hF : ∀ y, y < z → y * y % p ≠ a) : 2 * z ≤ p := by
  refine Nat.not_lt.1 fun hl => ?_
  refine hF (p - z) (by omega) ?_
  rw [← he]
  apply dvd_mod_eq
  rw [Int.natCast_mul, Int.natCast_mul, Int.natCast_sub (by omega)]
  exact ⟨(p : Int) - 2 * z, by grind⟩

set_option maxRecDepth 100000 in
set_option maxHeartbeats 2000000 in
theorem squares_no (a p : Int) (h : ¬ (PrI p ∧ p ≤ 10000 ∧ 0 ≤ a ∧ a < p)) (w : World) : Calls Try.prog 16 #[.int .i64 a, .int .i64 p] w fun e w' => e = .returned (.bool true) ∧ Below w.heap.size w w' := by
  have HR := Lib.hid (fun W => Root_no a p h W)
  have HA := Lib.hid (fun W => awake_any W)
  by_cases hp : PrI p ∧ p ≤ 10000
  · obtain ⟨x, rfl⟩ := Int.eq_ofNat_of_zero_le (show 0 ≤ p by have := hp.1.1; omega)
    obtain ⟨r, r1, r2, r3, r4, r5, r6⟩ := (PrI.nat.1 hp.1).least
    have HL := Lib.hid (fun W => Least_yes x r hp.1 (by have := hp.2; omega) r1 (by omega) (by rw [r5]; decide) r6 W)
    clear hp h r1 r2 r3 r4 r5 r6
    go_enter Try.func16, Try.ntmps16
    go_wp2_with fail
    refine (HR.out _).mono ?_
    rintro e w1 ⟨rfl, rfl⟩
    go_wp2_with fail
    refine (HL.out _).mono ?_
    rintro e w2 ⟨rfl, hb⟩
    have HB := Lib.hid hb
    clear hb
    go_wp2_with fail
    refine (HA.out _).mono ?_
    rintro e w4 ⟨rfl, hb⟩
    have HB2 := Lib.hid (HB.out.trans (hb.mono HB.out.size))
    clear hb
    go_wp2
    go_ret
    exact ⟨rfl, HB2.out⟩
  · have HL := Lib.hid (fun W => Least_no p hp W)
    clear hp h
    go_enter Try.func16, Try.ntmps16
    go_wp2_with fail
    refine (HR.out _).mono ?_
    rintro e w1 ⟨rfl, rfl⟩
    go_wp2_with fail
    refine (HL.out _).mono ?_
    rintro e w2 ⟨rfl, rfl⟩
    go_wp2_with fail
    refine (HA.out _).mono ?_
    rintro e w4 ⟨rfl, hb⟩
    have HB2 := Lib.hid hb
    clear hb
    go_wp2
    go_ret
    exact ⟨rfl, HB2.out⟩

set_option maxRecDepth 100000 in
set_option maxHeartbeats 4000000 in
theorem squares_hit (a p : Nat) (hq : PrI (p : Int)) (hp : p ≤ 10000) (h : a < p) (x : Nat) (hx1 : 2 * x ≤ p) (hx2 : x * x % p = a) (hj : Jv (a : Int) p = 0 ∨ Jv (a : Int) p = 1)
    (HR : RowKit.Hid (∀ W, Calls Try.prog 51 #[.int .i64 (a : Int), .int .i64 (p : Int)] W fun e1 w' => e1 = .returned (.tuple #[.int .i64 (x : Int), .int .i64 0]) ∧ w' = W)) (w : World) :
    Calls Try.prog 16 #[.int .i64 (a : Int), .int .i64 (p : Int)] w fun e w' => e = .returned (.bool true) ∧ Below w.heap.size w w' := by
  have ho := hq.odd
  have hp3 := hq.1
  obtain ⟨r, r1, r2, r3, r4, r5, r6⟩ := (PrI.nat.1 hq).least
  have HD := Lib.hid ((PrI.nat.1 hq).least_prime r1 r5 r6)
  have HL := Lib.hid (fun W => Least_yes p r hq hp r1 (by omega) (by rw [r5]; decide) r6 W)
  have HP := Lib.hid (fun W => prime_any p true ⟨fun _ => ⟨hq, by omega⟩, fun _ => rfl⟩ W)
  have HJa := Lib.hid (fun W => Jacobi_yes (a : Int) (p : Int) ⟨by omega, by omega, by omega, by omega, by omega⟩ W)
  have HJr := Lib.hid (fun W => Jacobi_yes (r : Int) (p : Int) ⟨by omega, by omega, by omega, by omega, by omega⟩ W)
  have HJd : RowKit.Hid (∀ d : Nat, 2 ≤ d → d < r → ∀ W, Calls Try.prog 36 #[.int .i64 (d : Int), .int .i64 (p : Int)] W fun e w' => e = .returned (.tuple #[.int .i64 1, .int .i64 0]) ∧ Below W.heap.size W w') := Lib.hid (fun d d1 d2 W => by
    have := Jacobi_yes (d : Int) (p : Int) ⟨by omega, by omega, by omega, by omega, by omega⟩ W
    rw [r6 d d1 d2] at this
    exact this)
  rw [r5] at HJr
  obtain ⟨j, hjj⟩ : ∃ j, Jv (a : Int) p = j := ⟨_, rfl⟩
  rw [hjj] at HJa hj
  have HA := Lib.hid (fun W => awake_any W)
  have h0 : 0 ≤ (a : Int) := by omega
  have h1 : (a : Int) < p := by omega
  have pne : ¬ (p : Int) = 0 := by omega
  have l1 : (2 : Int) ≤ (r : Int) := by omega
  have l2 : (r : Int) ≤ (p : Int) := by omega
  have l4 : decide (p < r) = false := decide_eq_false (by omega)
  have l5 : decide ((p : Int) < (r : Int)) = false := decide_eq_false (by omega)
  have l6 : decide ((r : Int) < 2) = false := decide_eq_false (by omega)
  have q0 : 0 ≤ (x : Int) * x := Int.mul_nonneg (by omega) (by omega)
  have q1 : (x : Int) * x ≤ 100000000 := by have := Int.mul_le_mul (show (x : Int) ≤ 10000 by omega) (show (x : Int) ≤ 10000 by omega) (by omega) (by decide); omega
  have hw : wrap64 ((x : Int) * x) = (x : Int) * x := IntWalk.wrap64_in _ (by omega)
  have hm : (x : Int) * x % p = (a : Int) := by rw [← Int.natCast_mul, ← Int.natCast_emod, hx2]
  have x0 : (0 : Int) ≤ (x : Int) := by omega
  have x1 : 2 * (x : Int) ≤ (p : Int) := by omega
  have j0 : 0 ≤ j := by omega
  have jb : decide (0 ≤ j) = true := decide_eq_true j0
  clear hq r3 r4 r5 r6 hjj
  go_enter Try.func16, Try.ntmps16
  go_wp2_with fail
  refine (HR.out _).mono ?_
  rintro e w1 ⟨rfl, rfl⟩
  go_wp2_with fail
  refine (HL.out _).mono ?_
  rintro e w2 ⟨rfl, hb⟩
  have HB := Lib.hid hb
  clear hb
  go_wp2_with fail
  refine (HP.out _).mono ?_
  rintro e w3 ⟨rfl, rfl⟩
  go_wp2_with fail
  refine (HJa.out _).mono ?_
  rintro e w4 ⟨rfl, hb⟩
  have HB2 := Lib.hid (HB.out.trans (hb.mono HB.out.size))
  clear hb
  go_wp2
  go_loopg [11] (r - 2) (fun gk s11 wr => ∃ d : Nat, 2 ≤ d ∧ d + gk = r ∧ s11 = .int .i64 (d : Int) ∧ Below w1.heap.size w1 wr)
  case atStart => exact ⟨2, by omega, by omega, rfl, HB2.out⟩
  case round =>
    obtain ⟨d, hd2, hdg, rfl, hb⟩ := hrel
    have HK := Lib.hid (And.intro hd2 hdg)
    have HBB := Lib.hid hb
    have d0 : (0 : Int) ≤ (d : Int) := by omega
    have dne : ¬ (d : Int) = 0 := by omega
    have db : (d : Int) ≤ 10000 := by omega
    clear hb
    by_cases hdr : d < r
    · have l3 : (d : Int) < (r : Int) := by omega
      have HC := Lib.hid (HJd.out d hd2 hdr)
      have hm2 : ((r : Int) % (d : Int) == 0) = false := beq_eq_false_iff_ne.2 (by
        have := HD.out d hd2 hdr
        rw [← Int.natCast_emod]; omega)
      have HDR := Lib.hid hdr
      clear hdg hdr
      go_wp2_with fail
      refine (HC.out _).mono ?_
      rintro e w5 ⟨rfl, hb⟩
      have HB3 := Lib.hid (HBB.out.trans (hb.mono HBB.out.size))
      clear hb
      go_wp2
      go_roundg (gk - 1)
      case rel => exact ⟨d + 1, by omega, by have := HK.out; have := HDR.out; omega, by go_num, HB3.out⟩
      case measure => have := HK.out; have := HDR.out; omega
    · have l3 : decide ((d : Int) < (r : Int)) = false := decide_eq_false (by omega)
      clear hdg
      go_wp2_with fail
      refine (HJr.out _).mono ?_
      rintro e w5 ⟨rfl, hb⟩
      have HB3 := Lib.hid (HBB.out.trans (hb.mono HBB.out.size))
      clear hb
      go_wp2_with fail
      refine (HA.out _).mono ?_
      rintro e w6 ⟨rfl, hb⟩
      have HB4 := Lib.hid (HB3.out.trans (hb.mono HB3.out.size))
      clear hb
      go_wp2
      go_ret
      exact ⟨rfl, HB4.out⟩

set_option maxRecDepth 100000 in
set_option maxHeartbeats 4000000 in
theorem squares_miss (a p : Nat) (hq : PrI (p : Int)) (hp : p ≤ 10000) (h : a < p) (hj : Jv (a : Int) p = -1)
    (HR : RowKit.Hid (∀ W, Calls Try.prog 51 #[.int .i64 (a : Int), .int .i64 (p : Int)] W fun e1 w' => e1 = .returned (.tuple #[.int .i64 0, .int .i64 4]) ∧ w' = W)) (w : World) :
    Calls Try.prog 16 #[.int .i64 (a : Int), .int .i64 (p : Int)] w fun e w' => e = .returned (.bool true) ∧ Below w.heap.size w w' := by
  have ho := hq.odd
  have hp3 := hq.1
  obtain ⟨r, r1, r2, r3, r4, r5, r6⟩ := (PrI.nat.1 hq).least
  have HD := Lib.hid ((PrI.nat.1 hq).least_prime r1 r5 r6)
  have HL := Lib.hid (fun W => Least_yes p r hq hp r1 (by omega) (by rw [r5]; decide) r6 W)
  have HP := Lib.hid (fun W => prime_any p true ⟨fun _ => ⟨hq, by omega⟩, fun _ => rfl⟩ W)
  have HJa := Lib.hid (fun W => Jacobi_yes (a : Int) (p : Int) ⟨by omega, by omega, by omega, by omega, by omega⟩ W)
  have HJr := Lib.hid (fun W => Jacobi_yes (r : Int) (p : Int) ⟨by omega, by omega, by omega, by omega, by omega⟩ W)
  have HJd : RowKit.Hid (∀ d : Nat, 2 ≤ d → d < r → ∀ W, Calls Try.prog 36 #[.int .i64 (d : Int), .int .i64 (p : Int)] W fun e w' => e = .returned (.tuple #[.int .i64 1, .int .i64 0]) ∧ Below W.heap.size W w') := Lib.hid (fun d d1 d2 W => by
    have := Jacobi_yes (d : Int) (p : Int) ⟨by omega, by omega, by omega, by omega, by omega⟩ W
    rw [r6 d d1 d2] at this
    exact this)
  rw [r5] at HJr
  obtain ⟨j, hjj⟩ : ∃ j, Jv (a : Int) p = j := ⟨_, rfl⟩
  rw [hjj] at HJa hj
  have HA := Lib.hid (fun W => awake_any W)
  have h0 : 0 ≤ (a : Int) := by omega
  have h1 : (a : Int) < p := by omega
  have pne : ¬ (p : Int) = 0 := by omega
  have l1 : (2 : Int) ≤ (r : Int) := by omega
  have l2 : (r : Int) ≤ (p : Int) := by omega
  have l4 : decide (p < r) = false := decide_eq_false (by omega)
  have l5 : decide ((p : Int) < (r : Int)) = false := decide_eq_false (by omega)
  have l6 : decide ((r : Int) < 2) = false := decide_eq_false (by omega)
  subst hj
  clear hq r3 r4 r5 r6 hjj
  go_enter Try.func16, Try.ntmps16
  go_wp2_with fail
  refine (HR.out _).mono ?_
  rintro e w1 ⟨rfl, rfl⟩
  go_wp2_with fail
  refine (HL.out _).mono ?_
  rintro e w2 ⟨rfl, hb⟩
  have HB := Lib.hid hb
  clear hb
  go_wp2_with fail
  refine (HP.out _).mono ?_
  rintro e w3 ⟨rfl, rfl⟩
  go_wp2_with fail
  refine (HJa.out _).mono ?_
  rintro e w4 ⟨rfl, hb⟩
  have HB2 := Lib.hid (HB.out.trans (hb.mono HB.out.size))
  clear hb
  go_wp2
  go_loopg [11] (r - 2) (fun gk s11 wr => ∃ d : Nat, 2 ≤ d ∧ d + gk = r ∧ s11 = .int .i64 (d : Int) ∧ Below w1.heap.size w1 wr)
  case atStart => exact ⟨2, by omega, by omega, rfl, HB2.out⟩
  case round =>
    obtain ⟨d, hd2, hdg, rfl, hb⟩ := hrel
    have HK := Lib.hid (And.intro hd2 hdg)
    have HBB := Lib.hid hb
    have d0 : (0 : Int) ≤ (d : Int) := by omega
    have dne : ¬ (d : Int) = 0 := by omega
    have db : (d : Int) ≤ 10000 := by omega
    clear hb
    by_cases hdr : d < r
    · have l3 : (d : Int) < (r : Int) := by omega
      have HC := Lib.hid (HJd.out d hd2 hdr)
      have hm2 : ((r : Int) % (d : Int) == 0) = false := beq_eq_false_iff_ne.2 (by
        have := HD.out d hd2 hdr
        rw [← Int.natCast_emod]; omega)
      have HDR := Lib.hid hdr
      clear hdg hdr
      go_wp2_with fail
      refine (HC.out _).mono ?_
      rintro e w5 ⟨rfl, hb⟩
      have HB3 := Lib.hid (HBB.out.trans (hb.mono HBB.out.size))
      clear hb
      go_wp2
      go_roundg (gk - 1)
      case rel => exact ⟨d + 1, by omega, by have := HK.out; have := HDR.out; omega, by go_num, HB3.out⟩
      case measure => have := HK.out; have := HDR.out; omega
    · have l3 : decide ((d : Int) < (r : Int)) = false := decide_eq_false (by omega)
      clear hdg
      go_wp2_with fail
      refine (HJr.out _).mono ?_
      rintro e w5 ⟨rfl, hb⟩
      have HB3 := Lib.hid (HBB.out.trans (hb.mono HBB.out.size))
      clear hb
      go_wp2_with fail
      refine (HA.out _).mono ?_
      rintro e w6 ⟨rfl, hb⟩
      have HB4 := Lib.hid (HB3.out.trans (hb.mono HB3.out.size))
      clear hb
      go_wp2
      go_ret
      exact ⟨rfl, HB4.out⟩

theorem squares_any (a p : Int) (w : World) : Calls Try.prog 16 #[.int .i64 a, .int .i64 p] w fun e w' => e = .returned (.bool true) ∧ Below w.heap.size w w' := by
  by_cases h : PrI p ∧ p ≤ 10000 ∧ 0 ≤ a ∧ a < p
  · obtain ⟨h1, h2, h3, h4⟩ := h
    obtain ⟨x, rfl⟩ := Int.eq_ofNat_of_zero_le (show 0 ≤ p by have := h1.1; omega)
    obtain ⟨y, rfl⟩ := Int.eq_ofNat_of_zero_le h3
    have hy : y < x := by omega
    have hx : x ≤ 10000 := by omega
    have hP := PrI.nat.1 h1
    obtain ⟨s1, s2⟩ := hP.symbol hy
    by_cases h5 : ∃ z, z < x ∧ z * z % x = y
    · obtain ⟨z, z1, z2, z3⟩ := first_root h5
      refine squares_hit y x h1 hx hy z (hP.half z1 z2 z3) z2 ?_ (Lib.hid (fun W => Root_hit y x z h1 hx hy z1 z2 z3 W)) w
      by_cases hy0 : y = 0
      · left; exact s1.2 hy0
      · right; exact (s2 (by omega)).2 h5
    · have hn : ∀ z, z < x → z * z % x ≠ y := fun z hz e => h5 ⟨z, hz, e⟩
      refine squares_miss y x h1 hx hy ?_ (Lib.hid (fun W => Root_miss y x h1 hx hy hn W)) w
      have hy0 : y ≠ 0 := fun e => hn 0 (by omega) (by rw [e]; simp)
      rcases Jv_cases (y : Int) x with e | e | e
      · exact absurd (s1.1 e) hy0
      · exact absurd ((s2 (by omega)).1 e) h5
      · exact e
  · exact squares_no a p h w
end Go.Proofs.Ytopfcppmbkidgaa
