/- The walk of the reference's Legendre: of a prime it is the symbol. Condition: the prime is odd and in range. -/
import Derived.Test.YtopfcppmbkidgaaStp
import Derived.Test.YtopfcppmbkidgaaEC
namespace Go.Proofs.Ytopfcppmbkidgaa
open Go.RowKit
attribute [local go_sem] Oper.semAt_some

theorem pm_odd {p x y e : Nat} : (x * y % p) * (y * y % p) ^ e % p = x * y ^ (2 * e + 1) % p := by
  rw [Nat.mul_mod, ← Nat.pow_mod, Nat.mod_mod, ← Nat.mul_mod]
  congr 1
  rw [Nat.pow_succ, Nat.pow_mul, Nat.pow_two]; grind
theorem pm_even {p x y e : Nat} : x * (y * y % p) ^ e % p = x * y ^ (2 * e) % p := by
  rw [Nat.mul_mod, ← Nat.pow_mod, ← Nat.mul_mod, Nat.pow_mul, Nat.pow_two]
theorem leg_end {p b x : Nat} (hp : Prm p) (hb : b < p) (hx : x < p) (h : x % p = b ^ (p / 2) % p) : (if x = p - 1 then (-1 : Int) else (x : Int)) = Jv (b : Int) p := by
  have h3 := hp.1
  rw [Nat.mod_eq_of_lt hx] at h
  by_cases h0 : b = 0
  · subst h0
    have : Jv ((0 : Nat) : Int) p = 0 := (hp.symbol hb).1.2 rfl
    rw [this]
    rw [Nat.zero_pow (by omega)] at h
    simp at h
    subst h
    rw [if_neg (by omega)]; rfl
  · have hn : ¬ p ∣ b := small_not (by omega) hb
    have hd := hp.power hn
    rw [Jv_pos (hp.cop hn)]
    rcases G_cases b p with e | e
    · rw [e] at hd ⊢
      have := dvd_mod_eq (p := p) (a := b ^ (p / 2)) (b := 1) (by rw [Int.natCast_pow]; exact hd)
      rw [Nat.mod_eq_of_lt (show 1 < p by omega)] at this
      have : x = 1 := by omega
      subst this
      rw [if_neg (by omega)]; rfl
    · rw [e] at hd ⊢
      have := dvd_mod_eq (p := p) (a := b ^ (p / 2)) (b := p - 1) (by
        rw [Int.natCast_pow, Int.natCast_sub (by omega)]
        have := Int.dvd_sub hd (Int.dvd_refl (p : Int))
        refine cast (congrArg (fun z : Int => (p : Int) ∣ z) ?_) this
        omega)
      rw [Nat.mod_eq_of_lt (show p - 1 < p by omega)] at this
      rw [if_pos (by omega)]

set_option maxRecDepth 100000 in
set_option maxHeartbeats 4000000 in
theorem legendre_any (a : Int) (p : Nat) (hp : Prm p) (hp2 : p ≤ 1000000000) (a0 : -1000000000 ≤ a) (a1 : a ≤ 1000000000) (w : World) :
    Calls Try.prog 64 #[.int .i64 a, .int .i64 (p : Int)] w fun e w' => e = .returned (.int .i64 (Jv a p)) ∧ Below w.heap.size w w' := by
  have h3 := hp.1
  have ho := hp.odd
  obtain ⟨b, m, hm, hb, hJ, hbl⟩ := Jv_res (a := a) (n := (p : Int)) (by omega)
  obtain rfl : p = m := by omega
  obtain ⟨R, hR⟩ : ∃ R, Jv a (p : Int) = R := ⟨_, rfl⟩
  have HJ := Lib.hid (show Jv (b : Int) p = R by rw [← hJ, hR])
  rw [hR]
  have HP := Lib.hid hp
  have HB := Lib.hid (Below.refl w.heap.size w)
  have hr := tmod_res2 (n := a) (m := (p : Int)) (by omega)
  rw [Int.add_emod_right] at hr
  have t1 := Int.tmod_lt_of_pos a (show (0 : Int) < p by omega)
  have t2 := Int.lt_tmod_of_pos a (show (0 : Int) < p by omega)
  have hne : ¬ (p : Int) = 0 := by omega
  have hmod : (a.tmod (p : Int)) % (p : Int) = (b : Int) := by rw [hr, hb]
  have hmod2 : a % (p : Int) = (b : Int) := hb
  have hmod3 : (a.tmod (p : Int) + p).tmod (p : Int) = (b : Int) := by rw [tmod_res (by omega)]; exact hb
  have hw : wrap64 (a.tmod (p : Int) + p) = a.tmod (p : Int) + p := IntWalk.wrap64_in _ (by omega)
  have hw2 : IntKind.i64.wrap (a.tmod (p : Int) + p) = a.tmod (p : Int) + p := IntWalk.i64_in _ (by omega)
  have eh : ((p : Int) - 1) / 2 = ((p / 2 : Nat) : Int) := by omega
  have p1 : (1 : Int) ≤ (p : Int) := by omega
  clear hp hJ hR hr hm hb
  go_enter Try.func64, Try.ntmps64
  go_wp2
  go_quiet (fail)
  go_wp2
  go_loopg [5, 6, 7] (p / 2) (fun gk s5 s6 s7 wr => ∃ (x y e q : Nat), x < p ∧ y < p ∧ e ≤ gk ∧ e ≤ p / 2 ∧ RowKit.Hid (x * y ^ e % p = b ^ (p / 2) % p) ∧ s5 = .int .i64 (x : Int) ∧ s6 = .int .i64 (y : Int) ∧ s7 = .int .i64 (e : Int) ∧ wr = w.drewN q)
  case atStart => exact ⟨1, b, p / 2, _, by omega, hbl, Nat.le_refl _, Nat.le_refl _, Lib.hid (by rw [Nat.one_mul]), rfl, by first | rfl | rw [hmod] | rw [hmod2], by first | rfl | rw [eh], rfl⟩
  case round =>
    obtain ⟨x, y, e, q, hx, hy, he, heh, HI, rfl, rfl, rfl, rfl⟩ := hrel
    have HK := Lib.hid he
    have yy0 : 0 ≤ (y : Int) * y := Int.mul_nonneg (by omega) (by omega)
    have yy1 : (y : Int) * y ≤ 1000000000000000000 := by have := Int.mul_le_mul (show (y : Int) ≤ 1000000000 by omega) (show (y : Int) ≤ 1000000000 by omega) (by omega) (by decide); omega
    have xy0 : 0 ≤ (x : Int) * y := Int.mul_nonneg (by omega) (by omega)
    have xy1 : (x : Int) * y ≤ 1000000000000000000 := by have := Int.mul_le_mul (show (x : Int) ≤ 1000000000 by omega) (show (y : Int) ≤ 1000000000 by omega) (by omega) (by decide); omega
    have eyy : (y : Int) * y % p = ((y * y % p : Nat) : Int) := by rw [Int.natCast_emod, Int.natCast_mul]
    have exy : (x : Int) * y % p = ((x * y % p : Nat) : Int) := by rw [Int.natCast_emod, Int.natCast_mul]
    have lyy := Nat.mod_lt (y * y) (show 0 < p by omega)
    have lxy := Nat.mod_lt (x * y) (show 0 < p by omega)
    have eb : (e : Int) ≤ 1000000000 := by omega
    have e0 : (0 : Int) ≤ (e : Int) := by omega
    by_cases hez : e = 0
    · subst hez
      have hfin := leg_end HP.out hbl hx (by have := HI.out; rwa [Nat.pow_zero, Nat.mul_one] at this)
      rw [HJ.out] at hfin
      have HF := Lib.hid hfin
      by_cases hxp : x = p - 1
      · have l1 : (x : Int) = (p : Int) - 1 := by omega
        rw [if_pos hxp] at HF
        clear hfin hxp he heh
        go_wp2
        go_ret
        exact ⟨ret_int HF.out, below_drewN HB.out _⟩
      · have l1 : ((x : Int) == (p : Int) - 1) = false := beq_eq_false_iff_ne.2 (by omega)
        rw [if_neg hxp] at HF
        clear hfin hxp he heh
        go_wp2
        go_ret
        exact ⟨ret_int HF.out, below_drewN HB.out _⟩
    · have hpos : (0 : Int) < (e : Int) := by omega
      obtain ⟨E, hE⟩ : ∃ E, e / 2 = E := ⟨_, rfl⟩
      have ed : (e : Int) / 2 = (E : Int) := by omega
      have hEl : E < e := by omega
      by_cases hodd : e % 2 = 1
      · have l2 : (e : Int) % 2 = 1 := by omega
        have HI2 : RowKit.Hid ((x * y % p) * (y * y % p) ^ E % p = b ^ (p / 2) % p) := Lib.hid (by
          rw [pm_odd, show 2 * E + 1 = e by omega]; exact HI.out)
        obtain ⟨X, hX⟩ : ∃ X, x * y % p = X := ⟨_, rfl⟩
        obtain ⟨Y, hY⟩ : ∃ Y, y * y % p = Y := ⟨_, rfl⟩
        rw [hX] at exy lxy HI2
        rw [hY] at eyy lyy HI2
        have HEZ := Lib.hid hez
        clear hX hY he hez hodd hE
        go_wp2
        go_roundg (gk - 1)
        case rel => exact ⟨X, Y, E, q, lxy, lyy, by have := HK.out; have := HEZ.out; omega, by omega, HI2, by first | rfl | rw [exy], by first | rfl | rw [eyy], by first | rfl | rw [ed], rfl⟩
        case measure => have := HK.out; have := HEZ.out; omega
      · have l2 : ((e : Int) % 2 == 1) = false := beq_eq_false_iff_ne.2 (by omega)
        have HI2 : RowKit.Hid (x * (y * y % p) ^ E % p = b ^ (p / 2) % p) := Lib.hid (by
          rw [pm_even, show 2 * E = e by omega]; exact HI.out)
        obtain ⟨Y, hY⟩ : ∃ Y, y * y % p = Y := ⟨_, rfl⟩
        rw [hY] at eyy lyy HI2
        have HEZ := Lib.hid hez
        clear hY he hez hodd hE
        go_wp2
        go_roundg (gk - 1)
        case rel => exact ⟨x, Y, E, q, hx, lyy, by have := HK.out; have := HEZ.out; omega, by omega, HI2, rfl, by first | rfl | rw [eyy], by first | rfl | rw [ed], rfl⟩
        case measure => have := HK.out; have := HEZ.out; omega
end Go.Proofs.Ytopfcppmbkidgaa
