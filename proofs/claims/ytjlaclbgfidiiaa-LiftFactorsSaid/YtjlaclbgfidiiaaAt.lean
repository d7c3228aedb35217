/- The walks of at, and of the reference's. Condition: the slice lies in memory, the numbers are in range. -/
import Derived.Test.YtjlaclbgfidiiaaPoly
namespace Go.Proofs.Ytjlaclbgfidiiaa
open Go.RowKit
attribute [local go_sem] Oper.semAt_some

theorem horner (E x c m : Int) : ((E % m) * x + c) % m = (c + x * E) % m := by
  rw [Int.add_emod, Int.mul_emod, Int.emod_emod, ← Int.mul_emod, ← Int.add_emod, Int.mul_comm, Int.add_comm]
theorem prod_le {a b A B : Int} (a0 : 0 ≤ a) (aA : a ≤ A) (b0 : 0 ≤ b) (bB : b ≤ B) : 0 ≤ a * b ∧ a * b ≤ A * B :=
  ⟨Int.mul_nonneg a0 b0, Int.mul_le_mul aA bB b0 (by omega)⟩

set_option maxHeartbeats 4000000 in
set_option maxRecDepth 100000 in
theorem at_any (a : Option Addr) (n c : Nat) (xs : List Int) (x m : Int) (w : World) (h : Ints w a n xs) (hn : n ≤ 20) (hx : ∀ j, j < n → -100000 ≤ xs.getD j 0 ∧ xs.getD j 0 ≤ 100000)
    (x0 : 0 ≤ x) (x1 : x < m) (m1 : m ≤ 20000) :
    Calls Try.prog 57 #[.slice a n c, .int .i64 x, .int .i64 m] w fun e w' => e = .returned (.int .i64 (ev xs x % m)) ∧ w = w' := by
  obtain ⟨R, hR⟩ : ∃ R, ev xs x % m = R := ⟨_, rfl⟩
  rw [hR]
  have HR := Lib.hid hR
  have H := Lib.hid h
  have HL := Lib.hid h.1
  have HX := Lib.hid hx
  have m0 : 0 < m := by omega
  clear hR h hx
  go_enter Try.func57, Try.ntmps57
  go_wp2
  go_loopg [7, 8] n (fun gk s7 s8 wr => ∃ V : Int, s8 = .int .i64 ((gk : Int) - 1) ∧ s7 = .int .i64 V ∧ gk ≤ n ∧ RowKit.Hid (V = ev (xs.drop gk) x % m) ∧ 0 ≤ V ∧ V < m ∧ wr = w)
  case atStart => exact ⟨0, rfl, rfl, Nat.le_refl _, Lib.hid (by rw [List.drop_eq_nil_of_le (by rw [HL.out]; exact Nat.le_refl _)]; simp [ev]), by omega, by omega, rfl⟩
  case round =>
    obtain ⟨V, rfl, rfl, hgn, HV, v0, v1, rfl⟩ := hrel
    by_cases hg : gk = 0
    · subst hg
      have hf : V = R := by rw [HV.out, List.drop_zero]; exact HR.out
      have HF := Lib.hid hf
      have l1 : ¬ (0 : Int) ≤ ((0 : Nat) : Int) - 1 := by omega
      clear hf hgn
      go_wp2
      go_ret
      exact ⟨ret_int HF.out, rfl⟩
    · obtain ⟨j, rfl⟩ : ∃ j, gk = j + 1 := ⟨gk - 1, by omega⟩
      have e1 : ((j + 1 : Nat) : Int) - 1 = (j : Int) := by omega
      rw [e1]
      obtain ⟨b, off, hab, hbl, hcc⟩ := H.out.at (by omega)
      subst hab
      have hcj := hcc j (by omega)
      have hxj := HX.out j (by omega)
      have hev : ev (xs.drop j) x = xs.getD j 0 + x * ev (xs.drop (j + 1)) x := by
        rw [drop_cons (by have := HL.out; omega)]; rfl
      obtain ⟨y, hy⟩ : ∃ y, xs.getD j 0 = y := ⟨_, rfl⟩
      rw [hy] at hcj hxj hev
      obtain ⟨y0, y1⟩ := hxj
      have hres : (V * x + y) % m = ev (xs.drop j) x % m := by rw [hev, HV.out, horner]
      have HRES := Lib.hid hres
      have hr0 := Int.emod_nonneg (V * x + y) (show m ≠ 0 by omega)
      have hr1 := Int.emod_lt_of_pos (V * x + y) m0
      obtain ⟨p0, p1⟩ := prod_le v0 (show V ≤ 20000 by omega) x0 (show x ≤ 20000 by omega)
      have hC := fun w => residue_any (V * x + y) m w m0 (by omega) (by omega) (by omega)
      obtain ⟨Z, hZ⟩ : ∃ Z, (V * x + y) % m = Z := ⟨_, rfl⟩
      simp only [hZ] at hC
      rw [hZ] at HRES hr0 hr1
      have HC := Lib.hid hC
      have hjn : j < n := by omega
      clear hev hres hC hZ hcc hy e1 hg hgn HV
      go_wp2_with fail
      refine (HC.out _).mono ?_
      rintro e w1 ⟨rfl, rfl⟩
      go_wp2
      go_roundg j
      case rel => exact ⟨Z, by go_num, rfl, by omega, HRES, hr0, hr1, rfl⟩
      case measure => omega

theorem take_snocI {xs : List Int} {j : Nat} (h : j < xs.length) : xs.take (j + 1) = xs.take j ++ [xs.getD j 0] := by
  rw [List.take_succ_eq_append_getElem h]
  simp [List.getD, h]
theorem emod_tmod (c m : Int) (hm : 0 < m) : (c.tmod m + m) % m = c % m := tmod_res2 hm
theorem atR_step {E x c m pw : Int} {j : Nat} (hm : 0 < m) (hp : pw = x ^ j % m) : (E % m + (c.tmod m + m) * pw) % m = (E + x ^ j * c) % m := by
  rw [hp, Int.add_emod, Int.emod_emod, Int.mul_emod, emod_tmod c m hm, Int.emod_emod, ← Int.mul_emod, ← Int.add_emod, Int.mul_comm]
theorem pow_step {x m pw : Int} {j : Nat} (hp : pw = x ^ j % m) : (pw * x) % m = x ^ (j + 1) % m := by
  rw [hp, Int.mul_emod, Int.emod_emod, ← Int.mul_emod, Int.pow_succ]

set_option maxHeartbeats 4000000 in
set_option maxRecDepth 100000 in
theorem atR_any (a : Option Addr) (n c : Nat) (xs : List Int) (x m : Int) (w : World) (h : Ints w a n xs) (hn : n ≤ 20) (hx : ∀ j, j < n → -100000 ≤ xs.getD j 0 ∧ xs.getD j 0 ≤ 100000)
    (x0 : 0 ≤ x) (x1 : x < m) (m1 : m ≤ 20000) :
    Calls Try.prog 60 #[.slice a n c, .int .i64 x, .int .i64 m] w fun e w' => e = .returned (.int .i64 (ev xs x % m)) ∧ ∃ q, w' = w.drewN q := by
  obtain ⟨R, hR⟩ : ∃ R, ev xs x % m = R := ⟨_, rfl⟩
  rw [hR]
  have HR := Lib.hid hR
  have H := Lib.hid h
  have HL := Lib.hid h.1
  have HX := Lib.hid hx
  have m0 : 0 < m := by omega
  have mne : ¬ m = 0 := by omega
  have h1m : (1 : Int) % m = 1 % m := rfl
  clear hR h hx h1m
  go_enter Try.func60, Try.ntmps60
  go_wp2
  go_quiet (fail)
  go_wp2
  go_loopg [7, 8, 10, 15] n (fun gk s7 s8 s10 s15 wr => ∃ (j q : Nat) (V P : Int), s15 = .int .i64 (j : Int) ∧ s7 = .int .i64 V ∧ s8 = .int .i64 P ∧ j + gk = n ∧ RowKit.Hid (V = ev (xs.take j) x % m) ∧ RowKit.Hid (P = x ^ j % m) ∧ 0 ≤ V ∧ V < m ∧ 0 ≤ P ∧ P < m ∧ wr = w.drewN q)
  case atStart =>
    have e1 := Int.emod_nonneg 1 (show m ≠ 0 by omega)
    have e2 := Int.emod_lt_of_pos 1 m0
    exact ⟨0, _, 0, 1 % m, rfl, rfl, rfl, by omega, Lib.hid (by simp [ev]), Lib.hid (by simp), by omega, by omega, e1, e2, rfl⟩
  case round =>
    obtain ⟨j, q, V, P, rfl, rfl, rfl, hj, HV, HP, v0, v1, p0, p1, rfl⟩ := hrel
    have HJ := Lib.hid hj
    by_cases hjn : j < n
    · have l1 : (j : Int) < (n : Int) := by omega
      have j0 : (0 : Int) ≤ (j : Int) := by omega
      obtain ⟨b, off, hab, hbl, hcc⟩ := (H.out.below (drew_below w q)).at (by omega)
      subst hab
      have hcj := hcc j hjn
      have hxj := HX.out j hjn
      have hev : ev (xs.take (j + 1)) x = ev (xs.take j) x + x ^ j * xs.getD j 0 := by
        rw [take_snocI (by have := HL.out; omega), ev_append, List.length_take, Nat.min_eq_left (by have := HL.out; omega)]
      obtain ⟨y, hy⟩ : ∃ y, xs.getD j 0 = y := ⟨_, rfl⟩
      rw [hy] at hcj hxj hev
      obtain ⟨y0, y1⟩ := hxj
      have hres : (V + (y.tmod m + m) * P) % m = ev (xs.take (j + 1)) x % m := by rw [hev, HV.out, atR_step m0 HP.out]
      have hpw : (P * x) % m = x ^ (j + 1) % m := pow_step HP.out
      have HRES := Lib.hid hres
      have HPW := Lib.hid hpw
      have b1 := Int.tmod_lt_of_pos y m0
      have b2 := Int.lt_tmod_of_pos y m0
      obtain ⟨t0, t1⟩ := prod_le (show 0 ≤ y.tmod m + m by omega) (show y.tmod m + m ≤ 40000 by omega) p0 (show P ≤ 20000 by omega)
      obtain ⟨s0, s1⟩ := prod_le p0 (show P ≤ 20000 by omega) x0 (show x ≤ 20000 by omega)
      have r0 := Int.emod_nonneg (V + (y.tmod m + m) * P) (show m ≠ 0 by omega)
      have r1 := Int.emod_lt_of_pos (V + (y.tmod m + m) * P) m0
      have r2 := Int.emod_nonneg (P * x) (show m ≠ 0 by omega)
      have r3 := Int.emod_lt_of_pos (P * x) m0
      clear hev hres hpw hcc hy hj HV HP
      go_wp2
      go_roundg (gk - 1)
      case rel => exact ⟨j + 1, q, _, _, by go_num, rfl, rfl, by have := HJ.out; omega, HRES, HPW, r0, r1, r2, r3, rfl⟩
      case measure => have := HJ.out; omega
    · have l1 : ¬ (j : Int) < (n : Int) := by omega
      have hf : V = R := by rw [HV.out, List.take_of_length_le (by have := HL.out; omega)]; exact HR.out
      have HF := Lib.hid hf
      clear hf hj hjn
      go_wp2
      go_ret
      exact ⟨ret_int HF.out, q, rfl⟩
end Go.Proofs.Ytjlaclbgfidiiaa
