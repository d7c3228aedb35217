/- The walks of isPrime, isModulus, has, the reference's Prime, far, On and Valid, and valid without points. Conditions as stated in each theorem. -/
import Derived.Test.YtoepghlkjbpkfaaDoorPt
namespace Go.Proofs.YtoepghlkjbpkfaaDoor
open Go.RowKit
attribute [local go_sem] Oper.semAt_some

theorem tmod_zero (Z : Int) (m : Int) : (Z.tmod m == 0) = decide (Z % m = 0) := by
  rw [Bool.eq_iff_iff]
  simp only [beq_iff_eq, decide_eq_true_iff]
  rw [← Int.dvd_iff_tmod_eq_zero, ← Int.dvd_iff_emod_eq_zero]
theorem mul_in {a b : Int} (M N : Int) (a0 : 0 ≤ a) (a1 : a ≤ M) (b0 : 0 ≤ b) (b1 : b ≤ N) : 0 ≤ a * b ∧ a * b ≤ M * N :=
  ⟨Int.mul_nonneg a0 b0, Int.mul_le_mul a1 b1 b0 (by omega)⟩
/-- whether the equation holds -/
def eqn (P A B x y : Int) : Bool := decide ((x * x * x + A * x + B - y * y) % P = 0)
def onB (P A B : Int) (q : Pt) : Bool := if q.f then decide (q = ⟨0, 0, true⟩) else isR q.x P && (isR q.y P && eqn P A B q.x q.y)

theorem below1 (w : World) (o : Obj) : Below w.heap.size w (w.alloc o) := (Below.refl w.heap.size w).alloc (Nat.le_refl _) o
theorem below2 (w : World) (o o' : Obj) : Below w.heap.size w ((w.alloc o).alloc o') := (below1 w o).alloc (by simp) o'

set_option maxHeartbeats 4000000 in
theorem has_any (P A B : Int) (q : Pt) (hP : 5 ≤ P ∧ P ≤ 31) (hA : 0 ≤ A ∧ A ≤ 31) (hB : 0 ≤ B ∧ B ≤ 31) (w : World) (hF : Far w) :
    Calls Tryd.prog 60 #[.agg #[.int .i64 P, .int .i64 A, .int .i64 B], .agg #[.int .i64 q.x, .int .i64 q.y, .bool q.f]] w fun e w' => e = .returned (.bool (onB P A B q)) ∧ Below w.heap.size w w' := by
  obtain ⟨x, y, f⟩ := q
  obtain ⟨f0, f1, f2, f3⟩ := hF
  obtain ⟨P0, P1⟩ := hP
  obtain ⟨A0, A1⟩ := hA
  obtain ⟨B0, B1⟩ := hB
  simp only
  have HB := Lib.hid (below2 w (.cells #[.int .i64 P, .int .i64 A, .int .i64 B] 30) (.cells #[.int .i64 x, .int .i64 y, .bool f] 34))
  cases f
  · have e0 : onB P A B ⟨x, y, false⟩ = (isR x P && (isR y P && eqn P A B x y)) := rfl
    rw [e0]
    clear e0
    cases hx : isR x P
    · have HX := Lib.hid (fun W => isRest_any x P W)
      rw [hx] at HX
      clear hx
      go_enter Tryd.func60, Tryd.ntmps60
      go_wp2_with fail
      refine (HX.out _).mono ?_
      rintro e w1 ⟨rfl, rfl⟩
      go_wp2
      go_ret
      exact ⟨ret_bool rfl, HB.out⟩
    · have HX := Lib.hid (fun W => isRest_any x P W)
      rw [hx] at HX
      obtain ⟨x0, x1⟩ := isR_iff.1 hx
      clear hx
      cases hy : isR y P
      · have HY := Lib.hid (fun W => isRest_any y P W)
        rw [hy] at HY
        clear hy
        go_enter Tryd.func60, Tryd.ntmps60
        go_wp2_with fail
        refine (HX.out _).mono ?_
        rintro e w1 ⟨rfl, rfl⟩
        go_wp2_with fail
        refine (HY.out _).mono ?_
        rintro e w1 ⟨rfl, rfl⟩
        go_wp2
        go_ret
        exact ⟨ret_bool rfl, HB.out⟩
      · have HY := Lib.hid (fun W => isRest_any y P W)
        rw [hy] at HY
        obtain ⟨y0, y1⟩ := isR_iff.1 hy
        clear hy
        obtain ⟨a0, a1⟩ := mul_in (a := x) (b := x) 31 31 x0 (by omega) x0 (by omega)
        obtain ⟨b0, b1⟩ := mul_in (a := x * x) (b := x) 961 31 a0 a1 x0 (by omega)
        obtain ⟨c0, c1⟩ := mul_in (a := A) (b := x) 31 31 A0 A1 x0 (by omega)
        obtain ⟨d0, d1⟩ := mul_in (a := y) (b := y) 31 31 y0 (by omega) y0 (by omega)
        have hne : ¬ P = 0 := by omega
        have ht := tmod_zero (x * x * x + A * x + B - y * y) P
        obtain ⟨b, hb⟩ : ∃ b, eqn P A B x y = b := ⟨_, rfl⟩
        rw [hb]
        unfold eqn at hb
        rw [hb] at ht
        clear hb
        go_enter Tryd.func60, Tryd.ntmps60
        go_wp2_with fail
        refine (HX.out _).mono ?_
        rintro e w1 ⟨rfl, rfl⟩
        go_wp2_with fail
        refine (HY.out _).mono ?_
        rintro e w1 ⟨rfl, rfl⟩
        go_wp2
        go_ret
        exact ⟨ret_bool (by simp [ht]), HB.out⟩
  · have heq := fun W => eql34 W ⟨x, y, true⟩ ⟨0, 0, true⟩
    have e0 : onB P A B ⟨x, y, true⟩ = decide ((⟨x, y, true⟩ : Pt) = ⟨0, 0, true⟩) := rfl
    rw [e0]
    clear e0
    obtain ⟨b, hb⟩ : ∃ b, decide ((⟨x, y, true⟩ : Pt) = ⟨0, 0, true⟩) = b := ⟨_, rfl⟩
    rw [hb] at heq ⊢
    simp only at heq
    clear hb
    go_enter Tryd.func60, Tryd.ntmps60
    go_wp2
    go_ret
    exact ⟨ret_bool rfl, HB.out⟩

/-! Primes -/
theorem isM_small : ∀ p : Nat, p < 32 → (isM (p : Int) = true ↔ 5 ≤ p ∧ ∀ d, d < p → 2 ≤ d → p % d ≠ 0) := by decide +kernel
theorem isM_iff (p : Int) : isM p = true ↔ 5 ≤ p ∧ p ≤ 31 ∧ ∀ d : Int, 2 ≤ d → d < p → p % d ≠ 0 := by
  constructor
  · intro h
    obtain ⟨h1, h2⟩ := isM_le h
    obtain ⟨n, rfl⟩ := Int.eq_ofNat_of_zero_le (show 0 ≤ p by omega)
    have := (isM_small n (by omega)).1 h
    refine ⟨h1, h2, fun d d1 d2 e => ?_⟩
    obtain ⟨m, rfl⟩ := Int.eq_ofNat_of_zero_le (show 0 ≤ d by omega)
    exact this.2 m (by omega) (by omega) (by omega)
  · rintro ⟨h1, h2, h3⟩
    obtain ⟨n, rfl⟩ := Int.eq_ofNat_of_zero_le (show 0 ≤ p by omega)
    exact (isM_small n (by omega)).2 ⟨by omega, fun d d1 d2 e => h3 d (by omega) (by omega) (by omega)⟩
/-- a number below 1000 has no divisor from 2 on whose square is at most it -/
def isP (p : Int) : Bool := decide (2 ≤ p) && (List.range 31).all fun k => decide (p < ((k : Int) + 2) * ((k : Int) + 2)) || decide (p % ((k : Int) + 2) ≠ 0)
theorem isP_iff {p : Int} (hp : p ≤ 900) : isP p = true ↔ 2 ≤ p ∧ ∀ d : Int, 2 ≤ d → d * d ≤ p → p % d ≠ 0 := by
  unfold isP
  simp only [Bool.and_eq_true, decide_eq_true_iff, List.all_eq_true, List.mem_range, Bool.or_eq_true]
  constructor
  · rintro ⟨h1, h2⟩
    refine ⟨h1, fun d d1 d2 => ?_⟩
    have hd : d ≤ 32 := by
      refine Int.not_lt.1 fun hl => ?_
      have := Int.mul_le_mul (show 33 ≤ d by omega) (show 33 ≤ d by omega) (by decide) (by omega)
      omega
    obtain ⟨m, hm⟩ := Int.eq_ofNat_of_zero_le (show 0 ≤ d - 2 by omega)
    have := h2 m (by omega)
    rw [show (m : Int) + 2 = d by omega] at this
    rcases this with h | h
    · omega
    · exact h
  · rintro ⟨h1, h2⟩
    refine ⟨h1, fun k hk => ?_⟩
    by_cases hd : ((k : Int) + 2) * ((k : Int) + 2) ≤ p
    · exact .inr (h2 _ (by omega) hd)
    · exact .inl (by omega)
theorem isP_isM : ∀ p : Nat, p < 32 → (isM (p : Int) = (decide (5 ≤ p) && isP (p : Int))) := by decide +kernel

set_option maxHeartbeats 1000000 in
theorem isPrime_any (p : Int) (hp : p ≤ 900) (w : World) :
    Calls Tryd.prog 90 #[.int .i64 p] w fun e w' => e = .returned (.bool (isP p)) ∧ w' = w := by
  have HR := Lib.hid (isP_iff hp)
  obtain ⟨R, hR⟩ : ∃ R, isP p = R := ⟨_, rfl⟩
  rw [hR] at HR ⊢
  clear hR
  go_enter Tryd.func90, Tryd.ntmps90
  go_wp2
  go_loopg [3] 200 (fun gk s3 wr => ∃ d : Int, s3 = .int .i64 d ∧ 2 ≤ d ∧ d ≤ 101 ∧ d + gk = 202 ∧ RowKit.Hid (∀ e : Int, 2 ≤ e → e < d → e * e ≤ p → p % e ≠ 0) ∧ wr = w)
  case atStart => exact ⟨2, rfl, by omega, by omega, by omega, Lib.hid (fun e h1 h2 => by omega), rfl⟩
  case round =>
    obtain ⟨d, rfl, hd2, hd1, hdg, HP, rfl⟩ := hrel
    have HJ := Lib.hid hdg
    obtain ⟨q0, q1⟩ := mul_in (a := d) (b := d) 101 101 (by omega) hd1 (by omega) hd1
    have hw : wrap64 (d * d) = d * d := IntWalk.wrap64_in _ (by omega)
    by_cases hle : d * d ≤ p
    · have hd : d ≤ 100 := by
        refine Int.not_lt.1 fun hl => ?_
        have := Int.mul_le_mul (show 101 ≤ d by omega) (show 101 ≤ d by omega) (by decide) (by omega)
        omega
      have hne : ¬ d = 0 := by omega
      have hp0 : 0 ≤ p := by omega
      by_cases hz : p % d = 0
      · have hf : R = false := Bool.eq_false_iff.2 fun e => (HR.out.1 e).2 d hd2 hle hz
        subst hf
        clear HR hdg
        go_wp2
        go_ret
        exact ⟨rfl, rfl⟩
      · have hzb : (p % d == 0) = false := by simpa using hz
        have HP2 : RowKit.Hid (∀ e : Int, 2 ≤ e → e < d + 1 → e * e ≤ p → p % e ≠ 0) := Lib.hid (fun e h1 h2 h3 => by
          by_cases he : e = d
          · subst he; exact hz
          · exact HP.out e h1 (by omega) h3)
        clear hz hdg
        go_wp2
        go_roundg (gk - 1)
        case rel => exact ⟨d + 1, rfl, by omega, by omega, by have := HJ.out; omega, HP2, rfl⟩
        case measure => have := HJ.out; omega
    · have hf : R = decide (1 < p) := by
        rw [Bool.eq_iff_iff, HR.out]
        simp only [decide_eq_true_iff]
        refine ⟨fun h => by omega, fun h => ⟨by omega, fun e h1 h2 => HP.out e h1 (by
          refine Int.not_le.1 fun hde => hle ?_
          exact Int.le_trans (Int.mul_le_mul hde hde (by omega) (by omega)) h2) h2⟩⟩
      clear HR hdg
      subst hf
      go_wp2
      go_ret
      exact ⟨ret_bool (by simp), rfl⟩
end Go.Proofs.YtoepghlkjbpkfaaDoor
