/- Plain numbers for the convergents of a square root: neighbours differ by 1 crosswise, and a primitive solution of a small number is a convergent. No condition beyond those that each theorem names. -/
import Derived.Test.YtbdadckedhcibaaScan
namespace Go.Proofs.Ytbdadckedhcibaa
open Go.RowKit Go.Shelf

theorem cond_t {c a : Bool} (h : (bif c then a else false) = true) : c = true ∧ a = true := by
  cases c with
  | false => cases h
  | true => exact ⟨rfl, h⟩
theorem cond_f {c a : Bool} (h : (bif c then false else a) = true) : c = false ∧ a = true := by
  cases c with
  | true => cases h
  | false => exact ⟨rfl, h⟩

theorem pScan_spec (D a : Nat) : ∀ (f y r : Nat), pScan D a f y r = true → ∀ j, j < f → ∃ r', r' * r' ≤ D * ((y + j) * (y + j)) ∧ D * ((y + j) * (y + j)) < (r' + 1) * (r' + 1) ∧ pOk D r' (y + j) = true ∧ pOk D (r' + 1) (y + j) = true
  | 0, _, _, _, j, hj => by omega
  | f + 1, y, r, h, j, hj => by
    have h' : (bif Nat.ble (r * r) (D * (y * y)) then bif Nat.ble ((r + 1) * (r + 1)) (D * (y * y)) then false else
      bif pOk D r y then bif pOk D (r + 1) y then
        pScan D a f (y + 1) (bif Nat.ble ((r + a + 1) * (r + a + 1)) (D * ((y + 1) * (y + 1))) then r + a + 1 else r + a)
      else false else false else false) = true := h
    obtain ⟨h1, h2⟩ := cond_t h'
    obtain ⟨h3, h4⟩ := cond_f h2
    obtain ⟨h5, h6⟩ := cond_t h4
    obtain ⟨h7, h8⟩ := cond_t h6
    cases j with
    | zero =>
      refine ⟨r, Nat.le_of_ble_eq_true h1, ?_, h5, h7⟩
      have := Nat.not_le_of_not_ble_eq_true (by rw [h3]; exact Bool.false_ne_true)
      rw [Nat.add_zero]
      omega
    | succ j =>
      have := pScan_spec D a f (y + 1) _ h8 j (by omega)
      rw [show y + (j + 1) = y + 1 + j by omega]
      exact this

theorem near_root {d t r x n : Int} (h0 : 0 ≤ r) (h1 : r * r ≤ t) (h2 : t < (r + 1) * (r + 1)) (hd : 2 ≤ d) (hdt : d ≤ t) (hx : 0 ≤ x) (hn : x * x - t = n) (hnd : n * n < d) : x = r ∨ x = r + 1 := by
  have big : ∀ g : Int, (g = n ∨ g = -n) → r + 1 ≤ g → False := by
    intro g hg hr
    have a1 := sq_le (by omega) hr
    have a2 : g * g = n * n := by
      rcases hg with h | h
      · rw [h]
      · rw [h, Int.neg_mul_neg]
    omega
  have e1 : (r + 1) * (r + 1) = r * r + r + r + 1 := by
    rw [Int.add_mul, Int.mul_add, Int.mul_one, Int.one_mul]; omega
  have e2 : (r + 2) * (r + 2) = r * r + r + r + r + r + 4 := by
    rw [Int.add_mul, Int.mul_add]; omega
  have e3 : (r - 1) * (r - 1) = r * r - r - r + 1 := by
    rw [Int.sub_mul, Int.mul_sub, Int.mul_one, Int.one_mul]; omega
  by_cases c1 : x < r
  · exfalso
    have a1 := sq_le hx (show x ≤ r - 1 by omega)
    by_cases c2 : r + 1 ≤ -n
    · exact big (-n) (.inr rfl) c2
    · have hr : r = 1 := by omega
      have hx0 : x = 0 := by omega
      subst hr hx0
      have a3 := sq_le (a := 2) (b := -n) (by omega) (by omega)
      have a4 : -n * -n = n * n := Int.neg_mul_neg ..
      omega
  by_cases c2 : r + 1 < x
  · exfalso
    have a1 := sq_le (a := r + 2) (b := x) (by omega) (by omega)
    exact big n (.inl rfl) (by omega)
  omega

/-- A primitive solution of a small number is a convergent. -/
theorem prim_conv {d x y n : Int} (hd : isD d = true) (hs : pScanD d.toNat = true) (hx : 0 ≤ x) (hy : 0 < y) (hy2 : y ≤ 5000) (hn : x * x - d * (y * y) = n) (hnd : n * n < d) (hg : Int.gcd x y = 1) : isConv d x y = true := by
  have hb := isD_bd hd
  obtain ⟨D, rfl⟩ : ∃ D : Nat, d = D := ⟨d.toNat, by omega⟩
  obtain ⟨X, rfl⟩ : ∃ D : Nat, x = D := ⟨x.toNat, by omega⟩
  obtain ⟨Y, rfl⟩ : ∃ D : Nat, y = D := ⟨y.toNat, by omega⟩
  simp only [Int.toNat_natCast] at hs
  obtain ⟨r, r1, r2, r3, r4⟩ := pScan_spec D (rootF D).toNat 5000 1 _ hs (Y - 1) (by omega)
  rw [show 1 + (Y - 1) = Y by omega] at r1 r2 r3 r4
  have key : pOk D X Y = true → isConv D X Y = true := by
    intro hk
    unfold pOk at hk
    simp only [] at hk
    have e1 : Nat.ble D ((X * X - D * (Y * Y) + (D * (Y * Y) - X * X)) * (X * X - D * (Y * Y) + (D * (Y * Y) - X * X))) = false := by
      rw [Bool.eq_false_iff]
      intro h
      have h := Nat.le_of_ble_eq_true h
      have c1 : ((X * X : Nat) : Int) - ((D * (Y * Y) : Nat) : Int) = n := by push_cast; exact hn
      have c3 : (D : Int) ≤ (((X * X - D * (Y * Y) + (D * (Y * Y) - X * X)) * (X * X - D * (Y * Y) + (D * (Y * Y) - X * X)) : Nat) : Int) := by omega
      generalize hS : X * X = S at *
      generalize hT : D * (Y * Y) = T at *
      have c2 : ((S - T + (T - S) : Nat) : Int) = n ∨ ((S - T + (T - S) : Nat) : Int) = -n := by omega
      rw [Int.natCast_mul] at c3
      rcases c2 with c2 | c2 <;> rw [c2] at c3
      · omega
      · rw [Int.neg_mul_neg] at c3; omega
    have e2 : Nat.beq (Nat.gcd X Y) 1 = true := by
      rw [Nat.beq_eq]
      exact hg
    rw [e1, e2] at hk
    exact hk
  have this : X = r ∨ X = r + 1 := by
    have q1 : (r : Int) * r ≤ (D : Int) * (Y * Y) := by exact_mod_cast r1
    have q2 : (D : Int) * (Y * Y) < ((r : Int) + 1) * (r + 1) := by exact_mod_cast r2
    have q3 : (D : Int) ≤ (D : Int) * (Y * Y) := by
      have a1 := sq_le (a := 1) (b := Y) (by omega) (by omega)
      have a2 := Int.mul_le_mul_of_nonneg_left a1 (show (0 : Int) ≤ D by omega)
      omega
    have := near_root (by omega) q1 q2 hb.1 q3 hx hn hnd
    omega
  rcases this with h | h
  · rw [h] at key ⊢; exact key r3
  · rw [h] at key ⊢; exact key r4
end Go.Proofs.Ytbdadckedhcibaa
