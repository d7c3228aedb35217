/- A chain has at most 93 steps; what its end shows. Condition: the symbol is one. -/
import Derived.Test.YtopfcppmbkidgaaRecK
import Derived.Test.YtopfcppmbkidgaaShR
namespace Go.Proofs.Ytopfcppmbkidgaa
open Go.RowKit Go.Shelf

def itr : Nat → Stp → Stp | 0, t => t | k + 1, t => itr k (nx t)
theorem itr_nx : ∀ (k : Nat) (t : Stp), itr k (nx t) = nx (itr k t)
  | 0, _ => rfl
  | k + 1, t => itr_nx k (nx t)
theorem st_itr (a n : Int) : ∀ k, st a n k = itr k ⟨0, a, n, 1⟩
  | 0 => rfl
  | k + 1 => by rw [st, st_itr a n k, ← itr_nx]; rfl

theorem cube_mul (c z : Nat) : (c * z) ^ 3 = c ^ 3 * z ^ 3 := Nat.mul_pow c z 3
theorem fin_no {t : Stp} (h : ¬ fin t) : t.a ≠ 0 ∧ t.n ≠ 1 := ⟨fun e => h (.inl e), fun e => h (.inr e)⟩

theorem bnd : ∀ (f : Nat) (k s : Int) (x y : Nat), 0 < x → x < y → y % 2 = 1 → x * y ≤ f → ∀ N, (∀ j, j < N → ¬ fin (itr j ⟨k, (x : Int), (y : Int), s⟩)) → 4 ^ N ≤ 64 * (x * y) ^ 3
  | 0, _, _, x, y, hx, hxy, _, hf, _, _ => by
    have := Nat.mul_pos hx (show 0 < y by omega)
    omega
  | f + 1, k, s, x, y, hx, hxy, oy, hf, N, hN => by
    have hp : 0 < x * y := Nat.mul_pos hx (by omega)
    have h1 : 1 ≤ (x * y) ^ 3 := Nat.pow_pos hp
    match N, hN with
    | 0, _ => omega
    | 1, _ => omega
    | M + 2, hN =>
      rcases Nat.mod_two_eq_zero_or_one x with ex | ox
      · -- halved
        obtain ⟨h, rfl⟩ : ∃ h, x = 2 * h := ⟨x / 2, by omega⟩
        have e : nx ⟨k, ((2 * h : Nat) : Int), (y : Int), s⟩ = ⟨1, (h : Int), (y : Int), s * two y⟩ := by
          unfold nx
          simp only
          rw [if_neg (by omega), if_pos (by omega)]
          congr 1
          omega
        have ih := bnd f 1 (s * two y) h y (by omega) (by omega) oy (by
          have e2 : 2 * h * y = h * y + h * y := by rw [Nat.mul_assoc, Nat.two_mul]
          have := Nat.mul_pos (show 0 < h by omega) (show 0 < y by omega)
          omega) (M + 1) (fun j hj => by have := hN (j + 1) (by omega); rw [itr, e] at this; exact this)
        rw [Nat.mul_assoc, cube_mul 2 (h * y), Nat.pow_succ]
        omega
      · have n0 := fin_no (hN 1 (by omega))
        have e : nx ⟨k, (x : Int), (y : Int), s⟩ = ⟨2, (y : Int), (x : Int), s * exch x y⟩ := by
          unfold nx
          simp only
          rw [if_neg (by omega), if_neg (by omega)]
        have x3 : 3 ≤ x := by
          have := n0.2
          rw [itr, itr, e] at this
          simp only at this
          omega
        match M, hN with
        | 0, _ =>
          have : 1 ≤ (x * y) ^ 3 := h1
          omega
        | J + 1, hN =>
          have e2 : nx ⟨2, (y : Int), (x : Int), s * exch x y⟩ = ⟨0, ((y % x : Nat) : Int), (x : Int), s * exch x y⟩ := by
            unfold nx
            simp only
            rw [if_pos (by omega)]
            congr 1
          have i2 : itr 2 ⟨k, (x : Int), (y : Int), s⟩ = ⟨0, ((y % x : Nat) : Int), (x : Int), s * exch x y⟩ := by
            rw [itr, itr, itr, e, e2]
          obtain ⟨r, hr⟩ : ∃ r, y % x = r := ⟨_, rfl⟩
          rw [hr] at e2 i2
          have r0 : r ≠ 0 := by
            have := (fin_no (hN 2 (by omega))).1
            rw [i2] at this
            simp only at this
            omega
          have hrx : r < x := by rw [← hr]; exact Nat.mod_lt _ (by omega)
          obtain ⟨q, hq⟩ : ∃ q, y / x = q := ⟨_, rfl⟩
          have hy : x * q + r = y := by rw [← hr, ← hq]; exact Nat.div_add_mod y x
          have q1 : 1 ≤ q := by
            rcases Nat.eq_zero_or_pos q with e | e
            · subst e; omega
            · exact e
          have hxq : x ≤ x * q := Nat.le_mul_of_pos_right x q1
          rcases Nat.mod_two_eq_zero_or_one r with er | or'
          · obtain ⟨h, rfl⟩ : ∃ h, r = 2 * h := ⟨r / 2, by omega⟩
            have e3 : nx ⟨0, ((2 * h : Nat) : Int), (x : Int), s * exch x y⟩ = ⟨1, (h : Int), (x : Int), s * exch x y * two x⟩ := by
              unfold nx
              simp only
              rw [if_neg (by omega), if_pos (by omega)]
              congr 1
              omega
            have hle : 4 * (h * x) ≤ x * y := by
              have : x * (4 * h) ≤ x * y := Nat.mul_le_mul_left x (by omega)
              calc 4 * (h * x) = x * (4 * h) := by rw [← Nat.mul_assoc, Nat.mul_comm]
                _ ≤ _ := this
            have hz : 0 < h * x := Nat.mul_pos (by omega) (by omega)
            have ih := bnd f 1 (s * exch x y * two x) h x (by omega) (by omega) ox (by omega) J (fun j hj => by
              have := hN (j + 3) (by omega)
              rw [itr, itr, itr, e, e2, e3] at this
              exact this)
            have hc := Nat.pow_le_pow_left hle 3
            rw [cube_mul] at hc
            rw [show J + 1 + 2 = J + 1 + 1 + 1 by omega, Nat.pow_succ, Nat.pow_succ, Nat.pow_succ]
            omega
          · have q2 : 2 ≤ q := by
              rcases Nat.lt_or_ge q 2 with e | e
              · obtain rfl : q = 1 := by omega
                omega
              · exact e
            have hxq2 : x * 2 ≤ x * q := Nat.mul_le_mul_left x q2
            have hle : 3 * (r * x) ≤ x * y := by
              have : x * (3 * r) ≤ x * y := Nat.mul_le_mul_left x (by omega)
              calc 3 * (r * x) = x * (3 * r) := by rw [← Nat.mul_assoc, Nat.mul_comm]
                _ ≤ _ := this
            have hz : 0 < r * x := Nat.mul_pos (by omega) (by omega)
            have ih := bnd f 0 (s * exch x y) r x (by omega) hrx ox (by omega) (J + 1) (fun j hj => by
              have := hN (j + 2) (by omega)
              rw [itr, itr, e, e2] at this
              exact this)
            have hc := Nat.pow_le_pow_left hle 3
            rw [cube_mul] at hc
            rw [show J + 1 + 2 = J + 1 + 1 + 1 by omega, Nat.pow_succ, Nat.pow_succ]
            omega

theorem pow_small {N x y : Nat} (h : 4 ^ N ≤ 64 * (x * y) ^ 3) (hx : x ≤ 1000000000) (hy : y ≤ 1000000000) : N ≤ 93 := by
  have h1 : x * y ≤ 1000000000000000000 := Nat.mul_le_mul hx hy
  have h2 := Nat.pow_le_pow_left h1 3
  refine Nat.le_of_not_lt fun hlt => ?_
  have h3 : 4 ^ 94 ≤ 4 ^ N := Nat.pow_le_pow_right (by omega) hlt
  have h4 : (4 : Nat) ^ 94 ≤ 64 * 1000000000000000000 ^ 3 := by omega
  exact absurd h4 (by decide +kernel)

theorem len_small {a n : Int} (h : isSym a n) {N : Nat} (hN : ∀ k, k < N → ¬ fin (st a n k)) : N ≤ 94 := by
  obtain ⟨a0, a1, n0, n1, on⟩ := h
  have hI : ∀ j, j < N → ¬ fin (itr j ⟨0, a, n, 1⟩) := fun j hj => by rw [← st_itr]; exact hN j hj
  obtain ⟨y, rfl⟩ := Int.eq_ofNat_of_zero_le (show 0 ≤ n by omega)
  by_cases hr : a < 0 ∨ (y : Int) ≤ a
  · match N, hI with
    | 0, _ => omega
    | 1, _ => omega
    | M + 2, hI =>
      have e : nx ⟨0, a, (y : Int), 1⟩ = ⟨0, a % (y : Int), (y : Int), 1⟩ := by unfold nx; rw [if_pos hr]
      have r0 := Int.emod_nonneg a (show (y : Int) ≠ 0 by omega)
      have r1 := Int.emod_lt_of_pos a (show (0 : Int) < (y : Int) by omega)
      obtain ⟨x, hx⟩ := Int.eq_ofNat_of_zero_le r0
      rw [hx] at e r1
      have hx0 : x ≠ 0 := by
        have := (fin_no (hI 1 (by omega))).1
        rw [itr, itr, e] at this
        simp only at this
        omega
      have := pow_small (bnd (x * y) 0 1 x y (by omega) (by omega) (by omega) (Nat.le_refl _) (M + 1) (fun j hj => by
        have := hI (j + 1) (by omega)
        rw [itr, e] at this
        exact this)) (by omega) (by omega)
      omega
  · obtain ⟨x, rfl⟩ := Int.eq_ofNat_of_zero_le (show 0 ≤ a by omega)
    rcases Nat.eq_zero_or_pos x with h0 | h0
    · match N, hI with
      | 0, _ => omega
      | M + 1, hI => exact absurd (.inl (by subst h0; rfl)) (hI 0 (by omega))
    · have := pow_small (bnd (x * y) 0 1 x y h0 (by omega) (by omega) (Nat.le_refl _) N hI) (by omega) (by omega)
      omega

/-- The chain's length, and what its end shows. -/
theorem len_shows {a n : Int} (h : isSym a n) : ∃ N, isLen a n N ∧ N ≤ 94 ∧ shV (shS a n (cstp a n N) N) = Jv a n := by
  obtain ⟨N, h1, h2, h3, h4⟩ := chain_shows h
  have hl := len_small h h1
  refine ⟨N, ⟨by omega, h1, h2, h3⟩, hl, ?_⟩
  have e : shS a n (cstp a n N) N = st a n N := by
    match N with
    | 0 => rfl
    | M + 1 => exact cstp_at a n (by omega)
  rw [e, ← h4]
  unfold shV
  rcases h2 with e0 | e1
  · by_cases c : 1 < (st a n N).n
    · rw [if_pos ⟨e0, c⟩, if_pos c]
    · rw [if_neg (fun d => c d.2), if_neg c]
  · rw [if_neg (fun d => by have := d.2; omega), if_neg (by omega)]
theorem take_eq {S L : List Stp} (hL : L.length ≤ 94) : S.take 120 = L ↔ S = L := by
  constructor
  · intro h
    have hl : (S.take 120).length ≤ 94 := by rw [h]; exact hL
    rw [List.length_take] at hl
    rw [List.take_of_length_le (by omega)] at h
    exact h
  · rintro rfl
    exact List.take_of_length_le (by omega)
end Go.Proofs.Ytopfcppmbkidgaa
