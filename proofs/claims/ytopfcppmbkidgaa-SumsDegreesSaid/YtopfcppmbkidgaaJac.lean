/- The symbol: what the chain shows, and that it is multiplicative. Plain mathematics; no condition beyond those stated. -/
import Derived.Test.YtopfcppmbkidgaaNum
namespace Go.Proofs.Ytopfcppmbkidgaa

/-- the symbol -/
def Jv (a n : Int) : Int := if Int.gcd a n = 1 then G (a % n).toNat n.toNat else 0

theorem Jv_pos {a n : Nat} (h : Nat.gcd a n = 1) : Jv (a : Int) n = G a n := by
  unfold Jv
  rw [Int.gcd_natCast_natCast, ← Int.natCast_emod, Int.toNat_natCast, Int.toNat_natCast, G_mod, if_pos h]
theorem Jv_neg {a n : Nat} (h : ¬ Nat.gcd a n = 1) : Jv (a : Int) n = 0 := by
  unfold Jv
  rw [Int.gcd_natCast_natCast, if_neg h]
theorem gcd_res (a : Int) (n : Int) : Int.gcd (a % n) n = Int.gcd a n := by
  conv => rhs; rw [← Int.emod_add_mul_ediv a n]
  rw [Int.gcd_add_mul_left_left]
theorem Jv_mod (a n : Int) : Jv (a % n) n = Jv a n := by
  unfold Jv; rw [gcd_res, Int.emod_emod]
/-- every number has a residue from 0 on. -/
theorem Jv_res {a n : Int} (hn : 0 < n) : ∃ b m : Nat, n = m ∧ a % n = b ∧ Jv a n = Jv b m ∧ b < m := by
  have h0 := Int.emod_nonneg a (show n ≠ 0 by omega)
  have h1 := Int.emod_lt_of_pos a hn
  refine ⟨(a % n).toNat, n.toNat, by omega, by omega, ?_, by omega⟩
  rw [Int.toNat_of_nonneg h0, Int.toNat_of_nonneg (by omega), Jv_mod]

theorem Jv_cases (a n : Int) : Jv a n = 0 ∨ Jv a n = 1 ∨ Jv a n = -1 := by
  unfold Jv; split
  · exact .inr (G_cases _ _)
  · exact .inl rfl
theorem Jv_zero (a n : Int) : Jv a n = 0 ↔ Int.gcd a n ≠ 1 := by
  unfold Jv; split
  · rename_i h; rcases G_cases (a % n).toNat n.toNat with e | e <;> rw [e] <;> simp [h]
  · rename_i h; simp [h]

theorem Jn_mul {a b n : Nat} (hn : n % 2 = 1) : Jv ((a * b : Nat) : Int) n = Jv a n * Jv b n := by
  by_cases ha : Nat.gcd a n = 1
  · by_cases hb : Nat.gcd b n = 1
    · rw [Jv_pos ha, Jv_pos hb, Jv_pos (Nat.Coprime.mul_left ha hb), G_mul hn ha hb]
    · rw [Jv_neg hb, Jv_neg (fun h => hb (Nat.Coprime.coprime_mul_left (k := a) h)), Int.mul_zero]
  · rw [Jv_neg ha, Jv_neg (fun h => ha (Nat.Coprime.coprime_mul_right (k := b) h)), Int.zero_mul]
theorem Jn_den {a m n : Nat} (hm : m % 2 = 1) (hn : n % 2 = 1) : Jv (a : Int) ((m * n : Nat) : Int) = Jv a m * Jv a n := by
  by_cases ha : Nat.gcd a m = 1
  · by_cases hb : Nat.gcd a n = 1
    · rw [Jv_pos ha, Jv_pos hb, Jv_pos (Nat.Coprime.mul_right ha hb), G_den hm hn ha hb]
    · rw [Jv_neg hb, Jv_neg (fun h => hb (Nat.Coprime.coprime_mul_left_right (k := m) h)), Int.mul_zero]
  · rw [Jv_neg ha, Jv_neg (fun h => ha (Nat.Coprime.coprime_mul_right_right (k := n) h)), Int.zero_mul]
theorem Jn_rec {m n : Nat} (hm : m % 2 = 1) (hn : n % 2 = 1) : Jv (m : Int) n = rec m n * Jv n m := by
  by_cases h : Nat.gcd m n = 1
  · rw [Jv_pos h, Jv_pos (by rw [Nat.gcd_comm]; exact h)]; exact G_rec hm hn h
  · rw [Jv_neg h, Jv_neg (by rw [Nat.gcd_comm]; exact h), Int.mul_zero]
theorem Jn_two {n : Nat} (hn : n % 2 = 1) : Jv ((2 : Nat) : Int) n = if n % 8 = 3 ∨ n % 8 = 5 then -1 else 1 := by
  rw [Jv_pos, G_two hn]
  rw [Nat.gcd_rec, hn]; rfl

/-! the chain -/
structure Stp where (k : Int) (a : Int) (n : Int) (s : Int)
def two (n : Int) : Int := if n % 8 = 3 ∨ n % 8 = 5 then -1 else 1
def exch (a n : Int) : Int := if a % 4 = 3 ∧ n % 4 = 3 then -1 else 1
def nx (t : Stp) : Stp :=
  if t.a < 0 ∨ t.n ≤ t.a then ⟨0, t.a % t.n, t.n, t.s⟩
  else if t.a % 2 = 0 then ⟨1, t.a / 2, t.n, t.s * two t.n⟩
  else ⟨2, t.n, t.a, t.s * exch t.a t.n⟩
def fin (t : Stp) : Prop := t.a = 0 ∨ t.n = 1
instance (t : Stp) : Decidable (fin t) := by unfold fin; infer_instance
def st (a n : Int) : Nat → Stp | 0 => ⟨0, a, n, 1⟩ | k + 1 => nx (st a n k)
structure Good (t : Stp) : Prop where
  a0 : -1000000000 ≤ t.a
  a1 : t.a ≤ 1000000000
  n0 : 1 ≤ t.n
  n1 : t.n ≤ 1000000000
  odd : t.n % 2 = 1
  s : t.s = 1 ∨ t.s = -1
def ms (t : Stp) : Nat := if t.a < 0 then (4 * t.n + 3).toNat else if t.a < t.n then (2 * (t.a + t.n) + 1).toNat else (2 * (t.a + t.n)).toNat
theorem two_cases (n : Int) : two n = 1 ∨ two n = -1 := by unfold two; split <;> simp
theorem exch_cases (a n : Int) : exch a n = 1 ∨ exch a n = -1 := by unfold exch; split <;> simp
theorem sgn_mul {x y : Int} (hx : x = 1 ∨ x = -1) (hy : y = 1 ∨ y = -1) : x * y = 1 ∨ x * y = -1 := by rcases hx with rfl | rfl <;> rcases hy with rfl | rfl <;> simp

theorem step {t : Stp} (h : Good t) (hf : ¬ fin t) : Good (nx t) ∧ ms (nx t) < ms t ∧ (nx t).s * Jv (nx t).a (nx t).n = t.s * Jv t.a t.n := by
  obtain ⟨k, a, n, s⟩ := t
  obtain ⟨a0, a1, n0, n1, od, hs⟩ := h
  simp only at a0 a1 n0 n1 od hs
  have ha : a ≠ 0 := fun e => hf (.inl e)
  have hn : n ≠ 1 := fun e => hf (.inr e)
  have h0 := Int.emod_nonneg a (show n ≠ 0 by omega)
  have h1 := Int.emod_lt_of_pos a (show 0 < n by omega)
  unfold nx
  simp only
  split
  · rename_i hk
    refine ⟨⟨by simp only; omega, by simp only; omega, n0, n1, od, hs⟩, ?_, by rw [Jv_mod]⟩
    unfold ms; simp only
    rw [if_neg (by omega), if_pos h1]
    split <;> (try split) <;> omega
  · rename_i hk
    obtain ⟨b, rfl⟩ := Int.eq_ofNat_of_zero_le (show 0 ≤ a by omega)
    obtain ⟨m, rfl⟩ := Int.eq_ofNat_of_zero_le (show 0 ≤ n by omega)
    have hm : m % 2 = 1 := by omega
    split
    · rename_i he
      refine ⟨⟨by simp only; omega, by simp only; omega, n0, n1, od, sgn_mul hs (two_cases _)⟩, ?_, ?_⟩
      · unfold ms; simp only
        rw [if_neg (by omega), if_pos (by omega), if_neg (by omega), if_pos (by omega)]; omega
      · simp only
        have e2 : (b : Int) / 2 = ((b / 2 : Nat) : Int) := by omega
        have e3 : b = 2 * (b / 2) := by omega
        have e4 : two (m : Int) = if m % 8 = 3 ∨ m % 8 = 5 then -1 else 1 := by
          unfold two; by_cases h : m % 8 = 3 ∨ m % 8 = 5
          · rw [if_pos h, if_pos (by omega)]
          · rw [if_neg h, if_neg (by omega)]
        rw [e2]
        conv => rhs; rw [e3]
        rw [Jn_mul hm, Jn_two hm, e4, Int.mul_assoc]
    · rename_i he
      have hb : b % 2 = 1 := by omega
      refine ⟨⟨by simp only; omega, by simp only; omega, by simp only; omega, by simp only; omega, by simp only; omega, sgn_mul hs (exch_cases _ _)⟩, ?_, ?_⟩
      · unfold ms; simp only
        rw [if_neg (by omega), if_neg (by omega), if_neg (by omega), if_pos (by omega)]; omega
      · simp only
        have e4 : exch (b : Int) (m : Int) = rec b m := by
          unfold exch rec; by_cases h : b % 4 = 3 ∧ m % 4 = 3
          · rw [if_pos h, if_pos (by omega)]
          · rw [if_neg h, if_neg (by omega)]
        rw [e4, Int.mul_assoc, ← Jn_rec hb hm]

/-- The chain: it ends, and shows the symbol. -/
theorem chain_ends (t : Stp) (h : Good t) : ∃ N, ∀ f : Nat → Stp, f 0 = t → (∀ k, f (k + 1) = nx (f k)) → (∀ k, k < N → ¬ fin (f k)) ∧ fin (f N) ∧ (∀ k, k ≤ N → Good (f k) ∧ (f k).s * Jv (f k).a (f k).n = t.s * Jv t.a t.n) := by
  by_cases hf : fin t
  · refine ⟨0, fun f h0 _ => ⟨by omega, by rw [h0]; exact hf, fun k hk => ?_⟩⟩
    obtain rfl : k = 0 := by omega
    rw [h0]; exact ⟨h, rfl⟩
  · obtain ⟨g, lt, e⟩ := step h hf
    obtain ⟨N, hN⟩ := chain_ends (nx t) g
    refine ⟨N + 1, fun f h0 hs => ?_⟩
    obtain ⟨h1, h2, h3⟩ := hN (fun k => f (k + 1)) (by rw [hs, h0]) (fun k => hs _)
    refine ⟨fun k hk => ?_, h2, fun k hk => ?_⟩
    · cases k with
      | zero => rw [h0]; exact hf
      | succ k => exact h1 k (by omega)
    · cases k with
      | zero => rw [h0]; exact ⟨h, rfl⟩
      | succ k => exact ⟨(h3 k (by omega)).1, (h3 k (by omega)).2.trans e⟩
termination_by ms t

theorem good0 {a n : Int} (h : -1000000000 ≤ a ∧ a ≤ 1000000000 ∧ 1 ≤ n ∧ n ≤ 1000000000 ∧ n % 2 = 1) : Good (st a n 0) := ⟨h.1, h.2.1, h.2.2.1, h.2.2.2.1, h.2.2.2.2, .inl rfl⟩
theorem chain_shows {a n : Int} (h : -1000000000 ≤ a ∧ a ≤ 1000000000 ∧ 1 ≤ n ∧ n ≤ 1000000000 ∧ n % 2 = 1) :
    ∃ N, (∀ k, k < N → ¬ fin (st a n k)) ∧ fin (st a n N) ∧ (∀ k, k ≤ N → Good (st a n k)) ∧ (if 1 < (st a n N).n then 0 else (st a n N).s) = Jv a n := by
  obtain ⟨N, hN⟩ := chain_ends _ (good0 h)
  obtain ⟨h1, h2, h3⟩ := hN (st a n) rfl (fun _ => rfl)
  refine ⟨N, h1, h2, fun k hk => (h3 k hk).1, ?_⟩
  obtain ⟨g, e⟩ := h3 N (Nat.le_refl _)
  have e' : (st a n N).s * Jv (st a n N).a (st a n N).n = Jv a n := by rw [e]; show 1 * Jv a n = _; rw [Int.one_mul]
  rw [← e']
  have := g.n0
  split
  · rename_i hk
    have hz : (st a n N).a = 0 := h2.resolve_right (by omega)
    have : Jv (st a n N).a (st a n N).n = 0 := by
      rw [Jv_zero, hz, Int.gcd_zero_left]; omega
    rw [this, Int.mul_zero]
  · have h1 : (st a n N).n = 1 := by omega
    have : Jv (st a n N).a (st a n N).n = 1 := by
      rw [h1]; unfold Jv
      rw [if_pos (by simp)]; rfl
    rw [this, Int.mul_one]

/-! what is multiplied -/
theorem J_mul {a b n : Int} (hn : 0 < n) (ho : n % 2 = 1) : Jv (a * b) n = Jv a n * Jv b n := by
  obtain ⟨x, m, rfl, ex, e1, _⟩ := Jv_res (a := a) hn
  obtain ⟨y, m', hm, ey, e2, _⟩ := Jv_res (a := b) hn
  obtain rfl : m = m' := by omega
  rw [e1, e2, ← Jn_mul (by omega), ← Jv_mod, Int.mul_emod, ex, ey, Jv_mod, Int.natCast_mul]
theorem J_den {a m n : Int} (hm : 0 < m) (hn : 0 < n) (om : m % 2 = 1) (on : n % 2 = 1) : Jv a (m * n) = Jv a m * Jv a n := by
  obtain ⟨k, rfl⟩ := Int.eq_ofNat_of_zero_le (show 0 ≤ m by omega)
  obtain ⟨l, rfl⟩ := Int.eq_ofNat_of_zero_le (show 0 ≤ n by omega)
  have hp : (0 : Int) < (k : Int) * l := Int.mul_pos hm hn
  obtain ⟨x, m', hm', ex, e1, _⟩ := Jv_res (a := a) hp
  obtain rfl : k * l = m' := by rw [← Int.natCast_mul] at hm'; omega
  have r : ∀ z : Int, z ∣ (k : Int) * l → Jv a z = Jv x z := fun z hz => by
    rw [← Jv_mod a z, ← Jv_mod x z, ← ex, Int.emod_emod_of_dvd _ hz]
  rw [r _ (Int.dvd_refl _), r k (Int.dvd_mul_right _ _), r l (Int.dvd_mul_left _ _), ← Int.natCast_mul, Jn_den (by omega) (by omega)]
theorem J_rec {m n : Int} (hm : 0 < m) (hn : 0 < n) (om : m % 2 = 1) (on : n % 2 = 1) : Jv m n = exch m n * Jv n m := by
  obtain ⟨k, rfl⟩ := Int.eq_ofNat_of_zero_le (show 0 ≤ m by omega)
  obtain ⟨l, rfl⟩ := Int.eq_ofNat_of_zero_le (show 0 ≤ n by omega)
  have e4 : exch (k : Int) (l : Int) = rec k l := by
    unfold exch rec; by_cases h : k % 4 = 3 ∧ l % 4 = 3
    · rw [if_pos h, if_pos (by omega)]
    · rw [if_neg h, if_neg (by omega)]
  rw [Jn_rec (by omega) (by omega), e4]
end Go.Proofs.Ytopfcppmbkidgaa
