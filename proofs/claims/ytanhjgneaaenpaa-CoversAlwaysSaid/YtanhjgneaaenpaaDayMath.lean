/- The mathematics of Days and Always: the order of 2 modulo an odd number below 300, the day of a prime. No condition. -/
import Derived.Test.YtanhjgneaaenpaaMoves
namespace Go.Proofs.Ytanhjgneaaenpaa

def ordF (p : Nat) : Nat := ((List.range 300).find? fun e => decide (1 ≤ e) && decide (2 ^ e % p = 1)).getD 0
theorem ord_ok : ((List.range 300).all fun p => decide (p < 3) || decide (p % 2 = 0) || (decide (1 ≤ ordF p) && decide (ordF p < 300) && decide (2 ^ ordF p % p = 1) && (List.range (ordF p)).all fun t => decide (t = 0) || !decide (2 ^ t % p = 1))) = true := by decide +kernel
theorem ord_spec {p : Nat} (h3 : 3 ≤ p) (h300 : p < 300) (h2 : p % 2 = 1) : 1 ≤ ordF p ∧ ordF p < 300 ∧ 2 ^ ordF p % p = 1 ∧ ∀ t, 1 ≤ t → t < ordF p → 2 ^ t % p ≠ 1 := by
  have h := List.all_eq_true.1 ord_ok p (List.mem_range.2 h300)
  simp only [Bool.or_eq_true, Bool.and_eq_true, decide_eq_true_eq, List.all_eq_true, List.mem_range, Bool.not_eq_true', decide_eq_false_iff_not] at h
  rcases h with (h | h) | ⟨⟨⟨a, b⟩, c⟩, d⟩
  · omega
  · omega
  · refine ⟨a, b, c, fun t h1 h2 => ?_⟩
    rcases d t h2 with h | h
    · omega
    · exact h
def prB (p : Nat) : Bool := (List.range p).all fun d => decide (d < 2) || !decide (p % d = 0)
theorem pr_ok : ((List.range 300).all fun p => prB p || decide (p < 3) || (List.range 18).any fun t => decide (2 ≤ t) && decide (t * t ≤ p) && decide (p % t = 0)) = true := by decide +kernel
theorem pr_root {p : Nat} (h3 : 3 ≤ p) (h300 : p < 300) (h : ∀ t, 2 ≤ t → t * t ≤ p → p % t ≠ 0) : prB p = true := by
  have h' := List.all_eq_true.1 pr_ok p (List.mem_range.2 h300)
  simp only [Bool.or_eq_true, List.any_eq_true, Bool.and_eq_true, decide_eq_true_eq] at h'
  rcases h' with (h' | h') | ⟨t, -, ⟨a, b⟩, c⟩
  · exact h'
  · omega
  · exact absurd c (h t a b)
theorem pr_spec {p : Nat} : prB p = true ↔ ∀ t, 2 ≤ t → t < p → p % t ≠ 0 := by
  unfold prB
  simp only [List.all_eq_true, List.mem_range, Bool.or_eq_true, decide_eq_true_eq, Bool.not_eq_true', decide_eq_false_iff_not]
  constructor
  · intro h t h1 h2
    rcases h t h2 with h | h
    · omega
    · exact h
  · intro h t h2
    by_cases h1 : t < 2
    · exact .inl h1
    · exact .inr (h t (by omega) h2)
theorem pr_odd {p : Nat} (h3 : 3 ≤ p) (h : prB p = true) : p % 2 = 1 := by
  have := pr_spec.1 h 2 (by omega) (by omega)
  omega

theorem pow_mod_succ (p t : Nat) : 2 ^ (t + 1) % p = (2 ^ t % p * 2) % p := by rw [Nat.pow_succ, Nat.mul_mod, Nat.mul_mod (2 ^ t % p) 2, Nat.mod_mod]
/-- Is k 2^t + 1 divisible by p? -/
def hit (k p t : Nat) : Bool := decide ((k * 2 ^ t + 1) % p = 0)
theorem hit_pw (k p t : Nat) : hit k p t = decide ((k * (2 ^ t % p) + 1) % p = 0) := by
  unfold hit
  rw [decide_eq_decide]
  have : (k * 2 ^ t + 1) % p = (k * (2 ^ t % p) + 1) % p := by
    rw [Nat.add_mod, Nat.mul_mod, Nat.add_mod (k * (2 ^ t % p)), Nat.mul_mod k (2 ^ t % p), Nat.mod_mod]
  rw [this]
theorem hit_kx (k p t : Nat) : hit k p t = decide ((k * 2 ^ t % p + 1) % p = 0) := by
  unfold hit
  rw [decide_eq_decide, Nat.mod_add_mod]
theorem kx_succ (k p t : Nat) : k * 2 ^ (t + 1) % p = 2 * (k * 2 ^ t % p) % p := by
  rw [Nat.pow_succ, ← Nat.mul_assoc, Nat.mul_comm _ 2, Nat.mul_mod, Nat.mul_mod 2 (k * 2 ^ t % p), Nat.mod_mod]
theorem hit_per {k p : Nat} (h3 : 3 ≤ p) (h300 : p < 300) (h2 : p % 2 = 1) (t : Nat) : hit k p (t + ordF p) = hit k p t := by
  obtain ⟨h1, -, h4, -⟩ := ord_spec h3 h300 h2
  rw [hit_pw, hit_pw, Nat.pow_add, Nat.mul_mod, h4, Nat.mul_one, Nat.mod_mod]
theorem hit_mod {k p : Nat} (h3 : 3 ≤ p) (h300 : p < 300) (h2 : p % 2 = 1) (t : Nat) : hit k p (t % ordF p) = hit k p t := by
  have h : ∀ c r, hit k p (r + c * ordF p) = hit k p r := by
    intro c
    induction c with
    | zero => intro r; simp
    | succ c ih => intro r; rw [Nat.succ_mul, ← Nat.add_assoc, hit_per h3 h300 h2, ih]
  have := Nat.mod_add_div t (ordF p)
  rw [Nat.mul_comm] at this
  rw [← h (t / ordF p) (t % ordF p), this]
theorem odd_cop {p : Nat} (h2 : p % 2 = 1) (t : Nat) : Nat.Coprime p (2 ^ t) := by
  apply Nat.Coprime.pow_right
  rw [Nat.coprime_comm]
  show Nat.gcd 2 p = 1
  rw [Nat.gcd_rec, h2]
  rfl
/-- Two hits are a multiple of the order apart. -/
theorem hit_uniq {k p s t : Nat} (h3 : 3 ≤ p) (h300 : p < 300) (h2 : p % 2 = 1) (hs : hit k p s = true) (ht : hit k p t = true) (hst : s ≤ t) : (t - s) % ordF p = 0 := by
  obtain ⟨h1, -, h4, h5⟩ := ord_spec h3 h300 h2
  have ds : p ∣ k * 2 ^ s + 1 := Nat.dvd_of_mod_eq_zero (of_decide_eq_true hs)
  have dt : p ∣ k * 2 ^ t + 1 := Nat.dvd_of_mod_eq_zero (of_decide_eq_true ht)
  obtain ⟨d, rfl⟩ : ∃ d, t = s + d := ⟨t - s, by omega⟩
  rw [Nat.add_sub_cancel_left]
  have e1 : p ∣ 2 ^ d - 1 := by
    have h6 : p ∣ 2 ^ d * (k * 2 ^ s + 1) := Nat.dvd_trans ds (Nat.dvd_mul_left _ _)
    have h7 : 2 ^ d * (k * 2 ^ s + 1) - (k * 2 ^ (s + d) + 1) = 2 ^ d - 1 := by
      rw [Nat.mul_add, Nat.mul_one, Nat.pow_add, Nat.mul_left_comm, Nat.mul_comm (2 ^ d) (2 ^ s)]
      omega
    rw [← h7]
    exact Nat.dvd_sub h6 dt
  have hpos : 0 < 2 ^ d := Nat.two_pow_pos d
  have e2 : 2 ^ d % p = 1 := by
    obtain ⟨c, hc⟩ := e1
    have : 2 ^ d = 1 + p * c := by omega
    rw [this, Nat.add_mul_mod_self_left, Nat.mod_eq_of_lt (by omega)]
  have e3 : 2 ^ (d % ordF p) % p = 1 := by
    have hm := Nat.mod_add_div d (ordF p)
    have : 2 ^ d % p = 2 ^ (d % ordF p) % p := by
      conv => lhs; rw [← hm]
      rw [Nat.pow_add, Nat.pow_mul, Nat.mul_mod, Nat.pow_mod (2 ^ ordF p) (d / ordF p) p, h4, Nat.one_pow, Nat.mod_eq_of_lt (show 1 < p by omega), Nat.mul_one, Nat.mod_mod]
    rw [← this]; exact e2
  apply Classical.byContradiction
  intro hne
  exact h5 _ (by omega) (Nat.mod_lt _ (by omega)) e3

/-- The last of the first e numbers from 1 on that is a hit; 0: there is none. -/
def lastH (k p : Nat) : Nat → Nat
  | 0 => 0
  | e + 1 => if hit k p (e + 1) = true then e + 1 else lastH k p e
theorem lastH_le (k p : Nat) : ∀ e, lastH k p e ≤ e
  | 0 => Nat.le_refl _
  | e + 1 => by have := lastH_le k p e; unfold lastH; split <;> omega
theorem lastH_hit {k p : Nat} : ∀ {e}, 1 ≤ lastH k p e → hit k p (lastH k p e) = true
  | 0, h => absurd h (by simp [lastH])
  | e + 1, h => by
    unfold lastH at h ⊢
    split
    · assumption
    · rename_i h1
      rw [if_neg h1] at h
      exact lastH_hit h
theorem lastH_none {k p : Nat} : ∀ {e}, lastH k p e = 0 → ∀ t, 1 ≤ t → t ≤ e → hit k p t = false
  | 0, _, t, h1, h2 => by omega
  | e + 1, h, t, h1, h2 => by
    unfold lastH at h
    split at h
    · omega
    · rename_i hn
      by_cases e1 : t = e + 1
      · subst e1; cases hh : hit k p (e + 1) with
        | false => rfl
        | true => exact absurd hh hn
      · exact lastH_none h t h1 (by omega)
/-- The day of a prime, if it has one. -/
def dayF (k p : Nat) : Option (Int × Int) := if lastH k p (ordF p) = 0 then none else some (((lastH k p (ordF p) % ordF p : Nat) : Int), ((ordF p : Nat) : Int))
theorem first_last {k p t : Nat} (h3 : 3 ≤ p) (h300 : p < 300) (h2 : p % 2 = 1) (h1 : 1 ≤ t) (ht : t ≤ ordF p) (hh : hit k p t = true) : lastH k p (ordF p) = t := by
  have hl : 1 ≤ lastH k p (ordF p) := by
    rcases Nat.eq_zero_or_pos (lastH k p (ordF p)) with h | h
    · rw [lastH_none h t h1 ht] at hh; cases hh
    · exact h
  have hlh := lastH_hit hl
  have hle := lastH_le k p (ordF p)
  have ho := (ord_spec h3 h300 h2).1
  rcases Nat.le_total t (lastH k p (ordF p)) with h | h
  · have := hit_uniq h3 h300 h2 hh hlh h
    have hlt : lastH k p (ordF p) - t < ordF p := by omega
    rw [Nat.mod_eq_of_lt hlt] at this; omega
  · have := hit_uniq h3 h300 h2 hlh hh h
    have hlt : t - lastH k p (ordF p) < ordF p := by omega
    rw [Nat.mod_eq_of_lt hlt] at this; omega
theorem day_none {k p : Nat} (h3 : 3 ≤ p) (h300 : p < 300) (h2 : p % 2 = 1) (h : dayF k p = none) (i : Nat) : hit k p i = false := by
  unfold dayF at h
  split at h
  · rename_i h0
    have ho := (ord_spec h3 h300 h2).1
    have h1 := hit_mod (k := k) h3 h300 h2 (i + (ordF p - 1))
    cases e : hit k p i with
    | false => rfl
    | true =>
      have h4 : hit k p ((i % ordF p) + ordF p) = true := by rw [hit_per h3 h300 h2, hit_mod h3 h300 h2]; exact e
      by_cases hz : i % ordF p = 0
      · rw [hz, Nat.zero_add] at h4
        rw [lastH_none h0 (ordF p) ho (Nat.le_refl _)] at h4; cases h4
      · have hlt := Nat.mod_lt i (show 0 < ordF p by omega)
        have := lastH_none h0 (i % ordF p) (by omega) (by omega)
        rw [hit_mod h3 h300 h2, e] at this; cases this
  · cases h
theorem day_some {k p : Nat} {q : Int × Int} (h3 : 3 ≤ p) (h300 : p < 300) (h2 : p % 2 = 1) (h : dayF k p = some q) (i : Nat) : cvB (i : Int) q = hit k p i := by
  have ho := (ord_spec h3 h300 h2).1
  unfold dayF at h
  split at h
  · cases h
  · rename_i h0
    have e := (Option.some.inj h).symm
    subst e
    have hl : 1 ≤ lastH k p (ordF p) := by omega
    have hlh := lastH_hit hl
    have hlt := Nat.mod_lt (lastH k p (ordF p)) (show 0 < ordF p by omega)
    rw [cv_mod (by omega) (by omega)]
    simp only [Int.toNat_natCast]
    rw [Bool.eq_iff_iff, decide_eq_true_eq]
    constructor
    · intro he
      rw [← hit_mod h3 h300 h2, he, hit_mod h3 h300 h2]; exact hlh
    · intro hi
      have key : ∀ {s t : Nat}, s ≤ t → (t - s) % ordF p = 0 → t % ordF p = s % ordF p := fun {s t} hst hz => by
        obtain ⟨c, hc⟩ := Nat.dvd_of_mod_eq_zero hz
        have : t = s + ordF p * c := by omega
        rw [this, Nat.add_mul_mod_self_left]
      rcases Nat.le_total i (lastH k p (ordF p)) with hle | hle
      · exact (key hle (hit_uniq h3 h300 h2 hi hlh hle)).symm
      · exact key hle (hit_uniq h3 h300 h2 hlh hi hle)
theorem day_form {k p : Nat} {q : Int × Int} (h3 : 3 ≤ p) (h300 : p < 300) (h2 : p % 2 = 1) (h : dayF k p = some q) : q.2 = ((ordF p : Nat) : Int) ∧ 0 ≤ q.1 ∧ q.1 < q.2 ∧ 1 ≤ q.2 := by
  have ho := (ord_spec h3 h300 h2).1
  unfold dayF at h
  split at h
  · cases h
  · have e := (Option.some.inj h).symm
    subst e
    have hlt := Nat.mod_lt (lastH k p (ordF p)) (show 0 < ordF p by omega)
    exact ⟨rfl, by show (0 : Int) ≤ ((lastH k p (ordF p) % ordF p : Nat) : Int); omega, by show ((lastH k p (ordF p) % ordF p : Nat) : Int) < ((ordF p : Nat) : Int); omega, by show (1 : Int) ≤ ((ordF p : Nat) : Int); omega⟩
end Go.Proofs.Ytanhjgneaaenpaa
