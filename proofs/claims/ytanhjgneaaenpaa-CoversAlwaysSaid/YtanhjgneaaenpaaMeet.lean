/- Two residues of moduli to 60 have a number in common exactly if they differ by a multiple of the greatest common factor; a sum over a period counted in two ways. Plainly. No condition. -/
namespace Go.Proofs.Ytanhjgneaaenpaa
theorem bez_ok : ((List.range 61).all fun m => m == 0 || (List.range 61).all fun k => k == 0 || (List.range 60).any fun u => (u * m) % k == Nat.gcd m k % k) = true := by decide +kernel
theorem bez {m k : Nat} (h1 : 1 ≤ m) (h2 : m ≤ 60) (h3 : 1 ≤ k) (h4 : k ≤ 60) : ∃ u, (u * m) % k = Nat.gcd m k % k := by
  have h := List.all_eq_true.1 bez_ok m (List.mem_range.2 (by omega))
  simp only [Bool.or_eq_true, beq_iff_eq, List.all_eq_true, List.mem_range, List.any_eq_true] at h
  rcases h with h | h
  · omega
  · rcases h k (by omega) with h | ⟨u, _, h⟩
    · omega
    · exact ⟨u, h⟩
theorem meet {a m b k : Nat} (h1 : 1 ≤ m) (h2 : m ≤ 60) (h3 : 1 ≤ k) (h4 : k ≤ 60) (ha : a < m) (hb : b < k) :
    (∃ n, n % m = a ∧ n % k = b) ↔ a % Nat.gcd m k = b % Nat.gcd m k := by
  constructor
  · rintro ⟨n, rfl, rfl⟩
    rw [Nat.mod_mod_of_dvd _ (Nat.gcd_dvd_left m k), Nat.mod_mod_of_dvd _ (Nat.gcd_dvd_right m k)]
  · intro h
    obtain ⟨u, hu⟩ := bez h1 h2 h3 h4
    obtain ⟨g, hg⟩ : ∃ g, Nat.gcd m k = g := ⟨_, rfl⟩
    rw [hg] at h hu
    obtain ⟨k', hk'⟩ : g ∣ k := hg ▸ Nat.gcd_dvd_right m k
    have hak : a ≤ k * a := Nat.le_mul_of_pos_left a (by omega)
    have hD : g ∣ b + k * a - a := by
      apply Nat.dvd_of_mod_eq_zero
      apply Nat.sub_mod_eq_zero_of_mod_eq
      rw [h, hk', Nat.mul_assoc, Nat.add_mul_mod_self_left]
    obtain ⟨c, hc⟩ := hD
    refine ⟨a + c * u * m, ?_, ?_⟩
    · rw [Nat.add_mul_mod_self_right, Nat.mod_eq_of_lt ha]
    · have e1 : (c * u * m) % k = (b + k * a - a) % k := by
        rw [Nat.mul_assoc, Nat.mul_mod, hu, ← Nat.mul_mod, hc, Nat.mul_comm g c]
      rw [Nat.add_mod, e1, ← Nat.add_mod, show a + (b + k * a - a) = b + k * a by omega, Nat.add_mul_mod_self_left, Nat.mod_eq_of_lt hb]
def sumN (f : Nat → Nat) : Nat → Nat
  | 0 => 0
  | k + 1 => sumN f k + f k
theorem sumN_add (f g : Nat → Nat) : ∀ k, sumN (fun n => f n + g n) k = sumN f k + sumN g k
  | 0 => rfl
  | k + 1 => by simp only [sumN]; rw [sumN_add f g k]; omega
theorem sumN_app (f : Nat → Nat) (a : Nat) : ∀ b, sumN f (a + b) = sumN f a + sumN (fun n => f (a + n)) b
  | 0 => rfl
  | b + 1 => by rw [← Nat.add_assoc]; simp only [sumN]; rw [sumN_app f a b]; omega
theorem sumN_congr {f g : Nat → Nat} : ∀ {k}, (∀ t, t < k → f t = g t) → sumN f k = sumN g k
  | 0, _ => rfl
  | k + 1, h => by
    simp only [sumN]
    rw [sumN_congr (fun t ht => h t (by omega)), h k (by omega)]
theorem sumN_le {f g : Nat → Nat} : ∀ {k}, (∀ t, t < k → f t ≤ g t) → sumN f k ≤ sumN g k
  | 0, _ => Nat.le_refl _
  | k + 1, h => by
    simp only [sumN]
    have := sumN_le (fun t ht => h t (by omega)) (f := f) (g := g) (k := k)
    have := h k (by omega)
    omega
theorem sumN_eq {f g : Nat → Nat} : ∀ {k}, (∀ t, t < k → f t ≤ g t) → sumN f k = sumN g k → ∀ t, t < k → f t = g t
  | 0, _, _, t, ht => by omega
  | k + 1, h, e, t, ht => by
    simp only [sumN] at e
    have h1 := sumN_le (fun t ht => h t (by omega)) (f := f) (g := g) (k := k)
    have h2 := h k (by omega)
    by_cases htk : t = k
    · subst htk; omega
    · exact sumN_eq (k := k) (fun t ht => h t (by omega)) (by omega) t (by omega)
theorem sumN_one : ∀ k, sumN (fun _ => 1) k = k
  | 0 => rfl
  | k + 1 => by simp only [sumN]; rw [sumN_one k]
/-- In one period a residue comes once. -/
theorem sumN_res {a m : Nat} (ha : a < m) : sumN (fun n => if n % m = a then 1 else 0) m = 1 := by
  have h : ∀ k, k ≤ m → sumN (fun n => if n % m = a then 1 else 0) k = if a < k then 1 else 0 := by
    intro k
    induction k with
    | zero => intro _; simp [sumN]
    | succ k ih =>
      intro hk
      simp only [sumN]
      rw [ih (by omega), Nat.mod_eq_of_lt (show k < m by omega)]
      split <;> split <;> split <;> omega
  rw [h m (Nat.le_refl _), if_pos ha]
theorem sumN_whole {a m : Nat} (ha : a < m) : ∀ c, sumN (fun n => if n % m = a then 1 else 0) (m * c) = c
  | 0 => rfl
  | c + 1 => by
    rw [Nat.mul_succ, sumN_app, sumN_whole ha c]
    have : sumN (fun n => if (m * c + n) % m = a then 1 else 0) m = 1 := by
      refine Eq.trans (sumN_congr fun t _ => ?_) (sumN_res ha)
      rw [Nat.mul_add_mod]
    rw [this]
end Go.Proofs.Ytanhjgneaaenpaa
