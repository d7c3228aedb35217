/- Primes: their squares are just the numbers with the symbol 1. Plain mathematics; no condition beyond those stated. -/
import Derived.Test.YtopfcppmbkidgaaJac
namespace Go.Proofs.Ytopfcppmbkidgaa

/-- an odd prime -/
def Prm (p : Nat) : Prop := 3 ≤ p ∧ ∀ d, 2 ≤ d → d * d ≤ p → p % d ≠ 0
theorem Prm.div {p : Nat} (h : Prm p) {d : Nat} (hd : d ∣ p) : d = 1 ∨ d = p := by
  obtain ⟨e, he⟩ := hd
  have h3 := h.1
  by_cases h1 : d ≤ 1
  · rcases (show d = 0 ∨ d = 1 by omega) with rfl | rfl
    · simp at he; omega
    · exact .inl rfl
  · by_cases h2 : e ≤ 1
    · rcases (show e = 0 ∨ e = 1 by omega) with rfl | rfl
      · simp at he; omega
      · exact .inr (by omega)
    · exfalso
      rcases Nat.le_total d e with hle | hle
      · exact h.2 d (by omega) (by rw [he]; exact Nat.mul_le_mul_left _ hle) (by rw [he]; exact Nat.mul_mod_right _ _)
      · exact h.2 e (by omega) (by rw [he]; exact Nat.mul_le_mul_right _ hle) (by rw [he]; exact Nat.mul_mod_left _ _)
theorem Prm.odd {p : Nat} (h : Prm p) : p % 2 = 1 := by
  have h3 := h.1
  by_cases h4 : 4 ≤ p
  · have := h.2 2 (by omega) (by omega); omega
  · omega
theorem Prm.cop {p : Nat} (h : Prm p) {a : Nat} (ha : ¬ p ∣ a) : Nat.Coprime a p := by
  rcases h.div (Nat.gcd_dvd_right a p) with e | e
  · exact e
  · exact absurd (e ▸ Nat.gcd_dvd_left a p) ha
theorem Prm.euclid {p : Nat} (h : Prm p) {a b : Nat} (hd : p ∣ a * b) : p ∣ a ∨ p ∣ b := by
  by_cases ha : p ∣ a
  · exact .inl ha
  · exact .inr ((Nat.Coprime.symm (h.cop ha)).dvd_of_dvd_mul_left hd)
theorem small_not {p a : Nat} (h1 : 1 ≤ a) (h2 : a < p) : ¬ p ∣ a := fun h => by have := Nat.le_of_dvd h1 h; omega
theorem mod_eq_dvd {p a b : Nat} (h : a % p = b % p) : (p : Int) ∣ (a : Int) - b := by
  apply Int.dvd_of_emod_eq_zero
  apply Int.emod_eq_emod_iff_emod_sub_eq_zero.1
  rw [← Int.natCast_emod, ← Int.natCast_emod, h]
theorem dvd_mod_eq {p a b : Nat} (h : (p : Int) ∣ (a : Int) - b) : a % p = b % p := by
  have := Int.emod_eq_emod_iff_emod_sub_eq_zero.2 (Int.emod_eq_zero_of_dvd h)
  rw [← Int.natCast_emod, ← Int.natCast_emod] at this
  omega
theorem Prm.euclidI {p : Nat} (h : Prm p) {a b : Int} (hd : (p : Int) ∣ a * b) : (p : Int) ∣ a ∨ (p : Int) ∣ b := by
  have := Int.natAbs_dvd_natAbs.2 hd
  rw [Int.natAbs_mul, Int.natAbs_natCast] at this
  rcases h.euclid this with e | e
  · exact .inl (Int.natAbs_dvd_natAbs.1 (by rw [Int.natAbs_natCast]; exact e))
  · exact .inr (Int.natAbs_dvd_natAbs.1 (by rw [Int.natAbs_natCast]; exact e))
theorem Prm.inj {p : Nat} (h : Prm p) {a x y : Nat} (ha : ¬ p ∣ a) (hx : x < p) (hy : y < p) (e : a * x % p = a * y % p) : x = y := by
  have hd := mod_eq_dvd e
  rw [Int.natCast_mul, Int.natCast_mul, ← Int.mul_sub] at hd
  rcases h.euclidI hd with k | k
  · exact absurd (Int.natCast_dvd_natCast.1 k) ha
  · have := Int.eq_zero_of_dvd_of_natAbs_lt_natAbs k (by omega)
    omega
/-- what one must multiply by. -/
theorem Prm.quot {p : Nat} (h : Prm p) {a c : Nat} (ha : ¬ p ∣ a) (c1 : 1 ≤ c) (c2 : c < p) : ∃ z, 1 ≤ z ∧ z < p ∧ a * z % p = c := by
  have h3 := h.1
  have hp := lst_perm (g := fun x => a * x % p) (n := p - 1) (fun x y a1 a2 b1 b2 e => h.inj ha (by omega) (by omega) e)
    (fun x a1 a2 => by
      have := res_pos (h.cop ha) a1 (by omega : x < p)
      have := Nat.mod_lt (a * x) (by omega : 0 < p)
      omega)
  have hm : c ∈ lst id (p - 1) := mem_lst.2 ⟨c, c1, by omega, rfl⟩
  obtain ⟨z, z1, z2, z3⟩ := mem_lst.1 (hp.symm.subset hm)
  exact ⟨z, z1, by omega, z3⟩

/-! pairs -/
def pl : List Nat → Int | [] => 1 | x :: l => (x : Int) * pl l
theorem pl_perm {l r : List Nat} (h : l.Perm r) : pl l = pl r := by
  induction h with
  | nil => rfl
  | cons a _ ih => simp [pl, ih]
  | swap a b l => simp only [pl]; grind
  | trans _ _ ih1 ih2 => exact ih1.trans ih2
theorem pl_lst : ∀ n, pl (lst id n) = pr (fun x => (x : Int)) n
  | 0 => rfl
  | n + 1 => by rw [lst, pl, pl_lst n, pr]; simp only [id]; rw [Int.mul_comm]

theorem pairs {p y : Nat} : ∀ (n : Nat) (L : List Nat), L.length = n → L.Nodup → (∀ x ∈ L, ∃ z ∈ L, z ≠ x ∧ (p : Int) ∣ (x : Int) * z - y) →
    (∀ x ∈ L, ∀ z ∈ L, ∀ z' ∈ L, (p : Int) ∣ (x : Int) * z - y → (p : Int) ∣ (x : Int) * z' - y → z = z') → n % 2 = 0 ∧ (p : Int) ∣ pl L - (y : Int) ^ (n / 2) := by
  intro n
  induction n using Nat.strongRecOn with
  | ind n ih =>
    intro L hl hn hp hu
    cases L with
    | nil => simp at hl; subst hl; simp [pl]
    | cons x L =>
      obtain ⟨z, hz, hne, hd⟩ := hp x (by simp)
      have hzL : z ∈ L := by rcases List.mem_cons.1 hz with e | e; exact absurd e hne; exact e
      obtain ⟨hxL, hnL⟩ := List.nodup_cons.1 hn
      have hlen : (L.erase z).length + 2 = n := by
        rw [List.length_erase_of_mem hzL]
        have := List.length_pos_of_mem hzL
        simp at hl; omega
      have hcomm : ∀ u v : Nat, (p : Int) ∣ (u : Int) * v - y → (p : Int) ∣ (v : Int) * u - y := fun u v h => by rwa [Int.mul_comm] at h
      have hmem : ∀ u, u ∈ L.erase z ↔ u ∈ L ∧ u ≠ z := fun u => by
        rw [hnL.mem_erase_iff]; exact And.comm
      obtain ⟨e1, e2⟩ := ih (n - 2) (by omega) (L.erase z) (by omega) (hnL.erase z)
        (fun u hu' => by
          obtain ⟨huL, huz⟩ := (hmem u).1 hu'
          obtain ⟨v, hv, hvu, hvd⟩ := hp u (by simp [huL])
          refine ⟨v, (hmem v).2 ⟨?_, ?_⟩, hvu, hvd⟩
          · rcases List.mem_cons.1 hv with e | e
            · subst e
              exact absurd (hu v (by simp) u (by simp [huL]) z hz (hcomm _ _ hvd) hd) huz
            · exact e
          · intro e
            subst e
            have := hu v hz u (by simp [huL]) x (by simp) (hcomm _ _ hvd) (hcomm _ _ hd)
            subst this
            exact hxL huL)
        (fun a ha b hb c hc => hu a (by simp [((hmem a).1 ha).1]) b (by simp [((hmem b).1 hb).1]) c (by simp [((hmem c).1 hc).1]))
      refine ⟨by omega, ?_⟩
      have hpl : pl (x :: L) = (x : Int) * (z * pl (L.erase z)) := by
        rw [pl, pl_perm (List.perm_cons_erase hzL), pl]
      have hpow : (y : Int) ^ (n / 2) = y ^ ((n - 2) / 2) * y := by rw [← Int.pow_succ]; congr 1; omega
      rw [hpl, hpow]
      have := Int.dvd_add (Int.dvd_mul_of_dvd_right hd (b := pl (L.erase z))) (Int.dvd_mul_of_dvd_right e2 (b := (y : Int)))
      refine cast (congrArg (fun z : Int => (p : Int) ∣ z) ?_) this
      grind

def ran (a : Nat) : Nat → List Nat | 0 => [] | n + 1 => (a + n) :: ran a n
theorem mem_ran {a x : Nat} : ∀ {n : Nat}, x ∈ ran a n ↔ a ≤ x ∧ x < a + n
  | 0 => by simp [ran]
  | n + 1 => by rw [ran, List.mem_cons, mem_ran (n := n)]; omega
theorem ran_nodup (a : Nat) : ∀ n, (ran a n).Nodup
  | 0 => List.nodup_nil
  | n + 1 => by rw [ran, List.nodup_cons, mem_ran]; exact ⟨by omega, ran_nodup a n⟩
theorem ran_len (a : Nat) : ∀ n, (ran a n).length = n
  | 0 => rfl
  | n + 1 => by rw [ran, List.length_cons, ran_len a n]
theorem pl_ran : ∀ n, pl (ran 2 n) = pr (fun x => (x : Int)) (n + 1)
  | 0 => rfl
  | n + 1 => by
    rw [ran, pl, pl_ran n, pr, Int.mul_comm]; congr 1
    show ((2 + n : Nat) : Int) = ((n + 1 + 1 : Nat) : Int)
    omega

theorem Prm.one {p : Nat} (h : Prm p) {x : Nat} (h1 : 1 ≤ x) (h2 : x < p) (hd : (p : Int) ∣ (x : Int) * x - 1) : x = 1 ∨ x = p - 1 := by
  have : (p : Int) ∣ ((x : Int) - 1) * (x + 1) := by
    refine cast (congrArg (fun z : Int => (p : Int) ∣ z) ?_) hd; grind
  rcases h.euclidI this with k | k
  · left
    have := Int.eq_zero_of_dvd_of_natAbs_lt_natAbs k (by omega); omega
  · right
    have := Int.le_of_dvd (by omega) k; omega
theorem Prm.uniq {p : Nat} (h : Prm p) {y x z z' : Nat} (hx1 : 1 ≤ x) (hx2 : x < p) (hz : z < p) (hz' : z' < p) (d1 : (p : Int) ∣ (x : Int) * z - y) (d2 : (p : Int) ∣ (x : Int) * z' - y) : z = z' := by
  refine h.inj (small_not hx1 hx2) hz hz' (dvd_mod_eq ?_)
  have := Int.dvd_sub d1 d2
  refine cast (congrArg (fun z : Int => (p : Int) ∣ z) ?_) this
  rw [Int.natCast_mul, Int.natCast_mul]; omega

/-- Wilson -/
theorem Prm.wilson {p : Nat} (h : Prm p) : (p : Int) ∣ pr (fun x => (x : Int)) (p - 1) + 1 := by
  have h3 := h.1
  obtain ⟨-, hd⟩ := pairs (p := p) (y := 1) (p - 3) (ran 2 (p - 3)) (ran_len _ _) (ran_nodup _ _)
    (fun x hx => by
      have := mem_ran.1 hx
      obtain ⟨z, z1, z2, z3⟩ := h.quot (small_not (by omega : 1 ≤ x) (by omega)) (Nat.le_refl 1) (by omega)
      have hd : (p : Int) ∣ (x : Int) * z - (1 : Nat) := by
        have := mod_eq_dvd (p := p) (a := x * z) (b := 1) (by rw [z3, Nat.mod_eq_of_lt (by omega)])
        rwa [Int.natCast_mul] at this
      refine ⟨z, mem_ran.2 ?_, ?_, hd⟩
      · have n1 : z ≠ 1 := fun e => by
          subst e
          rw [Nat.mul_one, Nat.mod_eq_of_lt (by omega)] at z3; omega
        have n2 : z ≠ p - 1 := fun e => by
          have e2 : (p : Int) ∣ (x : Int) + 1 := by
            have := Int.dvd_sub (Int.dvd_mul_right (p : Int) (x : Int)) hd
            refine cast (congrArg (fun z : Int => (p : Int) ∣ z) ?_) this
            rw [e, Int.natCast_sub (by omega)]; grind
          have := Int.le_of_dvd (by omega) e2
          omega
        omega
      · intro e
        subst e
        rcases h.one (by omega) (by omega) hd with k | k <;> omega)
    (fun x hx z hz z' hz' d1 d2 => by
      have := mem_ran.1 hx
      have := mem_ran.1 hz
      have := mem_ran.1 hz'
      exact h.uniq (by omega) (by omega) (by omega) (by omega) d1 d2)
  rw [pl_ran] at hd
  have e : p - 1 = (p - 3 + 1) + 1 := by omega
  rw [e, pr]
  have e2 : ((p - 3 + 1 + 1 : Nat) : Int) = p - 1 := by omega
  rw [e2]
  have hd' : (p : Int) ∣ pr (fun x => (x : Int)) (p - 3 + 1) - 1 := by
    refine cast (congrArg (fun z : Int => (p : Int) ∣ z) ?_) hd
    rw [show ((1 : Nat) : Int) = 1 from rfl, Int.one_pow]
  have := Int.dvd_add (Int.dvd_mul_of_dvd_right hd' (b := (p : Int) - 1)) (Int.dvd_refl (p : Int))
  refine cast (congrArg (fun z : Int => (p : Int) ∣ z) ?_) this
  grind

/-- Euler's criterion, in the one direction that is wanted. -/
theorem Prm.euler {p y : Nat} (h : Prm p) (y1 : 1 ≤ y) (y2 : y < p) (hn : ∀ z, z < p → z * z % p ≠ y) : (p : Int) ∣ (y : Int) ^ (p / 2) + 1 := by
  have h3 := h.1
  have ho := h.odd
  obtain ⟨-, hd⟩ := pairs (p := p) (y := y) (p - 1) (lst id (p - 1)) (lst_len _ _) (lst_nodup fun x y _ _ _ _ e => e)
    (fun x hx => by
      obtain ⟨x', x1, x2, rfl⟩ := mem_lst.1 hx
      simp only [id]
      obtain ⟨z, z1, z2, z3⟩ := h.quot (small_not x1 (by omega : x' < p)) y1 y2
      have hd : (p : Int) ∣ (x' : Int) * z - y := by
        have := mod_eq_dvd (p := p) (a := x' * z) (b := y) (by rw [z3, Nat.mod_eq_of_lt y2])
        rwa [Int.natCast_mul] at this
      exact ⟨z, mem_lst.2 ⟨z, z1, by omega, rfl⟩, fun e => hn x' (by omega) (by rw [← z3, e]), hd⟩)
    (fun x hx z hz z' hz' d1 d2 => by
      obtain ⟨_, _, _, rfl⟩ := mem_lst.1 hx
      obtain ⟨_, _, _, rfl⟩ := mem_lst.1 hz
      obtain ⟨_, _, _, rfl⟩ := mem_lst.1 hz'
      simp only [id] at *
      exact h.uniq (by omega) (by omega) (by omega) (by omega) d1 d2)
  rw [pl_lst] at hd
  have e : (p - 1) / 2 = p / 2 := by omega
  rw [e] at hd
  have := Int.dvd_sub h.wilson hd
  refine cast (congrArg (fun z : Int => (p : Int) ∣ z) ?_) this
  grind

theorem fact_not {p : Nat} (h : Prm p) : ∀ n, n < p → ¬ (p : Int) ∣ pr (fun x => (x : Int)) n
  | 0, _ => by
    intro hd
    have h3 := h.1
    have hd : (p : Int) ∣ 1 := hd
    have := Int.le_of_dvd (by decide) hd
    omega
  | n + 1, hn => by
    intro hd
    rw [pr] at hd
    rcases h.euclidI hd with k | k
    · exact fact_not h n (by omega) k
    · exact small_not (by omega) hn (Int.natCast_dvd_natCast.1 k)
/-- The symbol of a prime is the power. -/
theorem Prm.power {p a : Nat} (h : Prm p) (ha : ¬ p ∣ a) : (p : Int) ∣ (a : Int) ^ (p / 2) - G a p := by
  have h3 := h.1
  have hg := gauss h.odd (h.cop ha)
  rw [← Int.sub_mul] at hg
  rcases h.euclidI hg with k | k
  · exact k
  · exact absurd k (fact_not h _ (by omega))
theorem Prm.square {p y : Nat} (h : Prm p) (y1 : 1 ≤ y) (y2 : y < p) : G y p = 1 ↔ ∃ z, z < p ∧ z * z % p = y := by
  have h3 := h.1
  constructor
  · intro hg
    refine Classical.byContradiction fun hn => ?_
    have he := h.euler y1 y2 (fun z hz e => hn ⟨z, hz, e⟩)
    have hp := h.power (small_not y1 y2)
    rw [hg] at hp
    have := Int.dvd_sub he hp
    rw [show (y : Int) ^ (p / 2) + 1 - ((y : Int) ^ (p / 2) - 1) = 2 by omega] at this
    have := Int.le_of_dvd (by decide) this
    omega
  · rintro ⟨z, hz, e⟩
    have hzn : ¬ p ∣ z := fun hd => by
      have : z * z % p = 0 := Nat.mod_eq_zero_of_dvd (Nat.dvd_trans hd (Nat.dvd_mul_right z z))
      omega
    rw [← e, G_mod, G_mul h.odd (h.cop hzn) (h.cop hzn), G_sq]
/-- of primes, 1: just the squares; 0: zero. -/
theorem Prm.symbol {p a : Nat} (h : Prm p) (ha : a < p) : (Jv (a : Int) p = 0 ↔ a = 0) ∧ (1 ≤ a → (Jv (a : Int) p = 1 ↔ ∃ z, z < p ∧ z * z % p = a)) := by
  have h3 := h.1
  constructor
  · rw [Jv_zero, Int.gcd_natCast_natCast]
    constructor
    · intro hg
      refine Classical.byContradiction fun hn => hg (h.cop (small_not (by omega) ha))
    · intro e; subst e; simp; omega
  · intro h1
    rw [Jv_pos (h.cop (small_not h1 ha))]
    exact h.square h1 ha
/-- there is one without a root. -/
theorem Prm.none {p : Nat} (h : Prm p) : ∃ y, 2 ≤ y ∧ y < p ∧ ∀ z, z < p → z * z % p ≠ y := by
  have h3 := h.1
  refine Classical.byContradiction fun hn => ?_
  have hall : ∀ y, 1 ≤ y → y < p → ∃ z, z < p ∧ z * z % p = y := fun y y1 y2 => Classical.byContradiction fun hno => by
    by_cases e : y = 1
    · exact hno ⟨1, by omega, by rw [e]; exact Nat.mod_eq_of_lt (by omega)⟩
    · exact hn ⟨y, by omega, y2, fun z hz e => hno ⟨z, hz, e⟩⟩
  -- each is the square of one that is at most half
  have hhalf : ∀ y, 1 ≤ y → y < p → y ∈ lst (fun x => x * x % p) (p / 2) := fun y y1 y2 => by
    obtain ⟨z, hz, e⟩ := hall y y1 y2
    have hz0 : z ≠ 0 := fun e0 => by subst e0; simp at e; omega
    refine mem_lst.2 ?_
    by_cases hl : z ≤ p / 2
    · exact ⟨z, by omega, hl, e⟩
    · refine ⟨p - z, by omega, by omega, ?_⟩
      rw [← e]
      apply dvd_mod_eq
      rw [Int.natCast_mul, Int.natCast_mul, Int.natCast_sub (by omega)]
      exact ⟨(p : Int) - 2 * z, by grind⟩
  have hlen := (List.nodup_range (n := p - 1)).map (f := fun x => x + 1) (S := (· ≠ ·)) (fun a b hab e => hab (by simpa using e))
  have hs : ∀ x ∈ (List.range (p - 1)).map (fun x => x + 1), x ∈ lst (fun x => x * x % p) (p / 2) := fun x hx => by
    obtain ⟨k, hk, rfl⟩ := List.mem_map.1 hx
    have := List.mem_range.1 hk
    exact hhalf _ (by omega) (by omega)
  have hle : ∀ (l r : List Nat), l.Nodup → (∀ x ∈ l, x ∈ r) → l.length ≤ r.length := by
    intro l
    induction l with
    | nil => intro r _ _; simp
    | cons a l ih =>
      intro r hn hs
      have ha : a ∈ r := hs a (by simp)
      have := ih (r.erase a) (List.nodup_cons.1 hn).2 (fun x hx => by
        have hne : x ≠ a := fun e => (List.nodup_cons.1 hn).1 (e ▸ hx)
        exact (List.mem_erase_of_ne hne).2 (hs x (by simp [hx])))
      rw [List.length_erase_of_mem ha] at this
      have := List.length_pos_of_mem ha
      simp; omega
  have := hle _ _ hlen hs
  rw [List.length_map, List.length_range, lst_len] at this
  omega
end Go.Proofs.Ytopfcppmbkidgaa
