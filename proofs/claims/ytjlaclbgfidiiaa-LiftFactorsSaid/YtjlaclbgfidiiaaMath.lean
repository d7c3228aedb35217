/- Polynomials with whole coefficients, plainly: values, derivatives, the one root above a simple one. -/
namespace Go.Proofs.Ytjlaclbgfidiiaa

/-- The value of a polynomial. -/
def ev : List Int → Int → Int
  | [], _ => 0
  | c :: t, x => c + x * ev t x
/-- The value of its derivative. -/
def dev : List Int → Int → Int
  | [], _ => 0
  | _ :: t, x => ev t x + x * dev t x
/-- The coefficients times k, k + 1, .. -/
def dvF (k : Int) : List Int → List Int
  | [] => []
  | c :: t => k * c :: dvF (k + 1) t
theorem ev_dvF (x : Int) : ∀ (l : List Int) (k : Int), ev (dvF k l) x = k * ev l x + x * dev l x
  | [], k => by simp [dvF, ev, dev]
  | c :: t, k => by
    have := ev_dvF x t (k + 1)
    simp only [dvF, ev, dev, this]
    grind
theorem ev_dv (x : Int) (c : Int) (l : List Int) : ev (dvF 1 l) x = dev (c :: l) x := by
  rw [ev_dvF]; simp only [dev]; grind
theorem dvF_len : ∀ (l : List Int) (k : Int), (dvF k l).length = l.length
  | [], _ => rfl
  | _ :: t, k => by simp [dvF, dvF_len t (k + 1)]
theorem dvF_get : ∀ (l : List Int) (k : Int) (i : Nat), (dvF k l).getD i 0 = (k + (i : Int)) * l.getD i 0
  | [], k, i => by simp [dvF]
  | c :: t, k, 0 => by simp [dvF]
  | c :: t, k, i + 1 => by
    have := dvF_get t (k + 1) i
    simp only [dvF, List.getD_cons_succ, this]
    grind
theorem ev_append (x c : Int) : ∀ (l : List Int), ev (l ++ [c]) x = ev l x + x ^ l.length * c
  | [] => by simp [ev]
  | d :: t => by
    have := ev_append x c t
    simp only [List.cons_append, ev, this, List.length_cons, Int.pow_succ]
    grind
theorem taylor (x t : Int) : ∀ f : List Int, ∃ R, ev f (x + t) = ev f x + t * dev f x + t * t * R
  | [] => ⟨0, by simp [ev, dev]⟩
  | c :: l => by
    obtain ⟨R, hR⟩ := taylor x t l
    refine ⟨dev l x + x * R + t * R, ?_⟩
    simp only [ev, dev, hR]
    grind
theorem dtaylor (x t : Int) : ∀ f : List Int, ∃ R, dev f (x + t) = dev f x + t * R
  | [] => ⟨0, by simp [dev]⟩
  | c :: l => by
    obtain ⟨R, hR⟩ := dtaylor x t l
    obtain ⟨S, hS⟩ := taylor x t l
    refine ⟨dev l x + t * S + dev l x + x * R + t * R, ?_⟩
    simp only [dev, hR, hS]
    grind
theorem ev_dvd {m x y : Int} (f : List Int) (h : m ∣ y - x) : m ∣ ev f y - ev f x := by
  obtain ⟨s, hs⟩ := h
  obtain ⟨R, hR⟩ := taylor x (m * s) f
  rw [show y = x + m * s by omega, hR]
  exact ⟨s * dev f x + s * (m * s) * R, by grind⟩
theorem dev_dvd {m x y : Int} (f : List Int) (h : m ∣ y - x) : m ∣ dev f y - dev f x := by
  obtain ⟨s, hs⟩ := h
  obtain ⟨R, hR⟩ := dtaylor x (m * s) f
  rw [show y = x + m * s by omega, hR]
  exact ⟨s * R, by grind⟩

/-- One of the primes. -/
def isPr (p : Int) : Bool := p == 2 || p == 3 || p == 5 || p == 7 || p == 11 || p == 13
theorem isPr_mem {p : Int} (h : isPr p = true) : ∃ q : Nat, p = (q : Int) ∧ q ∈ [2, 3, 5, 7, 11, 13] := by
  simp only [isPr, Bool.or_eq_true, beq_iff_eq] at h
  refine ⟨p.toNat, ?_, ?_⟩
  · omega
  · rcases h with ((((h | h) | h) | h) | h) | h <;> subst h <;> decide
theorem isPr_of {q : Nat} (h : q ∈ [2, 3, 5, 7, 11, 13]) : isPr (q : Int) = true := by
  simp only [List.mem_cons, List.not_mem_nil, or_false] at h
  rcases h with h | h | h | h | h | h <;> subst h <;> decide
theorem pr_bounds {q : Nat} (h : q ∈ [2, 3, 5, 7, 11, 13]) : 2 ≤ q ∧ q ≤ 13 := by
  simp only [List.mem_cons, List.not_mem_nil, or_false] at h; omega
theorem euclidF : ∀ q ∈ [2, 3, 5, 7, 11, 13], ∀ a < q, ∀ b < q, a * b % q = 0 → a = 0 ∨ b = 0 := by decide
theorem inverseF : ∀ q ∈ [2, 3, 5, 7, 11, 13], ∀ a < q, a ≠ 0 → ∃ b, b < q ∧ a * b % q = 1 := by decide
theorem fermatF : ∀ q ∈ [2, 3, 5, 7, 11, 13], ∀ a < q, a ^ q % q = a := by decide +kernel
theorem euclid {q : Nat} (hq : q ∈ [2, 3, 5, 7, 11, 13]) {a b : Int} (h : (q : Int) ∣ a * b) : (q : Int) ∣ a ∨ (q : Int) ∣ b := by
  have h0 := (pr_bounds hq).1
  have ha := Int.emod_nonneg a (show (q : Int) ≠ 0 by omega)
  have hb := Int.emod_nonneg b (show (q : Int) ≠ 0 by omega)
  have ha2 := Int.emod_lt_of_pos a (show (0 : Int) < (q : Int) by omega)
  have hb2 := Int.emod_lt_of_pos b (show (0 : Int) < (q : Int) by omega)
  have hm : (a % q) * (b % q) % q = 0 := by rw [← Int.mul_emod]; exact Int.emod_eq_zero_of_dvd h
  obtain ⟨x, hx⟩ : ∃ x : Nat, a % q = (x : Int) := ⟨(a % q).toNat, by omega⟩
  obtain ⟨y, hy⟩ : ∃ y : Nat, b % q = (y : Int) := ⟨(b % q).toNat, by omega⟩
  rw [hx, hy] at hm
  have hm2 : x * y % q = 0 := by
    have e : ((x * y % q : Nat) : Int) = 0 := by rw [Int.natCast_emod, Int.natCast_mul]; exact hm
    omega
  rcases euclidF q hq x (by omega) y (by omega) hm2 with h | h
  · left; exact Int.dvd_of_emod_eq_zero (by omega)
  · right; exact Int.dvd_of_emod_eq_zero (by omega)
theorem euclid_pow {q : Nat} (hq : q ∈ [2, 3, 5, 7, 11, 13]) {a b : Int} (hb : ¬ (q : Int) ∣ b) : ∀ k : Nat, (q : Int) ^ k ∣ a * b → (q : Int) ^ k ∣ a
  | 0, _ => by simp
  | k + 1, h => by
    have h0 := (pr_bounds hq).1
    have hk : (q : Int) ^ k ∣ (q : Int) ^ (k + 1) := ⟨q, by rw [Int.pow_succ]⟩
    obtain ⟨s, hs⟩ := euclid_pow hq hb k (Int.dvd_trans hk h)
    obtain ⟨u, hu⟩ := h
    have hpos : (q : Int) ^ k ≠ 0 := by
      have : (0 : Int) < (q : Int) ^ k := Int.pow_pos (show (0 : Int) < (q : Int) by omega)
      omega
    have : s * b = q * u := by
      apply Int.eq_of_mul_eq_mul_left hpos
      rw [Int.pow_succ] at hu
      subst hs
      grind
    rcases euclid hq (a := s) (b := b) ⟨u, this⟩ with ⟨v, hv⟩ | h
    · exact ⟨v, by rw [hs, hv, Int.pow_succ, Int.mul_assoc]⟩
    · exact absurd h hb
/-- Two roots above one simple root agree. -/
theorem root_one {q : Nat} (hq : q ∈ [2, 3, 5, 7, 11, 13]) {f : List Int} {k : Nat} {x y r : Int} (hx : (q : Int) ∣ x - r) (hy : (q : Int) ∣ y - r) (hd : ¬ (q : Int) ∣ dev f r) (ex : (q : Int) ^ k ∣ ev f x) (ey : (q : Int) ^ k ∣ ev f y) : (q : Int) ^ k ∣ y - x := by
  obtain ⟨R, hR⟩ := taylor x (y - x) f
  rw [show x + (y - x) = y by omega] at hR
  have hqyx : (q : Int) ∣ y - x := by
    have := Int.dvd_sub hy hx
    rw [show y - r - (x - r) = y - x by omega] at this
    exact this
  have hdx : ¬ (q : Int) ∣ dev f x + (y - x) * R := by
    intro h
    apply hd
    have h1 := dev_dvd f hx
    have h2 : (q : Int) ∣ (y - x) * R := Int.dvd_mul_of_dvd_left hqyx
    have h3 := Int.dvd_sub h h2
    have h4 := Int.dvd_sub h3 h1
    rw [show dev f x + (y - x) * R - (y - x) * R - (dev f x - dev f r) = dev f r by omega] at h4
    exact h4
  refine euclid_pow hq hdx k ?_
  have := Int.dvd_sub ey ex
  rw [show ev f y - ev f x = (y - x) * (dev f x + (y - x) * R) by rw [hR]; grind] at this
  exact this
theorem pow_dvd_pow {q : Int} {j k : Nat} (h : j ≤ k) : q ^ j ∣ q ^ k := ⟨q ^ (k - j), by rw [← Int.pow_add]; congr 1; omega⟩
/-- One step of the lifting. -/
theorem lift_step {q : Nat} {f : List Int} {j k : Nat} (hj : 0 < j) (hjk : j < k) {x y r u v : Int} (hx : (q : Int) ∣ x - r) (hu : (q : Int) ∣ dev f r * u - 1)
    (ex : (q : Int) ^ j ∣ ev f x) (hv : (q : Int) ^ k ∣ v - ev f x) (hy : (q : Int) ^ k ∣ y - (x - v * u)) : (q : Int) ∣ y - r ∧ (q : Int) ^ (j + 1) ∣ ev f y := by
  have hk1 : (q : Int) ^ (j + 1) ∣ (q : Int) ^ k := pow_dvd_pow (by omega)
  have hqj : (q : Int) ∣ (q : Int) ^ j := by have := pow_dvd_pow (q := (q : Int)) (j := 1) (k := j) hj; rwa [Int.pow_one] at this
  have hqk : (q : Int) ∣ (q : Int) ^ k := by have := pow_dvd_pow (q := (q : Int)) (j := 1) (k := k) (by omega); rwa [Int.pow_one] at this
  have hjk2 : (q : Int) ^ j ∣ (q : Int) ^ k := pow_dvd_pow (by omega)
  have hvj : (q : Int) ^ j ∣ v := by
    have := Int.dvd_add (Int.dvd_trans hjk2 hv) ex
    rwa [show v - ev f x + ev f x = v by omega] at this
  have hyr : (q : Int) ∣ y - r := by
    have h1 := Int.dvd_trans hqk hy
    have h2 : (q : Int) ∣ v * u := Int.dvd_mul_of_dvd_left (Int.dvd_trans hqj hvj)
    have h3 := Int.dvd_add (Int.dvd_sub h1 h2) hx
    rwa [show y - (x - v * u) - v * u + (x - r) = y - r by omega] at h3
  refine ⟨hyr, ?_⟩
  obtain ⟨R, hR⟩ := taylor x (-(v * u)) f
  have e1 := Int.dvd_trans hk1 (ev_dvd f hy)
  rw [show x - v * u = x + -(v * u) by omega, hR] at e1
  obtain ⟨s, hs⟩ := hvj
  have hdx : (q : Int) ∣ dev f x * u - 1 := by
    have h1 : (q : Int) ∣ (dev f x - dev f r) * u := Int.dvd_mul_of_dvd_left (dev_dvd f hx)
    have h2 := Int.dvd_add h1 hu
    rwa [show (dev f x - dev f r) * u + (dev f r * u - 1) = dev f x * u - 1 by grind] at h2
  obtain ⟨t, ht⟩ := hdx
  have hve := Int.dvd_trans hk1 hv
  have e2 : (q : Int) ^ (j + 1) ∣ v * (1 - dev f x * u) := by
    refine ⟨-(s * t), ?_⟩
    rw [hs, show 1 - dev f x * u = -(q * t) by omega, Int.pow_succ]
    grind
  have e3 : (q : Int) ^ (j + 1) ∣ v * v := by
    obtain ⟨z, hz⟩ := hqj
    refine ⟨z * s * s, ?_⟩
    rw [hs, Int.pow_succ]
    grind
  have e4 : (q : Int) ^ (j + 1) ∣ v * v * (u * u * R) := Int.dvd_mul_of_dvd_left e3
  have e5 := Int.dvd_add (Int.dvd_sub (Int.dvd_add e1 e2) hve) e4
  have e6 : ev f y - (ev f x + -(v * u) * dev f x + -(v * u) * -(v * u) * R) + v * (1 - dev f x * u) - (v - ev f x) + v * v * (u * u * R) = ev f y := by grind
  rwa [e6] at e5
theorem tmod_res {n m : Int} (hm : 0 < m) : (n.tmod m + m).tmod m = n % m := by
  have h1 := Int.tmod_lt_of_pos n hm
  have h2 := Int.lt_tmod_of_pos n hm
  rw [Int.tmod_eq_emod_of_nonneg (by omega), Int.add_emod_right]
  have h3 : n.tmod m = n - m * (n.tdiv m) := by have := Int.mul_tdiv_add_tmod n m; omega
  rw [h3, Int.sub_mul_emod_self_left]
theorem tmod_res2 {n m : Int} (hm : 0 < m) : (n.tmod m + m) % m = n % m := by
  have h2 := Int.lt_tmod_of_pos n hm
  have := tmod_res (n := n) hm
  rw [Int.tmod_eq_emod_of_nonneg (by omega)] at this
  exact this
/-- The residues modulo m at which m divides the value. -/
def rts (f : List Int) (m : Nat) : List Int := ((List.range m).map fun (i : Nat) => (i : Int)).filter fun x => decide (ev f x % (m : Int) = 0)
theorem mem_rts {f : List Int} {m : Nat} {x : Int} : x ∈ rts f m ↔ 0 ≤ x ∧ x < (m : Int) ∧ ev f x % (m : Int) = 0 := by
  unfold rts
  rw [List.mem_filter, List.mem_map, decide_eq_true_iff]
  constructor
  · rintro ⟨⟨i, hi, rfl⟩, h⟩
    have := List.mem_range.1 hi
    exact ⟨by omega, by omega, h⟩
  · rintro ⟨h1, h2, h3⟩
    exact ⟨⟨x.toNat, List.mem_range.2 (by omega), by omega⟩, h3⟩
end Go.Proofs.Ytjlaclbgfidiiaa
