/- Plain number theory: Gauss's signs on half a system, their product is multiplicative and follows reciprocity. -/
import Derived.WalkKit
namespace Go.Proofs.Ytopfcppmbkidgaa

/-! sums and products over 1..n -/
def sm (f : Nat → Nat) : Nat → Nat | 0 => 0 | n + 1 => sm f n + f (n + 1)
def pr (f : Nat → Int) : Nat → Int | 0 => 1 | n + 1 => pr f n * f (n + 1)

theorem sm_congr {f g : Nat → Nat} : ∀ {n : Nat}, (∀ x, 1 ≤ x → x ≤ n → f x = g x) → sm f n = sm g n
  | 0, _ => rfl
  | n + 1, h => by rw [sm, sm, sm_congr (n := n) fun x h1 h2 => h x h1 (by omega), h (n + 1) (by omega) (by omega)]
theorem pr_congr {f g : Nat → Int} : ∀ {n : Nat}, (∀ x, 1 ≤ x → x ≤ n → f x = g x) → pr f n = pr g n
  | 0, _ => rfl
  | n + 1, h => by rw [pr, pr, pr_congr (n := n) fun x h1 h2 => h x h1 (by omega), h (n + 1) (by omega) (by omega)]
theorem sm_add (f g : Nat → Nat) : ∀ n, sm (fun x => f x + g x) n = sm f n + sm g n
  | 0 => rfl
  | n + 1 => by rw [sm, sm, sm, sm_add f g n]; omega
theorem pr_mul (f g : Nat → Int) : ∀ n, pr (fun x => f x * g x) n = pr f n * pr g n
  | 0 => rfl
  | n + 1 => by rw [pr, pr, pr, pr_mul f g n]; grind
theorem pr_const (c : Int) : ∀ n, pr (fun _ => c) n = c ^ n
  | 0 => by simp [pr]
  | n + 1 => by rw [pr, pr_const c n, Int.pow_succ]
theorem sm_const (c : Nat) : ∀ n, sm (fun _ => c) n = n * c
  | 0 => by simp [sm]
  | n + 1 => by rw [sm, sm_const c n]; grind
theorem sm_swap (f : Nat → Nat → Nat) (h : Nat) : ∀ k, sm (fun x => sm (f x) k) h = sm (fun y => sm (fun x => f x y) h) k
  | 0 => by simp only [sm]; rw [sm_const]; simp
  | k + 1 => by simp only [sm]; rw [sm_add, sm_swap f h k]
theorem sm_even {f : Nat → Nat} : ∀ {n : Nat}, (∀ x, 1 ≤ x → x ≤ n → f x % 2 = 0) → sm f n % 2 = 0
  | 0, _ => rfl
  | n + 1, h => by have := sm_even (n := n) fun x h1 h2 => h x h1 (by omega); have := h (n + 1) (by omega) (by omega); rw [sm]; omega

/-! turning them about -/
def lst (f : Nat → Nat) : Nat → List Nat | 0 => [] | n + 1 => f (n + 1) :: lst f n
def psm : List Nat → Nat | [] => 0 | x :: l => x + psm l
def ppr (f : Nat → Int) : List Nat → Int | [] => 1 | x :: l => f x * ppr f l
theorem mem_lst {f : Nat → Nat} {y : Nat} : ∀ {n : Nat}, y ∈ lst f n ↔ ∃ x, 1 ≤ x ∧ x ≤ n ∧ f x = y
  | 0 => by simp [lst]; omega
  | n + 1 => by
    rw [lst, List.mem_cons, mem_lst (n := n)]
    constructor
    · rintro (rfl | ⟨x, h1, h2, h3⟩)
      · exact ⟨n + 1, by omega, by omega, rfl⟩
      · exact ⟨x, h1, by omega, h3⟩
    · rintro ⟨x, h1, h2, h3⟩
      by_cases e : x = n + 1
      · left; rw [← h3, e]
      · right; exact ⟨x, h1, by omega, h3⟩
theorem lst_len (f : Nat → Nat) : ∀ n, (lst f n).length = n
  | 0 => rfl
  | n + 1 => by rw [lst, List.length_cons, lst_len f n]
theorem lst_nodup {f : Nat → Nat} : ∀ {n : Nat}, (∀ x y, 1 ≤ x → x ≤ n → 1 ≤ y → y ≤ n → f x = f y → x = y) → (lst f n).Nodup
  | 0, _ => List.nodup_nil
  | n + 1, h => by
    rw [lst, List.nodup_cons]
    refine ⟨fun hm => ?_, lst_nodup fun x y a b c d e => h x y a (by omega) c (by omega) e⟩
    obtain ⟨x, h1, h2, h3⟩ := mem_lst.1 hm
    have := h x (n + 1) h1 (by omega) (by omega) (by omega) h3
    omega
theorem perm_of_sub : ∀ (l r : List Nat), l.Nodup → (∀ x ∈ l, x ∈ r) → l.length = r.length → l.Perm r
  | [], r, _, _, h => by
    have : r = [] := by cases r <;> simp_all
    rw [this]
  | a :: l, r, hn, hs, hl => by
    have ha : a ∈ r := hs a (by simp)
    refine (List.Perm.cons a (perm_of_sub l (r.erase a) (List.nodup_cons.1 hn).2 (fun x hx => ?_) ?_)).trans (List.perm_cons_erase ha).symm
    · have hne : x ≠ a := fun e => (List.nodup_cons.1 hn).1 (e ▸ hx)
      exact (List.mem_erase_of_ne hne).2 (hs x (by simp [hx]))
    · rw [List.length_erase_of_mem ha]; simp at hl; omega
theorem psm_perm {l r : List Nat} (h : l.Perm r) : psm l = psm r := by
  induction h with
  | nil => rfl
  | cons a _ ih => simp [psm, ih]
  | swap a b l => simp only [psm]; omega
  | trans _ _ ih1 ih2 => exact ih1.trans ih2
theorem ppr_perm (f : Nat → Int) {l r : List Nat} (h : l.Perm r) : ppr f l = ppr f r := by
  induction h with
  | nil => rfl
  | cons a _ ih => simp [ppr, ih]
  | swap a b l => simp only [ppr]; grind
  | trans _ _ ih1 ih2 => exact ih1.trans ih2
theorem psm_lst (f : Nat → Nat) : ∀ n, psm (lst f n) = sm f n
  | 0 => rfl
  | n + 1 => by rw [lst, psm, psm_lst f n, sm]; omega
theorem ppr_lst (f : Nat → Int) (g : Nat → Nat) : ∀ n, ppr f (lst g n) = pr (fun x => f (g x)) n
  | 0 => rfl
  | n + 1 => by rw [lst, ppr, ppr_lst f g n, pr]; grind

theorem lst_perm {g : Nat → Nat} {n : Nat} (hi : ∀ x y, 1 ≤ x → x ≤ n → 1 ≤ y → y ≤ n → g x = g y → x = y) (hr : ∀ x, 1 ≤ x → x ≤ n → 1 ≤ g x ∧ g x ≤ n) :
    (lst g n).Perm (lst id n) :=
  perm_of_sub _ _ (lst_nodup hi) (fun y hy => by
    obtain ⟨x, h1, h2, h3⟩ := mem_lst.1 hy
    exact mem_lst.2 ⟨y, by have := hr x h1 h2; omega, by have := hr x h1 h2; omega, rfl⟩) (by rw [lst_len, lst_len])
theorem sm_turn {g : Nat → Nat} {n : Nat} (hi : ∀ x y, 1 ≤ x → x ≤ n → 1 ≤ y → y ≤ n → g x = g y → x = y) (hr : ∀ x, 1 ≤ x → x ≤ n → 1 ≤ g x ∧ g x ≤ n) :
    sm g n = sm id n := by rw [← psm_lst, ← psm_lst, psm_perm (lst_perm hi hr)]
theorem pr_turn (f : Nat → Int) {g : Nat → Nat} {n : Nat} (hi : ∀ x y, 1 ≤ x → x ≤ n → 1 ≤ y → y ≤ n → g x = g y → x = y) (hr : ∀ x, 1 ≤ x → x ≤ n → 1 ≤ g x ∧ g x ≤ n) :
    pr (fun x => f (g x)) n = pr f n := by
  have := ppr_perm f (lst_perm hi hr)
  rw [ppr_lst, ppr_lst] at this; exact this

/-! Gauss's signs -/
def sg (a n x : Nat) : Int := if 2 * (a * x % n) < n then 1 else -1
def av (a n x : Nat) : Nat := if 2 * (a * x % n) < n then a * x % n else n - a * x % n
def G (a n : Nat) : Int := pr (sg a n) (n / 2)

theorem sg_cases (a n x : Nat) : sg a n x = 1 ∨ sg a n x = -1 := by unfold sg; split <;> simp
theorem sg_sq (a n x : Nat) : sg a n x * sg a n x = 1 := by rcases sg_cases a n x with h | h <;> rw [h] <;> rfl
theorem pr_sign {f : Nat → Int} (h : ∀ x, f x = 1 ∨ f x = -1) : ∀ n, pr f n = 1 ∨ pr f n = -1
  | 0 => .inl rfl
  | n + 1 => by rw [pr]; rcases pr_sign h n with e | e <;> rcases h (n + 1) with k | k <;> rw [e, k] <;> simp
theorem G_cases (a n : Nat) : G a n = 1 ∨ G a n = -1 := pr_sign (sg_cases a n) _
theorem G_sq (a n : Nat) : G a n * G a n = 1 := by rcases G_cases a n with h | h <;> rw [h] <;> rfl

theorem res_pos {a n x : Nat} (hc : Nat.Coprime a n) (h1 : 1 ≤ x) (h2 : x < n) : 1 ≤ a * x % n := by
  rcases Nat.eq_zero_or_pos (a * x % n) with h | h
  · have hd : n ∣ a * x := Nat.dvd_of_mod_eq_zero h
    have := Nat.le_of_dvd h1 ((Nat.Coprime.symm hc).dvd_of_dvd_mul_left hd)
    omega
  · exact h

/-- what is written with a sign on half a system is the sign and the value. -/
theorem rep {a n x v : Nat} {s : Int} (hs : s = 1 ∨ s = -1) (h1 : 1 ≤ v) (h2 : 2 * v < n) (h : (n : Int) ∣ (a : Int) * x - s * v) : sg a n x = s ∧ av a n x = v := by
  have hn : (0 : Int) < n := by omega
  have e : ((a * x % n : Nat) : Int) = (s * v) % n := by
    rw [Int.natCast_emod, Int.natCast_mul]
    exact Int.emod_eq_emod_iff_emod_sub_eq_zero.2 (Int.emod_eq_zero_of_dvd h)
  rcases hs with rfl | rfl
  · rw [Int.one_mul, Int.emod_eq_of_lt (by omega) (by omega)] at e
    have e' : a * x % n = v := by omega
    unfold sg av; rw [e', if_pos h2, if_pos h2]; exact ⟨rfl, rfl⟩
  · have : (-1 * (v : Int)) % n = n - v := by
      rw [show (-1 * (v : Int)) = (n - v) + n * (-1) by omega, Int.add_mul_emod_self_left, Int.emod_eq_of_lt (by omega) (by omega)]
    rw [this] at e
    have e' : a * x % n = n - v := by omega
    unfold sg av; rw [e', if_neg (by omega), if_neg (by omega)]; exact ⟨rfl, by omega⟩

theorem spec {a n x : Nat} (hn : n % 2 = 1) (hc : Nat.Coprime a n) (h1 : 1 ≤ x) (h2 : x ≤ n / 2) :
    1 ≤ av a n x ∧ 2 * av a n x < n ∧ (n : Int) ∣ (a : Int) * x - sg a n x * av a n x := by
  have hp := res_pos hc h1 (by omega)
  have hl := Nat.mod_lt (a * x) (show 0 < n by omega)
  have e : ((a : Int) * x) = n * (a * x / n : Nat) + (a * x % n : Nat) := by
    have := Nat.div_add_mod (a * x) n
    rw [← Int.natCast_mul, ← Int.natCast_mul, ← Int.natCast_add, this]
  unfold av sg
  split
  · exact ⟨hp, by omega, ⟨((a * x / n : Nat) : Int), by rw [e]; omega⟩⟩
  · refine ⟨by omega, by omega, ⟨((a * x / n : Nat) : Int) + 1, ?_⟩⟩
    rw [e, Int.mul_add, Int.natCast_sub (by omega)]; omega

theorem av_inj {a n : Nat} (hn : n % 2 = 1) (hc : Nat.Coprime a n) (x y : Nat) (h1 : 1 ≤ x) (h2 : x ≤ n / 2) (h3 : 1 ≤ y) (h4 : y ≤ n / 2) (h : av a n x = av a n y) : x = y := by
  obtain ⟨_, _, dx⟩ := spec hn hc h1 h2
  obtain ⟨_, _, dy⟩ := spec hn hc h3 h4
  rw [h] at dx
  have hcop : ∀ z : Int, (n : Int) ∣ a * z → (n : Int) ∣ z := fun z hz => by
    have := Int.natAbs_dvd_natAbs.2 hz
    rw [Int.natAbs_mul, Int.natAbs_natCast, Int.natAbs_natCast] at this
    exact Int.natAbs_dvd_natAbs.1 (by rw [Int.natAbs_natCast]; exact (Nat.Coprime.symm hc).dvd_of_dvd_mul_left this)
  rcases sg_cases a n x with e | e <;> rcases sg_cases a n y with k | k <;> rw [e] at dx <;> rw [k] at dy
  · have := hcop (x - y) (by have := Int.dvd_sub dx dy; rwa [show (a : Int) * x - 1 * (av a n y) - (a * y - 1 * av a n y) = a * (x - y) by grind] at this)
    have := Int.eq_zero_of_dvd_of_natAbs_lt_natAbs this (by omega)
    omega
  · have := hcop (x + y) (by have := Int.dvd_add dx dy; rwa [show (a : Int) * x - 1 * (av a n y) + (a * y - -1 * av a n y) = a * (x + y) by grind] at this)
    have := Int.le_of_dvd (by omega) this
    omega
  · have := hcop (x + y) (by have := Int.dvd_add dx dy; rwa [show (a : Int) * x - -1 * (av a n y) + (a * y - 1 * av a n y) = a * (x + y) by grind] at this)
    have := Int.le_of_dvd (by omega) this
    omega
  · have := hcop (x - y) (by have := Int.dvd_sub dx dy; rwa [show (a : Int) * x - -1 * (av a n y) - (a * y - -1 * av a n y) = a * (x - y) by grind] at this)
    have := Int.eq_zero_of_dvd_of_natAbs_lt_natAbs this (by omega)
    omega
theorem av_range {a n : Nat} (hn : n % 2 = 1) (hc : Nat.Coprime a n) (x : Nat) (h1 : 1 ≤ x) (h2 : x ≤ n / 2) : 1 ≤ av a n x ∧ av a n x ≤ n / 2 := by
  have := spec hn hc h1 h2; omega

/-- it is multiplicative above. -/
theorem G_mul {a b n : Nat} (hn : n % 2 = 1) (ha : Nat.Coprime a n) (hb : Nat.Coprime b n) : G (a * b) n = G a n * G b n := by
  have e : ∀ x, 1 ≤ x → x ≤ n / 2 → sg (a * b) n x = sg a n (av b n x) * sg b n x := fun x h1 h2 => by
    obtain ⟨b1, b2, bd⟩ := spec hn hb h1 h2
    obtain ⟨a1, a2, ad⟩ := spec hn ha (x := av b n x) b1 (by omega)
    refine (rep (v := av a n (av b n x)) ?_ a1 a2 ?_).1
    · rcases sg_cases a n (av b n x) with h | h <;> rcases sg_cases b n x with k | k <;> rw [h, k] <;> simp
    · have := Int.dvd_add (Int.dvd_mul_of_dvd_right bd (b := (a : Int))) (Int.dvd_mul_of_dvd_right ad (b := sg b n x))
      refine cast (congrArg (fun z : Int => (n : Int) ∣ z) ?_) this
      rw [Int.natCast_mul]; grind
  unfold G
  rw [pr_congr e, pr_mul, pr_turn (sg a n) (av_inj hn hb) (av_range hn hb)]

theorem G_mod (a n : Nat) : G (a % n) n = G a n := by
  unfold G; refine pr_congr fun x _ _ => ?_
  unfold sg; rw [Nat.mod_mul_mod]

/-- Gauss's lemma. -/
theorem gauss {a n : Nat} (hn : n % 2 = 1) (hc : Nat.Coprime a n) : (n : Int) ∣ (a : Int) ^ (n / 2) * pr (fun x => (x : Int)) (n / 2) - G a n * pr (fun x => (x : Int)) (n / 2) := by
  have key : ∀ k, k ≤ n / 2 → (n : Int) ∣ pr (fun x => (a : Int) * x) k - pr (fun x => sg a n x * av a n x) k := by
    intro k
    induction k with
    | zero => intro _; simp [pr]
    | succ k ih =>
      intro hk
      obtain ⟨_, _, d⟩ := spec hn hc (x := k + 1) (by omega) hk
      have h := ih (by omega)
      simp only [pr]
      have := Int.dvd_add (Int.dvd_mul_of_dvd_right d (b := pr (fun x => (a : Int) * x) k)) (Int.dvd_mul_of_dvd_right h (b := sg a n (k + 1) * av a n (k + 1)))
      refine cast (congrArg (fun z : Int => (n : Int) ∣ z) ?_) this
      grind
  have := key (n / 2) (Nat.le_refl _)
  rw [pr_mul, pr_mul, pr_const, pr_turn (fun x => (x : Int)) (av_inj hn hc) (av_range hn hc)] at this
  exact this

/-! Eisenstein -/
def S (a n : Nat) : Nat := sm (fun x => a * x / n) (n / 2)
def mu (a n x : Nat) : Nat := if 2 * (a * x % n) < n then 0 else 1
theorem pr_mu (a n : Nat) : ∀ k, pr (sg a n) k = (-1) ^ sm (mu a n) k
  | 0 => rfl
  | k + 1 => by
    rw [pr, sm, pr_mu a n k, Int.pow_add]; congr 1
    unfold sg mu; split <;> rfl
theorem pow_par {i j : Nat} (h : (i + j) % 2 = 0) : (-1 : Int) ^ i = (-1) ^ j := by
  have e : ∀ k : Nat, (-1 : Int) ^ k = if k % 2 = 0 then 1 else -1 := fun k => by
    induction k with
    | zero => rfl
    | succ k ih => rw [Int.pow_succ, ih]; split <;> split <;> first | rfl | omega
  rw [e, e]; split <;> split <;> first | rfl | omega
theorem pow_even {i : Nat} (h : i % 2 = 0) : (-1 : Int) ^ i = 1 := by have := pow_par (i := i) (j := 0) (by omega); rw [this]; rfl
theorem pow_odd {i : Nat} (h : i % 2 = 1) : (-1 : Int) ^ i = -1 := by have := pow_par (i := i) (j := 1) (by omega); rw [this]; rfl

theorem G_eq {a n : Nat} (hn : n % 2 = 1) (hc : Nat.Coprime a n) (ha : a % 2 = 1) : G a n = (-1) ^ S a n := by
  unfold G; rw [pr_mu]; apply pow_par
  have h : sm (fun x => (x + a * x / n) + (av a n x + mu a n x)) (n / 2) % 2 = 0 := sm_even fun x h1 h2 => by
    obtain ⟨k, rfl⟩ : ∃ k, a = 2 * k + 1 := ⟨a / 2, by omega⟩
    obtain ⟨m, rfl⟩ : ∃ m, n = 2 * m + 1 := ⟨n / 2, by omega⟩
    have hl := Nat.mod_lt ((2 * k + 1) * x) (show 0 < 2 * m + 1 by omega)
    have e := Nat.div_add_mod ((2 * k + 1) * x) (2 * m + 1)
    generalize (2 * k + 1) * x / (2 * m + 1) = q at *
    have e1 : (2 * k + 1) * x = 2 * (k * x) + x := by grind
    have e2 : (2 * m + 1) * q = 2 * (m * q) + q := by grind
    unfold av mu
    generalize (2 * k + 1) * x % (2 * m + 1) = r at *
    split <;> omega
  rw [sm_add, sm_add, sm_add, sm_turn (av_inj hn hc) (av_range hn hc)] at h
  have : sm (fun x => x) (n / 2) = sm id (n / 2) := rfl
  unfold S; omega

theorem count {n t : Nat} (hn : 0 < n) (hd : ¬ n ∣ t) : ∀ k, sm (fun y => if n * y < t then 1 else 0) k = if k ≤ t / n then k else t / n
  | 0 => by simp [sm]
  | k + 1 => by
    have : n * (k + 1) < t ↔ k + 1 ≤ t / n := by
      rw [Nat.le_div_iff_mul_le hn]
      constructor
      · intro h; rw [Nat.mul_comm]; omega
      · intro h; rw [Nat.mul_comm] at h
        rcases Nat.lt_or_eq_of_le h with h | h
        · exact h
        · exact absurd ⟨k + 1, h.symm⟩ hd
    rw [sm, count hn hd k]
    split <;> split <;> split <;> omega

theorem floor_le {m n x : Nat} (hm : m % 2 = 1) (hn : n % 2 = 1) (h : x ≤ n / 2) : m * x / n ≤ m / 2 := by
  rw [Nat.div_le_iff_le_mul_add_pred (by omega)]
  obtain ⟨k, rfl⟩ : ∃ k, m = 2 * k + 1 := ⟨m / 2, by omega⟩
  obtain ⟨l, rfl⟩ : ∃ l, n = 2 * l + 1 := ⟨n / 2, by omega⟩
  have h1 : (2 * k + 1) * x ≤ (2 * k + 1) * l := Nat.mul_le_mul_left _ (by omega)
  have : (2 * k + 1) / 2 = k := by omega
  rw [this]
  have e1 : (2 * k + 1) * l = 2 * (k * l) + l := by grind
  have e2 : (2 * l + 1) * k = 2 * (k * l) + k := by grind
  omega

theorem not_dvd {m n x : Nat} (hc : Nat.Coprime m n) (h1 : 1 ≤ x) (h2 : x < n) : ¬ n ∣ m * x := fun h => by
  have := Nat.le_of_dvd h1 ((Nat.Coprime.symm hc).dvd_of_dvd_mul_left h); omega

theorem S_count {m n : Nat} (hm : m % 2 = 1) (hn : n % 2 = 1) (hc : Nat.Coprime m n) :
    S m n = sm (fun x => sm (fun y => if n * y < m * x then 1 else 0) (m / 2)) (n / 2) := by
  unfold S; refine sm_congr fun x h1 h2 => ?_
  rw [count (by omega) (not_dvd hc h1 (by omega))]
  have := floor_le hm hn h2
  split <;> omega

theorem S_sum {m n : Nat} (hm : m % 2 = 1) (hn : n % 2 = 1) (hc : Nat.Coprime m n) : S m n + S n m = (m / 2) * (n / 2) := by
  rw [S_count hm hn hc, S_count hn hm (Nat.Coprime.symm hc), sm_swap, ← sm_add]
  rw [sm_congr (g := fun _ => n / 2), sm_const]
  intro y h1 h2
  rw [← sm_add, sm_congr (g := fun _ => 1), sm_const, Nat.mul_one]
  intro x h3 h4
  have : n * y ≠ m * x := fun e => not_dvd hc h3 (by omega : x < n) ⟨y, e.symm⟩
  split <;> split <;> omega

/-- reciprocity -/
def rec (m n : Nat) : Int := if m % 4 = 3 ∧ n % 4 = 3 then -1 else 1
theorem G_rec {m n : Nat} (hm : m % 2 = 1) (hn : n % 2 = 1) (hc : Nat.Coprime m n) : G m n = rec m n * G n m := by
  have e : G m n * G n m = rec m n := by
    rw [G_eq hn hc hm, G_eq hm (Nat.Coprime.symm hc) hn, ← Int.pow_add, S_sum hm hn hc]
    unfold rec
    split
    · rename_i h
      apply pow_odd
      obtain ⟨k, hk⟩ : ∃ k, m / 2 = 2 * k + 1 := ⟨m / 4, by omega⟩
      obtain ⟨l, hl⟩ : ∃ l, n / 2 = 2 * l + 1 := ⟨n / 4, by omega⟩
      rw [hk, hl, show (2 * k + 1) * (2 * l + 1) = 2 * (2 * (k * l) + k + l) + 1 by grind]; omega
    · rename_i h
      apply pow_even
      by_cases h1 : m % 4 = 3
      · obtain ⟨l, hl⟩ : ∃ l, n / 2 = 2 * l := ⟨n / 4, by omega⟩
        rw [hl, show m / 2 * (2 * l) = 2 * (m / 2 * l) by grind]; omega
      · obtain ⟨l, hl⟩ : ∃ l, m / 2 = 2 * l := ⟨m / 4, by omega⟩
        rw [hl, Nat.mul_assoc]; omega
  rw [← e, Int.mul_assoc, G_sq, Int.mul_one]

theorem rec_mul {a m n : Nat} (hm : m % 2 = 1) (hn : n % 2 = 1) : rec a (m * n) = rec a m * rec a n := by
  unfold rec
  have e : (m * n) % 4 = (m % 4) * (n % 4) % 4 := Nat.mul_mod ..
  rcases (by omega : m % 4 = 1 ∨ m % 4 = 3) with h | h <;> rcases (by omega : n % 4 = 1 ∨ n % 4 = 3) with k | k <;> rw [e, h, k] <;> by_cases q : a % 4 = 3 <;> simp [q]

/-- it is multiplicative below. -/
theorem G_den {a m n : Nat} (hm : m % 2 = 1) (hn : n % 2 = 1) (h1 : Nat.Coprime a m) (h2 : Nat.Coprime a n) : G a (m * n) = G a m * G a n := by
  have hmn : (m * n) % 2 = 1 := by rw [Nat.mul_mod, hm, hn]
  have main : ∀ b : Nat, b % 2 = 1 → Nat.Coprime b m → Nat.Coprime b n → G b (m * n) = G b m * G b n := fun b hb c1 c2 => by
    rw [G_rec hb hmn (Nat.Coprime.mul_right c1 c2), G_mul hb (Nat.Coprime.symm c1) (Nat.Coprime.symm c2), rec_mul hm hn, G_rec hb hm c1, G_rec hb hn c2]; grind
  by_cases ha : a % 2 = 1
  · exact main a ha h1 h2
  · have c1 : Nat.Coprime (a + m * n) m := by rw [Nat.coprime_iff_gcd_eq_one, show a + m * n = a + n * m by grind, Nat.gcd_add_mul_right_left]; exact h1
    have c2 : Nat.Coprime (a + m * n) n := by rw [Nat.coprime_iff_gcd_eq_one, Nat.gcd_add_mul_right_left]; exact h2
    have := main (a + m * n) (by omega) c1 c2
    rw [← G_mod (a + m * n), ← G_mod (a + m * n) m, ← G_mod (a + m * n) n] at this
    rw [Nat.add_mod_right, Nat.add_mul_mod_self_right, Nat.add_mul_mod_self_left, G_mod, G_mod, G_mod] at this
    exact this

/-- of two -/
theorem G_two {n : Nat} (hn : n % 2 = 1) : G 2 n = if n % 8 = 3 ∨ n % 8 = 5 then -1 else 1 := by
  have key : ∀ k, k ≤ n / 2 → pr (sg 2 n) k = if k ≤ n / 4 then 1 else (-1) ^ (k - n / 4) := fun k => by
    induction k with
    | zero => intro _; rfl
    | succ k ih =>
      intro hk
      rw [pr, ih (by omega)]
      have : sg 2 n (k + 1) = if k + 1 ≤ n / 4 then 1 else -1 := by
        unfold sg; rw [Nat.mod_eq_of_lt (by omega)]
        split <;> split <;> first | rfl | omega
      rw [this]
      split <;> split
      · rfl
      · rw [show k + 1 - n / 4 = 1 by omega]; rfl
      · omega
      · rw [show k + 1 - n / 4 = (k - n / 4) + 1 by omega, Int.pow_succ]
  unfold G; rw [key _ (Nat.le_refl _)]
  split
  · rw [if_neg (by omega)]
  · split
    · exact pow_odd (by omega)
    · exact pow_even (by omega)
theorem G_one (n : Nat) (hn : n % 2 = 1) : G 1 n = 1 := by
  have h := G_mul (a := 1) (b := 1) hn (Nat.coprime_one_left n) (Nat.coprime_one_left n)
  rw [Nat.mul_one, G_sq] at h; exact h
theorem G_base (a : Nat) : G a 1 = 1 := rfl
end Go.Proofs.Ytopfcppmbkidgaa
