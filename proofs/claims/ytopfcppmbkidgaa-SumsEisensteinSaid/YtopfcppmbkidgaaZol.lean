/- The sign of an order: it is multiplicative, and Gauss's sign if the number is odd (Zolotarev). Plain mathematics; no condition beyond those stated. -/
import Derived.Test.YtopfcppmbkidgaaEC
namespace Go.Proofs.Ytopfcppmbkidgaa

/-- over all pairs of a list -/
def pq (f : Nat → Int) : List Nat → Int | [] => 1 | y :: l => f y * pq f l
def pp (h : Nat → Nat → Int) : List Nat → Int | [] => 1 | x :: l => pq (h x) l * pp h l
theorem pq_perm (f : Nat → Int) {l r : List Nat} (h : l.Perm r) : pq f l = pq f r := by
  induction h with
  | nil => rfl
  | cons a _ ih => simp [pq, ih]
  | swap a b l => simp only [pq]; grind
  | trans _ _ ih1 ih2 => exact ih1.trans ih2
theorem pp_perm (h : Nat → Nat → Int) {l r : List Nat} (hp : l.Perm r) : (∀ x ∈ l, ∀ y ∈ l, h x y = h y x) → pp h l = pp h r := by
  induction hp with
  | nil => intro _; rfl
  | cons a hp ih =>
    intro hs
    rw [pp, pp, ih (fun x hx y hy => hs x (by simp [hx]) y (by simp [hy])), pq_perm _ hp]
  | swap a b l =>
    intro hs
    have := hs a (by simp) b (by simp)
    simp only [pp, pq]; rw [this]; grind
  | trans h1 _ ih1 ih2 =>
    intro hs
    rw [ih1 hs, ih2 (fun x hx y hy => hs x (h1.mem_iff.2 hx) y (h1.mem_iff.2 hy))]
theorem pq_mul (f g : Nat → Int) : ∀ l, pq (fun x => f x * g x) l = pq f l * pq g l
  | [] => rfl
  | y :: l => by rw [pq, pq, pq, pq_mul f g l]; grind
theorem pp_mul (f g : Nat → Nat → Int) : ∀ l, pp (fun x y => f x y * g x y) l = pp f l * pp g l
  | [] => rfl
  | x :: l => by rw [pp, pp, pp, pp_mul f g l, pq_mul]; grind
theorem pq_congr {f g : Nat → Int} : ∀ {l : List Nat}, (∀ y ∈ l, f y = g y) → pq f l = pq g l
  | [], _ => rfl
  | y :: l, h => by rw [pq, pq, h y (by simp), pq_congr fun z hz => h z (by simp [hz])]
theorem pp_congr {f g : Nat → Nat → Int} : ∀ {l : List Nat}, (∀ x ∈ l, ∀ y ∈ l, f x y = g x y) → pp f l = pp g l
  | [], _ => rfl
  | x :: l, h => by rw [pp, pp, pq_congr fun y hy => h x (by simp) y (by simp [hy]), pp_congr fun y hy z hz => h y (by simp [hy]) z (by simp [hz])]

/-- f n-1, .., f 0 -/
def l0 (f : Nat → Nat) : Nat → List Nat | 0 => [] | n + 1 => f n :: l0 f n
theorem mem_l0 {f : Nat → Nat} {y : Nat} : ∀ {n : Nat}, y ∈ l0 f n ↔ ∃ x, x < n ∧ f x = y
  | 0 => by simp [l0]
  | n + 1 => by
    rw [l0, List.mem_cons, mem_l0 (n := n)]
    constructor
    · rintro (rfl | ⟨x, h2, h3⟩)
      · exact ⟨n, by omega, rfl⟩
      · exact ⟨x, by omega, h3⟩
    · rintro ⟨x, h2, h3⟩
      by_cases e : x = n
      · left; rw [← h3, e]
      · right; exact ⟨x, by omega, h3⟩
theorem l0_len (f : Nat → Nat) : ∀ n, (l0 f n).length = n
  | 0 => rfl
  | n + 1 => by rw [l0, List.length_cons, l0_len f n]
theorem l0_nodup {f : Nat → Nat} : ∀ {n : Nat}, (∀ x y, x < n → y < n → f x = f y → x = y) → (l0 f n).Nodup
  | 0, _ => List.nodup_nil
  | n + 1, h => by
    rw [l0, List.nodup_cons]
    refine ⟨fun hm => ?_, l0_nodup fun x y a c e => h x y (by omega) (by omega) e⟩
    obtain ⟨x, h2, h3⟩ := mem_l0.1 hm
    have := h x n (by omega) (by omega) h3
    omega
theorem pq_map (r : Nat → Int) (f g : Nat → Nat) : ∀ n, pq r (l0 (fun x => f (g x)) n) = pq (fun y => r (f y)) (l0 g n)
  | 0 => rfl
  | n + 1 => by rw [l0, l0, pq, pq, pq_map r f g n]
theorem pp_map (r : Nat → Nat → Int) (f g : Nat → Nat) : ∀ n, pp r (l0 (fun x => f (g x)) n) = pp (fun x y => r (f x) (f y)) (l0 g n)
  | 0 => rfl
  | n + 1 => by rw [l0, l0, pp, pp, pp_map r f g n, pq_map]

/-- the wrong way round -/
def tt (x y : Nat) : Int := if x < y then -1 else 1
def sgF (f : Nat → Nat) (n : Nat) : Int := pp tt (l0 f n)
theorem tt_anti {x y : Nat} (h : x ≠ y) : tt x y = -tt y x := by unfold tt; split <;> split <;> omega
theorem tt_sq (x y : Nat) : tt x y * tt x y = 1 := by unfold tt; split <;> rfl
theorem tt_cases (x y : Nat) : tt x y = 1 ∨ tt x y = -1 := by unfold tt; split <;> simp
theorem pq_id {x : Nat} : ∀ n, n ≤ x → pq (tt x) (l0 id n) = 1
  | 0, _ => rfl
  | n + 1, h => by rw [l0, pq, pq_id n (by omega)]; unfold tt; rw [if_neg (by simp only [id]; omega)]; rfl
theorem sg_id : ∀ n, pp tt (l0 id n) = 1
  | 0 => rfl
  | n + 1 => by
    rw [l0, pp, sg_id n]
    show pq (tt n) (l0 id n) * 1 = 1
    rw [pq_id n (Nat.le_refl _)]; rfl

structure Bij (f : Nat → Nat) (n : Nat) : Prop where
  lt : ∀ x, x < n → f x < n
  inj : ∀ x y, x < n → y < n → f x = f y → x = y
theorem Bij.perm {f : Nat → Nat} {n : Nat} (h : Bij f n) : (l0 f n).Perm (l0 id n) :=
  perm_of_sub _ _ (l0_nodup h.inj) (fun y hy => by
    obtain ⟨x, h1, h2⟩ := mem_l0.1 hy
    exact mem_l0.2 ⟨y, by rw [← h2]; exact h.lt x h1, rfl⟩) (by rw [l0_len, l0_len])
def hh (f : Nat → Nat) (x y : Nat) : Int := tt (f x) (f y) * tt x y
theorem hh_symm {f : Nat → Nat} {n x y : Nat} (h : Bij f n) (hx : x < n) (hy : y < n) : hh f x y = hh f y x := by
  unfold hh
  by_cases e : x = y
  · rw [e]
  · rw [tt_anti e, tt_anti (fun k => e (h.inj x y hx hy k))]; grind
theorem sg_any {f : Nat → Nat} {n : Nat} (h : Bij f n) {L : List Nat} (hL : L.Perm (l0 id n)) : pp (hh f) L = sgF f n := by
  have hm : ∀ x ∈ L, x < n := fun x hx => by
    obtain ⟨y, h1, h2⟩ := mem_l0.1 (hL.mem_iff.1 hx)
    simp only [id] at h2; omega
  rw [pp_perm (hh f) hL (fun x hx y hy => hh_symm h (hm x hx) (hm y hy))]
  have : pp (hh f) (l0 id n) = pp (fun x y => tt (f x) (f y)) (l0 id n) * pp tt (l0 id n) := pp_mul _ _ _
  rw [this, sg_id, Int.mul_one, ← pp_map]; rfl
theorem sg_comp {f g : Nat → Nat} {n : Nat} (hf : Bij f n) (hg : Bij g n) : sgF (fun x => f (g x)) n = sgF f n * sgF g n := by
  unfold sgF
  rw [pp_map]
  have e : pp (fun x y => tt (f x) (f y)) (l0 g n) = pp (fun x y => hh f x y * tt x y) (l0 g n) := pp_congr fun x _ y _ => by
    unfold hh; rw [Int.mul_assoc, tt_sq, Int.mul_one]
  rw [e, pp_mul, sg_any hf hg.perm]; rfl

theorem bij_mul {a n : Nat} (hc : Nat.Coprime a n) : Bij (fun x => a * x % n) n := by
  refine ⟨fun x hx => Nat.mod_lt _ (by omega), fun x y hx hy e => ?_⟩
  have hd := mod_eq_dvd e
  rw [Int.natCast_mul, Int.natCast_mul, ← Int.mul_sub] at hd
  have := Int.natAbs_dvd_natAbs.2 hd
  rw [Int.natAbs_mul, Int.natAbs_natCast, Int.natAbs_natCast] at this
  have := (Nat.Coprime.symm hc).dvd_of_dvd_mul_left this
  rcases Nat.eq_zero_or_pos (((x : Int) - y).natAbs) with h0 | h0
  · omega
  · have := Nat.le_of_dvd h0 this
    omega
def sgM (a n : Nat) : Int := sgF (fun x => a * x % n) n
theorem sgM_mul {a b n : Nat} (ha : Nat.Coprime a n) (hb : Nat.Coprime b n) : sgM (a * b % n) n = sgM a n * sgM b n := by
  unfold sgM
  rw [← sg_comp (bij_mul ha) (bij_mul hb)]
  congr 1
  funext x
  rw [Nat.mod_mul_mod, Nat.mul_assoc, Nat.mul_mod_mod]

/-! Zolotarev -/
/-- k, n - k, .., 1, n - 1, 0 -/
def bl (n : Nat) : Nat → List Nat | 0 => [0] | k + 1 => (k + 1) :: (n - (k + 1)) :: bl n k
theorem bl_len (n : Nat) : ∀ k, (bl n k).length = 2 * k + 1
  | 0 => rfl
  | k + 1 => by rw [bl, List.length_cons, List.length_cons, bl_len n k]; omega
theorem mem_bl {n x : Nat} : ∀ {k : Nat}, 2 * k < n → (x ∈ bl n k ↔ x ≤ k ∨ (n - k ≤ x ∧ x < n))
  | 0, h => by simp [bl]; omega
  | k + 1, h => by rw [bl, List.mem_cons, List.mem_cons, mem_bl (k := k) (by omega)]; omega
theorem bl_nodup {n : Nat} : ∀ {k : Nat}, 2 * k < n → (bl n k).Nodup
  | 0, _ => by simp [bl]
  | k + 1, h => by
    rw [bl, List.nodup_cons, List.nodup_cons, List.mem_cons, mem_bl (by omega), mem_bl (by omega)]
    exact ⟨by omega, by omega, bl_nodup (by omega)⟩

theorem neg_mod {a n x : Nat} (hc : Nat.Coprime a n) (h1 : 1 ≤ x) (h2 : x < n) : a * (n - x) % n = n - a * x % n := by
  have hp := res_pos hc h1 h2
  have hl := Nat.mod_lt (a * x) (show 0 < n by omega)
  have : (a * (n - x)) % n = (n - a * x % n) % n := dvd_mod_eq (p := n) (by
    rw [Int.natCast_mul, Int.natCast_sub (by omega), Int.natCast_sub (by omega), Int.natCast_emod, Int.natCast_mul]
    have := Int.emod_add_mul_ediv ((a : Int) * x) n
    exact ⟨a - 1 - (a : Int) * x / n, by grind⟩)
  rw [this, Nat.mod_eq_of_lt (by omega)]

theorem hh_neg {a n x y : Nat} (hc : Nat.Coprime a n) (hx1 : 1 ≤ x) (hx2 : x < n) (hy1 : 1 ≤ y) (hy2 : y < n) :
    hh (fun x => a * x % n) (n - x) (n - y) = hh (fun x => a * x % n) x y := by
  unfold hh
  simp only
  rw [neg_mod hc hx1 hx2, neg_mod hc hy1 hy2]
  have hl := Nat.mod_lt (a * x) (show 0 < n by omega)
  have hl2 := Nat.mod_lt (a * y) (show 0 < n by omega)
  by_cases e : x = y
  · rw [e]; simp [tt]
  · have e2 : a * x % n ≠ a * y % n := fun k => e ((bij_mul hc).inj x y hx2 hy2 k)
    have : ∀ u v : Nat, u < n → v < n → tt (n - u) (n - v) = tt v u := fun u v hu hv => by unfold tt; split <;> split <;> omega
    rw [this _ _ hl hl2, this _ _ hx2 hy2, tt_anti e, tt_anti e2]; grind
theorem hh_zero {a n x : Nat} (hx1 : 1 ≤ x) : hh (fun x => a * x % n) x 0 = 1 := by
  unfold hh
  simp only [Nat.mul_zero, Nat.zero_mod]
  unfold tt
  rw [if_neg (by omega), if_neg (by omega)]; rfl
theorem hh_cases (f : Nat → Nat) (x y : Nat) : hh f x y = 1 ∨ hh f x y = -1 := by
  unfold hh; rcases tt_cases (f x) (f y) with h | h <;> rcases tt_cases x y with k | k <;> rw [h, k] <;> simp
theorem hh_sq (f : Nat → Nat) (x y : Nat) : hh f x y * hh f x y = 1 := by rcases hh_cases f x y with h | h <;> rw [h] <;> rfl

theorem blk_one {a n x : Nat} (hc : Nat.Coprime a n) (hx1 : 1 ≤ x) (hx2 : x < n) : ∀ k, 2 * k < n → pq (hh (fun x => a * x % n) x) (bl n k) * pq (hh (fun x => a * x % n) (n - x)) (bl n k) = 1
  | 0, h => by
    rw [bl, pq, pq, pq, pq, hh_zero hx1, hh_zero (by omega)]; rfl
  | k + 1, h => by
    have ih := blk_one hc hx1 hx2 k (by omega)
    have e1 := hh_neg hc hx1 hx2 (show 1 ≤ k + 1 by omega) (show k + 1 < n by omega)
    have e2 := hh_neg hc (show 1 ≤ n - x by omega) (show n - x < n by omega) (show 1 ≤ k + 1 by omega) (show k + 1 < n by omega)
    rw [show n - (n - x) = x by omega] at e2
    simp only [bl, pq]
    rw [e1, e2]
    have s1 := hh_sq (fun x => a * x % n) x (k + 1)
    have s2 := hh_sq (fun x => a * x % n) (n - x) (k + 1)
    generalize hh (fun x => a * x % n) x (k + 1) = u at *
    generalize hh (fun x => a * x % n) (n - x) (k + 1) = v at *
    generalize pq (hh (fun x => a * x % n) x) (bl n k) = A at *
    generalize pq (hh (fun x => a * x % n) (n - x)) (bl n k) = B at *
    have : u * (v * A) * (v * (u * B)) = (u * u) * (v * v) * (A * B) := by grind
    rw [this, s1, s2, ih]; rfl
theorem blk_all {a n : Nat} (hn : n % 2 = 1) (hc : Nat.Coprime a n) : ∀ k, 2 * k < n → pp (hh (fun x => a * x % n)) (bl n k) = pr (sg a n) k
  | 0, _ => rfl
  | k + 1, h => by
    have ih := blk_all hn hc k (by omega)
    have h1 := blk_one (a := a) hc (show 1 ≤ k + 1 by omega) (show k + 1 < n by omega) k (by omega)
    have e : hh (fun x => a * x % n) (k + 1) (n - (k + 1)) = sg a n (k + 1) := by
      have hl := Nat.mod_lt (a * (k + 1)) (show 0 < n by omega)
      unfold hh
      simp only
      rw [neg_mod hc (by omega) (by omega)]
      -- the head of a block is the smaller one
      have hk : tt (k + 1) (n - (k + 1)) = -1 := if_pos (by omega)
      rw [hk]
      unfold tt sg
      split <;> split <;> omega
    rw [bl, pp, pp, pq, e, ih, pr]
    generalize pq (hh (fun x => a * x % n) (k + 1)) (bl n k) = A at *
    generalize pq (hh (fun x => a * x % n) (n - (k + 1))) (bl n k) = B at *
    have : sg a n (k + 1) * A * (B * pr (sg a n) k) = pr (sg a n) k * sg a n (k + 1) * (A * B) := by grind
    rw [this, h1, Int.mul_one]
theorem zolotarev {a n : Nat} (hn : n % 2 = 1) (hc : Nat.Coprime a n) : sgM a n = G a n := by
  have hp : (bl n (n / 2)).Perm (l0 id n) := perm_of_sub _ _ (bl_nodup (by omega)) (fun x hx => by
    have := (mem_bl (by omega)).1 hx
    exact mem_l0.2 ⟨x, by omega, rfl⟩) (by rw [bl_len, l0_len]; omega)
  unfold sgM G
  rw [← sg_any (bij_mul hc) hp, blk_all hn hc _ (by omega)]
end Go.Proofs.Ytopfcppmbkidgaa
