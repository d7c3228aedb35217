/- Determinants along the first row, plainly; their bounds. No condition. -/
namespace Go.Proofs.Ytgfenponlkmfmaa

/-- A sum whose signs take turns. -/
def alt : Int → List Nat → (Nat → Int) → Int
  | _, [], _ => 0
  | s, c :: cs, f => s * f c + alt (-s) cs f
/-- The determinant of so many rows, from row i on, over the columns of a list. -/
def lap (e : Nat → Nat → Int) : Nat → Nat → List Nat → Int
  | 0, _, _ => 1
  | k + 1, i, cols => alt 1 cols fun c => e i c * lap e k (i + 1) (cols.filter fun d => d != c)
def det (n : Nat) (e : Nat → Nat → Int) : Int := lap e n 0 (List.range n)

theorem alt_congr {f g : Nat → Int} : ∀ (s : Int) (cs : List Nat), (∀ c ∈ cs, f c = g c) → alt s cs f = alt s cs g
  | _, [], _ => rfl
  | s, c :: cs, h => by
    unfold alt
    rw [h c (by simp), alt_congr (-s) cs fun d hd => h d (by simp [hd])]
theorem alt_map {f : Nat → Int} {g : Nat → Nat} : ∀ (s : Int) (cs : List Nat), alt s (cs.map g) f = alt s cs fun c => f (g c)
  | _, [] => rfl
  | s, c :: cs => by
    simp only [List.map_cons, alt]
    rw [alt_map (-s) cs]
theorem lap_congr {e e' : Nat → Nat → Int} : ∀ (k i : Nat) (cols : List Nat), (∀ r c, i ≤ r → r < i + k → c ∈ cols → e r c = e' r c) → lap e k i cols = lap e' k i cols
  | 0, _, _, _ => rfl
  | k + 1, i, cols, h => by
    unfold lap
    refine alt_congr 1 cols fun c hc => ?_
    rw [h i c (Nat.le_refl _) (by omega) hc, lap_congr k (i + 1) _ fun r d h1 h2 h3 => h r d (by omega) (by omega) (List.mem_filter.1 h3).1]
theorem lap_map {e e' : Nat → Nat → Int} {g : Nat → Nat} (hg : ∀ c d, g c = g d → c = d) : ∀ (k i i' : Nat) (cols : List Nat), (∀ r c, r < k → e (i + r) c = e' (i' + r) (g c)) → lap e k i cols = lap e' k i' (cols.map g)
  | 0, _, _, _, _ => rfl
  | k + 1, i, i', cols, h => by
    unfold lap
    rw [alt_map]
    refine alt_congr 1 cols fun c _ => ?_
    have h0 := h 0 c (by omega)
    try simp only [Nat.add_zero] at h0
    rw [h0, lap_map hg k (i + 1) (i' + 1) _ fun r d hr => ?_]
    · congr 2
      rw [List.filter_map]
      congr 1
      apply List.filter_congr
      intro d _
      simp only [Function.comp]
      by_cases hdc : d = c
      · simp [hdc]
      · have : g d ≠ g c := fun e => hdc (hg _ _ e)
        rw [bne_iff_ne.2 hdc, bne_iff_ne.2 this]
    · have := h (r + 1) d (by omega)
      rw [show i + 1 + r = i + (r + 1) by omega, show i' + 1 + r = i' + (r + 1) by omega]
      exact this

/-- The bound of a determinant whose rows are bounded. -/
def bnd (M : Nat → Nat) : Nat → Nat → Nat
  | 0, _ => 1
  | k + 1, i => (k + 1) * (M i * bnd M k (i + 1))
theorem nat_abs_mul_le {a b : Int} {x y : Nat} (ha : a.natAbs ≤ x) (hb : b.natAbs ≤ y) : (a * b).natAbs ≤ x * y := by
  rw [Int.natAbs_mul]
  exact Nat.mul_le_mul ha hb
theorem alt_le {f : Nat → Int} {B : Nat} : ∀ (s : Int) (cs : List Nat), s.natAbs = 1 → (∀ c ∈ cs, (f c).natAbs ≤ B) → (alt s cs f).natAbs ≤ cs.length * B
  | _, [], _, _ => by simp [alt]
  | s, c :: cs, hs, h => by
    unfold alt
    have h1 := h c (by simp)
    have h2 := alt_le (-s) cs (by simpa using hs) fun d hd => h d (by simp [hd])
    have h3 : (s * f c).natAbs = (f c).natAbs := by rw [Int.natAbs_mul, hs, Nat.one_mul]
    have h4 := Int.natAbs_add_le (s * f c) (alt (-s) cs f)
    rw [List.length_cons, Nat.add_mul]
    omega
theorem filter_ne_len {c : Nat} : ∀ {cs : List Nat}, c ∈ cs → (cs.filter fun d => d != c).length + 1 ≤ cs.length
  | [], h => by simp at h
  | d :: cs, h => by
    by_cases hd : d = c
    · subst hd
      have := List.length_filter_le (fun x => x != d) cs
      simp
      omega
    · have : c ∈ cs := by
        rcases List.mem_cons.1 h with h | h
        · exact absurd h.symm hd
        · exact h
      have := filter_ne_len this
      simp [hd]
      omega
theorem lap_le {e : Nat → Nat → Int} {M : Nat → Nat} : ∀ (k i : Nat) (cols : List Nat), cols.length ≤ k → (∀ r c, i ≤ r → r < i + k → c ∈ cols → (e r c).natAbs ≤ M r) → (lap e k i cols).natAbs ≤ bnd M k i
  | 0, _, _, _, _ => by simp [lap, bnd]
  | k + 1, i, cols, hl, h => by
    unfold lap bnd
    refine Nat.le_trans (alt_le 1 cols rfl (B := M i * bnd M k (i + 1)) fun c hc => ?_) (Nat.mul_le_mul_right _ hl)
    refine nat_abs_mul_le (h i c (Nat.le_refl _) (by omega) hc) (lap_le k (i + 1) _ ?_ fun r d h1 h2 h3 => h r d (by omega) (by omega) (List.mem_filter.1 h3).1)
    have := filter_ne_len hc
    omega
theorem det_le {n : Nat} {e : Nat → Nat → Int} {M : Nat → Nat} (h : ∀ r c, r < n → c < n → (e r c).natAbs ≤ M r) : (det n e).natAbs ≤ bnd M n 0 :=
  lap_le n 0 _ (by simp) fun r c _ h2 h3 => h r c (by omega) (List.mem_range.1 h3)
theorem det_congr {n : Nat} {e e' : Nat → Nat → Int} (h : ∀ r c, r < n → c < n → e r c = e' r c) : det n e = det n e' :=
  lap_congr n 0 _ fun r c _ h2 h3 => h r c (by omega) (List.mem_range.1 h3)

/-- The number without j that has so many before it. -/
def skip (j c : Nat) : Nat := if c < j then c else c + 1
theorem skip_inj {j c d : Nat} (h : skip j c = skip j d) : c = d := by
  unfold skip at h
  split at h <;> split at h <;> omega
theorem skip_range : ∀ n, n < 4 → ∀ j, j < n + 1 → (List.range n).map (skip j) = (List.range (n + 1)).filter fun d => d != j := by decide
/-- The determinant without row i and column j. -/
def sub (e : Nat → Nat → Int) (i j : Nat) : Nat → Nat → Int := fun r c => e (skip i r) (skip j c)
theorem lap_sub {e : Nat → Nat → Int} {n j : Nat} (hn : n < 4) (hj : j < n + 1) : lap e n 1 ((List.range (n + 1)).filter fun d => d != j) = det n (sub e 0 j) := by
  rw [← skip_range n hn j hj]
  refine (lap_map (fun c d => skip_inj) n 0 1 _ fun r c _ => ?_).symm
  unfold sub
  rw [show skip 0 (0 + r) = 1 + r by unfold skip; simp; omega]
theorem det_succ {e : Nat → Nat → Int} {n : Nat} (hn : n < 4) : det (n + 1) e = alt 1 (List.range (n + 1)) fun c => e 0 c * det n (sub e 0 c) := by
  unfold det
  rw [lap]
  refine alt_congr 1 _ fun c hc => ?_
  rw [Nat.zero_add, lap_sub hn (List.mem_range.1 hc)]
  rfl

/-- Row i is v. -/
def wth (e : Nat → Nat → Int) (i : Nat) (v : Nat → Int) : Nat → Nat → Int := fun r c => if r = i then v c else e r c
def unit (k : Nat) : Nat → Int := fun c => if c = k then 1 else 0
def sgn (k : Nat) : Int := if k % 2 = 1 then -1 else 1
/-- The cofactor. -/
def cof (n : Nat) (e : Nat → Nat → Int) (i j : Nat) : Int := sgn (i + j) * det (n - 1) (sub e i j)
def sm : Nat → (Nat → Int) → Int
  | 0, _ => 0
  | n + 1, f => sm n f + f n
theorem sm_congr {f g : Nat → Int} : ∀ n, (∀ k, k < n → f k = g k) → sm n f = sm n g
  | 0, _ => rfl
  | n + 1, h => by
    unfold sm
    rw [sm_congr n fun k hk => h k (by omega), h n (by omega)]
/-- The inner product. -/
def dot (n : Nat) (v u : Nat → Int) : Int := sm n fun c => v c * u c

theorem det1 (e : Nat → Nat → Int) : det 1 e = e 0 0 := by simp [det, lap, alt, List.range, List.range.loop]
theorem det2 (e : Nat → Nat → Int) : det 2 e = e 0 0 * e 1 1 - e 0 1 * e 1 0 := by
  simp [det, lap, alt, List.range, List.range.loop]
  grind
theorem det3 (e : Nat → Nat → Int) : det 3 e = e 0 0 * (e 1 1 * e 2 2 - e 1 2 * e 2 1) - e 0 1 * (e 1 0 * e 2 2 - e 1 2 * e 2 0) + e 0 2 * (e 1 0 * e 2 1 - e 1 1 * e 2 0) := by
  simp [det, lap, alt, List.range, List.range.loop]
  grind
theorem det4 (e : Nat → Nat → Int) : det 4 e = e 0 0 * det 3 (sub e 0 0) - e 0 1 * det 3 (sub e 0 1) + e 0 2 * det 3 (sub e 0 2) - e 0 3 * det 3 (sub e 0 3) := by
  rw [det_succ (by omega)]
  simp only [alt, List.range, List.range.loop]
  grind

theorem cases4 {P : Nat → Prop} {n : Nat} (h1 : 1 ≤ n) (h4 : n ≤ 4) (p1 : P 1) (p2 : P 2) (p3 : P 3) (p4 : P 4) : P n := by
  match n, h1, h4 with
  | 1, _, _ => exact p1
  | 2, _, _ => exact p2
  | 3, _, _ => exact p3
  | 4, _, _ => exact p4

/-- A row put in place of another one: along its cofactors. -/
theorem cof_sum (n i : Nat) (h1 : 1 ≤ n) (h4 : n ≤ 4) (hi : i < n) (e : Nat → Nat → Int) (v : Nat → Int) : dot n v (cof n e i) = det n (wth e i v) := by
  match n, h1, h4, i, hi with
  | 1, _, _, 0, _ => simp [dot, sm, cof, wth, det, lap, sgn, alt, List.range, List.range.loop]
  | 2, _, _, 0, _ => simp [dot, sm, cof, det1, det2, wth, sgn, sub, skip]; grind
  | 2, _, _, 1, _ => simp [dot, sm, cof, det1, det2, wth, sgn, sub, skip]; grind
  | 3, _, _, 0, _ => simp [dot, sm, cof, det2, det3, wth, sgn, sub, skip]; grind
  | 3, _, _, 1, _ => simp [dot, sm, cof, det2, det3, wth, sgn, sub, skip]; grind
  | 3, _, _, 2, _ => simp [dot, sm, cof, det2, det3, wth, sgn, sub, skip]; grind
  | 4, _, _, 0, _ => simp [dot, sm, cof, det3, det4, wth, sgn, sub, skip]; grind
  | 4, _, _, 1, _ => simp [dot, sm, cof, det3, det4, wth, sgn, sub, skip]; grind
  | 4, _, _, 2, _ => simp [dot, sm, cof, det3, det4, wth, sgn, sub, skip]; grind
  | 4, _, _, 3, _ => simp [dot, sm, cof, det3, det4, wth, sgn, sub, skip]; grind
theorem dot_unit {n k : Nat} {f : Nat → Int} (hk : k < n) : dot n (unit k) f = f k := by
  have : ∀ n, sm n (fun c => unit k c * f c) = if k < n then f k else 0 := by
    intro n
    induction n with
    | zero => rfl
    | succ n ih =>
      unfold sm
      rw [ih]
      by_cases h : k < n
      · have : n ≠ k := by omega
        have h2 : k < n + 1 := by omega
        simp [unit, h, this, h2]
      · by_cases h2 : n = k
        · subst h2
          simp [unit]
        · have h3 : ¬ k < n + 1 := by omega
          simp [unit, h, h2, h3]
  unfold dot
  rw [this n, if_pos hk]
/-- The dual rows are the cofactors. -/
theorem dual_cof {n i k : Nat} (h1 : 1 ≤ n) (h4 : n ≤ 4) (hi : i < n) (hk : k < n) (e : Nat → Nat → Int) : det n (wth e i (unit k)) = cof n e i k := by
  rw [← cof_sum n i h1 h4 hi e, dot_unit hk]
theorem wth_self (e : Nat → Nat → Int) (i : Nat) : wth e i (e i) = e := by
  funext r c
  unfold wth
  split
  · subst_vars; rfl
  · rfl
/-- Two rows that are alike. -/
theorem det_twice (n i j : Nat) (h1 : 1 ≤ n) (h4 : n ≤ 4) (hi : i < n) (hj : j < n) (hij : i ≠ j) (e : Nat → Nat → Int) : det n (wth e i (e j)) = 0 := by
  match n, h1, h4, i, hi, j, hj with
  | 1, _, _, 0, _, 0, _ => simp at hij
  | 2, _, _, 0, _, 0, _ => simp at hij
  | 2, _, _, 0, _, 1, _ => simp [det2, wth]; grind
  | 2, _, _, 1, _, 0, _ => simp [det2, wth]; grind
  | 2, _, _, 1, _, 1, _ => simp at hij
  | 3, _, _, 0, _, 0, _ => simp at hij
  | 3, _, _, 0, _, 1, _ => simp [det3, wth]; grind
  | 3, _, _, 0, _, 2, _ => simp [det3, wth]; grind
  | 3, _, _, 1, _, 0, _ => simp [det3, wth]; grind
  | 3, _, _, 1, _, 1, _ => simp at hij
  | 3, _, _, 1, _, 2, _ => simp [det3, wth]; grind
  | 3, _, _, 2, _, 0, _ => simp [det3, wth]; grind
  | 3, _, _, 2, _, 1, _ => simp [det3, wth]; grind
  | 3, _, _, 2, _, 2, _ => simp at hij
  | 4, _, _, 0, _, 0, _ => simp at hij
  | 4, _, _, 0, _, 1, _ => simp [det3, det4, wth, sub, skip]; grind
  | 4, _, _, 0, _, 2, _ => simp [det3, det4, wth, sub, skip]; grind
  | 4, _, _, 0, _, 3, _ => simp [det3, det4, wth, sub, skip]; grind
  | 4, _, _, 1, _, 0, _ => simp [det3, det4, wth, sub, skip]; grind
  | 4, _, _, 1, _, 1, _ => simp at hij
  | 4, _, _, 1, _, 2, _ => simp [det3, det4, wth, sub, skip]; grind
  | 4, _, _, 1, _, 3, _ => simp [det3, det4, wth, sub, skip]; grind
  | 4, _, _, 2, _, 0, _ => simp [det3, det4, wth, sub, skip]; grind
  | 4, _, _, 2, _, 1, _ => simp [det3, det4, wth, sub, skip]; grind
  | 4, _, _, 2, _, 2, _ => simp at hij
  | 4, _, _, 2, _, 3, _ => simp [det3, det4, wth, sub, skip]; grind
  | 4, _, _, 3, _, 0, _ => simp [det3, det4, wth, sub, skip]; grind
  | 4, _, _, 3, _, 1, _ => simp [det3, det4, wth, sub, skip]; grind
  | 4, _, _, 3, _, 2, _ => simp [det3, det4, wth, sub, skip]; grind
  | 4, _, _, 3, _, 3, _ => simp at hij
theorem cof_row {n i j : Nat} (h1 : 1 ≤ n) (h4 : n ≤ 4) (hi : i < n) (hj : j < n) (e : Nat → Nat → Int) : dot n (e j) (cof n e i) = if i = j then det n e else 0 := by
  rw [cof_sum n i h1 h4 hi]
  split
  · subst_vars; rw [wth_self]
  · next h => exact det_twice n i j h1 h4 hi hj h e
end Go.Proofs.Ytgfenponlkmfmaa
