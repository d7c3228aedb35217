/- The search for unit fractions, plainly. No condition. -/
namespace Go.Proofs.Ytbdiknlbmjdpeaa
/-- The first of k numbers from i on at which f answers. -/
def fs {α : Type} (f : Nat → Option α) : Nat → Nat → Option α
  | _, 0 => none
  | i, k + 1 => match f i with | some x => some x | none => fs f (i + 1) k
theorem fs_zero {α : Type} (f : Nat → Option α) (i : Nat) : fs f i 0 = none := rfl
theorem fs_yes {α : Type} {f : Nat → Option α} {i : Nat} (k : Nat) {x : α} (h : f i = some x) : fs f i (k + 1) = some x := by simp [fs, h]
theorem fs_no {α : Type} {f : Nat → Option α} {i : Nat} (k : Nat) (h : f i = none) : fs f i (k + 1) = fs f (i + 1) k := by simp [fs, h]
theorem fs_add {α : Type} (f : Nat → Option α) : ∀ (a i b : Nat), fs f i (a + b) = match fs f i a with | some x => some x | none => fs f (i + a) b
  | 0, i, b => by simp [fs]
  | a + 1, i, b => by
    rw [show a + 1 + b = (a + b) + 1 by omega]
    cases h : f i with
    | some x => rw [fs_yes _ h, fs_yes _ h]
    | none => rw [fs_no _ h, fs_no _ h, fs_add f a (i + 1) b, show i + 1 + a = i + (a + 1) by omega]
theorem fs_none {α : Type} {f : Nat → Option α} : ∀ {k i : Nat}, (∀ d, i ≤ d → d < i + k → f d = none) → fs f i k = none
  | 0, i, _ => rfl
  | k + 1, i, h => by
    rw [fs_no k (h i (Nat.le_refl _) (by omega))]
    exact fs_none fun d h1 h2 => h d (by omega) (by omega)
theorem fs_some {α : Type} {f : Nat → Option α} : ∀ {k i : Nat} {x : α}, fs f i k = some x → ∃ d, i ≤ d ∧ d < i + k ∧ f d = some x ∧ ∀ e, i ≤ e → e < d → f e = none
  | 0, i, x, h => by cases h
  | k + 1, i, x, h => by
    cases hf : f i with
    | some y =>
      rw [fs_yes k hf] at h
      exact ⟨i, Nat.le_refl _, by omega, by rw [hf, h], fun e h1 h2 => by omega⟩
    | none =>
      rw [fs_no k hf] at h
      obtain ⟨d, h1, h2, h3, h4⟩ := fs_some h
      refine ⟨d, by omega, by omega, h3, fun e h5 h6 => ?_⟩
      by_cases he : e = i
      · rw [he]; exact hf
      · exact h4 e (by omega) h6
theorem fs_congr {α : Type} {f g : Nat → Option α} : ∀ {k i : Nat}, (∀ d, i ≤ d → d < i + k → f d = g d) → fs f i k = fs g i k
  | 0, i, _ => rfl
  | k + 1, i, h => by
    have h0 := h i (Nat.le_refl _) (by omega)
    have ih := fs_congr (f := f) (g := g) (k := k) (i := i + 1) fun d h1 h2 => h d (by omega) (by omega)
    simp only [fs]
    rw [h0, ih]
/-- Beside what may answer the range does not matter. -/
theorem fs_range {α : Type} {f : Nat → Option α} {i k j m : Nat} (h1 : ∀ d, i ≤ d → d < i + k → ¬ (j ≤ d ∧ d < j + m) → f d = none) (h2 : ∀ d, j ≤ d → d < j + m → ¬ (i ≤ d ∧ d < i + k) → f d = none) : fs f i k = fs f j m := by
  cases ha : fs f i k with
  | none =>
    cases hb : fs f j m with
    | none => rfl
    | some y =>
      exfalso
      obtain ⟨d, g1, g2, g3, g4⟩ := fs_some hb
      have hi : i ≤ d ∧ d < i + k := by
        apply Decidable.byContradiction
        intro hn; rw [h2 d g1 g2 hn] at g3; cases g3
      have : ∀ k i, fs f i k = none → ∀ d, i ≤ d → d < i + k → f d = none := by
        intro k
        induction k with
        | zero => intro i _ d _ _; omega
        | succ k ih =>
          intro i h d h1 h2
          cases hf : f i with
          | some x => rw [fs_yes k hf] at h; cases h
          | none =>
            rw [fs_no k hf] at h
            by_cases hd : d = i
            · rw [hd]; exact hf
            · exact ih (i + 1) h d (by omega) (by omega)
      rw [this k i ha d hi.1 hi.2] at g3; cases g3
  | some x =>
    obtain ⟨d, g1, g2, g3, g4⟩ := fs_some ha
    have hj : j ≤ d ∧ d < j + m := by
      apply Decidable.byContradiction
      intro hn; rw [h1 d g1 g2 hn] at g3; cases g3
    have e : j + m = d + (j + m - d) := by omega
    have hb : fs f j (d - j) = none := fs_none fun e he1 he2 => by
      by_cases hi : i ≤ e
      · exact g4 e hi (by omega)
      · exact h2 e he1 (by omega) (by omega)
    have hm : m = (d - j) + ((j + m - d - 1) + 1) := by omega
    rw [hm, fs_add, hb, show j + (d - j) = d by omega]
    exact (fs_yes _ g3).symm
theorem fs_all {α : Type} {f : Nat → Option α} : ∀ {k i : Nat}, fs f i k = none → ∀ d, i ≤ d → d < i + k → f d = none
  | 0, i, _, d, _, _ => by omega
  | k + 1, i, h, d, h1, h2 => by
    cases hf : f i with
    | some x => rw [fs_yes k hf] at h; cases h
    | none =>
      rw [fs_no k hf] at h
      by_cases hd : d = i
      · rw [hd]; exact hf
      · exact fs_all h d (by omega) (by omega)
theorem fs_map {α β : Type} (g : α → β) (f : Nat → Option α) : ∀ k i, fs (fun d => (f d).map g) i k = (fs f i k).map g
  | 0, i => rfl
  | k + 1, i => by
    cases h : f i with
    | some x => rw [fs_yes k h, fs_yes k (by rw [h]; rfl)]; rfl
    | none => rw [fs_no k h, fs_no k (by rw [h]; rfl), fs_map g f k (i + 1)]

/-- The unit fractions of a list sum to num / den. -/
def isum : Nat → Nat → List Nat → Bool
  | num, _, [] => num == 0
  | num, den, d :: t => decide (den ≤ num * d) && isum (num * d - den) (den * d) t
/-- Each one is at least gap more than the one before, the first at least 'least', and all at most 'most'. -/
def isUp (gap most : Nat) : Nat → List Nat → Bool
  | _, [] => true
  | least, d :: t => decide (least ≤ d) && decide (d ≤ most) && isUp gap most (d + gap) t

/-- The search of finder: t + 1 terms. -/
def fnd (gap most : Nat) : Nat → Nat → Nat → Nat → Option (List Nat)
  | 0, num, den, least => if den % num = 0 ∧ least ≤ den / num ∧ den / num ≤ most then some [den / num] else none
  | t + 1, num, den, least => fs (fun d => (fnd gap most t (num * d - den) (den * d) (d + gap)).map (d :: ·)) (max least (den / num + 1)) (min most ((t + 2) * den / num) + 1 - max least (den / num + 1))

theorem lt_div {num den d : Nat} (hn : 0 < num) : den / num < d ↔ den < num * d := by
  rw [Nat.div_lt_iff_lt_mul hn, Nat.mul_comm]
theorem le_divs {num x d : Nat} (hn : 0 < num) : d ≤ x / num ↔ num * d ≤ x := by
  rw [Nat.le_div_iff_mul_le hn, Nat.mul_comm]
/-- Sums of fractions of the same value. -/
theorem isum_scale : ∀ (L : List Nat) {num den a b : Nat}, 0 < den → 0 < b → num * b = a * den → isum num den L = isum a b L
  | [], num, den, a, b, hd, hb, h => by
    unfold isum
    rw [Bool.eq_iff_iff, beq_iff_eq, beq_iff_eq]
    constructor
    · rintro rfl
      rw [Nat.zero_mul] at h
      rcases Nat.mul_eq_zero.1 h.symm with h | h <;> omega
    · rintro rfl
      rw [Nat.zero_mul] at h
      rcases Nat.mul_eq_zero.1 h with h | h <;> omega
  | d :: t, num, den, a, b, hd, hb, h => by
    have e : den ≤ num * d ↔ b ≤ a * d := by
      constructor
      · intro g
        have g2 : den * b ≤ num * d * b := Nat.mul_le_mul_right b g
        have g3 : b * den ≤ a * d * den := by
          calc b * den = den * b := Nat.mul_comm _ _
            _ ≤ num * d * b := g2
            _ = (num * b) * d := by rw [Nat.mul_right_comm]
            _ = a * den * d := by rw [h]
            _ = a * d * den := by rw [Nat.mul_right_comm]
        exact Nat.le_of_mul_le_mul_right g3 hd
      · intro g
        have g3 : den * b ≤ num * d * b := by
          calc den * b = b * den := Nat.mul_comm _ _
            _ ≤ a * d * den := Nat.mul_le_mul_right den g
            _ = a * den * d := by rw [Nat.mul_right_comm]
            _ = num * b * d := by rw [h]
            _ = num * d * b := by rw [Nat.mul_right_comm]
        exact Nat.le_of_mul_le_mul_right g3 hb
    unfold isum
    by_cases hd0 : d = 0
    · subst hd0
      have h1 : decide (den ≤ num * 0) = false := by simp; omega
      have h2 : decide (b ≤ a * 0) = false := by simp; omega
      rw [h1, h2]; rfl
    · have e2 : (num * d - den) * (b * d) = (a * d - b) * (den * d) := by
        rw [Nat.sub_mul, Nat.sub_mul]
        have e3 : num * d * (b * d) = a * d * (den * d) := by
          calc num * d * (b * d) = (num * b) * (d * d) := by rw [Nat.mul_mul_mul_comm]
            _ = (a * den) * (d * d) := by rw [h]
            _ = a * d * (den * d) := by rw [Nat.mul_mul_mul_comm]
        have e4 : den * (b * d) = b * (den * d) := by rw [Nat.mul_left_comm]
        rw [e3, e4]
      rw [isum_scale t (Nat.mul_pos hd (by omega)) (Nat.mul_pos hb (by omega)) e2]
      congr 1
      rw [decide_eq_decide]; exact e

theorem isUp_mono {gap most : Nat} : ∀ {L : List Nat} {l k : Nat}, k ≤ l → isUp gap most l L = true → isUp gap most k L = true
  | [], _, _, _, _ => rfl
  | d :: t, l, k, h, g => by
    simp only [isUp, Bool.and_eq_true, decide_eq_true_eq] at g ⊢
    exact ⟨⟨by omega, g.1.2⟩, g.2⟩
theorem isUp_ge {gap most : Nat} : ∀ {L : List Nat} {l : Nat}, isUp gap most l L = true → ∀ x ∈ L, l ≤ x ∧ x ≤ most
  | [], _, _, x, hx => by cases hx
  | d :: t, l, g, x, hx => by
    simp only [isUp, Bool.and_eq_true, decide_eq_true_eq] at g
    rcases List.mem_cons.1 hx with rfl | hx
    · exact ⟨g.1.1, g.1.2⟩
    · have := isUp_ge g.2 x hx; omega
/-- A sum of terms none less than d is at most their number divided by d. -/
theorem isum_le : ∀ (L : List Nat) {num den d : Nat}, 0 < den → isum num den L = true → (∀ x ∈ L, d ≤ x) → num * d ≤ L.length * den
  | [], num, den, d, hd, h, _ => by
    simp only [isum, beq_iff_eq] at h
    subst h; simp
  | e :: t, num, den, d, hd, h, hx => by
    simp only [isum, Bool.and_eq_true, decide_eq_true_eq] at h
    have he : 0 < e := by
      rcases Nat.eq_zero_or_pos e with rfl | h0
      · simp at h; omega
      · exact h0
    have ih := isum_le t (Nat.mul_pos hd he) h.2 (fun x hx' => hx x (List.mem_cons_of_mem _ hx')) (d := d)
    have hde : d ≤ e := hx e (List.mem_cons_self ..)
    rw [Nat.sub_mul] at ih
    have h1 : den * d ≤ den * e := Nat.mul_le_mul_left den hde
    have h2 : num * d * e ≤ (t.length + 1) * den * e := by
      rw [Nat.mul_right_comm, show (t.length + 1) * den * e = t.length * (den * e) + den * e by rw [Nat.mul_assoc, Nat.add_mul, Nat.one_mul]]
      omega
    exact Nat.le_of_mul_le_mul_right h2 he
theorem fnd_sound (gap most : Nat) : ∀ (t : Nat) {num den least : Nat} {L : List Nat}, 0 < num → 0 < den → fnd gap most t num den least = some L → L.length = t + 1 ∧ isUp gap most least L = true ∧ isum num den L = true
  | 0, num, den, least, L, hn, hd, h => by
    unfold fnd at h
    split at h
    · next hc =>
      cases h
      have e : num * (den / num) = den := by have := Nat.div_add_mod den num; omega
      refine ⟨rfl, by simp [isUp]; omega, by simp [isum, e]⟩
    · cases h
  | t + 1, num, den, least, L, hn, hd, h => by
    unfold fnd at h
    obtain ⟨d, h1, h2, h3, -⟩ := fs_some h
    cases hr : fnd gap most t (num * d - den) (den * d) (d + gap) with
    | none => rw [hr] at h3; cases h3
    | some M =>
      rw [hr] at h3
      cases h3
      have h4 : den / num < d := by omega
      have h5 : 0 < d := Nat.lt_of_le_of_lt (Nat.zero_le _) h4
      rw [lt_div hn] at h4
      obtain ⟨g1, g2, g3⟩ := fnd_sound gap most t (by omega) (Nat.mul_pos hd h5) hr
      refine ⟨by simp [g1], ?_, ?_⟩
      · simp only [isUp, Bool.and_eq_true, decide_eq_true_eq]
        exact ⟨⟨by omega, by omega⟩, g2⟩
      · simp only [isum, Bool.and_eq_true, decide_eq_true_eq]
        exact ⟨by omega, g3⟩
theorem fnd_full (gap most : Nat) : ∀ (t : Nat) {num den least : Nat} {L : List Nat}, 0 < num → 0 < den → L.length = t + 1 → isUp gap most least L = true → isum num den L = true → fnd gap most t num den least ≠ none
  | 0, num, den, least, L, hn, hd, hl, hu, hs => by
    match L, hl with
    | [d], _ =>
      simp only [isUp, isum, Bool.and_eq_true, decide_eq_true_eq, beq_iff_eq] at hu hs
      have e : num * d = den := by omega
      have e2 : den / num = d := by rw [← e, Nat.mul_div_cancel_left _ hn]
      have e3 : den % num = 0 := by rw [← e, Nat.mul_mod_right]
      unfold fnd
      rw [if_pos ⟨e3, by omega, by omega⟩]
      simp
  | t + 1, num, den, least, L, hn, hd, hl, hu, hs => by
    match L, hl with
    | d :: M, hl =>
      have hm : M.length = t + 1 := by simpa using hl
      have hall := isum_le (d :: M) (d := d) hd hs (fun x hx => by
        rcases List.mem_cons.1 hx with rfl | hx
        · exact Nat.le_refl _
        · simp only [isUp, Bool.and_eq_true, decide_eq_true_eq] at hu
          have := (isUp_ge hu.2 x hx).1; omega)
      simp only [isUp, isum, Bool.and_eq_true, decide_eq_true_eq] at hu hs
      have h0 : 0 < d := by
        rcases Nat.eq_zero_or_pos d with rfl | h0
        · simp at hs; omega
        · exact h0
      have hlt : den < num * d := by
        apply Decidable.byContradiction
        intro hn2
        have e : num * d - den = 0 := by omega
        rw [e] at hs
        match M, hm with
        | x :: N, _ =>
          simp only [isum, Bool.and_eq_true, decide_eq_true_eq] at hs
          have := Nat.mul_pos hd h0
          omega
      have ih := fnd_full gap most t (least := d + gap) (by omega) (Nat.mul_pos hd h0) hm hu.2 hs.2
      rw [hl] at hall
      have h3 : d ≤ (t + 1 + 1) * den / num := (le_divs hn).2 hall
      have h4 : den / num < d := (lt_div hn).2 hlt
      intro hnone
      unfold fnd at hnone
      have h5 : d ≤ min most ((t + 2) * den / num) := by
        have : (t + 1 + 1) = t + 2 := by omega
        rw [this] at h3
        omega
      have := fs_all hnone d (by omega) (by omega)
      cases hr : fnd gap most t (num * d - den) (den * d) (d + gap) with
      | none => exact ih hr
      | some x => rw [hr] at this; cases this
/-- It depends on the value of the fraction alone. -/
theorem div_scale {num den a b k : Nat} (hn : 0 < num) (ha : 0 < a) (h : num * b = a * den) : k * den / num = k * b / a := by
  have e : ∀ d, d ≤ k * den / num ↔ d ≤ k * b / a := by
    intro d
    rw [le_divs hn, le_divs ha]
    constructor
    · intro g
      have g2 : a * (num * d) ≤ a * (k * den) := Nat.mul_le_mul_left a g
      have g3 : num * (a * d) ≤ num * (k * b) := by
        calc num * (a * d) = a * (num * d) := Nat.mul_left_comm ..
          _ ≤ a * (k * den) := g2
          _ = k * (a * den) := Nat.mul_left_comm ..
          _ = k * (num * b) := by rw [h]
          _ = num * (k * b) := Nat.mul_left_comm ..
      exact Nat.le_of_mul_le_mul_left g3 hn
    · intro g
      have g2 : num * (a * d) ≤ num * (k * b) := Nat.mul_le_mul_left num g
      have g3 : a * (num * d) ≤ a * (k * den) := by
        calc a * (num * d) = num * (a * d) := Nat.mul_left_comm ..
          _ ≤ num * (k * b) := g2
          _ = k * (num * b) := Nat.mul_left_comm ..
          _ = k * (a * den) := by rw [h]
          _ = a * (k * den) := Nat.mul_left_comm ..
      exact Nat.le_of_mul_le_mul_left g3 ha
  exact Nat.le_antisymm ((e _).1 (Nat.le_refl _)) ((e _).2 (Nat.le_refl _))
theorem mod_scale {num den a b : Nat} (hn : 0 < num) (ha : 0 < a) (h : num * b = a * den) : den % num = 0 ↔ b % a = 0 := by
  have e : den / num = b / a := by have := div_scale hn ha h (k := 1); simpa using this
  constructor
  · intro g
    have g2 : num * (den / num) = den := by have := Nat.div_add_mod den num; omega
    rw [e] at g2
    have g3 : num * b = num * (a * (b / a)) := by rw [h, ← g2, Nat.mul_left_comm]
    have g4 := Nat.eq_of_mul_eq_mul_left hn g3
    have := Nat.div_add_mod b a; omega
  · intro g
    have g2 : a * (b / a) = b := by have := Nat.div_add_mod b a; omega
    rw [← e] at g2
    have g3 : a * den = a * (num * (den / num)) := by rw [← h, ← g2, Nat.mul_left_comm]
    have g4 := Nat.eq_of_mul_eq_mul_left ha g3
    have := Nat.div_add_mod den num; omega
theorem minus_scale {num den a b d : Nat} (h : num * b = a * den) : (num * d - den) * (b * d) = (a * d - b) * (den * d) := by
  rw [Nat.sub_mul, Nat.sub_mul]
  have e3 : num * d * (b * d) = a * d * (den * d) := by
    calc num * d * (b * d) = (num * b) * (d * d) := by rw [Nat.mul_mul_mul_comm]
      _ = (a * den) * (d * d) := by rw [h]
      _ = a * d * (den * d) := by rw [Nat.mul_mul_mul_comm]
  have e4 : den * (b * d) = b * (den * d) := by rw [Nat.mul_left_comm]
  rw [e3, e4]
theorem fnd_scale (gap most : Nat) : ∀ (t : Nat) {num den a b least : Nat}, 0 < num → 0 < den → 0 < a → 0 < b → num * b = a * den → fnd gap most t num den least = fnd gap most t a b least
  | 0, num, den, a, b, least, hn, hd, ha, hb, h => by
    unfold fnd
    have e : den / num = b / a := by have := div_scale hn ha h (k := 1); simpa using this
    rw [e]
    by_cases g : b % a = 0
    · rw [(mod_scale hn ha h).2 g, g]
    · have g2 := mt (mod_scale hn ha h).1 g
      rw [if_neg (by omega), if_neg (by omega)]
  | t + 1, num, den, a, b, least, hn, hd, ha, hb, h => by
    have e : den / num = b / a := by have := div_scale hn ha h (k := 1); simpa using this
    have e2 : (t + 2) * den / num = (t + 2) * b / a := div_scale hn ha h
    unfold fnd
    rw [e, e2]
    refine fs_congr fun d h1 _ => ?_
    have h3 : den / num < d := by omega
    have h4 : b / a < d := by omega
    have h5 : 0 < d := Nat.lt_of_le_of_lt (Nat.zero_le _) h4
    rw [lt_div hn] at h3
    rw [lt_div ha] at h4
    rw [fnd_scale gap most t (by omega) (Nat.mul_pos hd h5) (by omega) (Nat.mul_pos hb h5) (minus_scale h)]
end Go.Proofs.Ytbdiknlbmjdpeaa
