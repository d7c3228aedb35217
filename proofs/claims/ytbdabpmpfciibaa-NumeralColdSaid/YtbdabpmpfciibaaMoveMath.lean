/- The best move, plainly: what the reference's scan finds is the best of the pairs that can be reached. No condition beyond those stated. -/
import Derived.Test.YtbdabpmpfciibaaRefCold
import Derived.Test.YtbdabpmpfciibaaLawGame
namespace Go.Proofs.Ytbdabpmpfciibaa

theorem bt_trans {x y z : Int × Int} (h1 : ¬ bt x y < 0) (h2 : ¬ bt y z < 0) : ¬ bt x z < 0 := by
  rw [bt_neg] at *
  omega
theorem bt_irr (x : Int × Int) : ¬ bt x x < 0 := by rw [bt_neg]; omega
theorem bt_asym {x y : Int × Int} (h : bt x y < 0) : ¬ bt y x < 0 := by rw [bt_neg] at *; omega
theorem minTo_least (S : List (Int × Int)) : ∀ t j, j ≤ t → ¬ bt (nth2 S j) (minTo S t) < 0
  | 0, j, h => by
    have : j = 0 := by omega
    subst this
    exact bt_irr _
  | t + 1, j, h => by
    have e : minTo S (t + 1) = if bt (nth2 S (t + 1)) (minTo S t) < 0 then nth2 S (t + 1) else minTo S t := rfl
    rw [e]
    by_cases hb : bt (nth2 S (t + 1)) (minTo S t) < 0
    · rw [if_pos hb]
      by_cases hj : j = t + 1
      · subst hj; exact bt_irr _
      · exact bt_trans (minTo_least S t j (by omega)) (bt_asym hb)
    · rw [if_neg hb]
      by_cases hj : j = t + 1
      · subst hj; exact hb
      · exact minTo_least S t j (by omega)
theorem mem_nth2 {S : List (Int × Int)} {p : Int × Int} (h : p ∈ S) : ∃ j, j < S.length ∧ nth2 S j = p := by
  obtain ⟨j, hj, e⟩ := List.mem_iff_getElem.1 h
  refine ⟨j, hj, ?_⟩
  unfold nth2
  rw [List.getD_eq_getElem?_getD, List.getElem?_eq_getElem hj]
  exact e
theorem best_least {a b : Int} {p : Int × Int} (hp : p ∈ reach a b) : p.1 + p.2 ≤ (bestF a b).1 + (bestF a b).2 ∧ (p.1 + p.2 = (bestF a b).1 + (bestF a b).2 → (bestF a b).1 ≤ p.1) := by
  obtain ⟨j, hj, rfl⟩ := mem_nth2 hp
  have h := minTo_least (reach a b) ((reach a b).length - 1) j (by omega)
  rw [bt_neg] at h
  unfold bestF
  omega

/-- What a pair must be to be taken. -/
def okP (p : Int × Int) : Bool := decide (0 ≤ p.1) && decide (0 ≤ p.2) && isCold p.1 p.2
theorem okP_yes {p : Int × Int} (h : okP p = true) : 0 ≤ p.1 ∧ 0 ≤ p.2 ∧ isCold p.1 p.2 = true := by
  unfold okP at h
  simp only [Bool.and_eq_true, decide_eq_true_eq] at h
  exact ⟨h.1.1, h.1.2, h.2⟩
theorem okP_mk {p : Int × Int} (h : 0 ≤ p.1 ∧ 0 ≤ p.2 ∧ isCold p.1 p.2 = true) : okP p = true := by
  unfold okP
  simp only [Bool.and_eq_true, decide_eq_true_eq]
  exact ⟨⟨h.1, h.2.1⟩, h.2.2⟩
/-- The pairs to which a move that takes n in all leads. -/
def movL (a b n : Int) : List (Int × Int) := if n % 2 = 0 then [(a - n, b), (a, b - n), (a - n / 2, b - n / 2)] else [(a - n, b), (a, b - n)]
theorem movL_mem {a b n : Int} {p : Int × Int} (h : p ∈ movL a b n) : p = (a - n, b) ∨ p = (a, b - n) ∨ (n % 2 = 0 ∧ p = (a - n / 2, b - n / 2)) := by
  unfold movL at h
  by_cases e : n % 2 = 0
  · rw [if_pos e] at h
    simp only [List.mem_cons, List.not_mem_nil, or_false] at h
    rcases h with h | h | h
    · exact .inl h
    · exact .inr (.inl h)
    · exact .inr (.inr ⟨e, h⟩)
  · rw [if_neg e] at h
    simp only [List.mem_cons, List.not_mem_nil, or_false] at h
    rcases h with h | h
    · exact .inl h
    · exact .inr (.inl h)
theorem reach_mk {a b : Int} {p : Int × Int} (h : p ∈ cands a b) (h1 : p.1 ≤ a) (h2 : p.2 ≤ b) : p ∈ reach a b := by
  unfold reach keepL
  refine List.mem_filter.2 ⟨h, ?_⟩
  unfold tooL
  simp; omega
theorem movL_ok {a b n : Int} {p : Int × Int} (h : isHp a b = true) (hn : 1 ≤ n) (hp : p ∈ movL a b n) (hk : okP p = true) : p ∈ reach a b ∧ (a - p.1) + (b - p.2) = n := by
  obtain ⟨a0, a1, b0, b1⟩ := isHp_yes h
  obtain ⟨k0, k1, k2⟩ := okP_yes hk
  rcases movL_mem hp with rfl | rfl | ⟨he, rfl⟩
  · have k0' : 0 ≤ a - n := k0
    have k2' : isCold (a - n) b = true := k2
    obtain ⟨c1, -, c3, c4⟩ := pt_cold b0 b1
    have e := cold_uniq b0 (by omega) k0' (by omega) c3 (by omega) (isCold_sym k2') c1
    refine ⟨reach_mk (by unfold cands; rw [e]; simp) (by show a - n ≤ a; omega) (Int.le_refl _), ?_⟩
    show a - (a - n) + (b - b) = n
    omega
  · have k1' : 0 ≤ b - n := k1
    have k2' : isCold a (b - n) = true := k2
    obtain ⟨c1, -, c3, c4⟩ := pt_cold a0 a1
    have e := cold_uniq a0 (by omega) k1' (by omega) c3 (by omega) k2' c1
    refine ⟨reach_mk (by unfold cands; rw [e]; simp) (Int.le_refl _) (by show b - n ≤ b; omega), ?_⟩
    show a - a + (b - (b - n)) = n
    omega
  · have k2' : isCold (a - n / 2) (b - n / 2) = true := k2
    unfold isCold at k2'
    rw [show b - n / 2 - (a - n / 2) = b - a by omega, Bool.and_eq_true, beq_iff_eq, beq_iff_eq] at k2'
    refine ⟨reach_mk (by unfold cands; rw [k2'.1, k2'.2]; simp) (by show a - n / 2 ≤ a; omega) (by show b - n / 2 ≤ b; omega), ?_⟩
    show a - (a - n / 2) + (b - (b - n / 2)) = n
    omega
/-- How many the best move takes. -/
def takes (a b : Int) : Int := (a - (bestF a b).1) + (b - (bestF a b).2)
theorem best_movL {a b : Int} (h : isHp a b = true) (hw : isCold a b = false) : bestF a b ∈ movL a b (takes a b) ∧ okP (bestF a b) = true ∧ 1 ≤ takes a b ∧ takes a b ≤ 2000000 := by
  obtain ⟨a0, a1, b0, b1⟩ := isHp_yes h
  obtain ⟨m0, m1, m2, m3, m4, m5, m6⟩ := best_move h hw
  refine ⟨?_, okP_mk ⟨m0, m2, m4⟩, by unfold takes; omega, by unfold takes; omega⟩
  unfold takes
  obtain ⟨X, hX⟩ : ∃ X, bestF a b = X := ⟨_, rfl⟩
  rw [hX] at m0 m1 m2 m3 m4 m5 m6 ⊢
  obtain ⟨x, y⟩ := X
  simp only at m0 m1 m2 m3 m4 m5 m6 ⊢
  unfold movL
  rcases m6 with h6 | h6 | h6
  · have e1 : x = a := by omega
    have e2 : b - (a - x + (b - y)) = y := by omega
    split <;> simp [e1, e2] <;> omega
  · have e1 : y = b := by omega
    have e2 : a - (a - x + (b - y)) = x := by omega
    split <;> simp [e1, e2] <;> omega
  · have e0 : (a - x + (b - y)) % 2 = 0 := by omega
    have e1 : a - (a - x + (b - y)) / 2 = x := by omega
    have e2 : b - (a - x + (b - y)) / 2 = y := by omega
    rw [if_pos e0, e1, e2]
    simp
theorem none_before {a b n : Int} {p : Int × Int} (h : isHp a b = true) (hn : 1 ≤ n) (hl : n < takes a b) (hp : p ∈ movL a b n) : okP p = false := by
  rw [← Bool.not_eq_true]
  intro hk
  obtain ⟨h1, h2⟩ := movL_ok h hn hp hk
  have := (best_least h1).1
  unfold takes at hl
  omega
theorem best_at {a b : Int} {p : Int × Int} (h : isHp a b = true) (hn : 1 ≤ takes a b) (hp : p ∈ movL a b (takes a b)) (hk : okP p = true) : (bestF a b).1 ≤ p.1 ∧ (p.1 = (bestF a b).1 → p = bestF a b) := by
  obtain ⟨h1, h2⟩ := movL_ok h hn hp hk
  have h3 := best_least h1
  unfold takes at h2
  refine ⟨h3.2 (by omega), fun e => ?_⟩
  obtain ⟨x, y⟩ := p
  obtain ⟨X, hX⟩ : ∃ X, bestF a b = X := ⟨_, rfl⟩
  rw [hX] at h2 e h3 ⊢
  obtain ⟨u, v⟩ := X
  simp only at h2 e h3 ⊢
  subst e
  congr 1
  omega

/-- What the scan of a list has found behind k of its pairs. -/
def pk (L : List (Int × Int)) : Nat → Bool × (Int × Int)
  | 0 => (false, (0, 0))
  | k + 1 => if okP (nth2 L k) = true ∧ ((pk L k).1 = false ∨ (nth2 L k).1 < (pk L k).2.1) then (true, nth2 L k) else pk L k
theorem pk_none {L : List (Int × Int)} (h : ∀ p ∈ L, okP p = false) : ∀ k, k ≤ L.length → pk L k = (false, (0, 0))
  | 0, _ => rfl
  | k + 1, hk => by
    have ih := pk_none h k (by omega)
    have := h _ (nth2_mem (show k < L.length by omega))
    unfold pk
    rw [if_neg (fun hh => by rw [this] at hh; exact absurd hh.1 (by simp)), ih]
theorem pk_inv (L : List (Int × Int)) : ∀ k, k ≤ L.length → ((pk L k).1 = true → okP (pk L k).2 = true ∧ (pk L k).2 ∈ L) ∧ (∀ j, j < k → okP (nth2 L j) = true → (pk L k).1 = true ∧ (pk L k).2.1 ≤ (nth2 L j).1)
  | 0, _ => ⟨fun h => absurd h (by simp [pk]), fun j hj => by omega⟩
  | k + 1, hk => by
    obtain ⟨i1, i2⟩ := pk_inv L k (by omega)
    have e : pk L (k + 1) = if okP (nth2 L k) = true ∧ ((pk L k).1 = false ∨ (nth2 L k).1 < (pk L k).2.1) then (true, nth2 L k) else pk L k := rfl
    rw [e]
    by_cases hc : okP (nth2 L k) = true ∧ ((pk L k).1 = false ∨ (nth2 L k).1 < (pk L k).2.1)
    · rw [if_pos hc]
      refine ⟨fun _ => ⟨hc.1, nth2_mem (by omega)⟩, fun j hj hok => ⟨rfl, ?_⟩⟩
      by_cases hjk : j = k
      · subst hjk; exact Int.le_refl _
      · obtain ⟨g1, g2⟩ := i2 j (by omega) hok
        rcases hc.2 with hf | hl
        · rw [g1] at hf; exact absurd hf (by simp)
        · show (nth2 L k).1 ≤ _
          omega
    · rw [if_neg hc]
      refine ⟨i1, fun j hj hok => ?_⟩
      by_cases hjk : j = k
      · subst hjk
        have hc' : ¬ ((pk L j).1 = false ∨ (nth2 L j).1 < (pk L j).2.1) := fun h => hc ⟨hok, h⟩
        have h1 : (pk L j).1 = true := by
          rw [← Bool.not_eq_false]
          exact fun h => hc' (.inl h)
        exact ⟨h1, by
          have : ¬ (nth2 L j).1 < (pk L j).2.1 := fun h => hc' (.inr h)
          omega⟩
      · exact i2 j (by omega) hok
theorem pk_best {L : List (Int × Int)} {m : Int × Int} (hm : m ∈ L) (hok : okP m = true) (hall : ∀ p ∈ L, okP p = true → m.1 ≤ p.1 ∧ (p.1 = m.1 → p = m)) : pk L L.length = (true, m) := by
  obtain ⟨i1, i2⟩ := pk_inv L L.length (Nat.le_refl _)
  obtain ⟨j, hj, e⟩ := mem_nth2 hm
  obtain ⟨g1, g2⟩ := i2 j hj (by rw [e]; exact hok)
  obtain ⟨f1, f2⟩ := i1 g1
  obtain ⟨q1, q2⟩ := hall _ f2 f1
  rw [e] at g2
  have := q2 (by omega)
  rw [← this, ← g1]
theorem pk_skip {L : List (Int × Int)} {k : Nat} (h : okP (nth2 L k) = false) : pk L (k + 1) = pk L k := by
  have e : pk L (k + 1) = if okP (nth2 L k) = true ∧ ((pk L k).1 = false ∨ (nth2 L k).1 < (pk L k).2.1) then (true, nth2 L k) else pk L k := rfl
  rw [e, if_neg (fun hh => by rw [h] at hh; exact absurd hh.1 (by simp))]
theorem pk_take {L : List (Int × Int)} {k : Nat} (h : okP (nth2 L k) = true) (h2 : (pk L k).1 = false ∨ (nth2 L k).1 < (pk L k).2.1) : pk L (k + 1) = (true, nth2 L k) := by
  have e : pk L (k + 1) = if okP (nth2 L k) = true ∧ ((pk L k).1 = false ∨ (nth2 L k).1 < (pk L k).2.1) then (true, nth2 L k) else pk L k := rfl
  rw [e, if_pos ⟨h, h2⟩]
theorem pk_leave {L : List (Int × Int)} {k : Nat} (h1 : (pk L k).1 = true) (h2 : ¬ (nth2 L k).1 < (pk L k).2.1) : pk L (k + 1) = pk L k := by
  have e : pk L (k + 1) = if okP (nth2 L k) = true ∧ ((pk L k).1 = false ∨ (nth2 L k).1 < (pk L k).2.1) then (true, nth2 L k) else pk L k := rfl
  rw [e, if_neg]
  rintro ⟨-, h | h⟩
  · rw [h1] at h; exact absurd h (by simp)
  · exact h2 h
theorem movL_len {a b n : Int} : (movL a b n).length = if n % 2 = 0 then 3 else 2 := by
  unfold movL
  split <;> rfl
theorem movL_bd {a b n : Int} {p : Int × Int} (hn : 1 ≤ n) (hp : p ∈ movL a b n) : p.1 ≤ a ∧ p.2 ≤ b := by
  rcases movL_mem hp with rfl | rfl | ⟨-, rfl⟩
  · exact ⟨by show a - n ≤ a; omega, Int.le_refl _⟩
  · exact ⟨Int.le_refl _, by show b - n ≤ b; omega⟩
  · exact ⟨by show a - n / 2 ≤ a; omega, by show b - n / 2 ≤ b; omega⟩
end Go.Proofs.Ytbdabpmpfciibaa
