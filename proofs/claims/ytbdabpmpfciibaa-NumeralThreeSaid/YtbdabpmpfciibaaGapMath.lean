/- Points on a circle, plainly: sorted, each with the distance to the next one. No condition beyond those stated. -/
import Derived.Test.YtbdabpmpfciibaaBools
namespace Go.Proofs.Ytbdabpmpfciibaa

/-- Whether a place is a point. -/
def tf (p m n x : Nat) : Bool := (List.range n).any fun i => i * p % m == x
def ptsN (p m n : Nat) : List Nat := (List.range n).map fun i => i * p % m
def nxF (T : Nat → Bool) : Nat → Nat → Nat
  | 0, y => y
  | k + 1, y => if T y = true then y else nxF T k (y + 1)
/-- The next point behind a place, or the length. -/
def nx (T : Nat → Bool) (m x : Nat) : Nat := nxF T (m - (x + 1)) (x + 1)
theorem nxF_spec (T : Nat → Bool) : ∀ k y, y ≤ nxF T k y ∧ nxF T k y ≤ y + k ∧ (∀ z, y ≤ z → z < nxF T k y → T z = false) ∧ (nxF T k y < y + k → T (nxF T k y) = true)
  | 0, y => ⟨Nat.le_refl _, Nat.le_refl _, fun z h1 h2 => by simp only [nxF] at h2; omega, fun h => by simp only [nxF] at h; omega⟩
  | k + 1, y => by
    unfold nxF
    by_cases h : T y = true
    · rw [if_pos h]
      exact ⟨Nat.le_refl _, by omega, fun z h1 h2 => by omega, fun _ => h⟩
    · rw [if_neg h]
      obtain ⟨a, b, c, d⟩ := nxF_spec T k (y + 1)
      refine ⟨by omega, by omega, fun z h1 h2 => ?_, fun h2 => d (by omega)⟩
      by_cases hz : z = y
      · subst hz; simpa using h
      · exact c z (by omega) h2
theorem nx_spec (T : Nat → Bool) {m x : Nat} (hx : x < m) : x < nx T m x ∧ nx T m x ≤ m ∧ (∀ z, x < z → z < nx T m x → T z = false) ∧ (nx T m x < m → T (nx T m x) = true) := by
  obtain ⟨a, b, c, d⟩ := nxF_spec T (m - (x + 1)) (x + 1)
  unfold nx
  exact ⟨by omega, by omega, fun z h1 h2 => c z (by omega) h2, fun h => d (by omega)⟩
def gapsOf : List Nat → Nat → List Nat
  | [], _ => []
  | [x], m => [m - x]
  | x :: y :: r, m => (y - x) :: gapsOf (y :: r) m
theorem filter_head (T : Nat → Bool) : ∀ k a, ((List.range' a k).filter T = [] → nxF T k a = a + k) ∧ (∀ y r, (List.range' a k).filter T = y :: r → nxF T k a = y)
  | 0, a => ⟨fun _ => rfl, fun y r h => by simp at h⟩
  | k + 1, a => by
    obtain ⟨h1, h2⟩ := filter_head T k (a + 1)
    rw [List.range'_succ, List.filter_cons]
    unfold nxF
    by_cases h : T a = true
    · rw [if_pos h, if_pos h]
      exact ⟨fun e => by simp at e, fun y r e => by injection e⟩
    · rw [if_neg h, if_neg h]
      exact ⟨fun e => by rw [h1 e]; omega, h2⟩
theorem gapsOf_filter (T : Nat → Bool) (m : Nat) : ∀ k a, a + k = m → gapsOf ((List.range' a k).filter T) m = ((List.range' a k).filter T).map fun x => nx T m x - x
  | 0, _, _ => rfl
  | k + 1, a, h => by
    have ih := gapsOf_filter T m k (a + 1) (by omega)
    obtain ⟨h1, h2⟩ := filter_head T k (a + 1)
    rw [List.range'_succ, List.filter_cons]
    by_cases ht : T a = true
    · rw [if_pos ht, List.map_cons]
      have en : nx T m a = nxF T k (a + 1) := by unfold nx; rw [show m - (a + 1) = k by omega]
      cases hr : (List.range' (a + 1) k).filter T with
      | nil =>
        have := h1 hr
        show [m - a] = (nx T m a - a) :: []
        rw [en, this, show a + 1 + k = m by omega]
      | cons y r =>
        have e := h2 y r hr
        rw [hr] at ih
        show (y - a) :: gapsOf (y :: r) m = _
        rw [ih, en, e]
    · rw [if_neg ht]
      exact ih
theorem gapsOf_len : ∀ (l : List Nat) (m : Nat), (gapsOf l m).length = l.length
  | [], _ => rfl
  | [_], _ => rfl
  | x :: y :: r, m => by
    have := gapsOf_len (y :: r) m
    show (gapsOf (y :: r) m).length + 1 = _
    rw [this]; rfl
theorem gapsOf_at : ∀ (l : List Nat) (m j : Nat), j < l.length → (gapsOf l m).getD j 0 = (l ++ [m]).getD (j + 1) 0 - (l ++ [m]).getD j 0
  | [], _, _, h => absurd h (by simp)
  | [x], m, j, h => by
    have : j = 0 := by simp at h; omega
    subst this
    rfl
  | x :: y :: r, m, 0, _ => rfl
  | x :: y :: r, m, j + 1, h => by
    have := gapsOf_at (y :: r) m j (by simpa using h)
    show (gapsOf (y :: r) m).getD j 0 = (y :: r ++ [m]).getD (j + 1) 0 - (y :: r ++ [m]).getD j 0
    exact this

/-- The points, rising. -/
def plN (p m n : Nat) : List Nat := (List.range' 0 m).filter (tf p m n)
theorem plN_lt {p m n x : Nat} (h : x ∈ plN p m n) : x < m ∧ tf p m n x = true := by
  unfold plN at h
  rw [List.mem_filter, List.mem_range'_1] at h
  exact ⟨by omega, h.2⟩
theorem plN_mem {p m n x : Nat} (h : x < m) (ht : tf p m n x = true) : x ∈ plN p m n := by
  unfold plN
  rw [List.mem_filter, List.mem_range'_1]
  exact ⟨by omega, ht⟩
theorem plN_rise (p m n : Nat) : (plN p m n).Pairwise (· < ·) := by
  unfold plN
  refine List.Pairwise.filter _ ?_
  exact List.pairwise_lt_range'
theorem tf_mem {p m n x : Nat} : tf p m n x = true ↔ x ∈ ptsN p m n := by
  unfold tf ptsN
  rw [List.any_eq_true, List.mem_map]
  constructor
  · rintro ⟨i, hi, e⟩; exact ⟨i, hi, by simpa using e⟩
  · rintro ⟨i, hi, e⟩; exact ⟨i, hi, by simpa using e⟩
theorem pts_inj {p m i j : Nat} (hc : Nat.gcd p m = 1) (hij : i < j) (hj : j < m) : i * p % m ≠ j * p % m := by
  intro h
  have h1 : (j * p - i * p) % m = 0 := Nat.sub_mod_eq_zero_of_mod_eq h.symm
  rw [← Nat.sub_mul] at h1
  have h2 : m ∣ (j - i) * p := Nat.dvd_of_mod_eq_zero h1
  have hcm : Nat.Coprime m p := by unfold Nat.Coprime; rw [Nat.gcd_comm]; exact hc
  have h3 : m ∣ j - i := Nat.Coprime.dvd_of_dvd_mul_right hcm h2
  have := Nat.le_of_dvd (by omega) h3
  omega
theorem ptsN_nodup {p m n : Nat} (hc : Nat.gcd p m = 1) (hn : n ≤ m) : (ptsN p m n).Nodup := by
  unfold ptsN List.Nodup
  rw [List.pairwise_map]
  refine (List.pairwise_lt_range (n := n)).imp_of_mem ?_
  intro a b ha hb hab
  exact pts_inj hc hab (by rw [List.mem_range] at hb; omega)
theorem ptsN_perm {p m n : Nat} (hc : Nat.gcd p m = 1) (hn : n ≤ m) (hm : 0 < m) : (ptsN p m n).Perm (plN p m n) := by
  refine (List.perm_ext_iff_of_nodup (ptsN_nodup hc hn) ((plN_rise p m n).imp (fun h => Nat.ne_of_lt h))).2 fun x => ?_
  constructor
  · intro h
    refine plN_mem ?_ (tf_mem.2 h)
    unfold ptsN at h
    rw [List.mem_map] at h
    obtain ⟨i, -, rfl⟩ := h
    exact Nat.mod_lt _ hm
  · intro h
    exact tf_mem.1 (plN_lt h).2
theorem plN_len {p m n : Nat} (hc : Nat.gcd p m = 1) (hn : n ≤ m) (hm : 0 < m) : (plN p m n).length = n := by
  rw [← (ptsN_perm hc hn hm).length_eq]
  unfold ptsN
  simp
def ptsI (p m n : Nat) : List Int := (ptsN p m n).map fun x : Nat => (x : Int)
def plI (p m n : Nat) : List Int := (plN p m n).map fun x : Nat => (x : Int)
theorem sorted_pts {p m n : Nat} (hc : Nat.gcd p m = 1) (hn : n ≤ m) (hm : 0 < m) : (ptsI p m n).mergeSort (fun x y : Int => decide (x ≤ y)) = plI p m n := by
  have h1 := List.pairwise_mergeSort (le := fun x y : Int => decide (x ≤ y)) (fun a b c h1 h2 => by simp at *; omega) (fun a b => by simp; omega) (ptsI p m n)
  have h2 : (plI p m n).Pairwise fun a b : Int => a ≤ b := by
    unfold plI
    rw [List.pairwise_map]
    exact (plN_rise p m n).imp (fun h => by omega)
  exact List.Perm.eq_of_pairwise (le := fun a b : Int => a ≤ b) (fun a b _ _ h1 h2 => by omega) (h1.imp fun h => by simpa using h) h2 ((List.mergeSort_perm _ _).trans ((ptsN_perm hc hn hm).map _))

/-- How often a distance occurs. -/
def cF (T : Nat → Bool) (m : Nat) (l : List Nat) (d : Nat) : Nat := l.countP fun x => nx T m x - x == d
theorem cF_snoc (T : Nat → Bool) (m : Nat) (l : List Nat) (x d : Nat) : cF T m (l ++ [x]) d = cF T m l d + if nx T m x - x = d then 1 else 0 := by
  unfold cF
  rw [List.countP_append]
  by_cases h : nx T m x - x = d <;> simp [h]
/-- Each distance that occurs, rising, and how often it does. -/
def canL (c : Nat → Nat) : Nat → List (Int × Int)
  | 0 => []
  | k + 1 => if 0 < c k then canL c k ++ [((k : Int), (c k : Int))] else canL c k
theorem canL_mem (c : Nat → Nat) : ∀ k (q : Int × Int), q ∈ canL c k ↔ ∃ d, d < k ∧ 0 < c d ∧ q = ((d : Int), (c d : Int))
  | 0, q => by simp [canL]
  | k + 1, q => by
    have ih := canL_mem c k q
    unfold canL
    by_cases h : 0 < c k
    · rw [if_pos h, List.mem_append, ih, List.mem_singleton]
      constructor
      · rintro (⟨d, h1, h2, h3⟩ | h3)
        · exact ⟨d, by omega, h2, h3⟩
        · exact ⟨k, by omega, h, h3⟩
      · rintro ⟨d, h1, h2, h3⟩
        by_cases hd : d = k
        · subst hd; exact .inr h3
        · exact .inl ⟨d, by omega, h2, h3⟩
    · rw [if_neg h, ih]
      constructor
      · rintro ⟨d, h1, h2, h3⟩; exact ⟨d, by omega, h2, h3⟩
      · rintro ⟨d, h1, h2, h3⟩
        have : d ≠ k := by intro e; subst e; omega
        exact ⟨d, by omega, h2, h3⟩
theorem canL_rise (c : Nat → Nat) : ∀ k, (canL c k).Pairwise fun a b => a.1 < b.1
  | 0 => List.Pairwise.nil
  | k + 1 => by
    have ih := canL_rise c k
    unfold canL
    by_cases h : 0 < c k
    · rw [if_pos h, List.pairwise_append]
      refine ⟨ih, List.pairwise_singleton _ _, fun a ha b hb => ?_⟩
      rw [List.mem_singleton] at hb
      subst hb
      obtain ⟨d, h1, -, rfl⟩ := (canL_mem c k a).1 ha
      show (d : Int) < (k : Int)
      omega
    · rw [if_neg h]; exact ih
theorem canL_len (c : Nat → Nat) : ∀ k, (canL c k).length ≤ k
  | 0 => Nat.le_refl _
  | k + 1 => by
    have ih := canL_len c k
    unfold canL
    split
    · simp; omega
    · omega
/-- Lists that rise and hold the same are one. -/
theorem rise_eq {l l' : List (Int × Int)} (h : l.Pairwise fun a b => a.1 < b.1) (h' : l'.Pairwise fun a b => a.1 < b.1) (hm : ∀ q, q ∈ l ↔ q ∈ l') : l = l' := by
  have n1 : l.Nodup := h.imp fun h e => by subst e; omega
  have n2 : l'.Nodup := h'.imp fun h e => by subst e; omega
  have hp := (List.perm_ext_iff_of_nodup n1 n2).2 hm
  exact List.Perm.eq_of_pairwise (le := fun a b : Int × Int => a.1 < b.1) (fun a b _ _ h1 h2 => by omega) h h' hp
end Go.Proofs.Ytbdabpmpfciibaa
