/- The mathematics of CoversApart. No condition. -/
import Derived.Test.YtanhjgneaaenpaaGreat
namespace Go.Proofs.Ytanhjgneaaenpaa

/-- Do two pairs differ by no multiple of the greatest common factor of their moduli? -/
def apB (p q : Int × Int) : Bool := decide (¬ ((Nat.gcd p.2.toNat q.2.toNat : Nat) : Int) ∣ p.1 - q.1)
def apI (L : List (Int × Int)) (i k : Nat) : Bool := (List.range k).all fun t => apB (nth L i) (nth L t)
def apO (L : List (Int × Int)) (j : Nat) : Bool := (List.range j).all fun i => apI L i i
theorem apI_succ (L : List (Int × Int)) (i k : Nat) : apI L i (k + 1) = (apI L i k && apB (nth L i) (nth L k)) := by
  unfold apI
  rw [List.range_succ, List.all_append]; simp
theorem apO_succ (L : List (Int × Int)) (j : Nat) : apO L (j + 1) = (apO L j && apI L j j) := by
  unfold apO
  rw [List.range_succ, List.all_append]; simp
theorem apO_spec {L : List (Int × Int)} {j : Nat} : apO L j = true ↔ ∀ i, i < j → ∀ k, k < i → apB (nth L i) (nth L k) = true := by
  unfold apO apI
  simp only [List.all_eq_true, List.mem_range]

theorem apB_meet {p q : Int × Int} (hp : 1 ≤ p.2 ∧ p.2 ≤ 60 ∧ 0 ≤ p.1 ∧ p.1 < p.2) (hq : 1 ≤ q.2 ∧ q.2 ≤ 60 ∧ 0 ≤ q.1 ∧ q.1 < q.2) :
    apB p q = false ↔ ∃ n : Nat, cvB n p = true ∧ cvB n q = true := by
  obtain ⟨a, m⟩ := p
  obtain ⟨b, k⟩ := q
  simp only at hp hq
  have h := meet (a := a.toNat) (m := m.toNat) (b := b.toNat) (k := k.toNat) (by omega) (by omega) (by omega) (by omega) (by omega) (by omega)
  have e : apB (a, m) (b, k) = false ↔ a.toNat % Nat.gcd m.toNat k.toNat = b.toNat % Nat.gcd m.toNat k.toNat := by
    unfold apB
    simp only [decide_eq_false_iff_not, Decidable.not_not]
    obtain ⟨A, rfl⟩ := Int.eq_ofNat_of_zero_le hp.2.2.1
    obtain ⟨B, rfl⟩ := Int.eq_ofNat_of_zero_le hq.2.2.1
    simp only [Int.toNat_natCast]
    rw [← Int.emod_eq_emod_iff_emod_sub_eq_zero.trans (Int.dvd_iff_emod_eq_zero ..).symm]
    rw [← Int.natCast_emod, ← Int.natCast_emod]
    omega
  rw [e, ← h]
  constructor
  · rintro ⟨n, h1, h2⟩
    exact ⟨n, by rw [cv_mod hp.2.2.1 hp.2.2.2]; simpa using h1, by rw [cv_mod hq.2.2.1 hq.2.2.2]; simpa using h2⟩
  · rintro ⟨n, h1, h2⟩
    rw [cv_mod hp.2.2.1 hp.2.2.2] at h1
    rw [cv_mod hq.2.2.1 hq.2.2.2] at h2
    exact ⟨n, by simpa using h1, by simpa using h2⟩

/-- Two places that cover a number. -/
theorem tm_two {n : Int} : ∀ {L : List (Int × Int)}, 1 < tm n L → ∃ i k, k < i ∧ i < L.length ∧ cvB n (nth L i) = true ∧ cvB n (nth L k) = true
  | [], h => by simp [tm] at h
  | p :: t, h => by
    simp only [tm] at h
    by_cases hp : cvB n p = true
    · rw [if_pos hp] at h
      have h1 : 0 < tm n t := by omega
      have h2 : ∃ j, j < t.length ∧ cvB n (nth t j) = true := by
        clear h
        induction t with
        | nil => simp [tm] at h1
        | cons q t ih =>
          by_cases hq : cvB n q = true
          · exact ⟨0, by simp, hq⟩
          · simp only [tm] at h1
            rw [if_neg hq] at h1
            obtain ⟨j, h3, h4⟩ := ih h1
            exact ⟨j + 1, by simpa using h3, by simpa [nth] using h4⟩
      obtain ⟨j, h3, h4⟩ := h2
      exact ⟨j + 1, 0, by omega, by simpa using h3, by simpa [nth] using h4, hp⟩
    · rw [if_neg hp] at h
      obtain ⟨i, k, h1, h2, h3, h4⟩ := tm_two (L := t) h
      exact ⟨i + 1, k + 1, by omega, by simpa using h2, by simpa [nth] using h3, by simpa [nth] using h4⟩
theorem tm_one {n : Int} : ∀ {L : List (Int × Int)} {k : Nat}, k < L.length → cvB n (nth L k) = true → 0 < tm n L
  | p :: t, 0, _, h => by
    simp only [tm]
    have : cvB n p = true := h
    rw [if_pos this]; omega
  | p :: t, k + 1, hk, h => by
    have := tm_one (L := t) (k := k) (by simpa using hk) (by simpa [nth] using h)
    simp only [tm]; omega
theorem tm_two' {n : Int} : ∀ {L : List (Int × Int)} {i k : Nat}, k < i → i < L.length → cvB n (nth L i) = true → cvB n (nth L k) = true → 1 < tm n L
  | p :: t, i + 1, 0, _, hi, h1, h2 => by
    have := tm_one (L := t) (k := i) (by simpa using hi) (by simpa [nth] using h1)
    simp only [tm]
    have : cvB n p = true := h2
    rw [if_pos this]; omega
  | p :: t, i + 1, k + 1, hk, hi, h1, h2 => by
    have := tm_two' (L := t) (i := i) (k := k) (by omega) (by simpa using hi) (by simpa [nth] using h1) (by simpa [nth] using h2)
    simp only [tm]; omega
  | [], 0, _, hk, hi, _, _ => by omega
  | _ :: _, 0, _, hk, _, _, _ => by omega
theorem apart_twice {L : List (Int × Int)} (h : Sys L) : apO L L.length = true ↔ (twiceF L).2 = 4 := by
  rw [apO_spec, twice4]
  constructor
  · intro g n hn
    apply Classical.byContradiction
    intro hlt
    obtain ⟨i, k, h1, h2, h3, h4⟩ := tm_two (n := (n : Int)) (L := L) (by omega)
    have := g i h2 k h1
    have h5 := (apB_meet (h.nth h2) (h.nth (show k < L.length by omega))).2 ⟨n, h3, h4⟩
    rw [h5] at this; cases this
  · intro g i hi k hk
    cases e : apB (nth L i) (nth L k) with
    | true => rfl
    | false =>
      obtain ⟨n, h3, h4⟩ := (apB_meet (h.nth hi) (h.nth (show k < L.length by omega))).1 e
      have h5 := tm_two' hk hi h3 h4
      rw [← h.mod n] at h5
      have := g _ (Nat.mod_lt n h.wl1)
      omega
end Go.Proofs.Ytanhjgneaaenpaa
