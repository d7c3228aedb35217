/- The mathematics of CoversSums, CoversApart and CoversMoves, plainly. No condition. -/
import Derived.Test.YtanhjgneaaenpaaMath
import Derived.Test.YtanhjgneaaenpaaMeet
namespace Go.Proofs.Ytanhjgneaaenpaa

theorem take12_yes {xs : List (Int × Int)} (h : isS xs = true) : xs.take 12 = xs := by
  have := (isS_spec.1 h).len2
  exact List.take_of_length_le (by omega)
theorem take12_no {xs : List (Int × Int)} (h : isS xs = false) : isS (xs.take 12) = false := by
  by_cases hl : xs.length ≤ 12
  · rw [List.take_of_length_le hl]; exact h
  · cases e : isS (xs.take 12) with
    | false => rfl
    | true =>
      have := (isS_spec.1 e).len2
      rw [List.length_take] at this
      omega

theorem cv_mod {n : Nat} {a m : Int} (ha : 0 ≤ a) (hm : a < m) : cvB (n : Int) (a, m) = decide (n % m.toNat = a.toNat) := by
  obtain ⟨b, rfl⟩ := Int.eq_ofNat_of_zero_le ha
  obtain ⟨k, rfl⟩ := Int.eq_ofNat_of_zero_le (show 0 ≤ m by omega)
  unfold cvB
  rw [decide_eq_decide]
  simp only [Int.toNat_natCast]
  have hbk : b < k := by omega
  constructor
  · rintro ⟨c, hc⟩
    have h1 : (n : Int) % (k : Int) = (b : Int) := by
      rw [show (n : Int) = (b : Int) + (k : Int) * c by omega, Int.add_mul_emod_self_left, Int.emod_eq_of_lt (by omega) (by omega)]
    have h2 : ((n % k : Nat) : Int) = (b : Int) := by rw [Int.natCast_emod]; exact h1
    omega
  · intro h
    refine ⟨((n / k : Nat) : Int), ?_⟩
    have := Nat.div_add_mod n k
    rw [h] at this
    have h3 : ((k * (n / k) + b : Nat) : Int) = (n : Int) := by rw [this]
    rw [← Int.natCast_mul]
    omega

/-- The sum of all W / m. -/
def sumW (W : Nat) : List (Int × Int) → Nat
  | [] => 0
  | p :: t => sumW W t + W / p.2.toNat
theorem sumW_app (W : Nat) : ∀ (A B : List (Int × Int)), sumW W (A ++ B) = sumW W A + sumW W B
  | [], B => by simp [sumW]
  | p :: t, B => by simp only [List.cons_append, sumW]; rw [sumW_app W t B]; omega
theorem sumW_take {W : Nat} {L : List (Int × Int)} {k : Nat} (h : k < L.length) : sumW W (L.take (k + 1)) = sumW W (L.take k) + W / (nth L k).2.toNat := by
  rw [take_succ2 h, sumW_app]; simp [sumW]
theorem sumW_le (W : Nat) : ∀ L : List (Int × Int), sumW W L ≤ W * L.length
  | [] => Nat.zero_le _
  | p :: t => by
    have h1 := sumW_le W t
    have h2 := Nat.div_le_self W p.2.toNat
    simp only [sumW, List.length_cons, Nat.mul_succ]
    omega
theorem sum_tm {W : Nat} : ∀ {L : List (Int × Int)}, (∀ p ∈ L, 0 ≤ p.1 ∧ p.1 < p.2 ∧ p.2.toNat ∣ W) → sumN (fun (n : Nat) => tm n L) W = sumW W L
  | [], _ => by
    have : ∀ k, sumN (fun (_ : Nat) => 0) k = 0 := fun k => by
      induction k with
      | zero => rfl
      | succ k ih => simp only [sumN]; rw [ih]
    exact this W
  | p :: t, h => by
    obtain ⟨a, m⟩ := p
    obtain ⟨h1, h2, c, h3⟩ := h (a, m) List.mem_cons_self
    simp only at h1 h2 h3
    have ih := sum_tm (L := t) (fun q hq => h q (List.mem_cons_of_mem _ hq))
    have e : sumN (fun (n : Nat) => tm n ((a, m) :: t)) W = sumN (fun (n : Nat) => tm n t + (if n % m.toNat = a.toNat then 1 else 0)) W := by
      refine sumN_congr fun n _ => ?_
      simp only [tm]
      rw [cv_mod h1 h2]
      simp
    rw [e, sumN_add, ih]
    simp only [sumW]
    congr 1
    subst h3
    rw [sumN_whole (by omega), Nat.mul_div_cancel_left _ (by omega)]
theorem Sys.sum {L : List (Int × Int)} (h : Sys L) : sumN (fun (n : Nat) => tm n L) (wl L) = sumW (wl L) L :=
  sum_tm fun p hp => ⟨(h.ok p hp).2.2.1, (h.ok p hp).2.2.2, wl_dvd hp⟩

theorem left4 {L : List (Int × Int)} : (leftF L).2 = 4 ↔ ∀ n, n < wl L → 1 ≤ tm n L := by
  unfold leftF
  rw [lst_four]
  constructor
  · intro h n hn
    have := h n (by omega) (by omega)
    simp at this
    omega
  · intro h n _ hn
    have := h n (by omega)
    simp
    omega
theorem twice4 {L : List (Int × Int)} : (twiceF L).2 = 4 ↔ ∀ n, n < wl L → tm n L ≤ 1 := by
  unfold twiceF
  rw [lst_four]
  constructor
  · intro h n hn
    have := h n (by omega) (by omega)
    simp at this
    omega
  · intro h n _ hn
    have := h n (by omega)
    simp
    omega
theorem share1 {L : List (Int × Int)} (h : Sys L) : (numF L = 1 ∧ denF L = 1) ↔ (leftF L).2 = 4 := by
  have e : (leftF L).2 = 4 ↔ covF L (wl L) = wl L := by
    rw [left4, covF, cnt_all]
    constructor
    · intro g n hn; have := g n hn; simp; omega
    · intro g n hn; have := g n hn; simp at this; omega
  rw [e]
  unfold numF denF
  have hw := h.wl1
  have hg := Nat.gcd_pos_of_pos_right (covF L (wl L)) hw
  have d1 := Nat.gcd_dvd_left (covF L (wl L)) (wl L)
  have d2 := Nat.gcd_dvd_right (covF L (wl L)) (wl L)
  constructor
  · rintro ⟨h1, h2⟩
    have h1' : covF L (wl L) / Nat.gcd (covF L (wl L)) (wl L) = 1 := by omega
    have h2' : wl L / Nat.gcd (covF L (wl L)) (wl L) = 1 := by omega
    have k1 := Nat.div_mul_cancel d1
    have k2 := Nat.div_mul_cancel d2
    rw [h1'] at k1
    rw [h2'] at k2
    omega
  · intro h1
    rw [h1, Nat.gcd_self, Nat.div_self hw]
    exact ⟨rfl, rfl⟩
/-- CoversSums: what the law asks of a system. -/
theorem sums_yes {L : List (Int × Int)} (h : Sys L) (h4 : (leftF L).2 = 4) : wl L ≤ sumW (wl L) L ∧ (sumW (wl L) L = wl L ↔ (twiceF L).2 = 4) := by
  rw [← h.sum]
  have h1 := left4.1 h4
  have hle : sumN (fun _ => 1) (wl L) ≤ sumN (fun (n : Nat) => tm n L) (wl L) := sumN_le fun t ht => h1 t ht
  rw [sumN_one] at hle
  refine ⟨hle, fun e => twice4.2 fun n hn => ?_, fun e => ?_⟩
  · have := sumN_eq (f := fun _ => 1) (g := fun (n : Nat) => tm n L) (k := wl L) (fun t ht => h1 t ht) (by rw [sumN_one, e]) n hn
    omega
  · have h2 := twice4.1 e
    have : sumN (fun (n : Nat) => tm n L) (wl L) = sumN (fun _ => 1) (wl L) := sumN_congr fun n hn => by have := h1 n hn; have := h2 n hn; omega
    rw [this, sumN_one]
theorem sums_no {L : List (Int × Int)} (h : Sys L) (h4 : (leftF L).2 ≠ 4) (ht : (twiceF L).2 ≠ 0) : sumW (wl L) L < wl L := by
  rw [← h.sum]
  have h2 : (twiceF L).2 = 4 := by
    rcases lst_or (fun n => decide (1 < tm n L)) (wl L) 0 with e | e
    · exact absurd e ht
    · exact e
  have h2 := twice4.1 h2
  have hle : sumN (fun (n : Nat) => tm n L) (wl L) ≤ sumN (fun _ => 1) (wl L) := sumN_le fun t ht => h2 t ht
  rw [sumN_one] at hle
  have hne : sumN (fun (n : Nat) => tm n L) (wl L) ≠ wl L := by
    intro e
    apply h4
    rw [left4]
    intro n hn
    have := sumN_eq (f := fun (n : Nat) => tm n L) (g := fun _ => 1) (k := wl L) (fun t ht => h2 t ht) (by rw [sumN_one, e]) n hn
    omega
  omega
theorem left_or (L : List (Int × Int)) : (leftF L).2 = 0 ∨ (leftF L).2 = 4 := lst_or _ _ _
theorem twice_or (L : List (Int × Int)) : (twiceF L).2 = 0 ∨ (twiceF L).2 = 4 := lst_or _ _ _
end Go.Proofs.Ytanhjgneaaenpaa
