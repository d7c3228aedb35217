/- The walk of the law LiftSquares. Condition: the slice lies in memory. -/
import Derived.Test.YtjlaclbgfidiiaaSq
import Derived.Test.YtjlaclbgfidiiaaLawOnly
namespace Go.Proofs.Ytjlaclbgfidiiaa
open Go.RowKit
attribute [local go_sem] Oper.semAt_some

theorem two_len {l : List Int} {X Y : Int} (hp : l.Pairwise (· < ·)) (hne : X ≠ Y) (h : ∀ z, z ∈ l ↔ z = X ∨ z = Y) : l.length = 2 := by
  match l, hp, h with
  | [], _, h => exact absurd ((h X).2 (.inl rfl)) (by simp)
  | [z], _, h =>
    have h1 := (h X).2 (.inl rfl)
    have h2 := (h Y).2 (.inr rfl)
    simp at h1 h2
    omega
  | [_, _], _, _ => rfl
  | x :: y :: z :: t, hp, h =>
    have h1 := (h x).1 (by simp)
    have h2 := (h y).1 (by simp)
    have h3 := (h z).1 (by simp)
    rw [List.pairwise_cons] at hp
    have g1 := hp.1 y (by simp)
    have g2 := hp.1 z (by simp)
    have hp2 := hp.2
    rw [List.pairwise_cons] at hp2
    have g3 := hp2.1 z (by simp)
    omega
theorem sq_dev (a x : Int) : dev [-a, 0, 1] x = 2 * x := by simp only [dev, ev]; grind
theorem pow_dvd_self {q k : Nat} (hk : 1 ≤ k) : (q : Int) ∣ ((q ^ k : Nat) : Int) := by
  obtain ⟨i, rfl⟩ : ∃ i, k = i + 1 := ⟨k - 1, by omega⟩
  exact ⟨((q ^ i : Nat) : Int), by rw [← Int.natCast_mul, Nat.pow_succ, Nat.mul_comm]⟩
theorem sq_neg {a x m : Int} (hm : 0 < m) (h : m ∣ x * x - a) : m ∣ ((m - x) % m) * ((m - x) % m) - a := by
  have h1 := emod_sub_dvd (m - x) m
  have h2 := ev_dvd [-a, 0, 1] h1
  rw [sq_ev, sq_ev] at h2
  have h3 : m ∣ (m - x) * (m - x) - a := by
    have : (m - x) * (m - x) - a = m * (m - 2 * x) + (x * x - a) := by grind
    rw [this]
    exact Int.dvd_add ⟨_, rfl⟩ h
  have h4 := Int.dvd_add h2 h3
  rwa [show ∀ u v z : Int, u - z - (v - z) + (v - z) = u - z from fun u v z => by omega] at h4
theorem sq_mem {a x : Int} {m : Nat} : x ∈ rts [-a, 0, 1] m ↔ 0 ≤ x ∧ x < (m : Int) ∧ (m : Int) ∣ x * x - a := by
  rw [mem_rts, sq_ev]
  exact ⟨fun h => ⟨h.1, h.2.1, Int.dvd_of_emod_eq_zero h.2.2⟩, fun h => ⟨h.1, h.2.1, Int.emod_eq_zero_of_dvd h.2.2⟩⟩
theorem sq_none {q k : Nat} {a : Int} (q2 : 2 ≤ q) (hk : 1 ≤ k) (h : ∀ r : Int, 0 ≤ r → r < (q : Int) → ¬ (q : Int) ∣ r * r - a) : (rts [-a, 0, 1] (q ^ k)).length = 0 := by
  rw [List.length_eq_zero_iff, List.eq_nil_iff_forall_not_mem]
  intro x hx
  obtain ⟨x0, x1, hd⟩ := sq_mem.1 hx
  apply h (x % (q : Int)) (Int.emod_nonneg _ (by omega)) (Int.emod_lt_of_pos _ (by omega))
  have h1 := ev_dvd [-a, 0, 1] (emod_sub_dvd x (q : Int))
  rw [sq_ev, sq_ev] at h1
  have h2 := Int.dvd_add h1 (Int.dvd_trans (pow_dvd_self hk) hd)
  rwa [show ∀ u v z : Int, u - z - (v - z) + (v - z) = u - z from fun u v z => by omega] at h2
theorem sq_two {q k : Nat} {a r : Int} (hq : q ∈ [2, 3, 5, 7, 11, 13]) (h3 : 2 < q) (hk : 1 ≤ k) (ha : ¬ (q : Int) ∣ a) (r0 : 0 ≤ r) (r1 : r < (q : Int)) (hr : (q : Int) ∣ r * r - a) : (rts [-a, 0, 1] (q ^ k)).length = 2 := by
  have hb := pr_bounds hq
  have hM := pow_pos_of hb.1 k
  have hqM : (q : Int) ∣ ((q ^ k : Nat) : Int) := pow_dvd_self hk
  have hqr : ¬ (q : Int) ∣ r := fun h => ha (by
    have := Int.dvd_sub (Int.dvd_mul_of_dvd_left h (c := r)) hr
    rwa [show ∀ u v : Int, u - (u - v) = v from fun u v => by omega] at this)
  have hq2 : ¬ (q : Int) ∣ 2 := fun h => by have := Int.le_of_dvd (by omega) h; omega
  have hd : ∀ s : Int, ¬ (q : Int) ∣ s → ¬ (q : Int) ∣ dev [-a, 0, 1] s := fun s hs h => by
    rw [sq_dev] at h
    rcases euclid hq h with h | h
    · exact hq2 h
    · exact hs h
  have er : (q : Int) ∣ ev [-a, 0, 1] r := by rw [sq_ev]; exact hr
  obtain ⟨X, hX⟩ := LRes_ex hq er (hd r hqr) hk r0 r1
  have hXd : ((q ^ k : Nat) : Int) ∣ X * X - a := by have := Int.dvd_of_emod_eq_zero hX.e; rwa [sq_ev] at this
  have X0 := hX.x0
  have X1 := hX.x1
  have hXr := hX.r
  have hXq : (q : Int) ∣ X - r := by have := emod_sub_dvd X (q : Int); rw [hXr] at this; obtain ⟨s, hs⟩ := this; exact ⟨-s, by rw [Int.mul_neg]; omega⟩
  have hXn : ¬ (q : Int) ∣ X := fun h => hqr (by have := Int.dvd_sub h hXq; rwa [show X - (X - r) = r by omega] at this)
  have hXp : X ≠ 0 := fun e => hXn (by rw [e]; exact ⟨0, by simp⟩)
  have eY : (((q ^ k : Nat) : Int) - X) % ((q ^ k : Nat) : Int) = ((q ^ k : Nat) : Int) - X := Int.emod_eq_of_lt (by omega) (by omega)
  have hYd := sq_neg (by omega) hXd
  rw [eY] at hYd
  have hne : X ≠ ((q ^ k : Nat) : Int) - X := fun e => by
    have h2 : (q : Int) ∣ 2 * X := by rw [show 2 * X = ((q ^ k : Nat) : Int) by omega]; exact hqM
    rcases euclid hq h2 with h | h
    · exact hq2 h
    · exact hXn h
  refine two_len (rts_pair _ _) hne fun z => ?_
  rw [sq_mem]
  constructor
  · rintro ⟨z0, z1, hz⟩
    have hzq : (q : Int) ∣ (z - r) * (z + r) := by
      have := Int.dvd_sub (Int.dvd_trans hqM hz) hr
      rwa [show z * z - a - (r * r - a) = (z - r) * (z + r) by grind] at this
    rcases euclid hq hzq with h | h
    · left
      refine LRes.uniq hq (hd r hqr) (h1 := ⟨z0, z1, by rw [dvd_emod h, Int.emod_eq_of_lt r0 r1], Int.emod_eq_zero_of_dvd (by rw [sq_ev]; exact hz)⟩) hX
    · right
      have h' : (q : Int) ∣ z - (-r) := by rwa [show z - (-r) = z + r by omega]
      have hr2 : ¬ (q : Int) ∣ (-r) % (q : Int) := fun h => by
        have := Int.dvd_sub h (emod_sub_dvd (-r) (q : Int))
        rw [show ∀ u v : Int, u - (u - v) = v from fun u v => by omega] at this
        obtain ⟨s, hs⟩ := this
        exact hqr ⟨-s, by rw [Int.mul_neg]; omega⟩
      have hYq : (q : Int) ∣ ((q ^ k : Nat) : Int) - X - (-r) := by
        have := Int.dvd_sub hqM hXq
        rwa [show ∀ u v : Int, u - (v - r) = u - v - (-r) from fun u v => by omega] at this
      exact LRes.uniq hq (hd _ hr2) (h1 := ⟨z0, z1, dvd_emod h', Int.emod_eq_zero_of_dvd (by rw [sq_ev]; exact hz)⟩)
        ⟨by omega, by omega, dvd_emod hYq, Int.emod_eq_zero_of_dvd (by rw [sq_ev]; exact hYd)⟩
  · rintro (rfl | rfl)
    · exact ⟨X0, X1, hXd⟩
    · exact ⟨by omega, by omega, hYd⟩
theorem sq_lens {q k : Nat} {a : Int} (hq : q ∈ [2, 3, 5, 7, 11, 13]) (h3 : 2 < q) (hk : 1 ≤ k) (ha : ¬ (q : Int) ∣ a) :
    (rts [-a, 0, 1] (q ^ k)).length = (rts [-a, 0, 1] (q ^ 1)).length ∧ ((rts [-a, 0, 1] (q ^ k)).length = 0 ∨ (rts [-a, 0, 1] (q ^ k)).length = 2) := by
  by_cases h : ∃ r : Int, 0 ≤ r ∧ r < (q : Int) ∧ (q : Int) ∣ r * r - a
  · obtain ⟨r, r0, r1, hr⟩ := h
    rw [sq_two hq h3 hk ha r0 r1 hr, sq_two hq h3 (Nat.le_refl 1) ha r0 r1 hr]
    exact ⟨rfl, .inr rfl⟩
  · have h' : ∀ r : Int, 0 ≤ r → r < (q : Int) → ¬ (q : Int) ∣ r * r - a := fun r a b c => h ⟨r, a, b, c⟩
    rw [sq_none (pr_bounds hq).1 hk h', sq_none (pr_bounds hq).1 (Nat.le_refl 1) h']
    exact ⟨rfl, .inl rfl⟩
theorem rts_down {f : List Int} {q j : Nat} {x : Int} (q2 : 2 ≤ q) (hx : x ∈ rts f (q ^ (j + 1))) : x % ((q ^ j : Nat) : Int) ∈ rts f (q ^ j) := by
  obtain ⟨x0, x1, he⟩ := mem_rts.1 hx
  have hM := pow_pos_of q2 j
  refine mem_rts.2 ⟨Int.emod_nonneg _ (by omega), Int.emod_lt_of_pos _ (by omega), ?_⟩
  have h1 := ev_dvd f (emod_sub_dvd x ((q ^ j : Nat) : Int))
  have h3 : ((q ^ j : Nat) : Int) ∣ ev f x := Int.dvd_trans ⟨(q : Int), by rw [← Int.natCast_mul, Nat.pow_succ]⟩ (Int.dvd_of_emod_eq_zero he)
  have h4 := Int.dvd_add h1 h3
  rw [show ∀ a b : Int, a - b + b = a from fun a b => by omega] at h4
  exact Int.emod_eq_zero_of_dvd h4
end Go.Proofs.Ytjlaclbgfidiiaa
