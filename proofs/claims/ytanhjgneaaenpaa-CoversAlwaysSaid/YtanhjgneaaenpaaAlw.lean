/- What the law CoversAlways rests on. -/
import Derived.Test.YtanhjgneaaenpaaLawDays
namespace Go.Proofs.Ytanhjgneaaenpaa
open Go.RowKit

theorem day_step {k j i : Nat} {xs : List Int} (hp : isPs xs = true) (hj : j < xs.length) : decide (0 < tm (i : Int) (dyL k (xs.take (j + 1)))) = (decide (0 < tm (i : Int) (dyL k (xs.take j))) || hit k (xs.getD j 0).toNat i) := by
  rw [dyL_take hj, tm_app]
  obtain ⟨p1, p2, p3⟩ := isPs_at hp hj
  have hodd := pr_odd (p := (xs.getD j 0).toNat) (by omega) p3
  cases hb : dayB k (xs.getD j 0).toNat with
  | true =>
    rw [if_pos rfl, ← day_some (by omega) (by omega) hodd (dayB_some hb) i, Bool.eq_iff_iff, decide_eq_true_iff, Bool.or_eq_true, decide_eq_true_iff]
    by_cases e : cvB (i : Int) (dayP k (xs.getD j 0).toNat) = true
    · have e1 : tm (i : Int) [dayP k (xs.getD j 0).toNat] = 1 := by simp only [tm]; rw [if_pos e]
      rw [e1]; exact ⟨fun _ => .inr e, fun _ => by omega⟩
    · have e1 : tm (i : Int) [dayP k (xs.getD j 0).toNat] = 0 := by simp only [tm]; rw [if_neg e]
      rw [e1]; exact ⟨fun h => .inl (by omega), fun h => h.elim (fun h => by omega) fun h => absurd h e⟩
  | false =>
    rw [if_neg (by decide), day_none (by omega) (by omega) hodd (dayB_none hb) i, Bool.eq_iff_iff, decide_eq_true_iff, Bool.or_eq_true, decide_eq_true_iff]
    simp only [tm, Bool.false_eq_true, or_false]; omega

theorem alw_facts {k : Nat} {xs : List Int} (hp : isPs xs = true) (hd : daysB k xs = false) {r1 r2 : Int} (hr : alwF k xs = (r1, r2)) :
    (r2 = 0 ∧ 1 ≤ r1 ∧ r1 ≤ 10080 ∨ r2 = 4 ∧ r1 = 0 ∧ (dyL k xs).length ≠ 0) ∧ (leftF (dyL k xs)).2 = r2 ∧
      ∀ i : Nat, 1 ≤ i → (r2 = 4 ∨ (i : Int) ≤ r1) → decide (0 < tm (i : Int) (dyL k xs)) = (decide (r2 = 4) || decide ((i : Int) < r1)) := by
  obtain ⟨hok, hwl, hlen⟩ := dyL_all hp hd
  have hwp := wl_pos (L := dyL k xs) fun p hp => (hok p hp).1
  unfold alwF at hr
  obtain ⟨L, hL⟩ : ∃ L, dyL k xs = L := ⟨_, rfl⟩
  rw [hL] at hok hwl hlen hwp hr ⊢
  have hmod : ∀ n : Nat, tm ((n % wl L : Nat) : Int) L = tm (n : Int) L := fun n => tm_mod fun p hp => ⟨(hok p hp).2.2.1, (hok p hp).2.2.2, wl_dvd hp⟩
  rcases lst_spec (fun d => decide (tm (d : Int) L = 0)) (wl L) 1 with ⟨d, h1, h2, h3, h4, h5⟩ | ⟨h1, h2⟩
  · rw [h5] at hr
    obtain ⟨rfl, rfl⟩ := Prod.mk.inj hr
    have h3' := of_decide_eq_true h3
    refine ⟨.inl ⟨rfl, by omega, by omega⟩, ?_, ?_⟩
    · rcases lst_or (fun d => decide (tm (d : Int) L = 0)) (wl L) 0 with e | e
      · exact e
      · have := left4.1 e (d % wl L) (Nat.mod_lt _ (by omega))
        rw [hmod] at this
        omega
    · intro i hi hle
      have hle' : i ≤ d := by omega
      by_cases e : i = d
      · subst e
        rw [h3']
        simp
      · have := of_decide_eq_false (h4 i hi (by omega))
        rw [decide_eq_true (show 0 < tm (i : Int) L by omega), decide_eq_true (show (i : Int) < (d : Int) by omega), Bool.or_true]
  · rw [h2] at hr
    obtain ⟨rfl, rfl⟩ := Prod.mk.inj hr
    have ha : ∀ n : Nat, 1 ≤ tm (n : Int) L := by
      intro n
      rw [← hmod n]
      have hlt : n % wl L < wl L := Nat.mod_lt _ (by omega)
      by_cases e : n % wl L = 0
      · rw [e]
        have h := hmod (wl L)
        rw [Nat.mod_self] at h
        rw [h]
        have := of_decide_eq_false (h1 (wl L) (by omega) (by omega))
        omega
      · have := of_decide_eq_false (h1 (n % wl L) (by omega) (by omega))
        omega
    refine ⟨.inr ⟨rfl, rfl, ?_⟩, left4.2 fun n _ => ha n, ?_⟩
    · intro e
      have := ha 1
      rw [List.length_eq_zero_iff.1 e] at this
      simp [tm] at this
    · intro i _ _
      rw [decide_eq_true (show 0 < tm (i : Int) L by have := ha i; omega)]
      rfl

end Go.Proofs.Ytanhjgneaaenpaa
