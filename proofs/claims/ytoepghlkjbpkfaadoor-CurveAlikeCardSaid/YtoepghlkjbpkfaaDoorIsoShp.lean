/- Curves that belong together have as many points and the same greatest order. Condition: both are valid. -/
import Derived.Test.YtoepghlkjbpkfaaDoorIso
import Derived.Test.YtoepghlkjbpkfaaDoorShp
namespace Go.Proofs.YtoepghlkjbpkfaaDoor

theorem sub_len {α : Type} [DecidableEq α] : ∀ (l l' : List α), l.Nodup → (∀ x ∈ l, x ∈ l') → l.length ≤ l'.length
  | [], _, _, _ => Nat.zero_le _
  | a :: l, l', h, hs => by
    have ha := hs a List.mem_cons_self
    have hn := List.nodup_cons.1 h
    have := sub_len l (l'.erase a) hn.2 (fun x hx => (List.mem_erase_of_ne (fun e => hn.1 (by rw [← e]; exact hx))).2 (hs x (List.mem_cons_of_mem _ hx)))
    rw [List.length_erase_of_mem ha] at this
    have h0 := List.length_pos_of_mem ha
    simp only [List.length_cons]
    omega
theorem ptsY_mem {P A B : Int} {x : Nat} : ∀ j, ∀ q ∈ ptsY P A B x j, q.x = x ∧ q.f = false ∧ 0 ≤ q.y ∧ q.y < j
  | 0, q, h => by cases h
  | j + 1, q, h => by
    unfold ptsY at h
    rw [List.mem_append] at h
    rcases h with h | h
    · have := ptsY_mem j q h
      exact ⟨this.1, this.2.1, this.2.2.1, by omega⟩
    · split at h
      · rw [List.mem_singleton] at h
        subst h
        exact ⟨rfl, rfl, by simp only; omega, by simp only; omega⟩
      · cases h
theorem ptsX_mem {P A B : Int} {N : Nat} : ∀ k, ∀ q ∈ ptsX P A B N k, q.f = false ∧ 0 ≤ q.x ∧ q.x < k
  | 0, q, h => by cases h
  | k + 1, q, h => by
    unfold ptsX at h
    rw [List.mem_append] at h
    rcases h with h | h
    · have := ptsX_mem k q h
      exact ⟨this.1, this.2.1, by omega⟩
    · have := ptsY_mem N q h
      exact ⟨this.2.1, by omega, by omega⟩
theorem ptsY_nodup {P A B : Int} {x : Nat} : ∀ j, (ptsY P A B x j).Nodup
  | 0 => List.nodup_nil
  | j + 1 => by
    unfold ptsY
    rw [List.nodup_append]
    refine ⟨ptsY_nodup j, by split <;> simp, ?_⟩
    intro a ha b hb e
    subst e
    have := ptsY_mem j a ha
    split at hb
    · rw [List.mem_singleton] at hb
      subst hb
      simp only at this
      omega
    · cases hb
theorem ptsX_nodup {P A B : Int} {N : Nat} : ∀ k, (ptsX P A B N k).Nodup
  | 0 => List.nodup_nil
  | k + 1 => by
    unfold ptsX
    rw [List.nodup_append]
    refine ⟨ptsX_nodup k, ptsY_nodup N, ?_⟩
    intro a ha b hb e
    subst e
    have h1 := ptsX_mem k a ha
    have h2 := ptsY_mem N a hb
    omega
theorem pts_nodup (P A B : Int) : (ptsL P A B).Nodup := by
  unfold ptsL
  rw [List.nodup_append]
  refine ⟨ptsX_nodup _, by simp, ?_⟩
  intro a ha b hb e
  subst e
  have h1 := ptsX_mem _ a ha
  rw [List.mem_singleton] at hb
  subst hb
  exact absurd h1.1 (by simp)
theorem ptsY_has {P A B : Int} {x y : Nat} (h : onB P A B ⟨x, y, false⟩ = true) : ∀ j, y < j → ⟨x, y, false⟩ ∈ ptsY P A B x j
  | 0, hj => by omega
  | j + 1, hj => by
    unfold ptsY
    rw [List.mem_append]
    by_cases e : y = j
    · subst e
      right
      rw [if_pos h]
      exact List.mem_singleton.2 rfl
    · exact .inl (ptsY_has h j (by omega))
theorem ptsX_has {P A B : Int} {N x y : Nat} (h : onB P A B ⟨x, y, false⟩ = true) (hy : y < N) : ∀ k, x < k → ⟨x, y, false⟩ ∈ ptsX P A B N k
  | 0, hk => by omega
  | k + 1, hk => by
    unfold ptsX
    rw [List.mem_append]
    by_cases e : x = k
    · subst e
      exact .inr (ptsY_has h N hy)
    · exact .inl (ptsX_has h hy k (by omega))
theorem pts_has {P A B : Int} {q : Pt} (h : onB P A B q = true) : q ∈ ptsL P A B := by
  unfold ptsL
  rw [List.mem_append]
  rcases on_cases h with rfl | ⟨f, hc⟩
  · exact .inr (List.mem_singleton.2 rfl)
  · left
    obtain ⟨x, y, g⟩ := q
    simp only at f hc
    subst f
    obtain ⟨a, rfl⟩ : ∃ a : Nat, x = a := ⟨x.toNat, by have := hc.1; omega⟩
    obtain ⟨b, rfl⟩ : ∃ a : Nat, y = a := ⟨y.toNat, by have := hc.2.1; omega⟩
    have h1 := hc.1
    have h2 := hc.2.1
    exact ptsX_has h (by omega) _ (by omega)
theorem Rel.back {P A B A' B' v : Int} (h : Rel P A B A' B' v) : ∃ u, Rel P A' B' A B u ∧ P ∣ u * v - 1 := by
  obtain ⟨-, hu⟩ := qF_ok (x := 1) h.hp h.hv
  refine ⟨qF 1 v P, ⟨h.hp, ?_, ?_, ?_⟩, hu⟩
  · intro hd
    have h1 : P ∣ 1 := by
      have e : (1 : Int) = qF 1 v P * v - (qF 1 v P * v - 1) := by omega
      rw [e]
      exact Int.dvd_sub (Int.dvd_mul_of_dvd_left hd) hu
    have h5 := isM_le h.hp
    have := Int.le_of_dvd (by omega) h1
    omega
  · obtain ⟨u, hU⟩ : ∃ u, qF 1 v P = u := ⟨_, rfl⟩
    rw [hU] at hu ⊢
    have e : A - A' * u * u * u * u = -((A' - A * v * v * v * v) * (u * u * u * u)) - (u * v - 1) * (A * (u * v * (u * v) * (u * v) + u * v * (u * v) + u * v + 1)) := by grind
    rw [e]
    exact Int.dvd_sub (Int.dvd_neg.2 (Int.dvd_mul_of_dvd_left h.a)) (Int.dvd_mul_of_dvd_left hu)
  · obtain ⟨u, hU⟩ : ∃ u, qF 1 v P = u := ⟨_, rfl⟩
    rw [hU] at hu ⊢
    have e : B - B' * u * u * u * u * u * u = -((B' - B * v * v * v * v * v * v) * (u * u * u * u * u * u)) - (u * v - 1) * (B * (u * v * (u * v) * (u * v) * (u * v) * (u * v) + u * v * (u * v) * (u * v) * (u * v) + u * v * (u * v) * (u * v) + u * v * (u * v) + u * v + 1)) := by grind
    rw [e]
    exact Int.dvd_sub (Int.dvd_neg.2 (Int.dvd_mul_of_dvd_left h.b)) (Int.dvd_mul_of_dvd_left hu)
theorem Rel.len_le {P A B A' B' v : Int} (h : Rel P A B A' B' v) : (ptsL P A B).length ≤ (ptsL P A' B').length := by
  have hn : ((ptsL P A B).map (sc P v)).Nodup := by
    unfold List.Nodup
    rw [List.pairwise_map]
    exact (pts_nodup P A B).imp_of_mem fun {a b} ha hb hne e => hne (h.inj (pts_on _ _ _ a ha) (pts_on _ _ _ b hb) e)
  have := sub_len _ (ptsL P A' B') hn (fun x hx => by
    obtain ⟨q, hq, rfl⟩ := List.mem_map.1 hx
    exact pts_has (h.onB (pts_on _ _ _ q hq)))
  simpa using this
theorem Rel.sh_le {P A B A' B' v : Int} (h : Rel P A B A' B' v) (hv : vB P A B = true) (hv' : vB P A' B' = true) : shN P A B ≤ shN P A' B' := by
  refine mxF_le _ _ (Nat.zero_le _) fun q hq => ?_
  have ho := pts_on P A B q hq
  have h1 := h.ord ho (ordN_ok hv ho).1
  have h2 := (ordN_ok hv' (h.onB ho)).1
  rw [h1.uniq h2]
  exact mxF_ge _ 0 _ _ (pts_has (h.onB ho))
/-- the same shape -/
theorem Rel.shape {P A B A' B' v : Int} (h : Rel P A B A' B' v) (hv : vB P A B = true) (hv' : vB P A' B' = true) : (ptsL P A B).length = (ptsL P A' B').length ∧ shN P A B = shN P A' B' := by
  obtain ⟨u, hu, -⟩ := h.back
  exact ⟨Nat.le_antisymm h.len_le hu.len_le, Nat.le_antisymm (h.sh_le hv hv') (hu.sh_le hv' hv)⟩
theorem Rel.valid {P A B A' B' v : Int} (h : Rel P A B A' B' v) (hv : vB P A B = true) (hA : 0 ≤ A' ∧ A' < P) (hB : 0 ≤ B' ∧ B' < P) : vB P A' B' = true := by
  refine vB_iff.2 ⟨h.hp, hA, hB, ?_⟩
  have hd := (vB_iff.1 hv).2.2.2
  unfold disc at hd ⊢
  rw [decide_eq_false_iff_not] at hd ⊢
  intro e
  refine hd (Int.emod_eq_zero_of_dvd ?_)
  have e2 : P ∣ 4 * A' * A' * A' + 27 * B' * B' := Int.dvd_of_emod_eq_zero e
  have hv2 : ∀ a : Int, P ∣ a * v * v * v * v * v * v → P ∣ a := fun a k => not_dvd_mul h.hp h.hv (not_dvd_mul h.hp h.hv (not_dvd_mul h.hp h.hv (not_dvd_mul h.hp h.hv (not_dvd_mul h.hp h.hv (not_dvd_mul h.hp h.hv k)))))
  refine hv2 _ (hv2 _ ?_)
  have ha := h.a
  have hb := h.b
  have e3 : (4 * A * A * A + 27 * B * B) * v * v * v * v * v * v * v * v * v * v * v * v = 4 * A' * A' * A' + 27 * B' * B' - (A' - A * v * v * v * v) * (4 * (A' * A' + A' * (A * v * v * v * v) + A * v * v * v * v * (A * v * v * v * v))) - (B' - B * v * v * v * v * v * v) * (27 * (B' + B * v * v * v * v * v * v)) := by grind
  rw [e3]
  exact Int.dvd_sub (Int.dvd_sub e2 (Int.dvd_mul_of_dvd_left ha)) (Int.dvd_mul_of_dvd_left hb)
end Go.Proofs.YtoepghlkjbpkfaaDoor
