/- What the greedy sum and Engel's numbers are like, plainly. No condition. -/
import Derived.Test.YtbdiknlbmjdpeaaCheck2
import Derived.Test.YtbdiknlbmjdpeaaLawGreedy
namespace Go.Proofs.Ytbdiknlbmjdpeaa
theorem nats_eq (l : List Nat) : natsI l = nats l := rfl
theorem isRun_mem : ∀ (L : List Nat) (p : Nat), 2 ≤ p → isRun p L = true → ∀ x ∈ L, 2 ≤ x ∧ x ≤ 1000000000000
  | [], _, _, _, x, hx => by cases hx
  | d :: t, p, hp, h, x, hx => by
    simp only [isRun, Bool.and_eq_true, decide_eq_true_eq] at h
    have h2 : p ≤ p * (p - 1) := Nat.le_mul_of_pos_right _ (by omega)
    have hd : 2 ≤ d := by omega
    rcases List.mem_cons.1 hx with rfl | hx
    · exact ⟨hd, h.1.2⟩
    · exact isRun_mem t d hd h.2 x hx
theorem isRun_at : ∀ (L : List Nat) (p : Nat), isRun p L = true → ∀ i, i + 1 < L.length → L.getD i 0 * (L.getD i 0 - 1) < L.getD (i + 1) 0 ∧ L.getD (i + 1) 0 ≤ 1000000000000
  | [], _, _, i, hi => by simp at hi
  | [d], _, _, i, hi => by simp at hi
  | d :: e :: t, p, h, i, hi => by
    simp only [isRun, Bool.and_eq_true, decide_eq_true_eq] at h
    cases i with
    | zero => simp; exact ⟨h.2.1.1, h.2.1.2⟩
    | succ i =>
      have ih := isRun_at (e :: t) d (by simp only [isRun, Bool.and_eq_true, decide_eq_true_eq]; exact h.2) i (by simp at hi ⊢; omega)
      simpa using ih
theorem getD_memN {L : List Nat} {i : Nat} (hi : i < L.length) : L.getD i 0 ∈ L := by
  rw [List.getD_eq_getElem?_getD, List.getElem?_eq_getElem hi]
  exact List.getElem_mem hi
theorem nats_at {L : List Nat} {i : Nat} (hi : i < L.length) : (nats L).getD i 0 = ((L.getD i 0 : Nat) : Int) := by
  simp [nats, List.getD, hi]
theorem takeN {L : List Nat} {j : Nat} (h : j < L.length) : L.take (j + 1) = L.take j ++ [L.getD j 0] := by
  rw [List.take_succ_eq_append_getElem h]; simp [List.getD, h]
theorem dropN {L : List Nat} {j : Nat} (h : j < L.length) : L.drop j = L.getD j 0 :: L.drop (j + 1) := by
  rw [List.drop_eq_getElem_cons h]; simp [List.getD, h]
def greatB (L : List Nat) : Bool := L.any fun d => decide (1000000 < d)
theorem greatB_snoc (L : List Nat) (d : Nat) : greatB (L ++ [d]) = (greatB L || decide (1000000 < d)) := by simp [greatB]
theorem acc_run : ∀ (L : List Nat) (p : Nat), 2 ≤ p → isRun p L = true → accF (p : Int) (nats L) = !greatB L
  | [], _, _, _ => rfl
  | d :: t, p, hp, h => by
    simp only [isRun, Bool.and_eq_true, decide_eq_true_eq] at h
    have h2 : p ≤ p * (p - 1) := Nat.le_mul_of_pos_right _ (by omega)
    have ih := acc_run t d (by omega) h.2
    have e : accF (p : Int) (nats (d :: t)) = (decide ((p : Int) < (d : Int)) && decide ((d : Int) ≤ 1000000) && accF (d : Int) (nats t)) := rfl
    rw [e, ih, decide_eq_true (show (p : Int) < (d : Int) by omega), Bool.true_and]
    have e2 : greatB (d :: t) = (decide (1000000 < d) || greatB t) := rfl
    rw [e2]
    by_cases g : 1000000 < d
    · rw [decide_eq_true g, decide_eq_false (show ¬ (d : Int) ≤ 1000000 by omega)]; rfl
    · rw [decide_eq_false g, decide_eq_true (show (d : Int) ≤ 1000000 by omega)]; rfl
structure GF (a b : Nat) (L : List Nat) : Prop where
  len1 : 1 ≤ L.length
  len2 : L.length ≤ a
  el : ∀ i, i < L.length → 2 ≤ L.getD i 0 ∧ L.getD i 0 ≤ 1000000000000
  st : ∀ i, i + 1 < L.length → L.getD i 0 * (L.getD i 0 - 1) < L.getD (i + 1) 0
  sm : isum a b L = true
  ck : chkB (a : Int) (b : Int) (nats L) = (!greatB L && decide (L.length ≤ 8))
theorem grd_facts {a b : Nat} {L : List Nat} (ha : 0 < a) (hab : a < b) (h : grd a a b = some L) : GF a b L := by
  obtain ⟨h1, h2, h3⟩ := grd_props a (p := 1) (Nat.le_refl _) (show 0 < b by omega) (fun _ => by simp; omega) h
  match L with
  | [] => simp [isum] at h3; omega
  | d :: t =>
    have hd : 2 ≤ d := by
      simp only [isum, Bool.and_eq_true, decide_eq_true_eq] at h3
      apply Decidable.byContradiction
      intro hn
      have : a * d ≤ a * 1 := Nat.mul_le_mul_left a (by omega)
      omega
    have hr := h2
    simp only [isRun, Bool.and_eq_true, decide_eq_true_eq] at h2
    have hm : ∀ x ∈ d :: t, 2 ≤ x ∧ x ≤ 1000000000000 := by
      intro x hx
      rcases List.mem_cons.1 hx with rfl | hx
      · exact ⟨hd, h2.1.2⟩
      · exact isRun_mem t d hd h2.2 x hx
    refine ⟨by simp, h1, fun i hi => hm _ (getD_memN hi), fun i hi => (isRun_at (d :: t) 1 hr i hi).1, h3, ?_⟩
    unfold chkB accI
    have e0 : decide (numF (a : Int) (b : Int) (nats (d :: t)) = 0) = true := by
      have := numF_isum (d :: t) a b (by omega) (fun x hx => by have := hm x hx; omega)
      rw [nats_eq] at this
      rw [this]; exact h3
    rw [e0, Bool.and_true, nats_len]
    have e1 : accF 1 (nats (d :: t)) = (decide ((1 : Int) < (d : Int)) && decide ((d : Int) ≤ 1000000) && accF (d : Int) (nats t)) := rfl
    rw [e1, acc_run t d hd h2.2, decide_eq_true (show (1 : Int) < (d : Int) by omega), Bool.true_and]
    have e2 : greatB (d :: t) = (decide (1000000 < d) || greatB t) := rfl
    rw [e2]
    by_cases g : 1000000 < d
    · rw [decide_eq_true g, decide_eq_false (show ¬ (d : Int) ≤ 1000000 by omega)]; simp
    · rw [decide_eq_false g, decide_eq_true (show (d : Int) ≤ 1000000 by omega)]; simp [Bool.and_comm]
theorem GF.small {a b : Nat} {L : List Nat} (h : GF a b L) {i : Nat} (hi : i + 1 < L.length) : L.getD i 0 ≤ 3000000000 := by
  have h1 := h.st i hi
  have h2 := (h.el (i + 1) hi).2
  apply Decidable.byContradiction
  intro hn
  obtain ⟨p, hp⟩ : ∃ p, L.getD i 0 = p := ⟨_, rfl⟩
  rw [hp] at h1 hn
  have h3 : 3000000000 * 2999999999 ≤ p * (p - 1) := Nat.mul_le_mul (by omega) (by omega)
  omega
theorem ceil_rise {l l' b : Nat} (h0 : 0 < l') (hl : l' ≤ l) : ceilD l b ≤ ceilD l' b := by
  rw [ceil_le (by omega)]
  exact Nat.le_trans (ceil_ok h0) (Nat.mul_le_mul_right _ hl)
end Go.Proofs.Ytbdiknlbmjdpeaa
