/- The shortest sums and the greedy one, plainly. No condition. -/
import Derived.Test.YtbdiknlbmjdpeaaFstMath
import Derived.Test.YtbdiknlbmjdpeaaLawShort
namespace Go.Proofs.Ytbdiknlbmjdpeaa
theorem fs_min {α : Type} {f : Nat → Option α} : ∀ {k i c : Nat}, i ≤ c → c < i + k → f c ≠ none → ∃ d x, fs f i k = some x ∧ f d = some x ∧ i ≤ d ∧ d ≤ c
  | 0, i, c, h1, h2, _ => by omega
  | k + 1, i, c, h1, h2, h3 => by
    cases hf : f i with
    | some x => exact ⟨i, x, fs_yes k hf, hf, Nat.le_refl _, h1⟩
    | none =>
      have hc : i + 1 ≤ c := by
        apply Decidable.byContradiction
        intro hn
        have : c = i := by omega
        rw [this] at h3
        exact h3 hf
      obtain ⟨d, x, g1, g2, g3, g4⟩ := fs_min (f := f) (k := k) hc (by omega) h3
      exact ⟨d, x, by rw [fs_no k hf]; exact g1, g2, by omega, g4⟩
theorem up_acc {m : Nat} (hm : m ≤ 1000000) : ∀ (L : List Nat) (p : Nat), isUp 1 m (p + 1) L = true → accF (p : Int) (nats L) = true
  | [], _, _ => rfl
  | d :: t, p, h => by
    simp only [isUp, Bool.and_eq_true, decide_eq_true_eq] at h
    have e : accF (p : Int) (nats (d :: t)) = (decide ((p : Int) < (d : Int)) && decide ((d : Int) ≤ 1000000) && accF (d : Int) (nats t)) := rfl
    rw [e, up_acc hm t d h.2, decide_eq_true (show (p : Int) < (d : Int) by omega), decide_eq_true (show (d : Int) ≤ 1000000 by omega)]
    rfl
theorem shC_facts {m c a b : Nat} {L : List Nat} (ha : 0 < a) (hab : a < b) (h1 : 1 ≤ c) (h : shC m a b c = some L) : L.length = c ∧ isUp 1 m 2 L = true ∧ isum a b L = true := by
  unfold shC at h
  rw [fnd_12 ha hab] at h
  obtain ⟨g1, g2, g3⟩ := fnd_sound 1 m (c - 1) ha (by omega) h
  exact ⟨by omega, g2, g3⟩
theorem shF_facts {m t a b : Nat} {L : List Nat} (ha : 0 < a) (hab : a < b) (ht : t ≤ 4) (hm : m ≤ 300) (h : shF m t a b = some L) :
    isUp 1 m 2 L = true ∧ isum a b L = true ∧ 1 ≤ L.length ∧ L.length ≤ t ∧ chkB (a : Int) (b : Int) (nats L) = true ∧ (∀ i, i < L.length → L.getD i 0 ≤ m) := by
  obtain ⟨c, h1, h2, h3, -⟩ := fs_some h
  obtain ⟨g1, g2, g3⟩ := shC_facts ha hab h1 h3
  refine ⟨g2, g3, by omega, by omega, ?_, fun i hi => (isUp_ge g2 _ (getD_memN hi)).2⟩
  unfold chkB accI
  rw [nats_len, decide_eq_true (show L.length ≤ 8 by omega), Bool.true_and, show accF 1 (nats L) = true from up_acc (by omega) L 1 g2, Bool.true_and, ← nats_eq]
  rw [show decide (numF (a : Int) (b : Int) (natsI L) = 0) = isum a b L from numF_isum L a b (by omega) (fun x hx => by have := (isUp_ge g2 x hx).1; omega)]
  exact g3
theorem sh_full {m t a b : Nat} {G : List Nat} (ha : 0 < a) (hab : a < b) (h1 : 1 ≤ G.length) (h2 : G.length ≤ t) (hu : isUp 1 m 2 G = true) (hs : isum a b G = true) :
    ∃ L, shF m t a b = some L ∧ L.length ≤ G.length := by
  have hne : shC m a b G.length ≠ none := by
    unfold shC
    exact fnd_full 1 m (G.length - 1) ha (by omega) (by omega) (isUp_mono (by omega) hu) hs
  obtain ⟨d, x, g1, g2, g3, g4⟩ := fs_min (f := shC m a b) (i := 1) (k := t) h1 (by omega) hne
  exact ⟨x, g1, by have := (shC_facts ha hab g3 g2).1; omega⟩
theorem run_up : ∀ (G : List Nat) (p m : Nat), 2 ≤ p → isRun p G = true → (∀ i, i < G.length → G.getD i 0 ≤ m) → isUp 1 m (p + 1) G = true
  | [], _, _, _, _, _ => rfl
  | d :: t, p, m, hp, h, hm => by
    simp only [isRun, Bool.and_eq_true, decide_eq_true_eq] at h
    have h2 : p ≤ p * (p - 1) := Nat.le_mul_of_pos_right _ (by omega)
    simp only [isUp, Bool.and_eq_true, decide_eq_true_eq]
    refine ⟨⟨by omega, by simpa using hm 0 (by simp)⟩, run_up t d m (by omega) h.2 (fun i hi => by simpa using hm (i + 1) (by simp; omega))⟩
theorem run_last : ∀ (G : List Nat) (p : Nat), 2 ≤ p → isRun p G = true → ∀ i, i < G.length → G.getD i 0 ≤ G.getD (G.length - 1) 0
  | [], _, _, _, i, hi => by simp at hi
  | [d], _, _, _, i, hi => by
    have : i = 0 := by simp at hi; omega
    subst this; simp
  | d :: e :: t, p, hp, h, i, hi => by
    simp only [isRun, Bool.and_eq_true, decide_eq_true_eq] at h
    have h2 : p ≤ p * (p - 1) := Nat.le_mul_of_pos_right _ (by omega)
    have hd : 2 ≤ d := by omega
    have h3 : d ≤ d * (d - 1) := Nat.le_mul_of_pos_right _ (by omega)
    have ih := run_last (e :: t) d hd (by simp only [isRun, Bool.and_eq_true, decide_eq_true_eq]; exact h.2)
    have e0 : (d :: e :: t).getD ((d :: e :: t).length - 1) 0 = (e :: t).getD ((e :: t).length - 1) 0 := by simp
    rw [e0]
    cases i with
    | zero =>
      have h4 := ih 0 (by simp)
      simp at h4 ⊢
      omega
    | succ i => simpa using ih i (by simp at hi ⊢; omega)
theorem grd_run {a b : Nat} {G : List Nat} (ha : 0 < a) (hab : a < b) (h : grd a a b = some G) : ∃ d t, G = d :: t ∧ 2 ≤ d ∧ isRun d t = true ∧ isum a b G = true := by
  have hF := grd_facts ha hab h
  obtain ⟨h1, h2, h3⟩ := grd_props a (p := 1) (Nat.le_refl _) (show 0 < b by omega) (fun _ => by simp; omega) h
  match G with
  | [] => have := hF.len1; simp at this
  | d :: t =>
    have := (hF.el 0 (by simp)).1
    simp only [isRun, Bool.and_eq_true, decide_eq_true_eq] at h2
    exact ⟨d, t, rfl, by simpa using this, h2.2, h3⟩
theorem few_le {m t a b : Nat} {G : List Nat} (ha : 0 < a) (hab : a < b) (hg : grd a a b = some G) (h2 : G.length ≤ t) (h3 : G.getD (G.length - 1) 0 ≤ m) :
    ∃ L, shF m t a b = some L ∧ L.length ≤ G.length := by
  obtain ⟨d, r, rfl, hd, hr, hs⟩ := grd_run ha hab hg
  have hall : ∀ i, i < (d :: r).length → (d :: r).getD i 0 ≤ m := by
    intro i hi
    refine Nat.le_trans ?_ h3
    cases r with
    | nil => have : i = 0 := by simp at hi; omega
             subst this; simp
    | cons e t =>
      have hl := run_last (e :: t) d hd hr
      cases i with
      | zero =>
        have h4 := hl 0 (by simp)
        simp only [isRun, Bool.and_eq_true, decide_eq_true_eq] at hr
        have h5 : d ≤ d * (d - 1) := Nat.le_mul_of_pos_right _ (by omega)
        simp at h4 ⊢
        omega
      | succ i =>
        have h4 := hl i (by simp at hi ⊢; omega)
        simpa using h4
  refine sh_full ha hab (by simp) h2 ?_ hs
  simp only [isUp, Bool.and_eq_true, decide_eq_true_eq]
  exact ⟨⟨hd, by simpa using hall 0 (by simp)⟩, run_up r d m hd hr (fun i hi => by simpa using hall (i + 1) (by simp; omega))⟩
theorem few_more {m t a b : Nat} {L : List Nat} (ha : 0 < a) (hab : a < b) (ht : t ≤ 4) (hm : m ≤ 300) (h : shF m t a b = some L) : shF m (t + 1) a b = some L ∧ ∃ Y, shF (m + 1) t a b = some Y ∧ Y.length ≤ L.length := by
  obtain ⟨h1, h2, h3, h4, -⟩ := shF_facts ha hab ht hm h
  refine ⟨?_, sh_full ha hab h3 h4 (isUp_more (by omega) h1) h2⟩
  unfold shF at h ⊢
  rw [fs_add, h]
end Go.Proofs.Ytbdiknlbmjdpeaa
