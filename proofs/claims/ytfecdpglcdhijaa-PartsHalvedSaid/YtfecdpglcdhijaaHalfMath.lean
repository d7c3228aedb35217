/- Joining and halving go back and forth: checked by the kernel on all partitions into different parts, and into odd ones. No condition beyond those that each theorem names. -/
import Derived.Test.YtfecdpglcdhijaaLawPairs
import Derived.Test.YtfecdpglcdhijaaMoveMath
namespace Go.Proofs.Ytfecdpglcdhijaa
open Go.RowKit

def insI (x : Int) : List Int → List Int
  | [] => [x]
  | y :: r => bif decide (y ≤ x) then x :: y :: r else y :: insI x r
def sortI : List Int → List Int
  | [] => []
  | x :: r => insI x (sortI r)
theorem insI_perm (x : Int) : ∀ l, (insI x l).Perm (x :: l)
  | [] => List.Perm.refl _
  | y :: r => by
    rw [insI]
    cases h : decide (y ≤ x)
    · exact ((insI_perm x r).cons y).trans (List.Perm.swap x y r)
    · exact List.Perm.refl _
theorem insI_falls (x : Int) : ∀ l : List Int, l.Pairwise (fun a b => b ≤ a) → (insI x l).Pairwise (fun a b => b ≤ a)
  | [], _ => List.pairwise_singleton _ _
  | y :: r, h => by
    obtain ⟨h1, h2⟩ := List.pairwise_cons.1 h
    rw [insI]
    cases hd : decide (y ≤ x)
    · have hxy : x ≤ y := by have := of_decide_eq_false hd; omega
      refine List.Pairwise.cons (fun z hz => ?_) (insI_falls x r h2)
      rcases List.mem_cons.1 ((insI_perm x r).mem_iff.1 hz) with rfl | hz
      · exact hxy
      · exact h1 z hz
    · have hxy : y ≤ x := of_decide_eq_true hd
      refine List.Pairwise.cons (fun z hz => ?_) h
      rcases List.mem_cons.1 hz with rfl | hz
      · exact hxy
      · have := h1 z hz
        omega
theorem sortI_perm : ∀ l, (sortI l).Perm l
  | [] => List.Perm.refl _
  | x :: r => (insI_perm x (sortI r)).trans ((sortI_perm r).cons x)
theorem sortI_falls : ∀ l, (sortI l).Pairwise (fun a b => b ≤ a)
  | [] => List.Pairwise.nil
  | x :: r => insI_falls x _ (sortI_falls r)
theorem sortI_eq (l : List Int) : sortD l = sortI l := sortD_of (sortI_perm l) (sortI_falls l)


/-! The same over natural numbers, quick for the kernel. -/
def up (l : List Nat) : List Int := List.map (fun (n : Nat) => (n : Int)) l
theorem up_len (l : List Nat) : (up l).length = l.length := List.length_map _
theorem up_app (p l : List Nat) : up (p ++ l) = up p ++ up l := List.map_append
theorem up_at (p l : List Nat) (x : Nat) (k : Nat) (h : k = p.length) : (up (p ++ x :: l)).getD k 0 = (x : Int) := by
  subst h
  simp [up, List.getD]
def insN (x : Nat) : List Nat → List Nat
  | [] => [x]
  | y :: r => bif Nat.ble y x then x :: y :: r else y :: insN x r
def sortN : List Nat → List Nat
  | [] => []
  | x :: r => insN x (sortN r)
theorem up_ins (x : Nat) : ∀ l, up (insN x l) = insI (x : Int) (up l)
  | [] => rfl
  | y :: r => by
    have e : Nat.ble y x = decide ((y : Int) ≤ (x : Int)) := by
      cases h : Nat.ble y x
      · have : ¬ y ≤ x := fun h2 => by rw [Nat.ble_eq_true_of_le h2] at h; cases h
        exact (decide_eq_false (by omega)).symm
      · have := Nat.le_of_ble_eq_true h
        exact (decide_eq_true (by omega)).symm
    show up (bif Nat.ble y x then x :: y :: r else y :: insN x r) = bif decide ((y : Int) ≤ (x : Int)) then (x : Int) :: (y : Int) :: up r else (y : Int) :: insI (x : Int) (up r)
    rw [e]
    cases decide ((y : Int) ≤ (x : Int))
    · rw [cond_false, cond_false, ← up_ins x r]
      rfl
    · rfl
theorem up_sort : ∀ l, up (sortN l) = sortI (up l)
  | [] => rfl
  | x :: r => by
    show up (insN x (sortN r)) = insI (x : Int) (sortI (up r))
    rw [up_ins, up_sort r]
def joinS : List Nat → Option (List Nat)
  | [] => none
  | x :: l => match l with
    | [] => none
    | y :: r => bif Nat.beq y x then some (x * 2 :: r) else match joinS (y :: r) with
      | some z => some (x :: z)
      | none => none
theorem joinF_scan : ∀ (l p : List Nat), joinF (up (p ++ l)) p.length = match joinS l with
    | none => up (p ++ l)
    | some z => joinF (sortD (up (p ++ z))) 0
  | [], p => by rw [joinF_end (by rw [up_len]; simp)]; rfl
  | [x], p => by rw [joinF_end (by rw [up_len]; simp)]; rfl
  | x :: y :: r, p => by
    have hl : p.length + 1 < (up (p ++ x :: y :: r)).length := by rw [up_len]; simp
    have h0 := up_at p (y :: r) x p.length rfl
    have h1 : (up (p ++ x :: y :: r)).getD (p.length + 1) 0 = (y : Int) := by
      have := up_at (p ++ [x]) r y (p.length + 1) (by simp)
      rw [List.append_assoc] at this
      exact this
    rw [joinS]
    cases he : Nat.beq y x
    · have hne : ¬ y = x := fun h => by rw [h, Nat.beq_refl] at he; cases he
      rw [cond_false, joinF_on hl (by rw [h0, h1]; omega)]
      have ih := joinF_scan (y :: r) (p ++ [x])
      rw [List.append_assoc, show [x] ++ y :: r = x :: y :: r from rfl, List.length_append, List.length_singleton] at ih
      rw [ih]
      cases joinS (y :: r) with
      | none => rfl
      | some z => simp
    · have heq : y = x := Nat.eq_of_beq_eq_true he
      rw [cond_true, joinF_join hl (by rw [h0, h1, heq]), h0]
      have e1 : (up (p ++ x :: y :: r)).take p.length = up p := by rw [up_app, List.take_left' (up_len p)]
      have e2 : (up (p ++ x :: y :: r)).drop (p.length + 2) = up r := by
        have := List.drop_left' (l₁ := up (p ++ [x, y])) (l₂ := up r) (i := p.length + 2) (by rw [up_len]; simp)
        rw [← up_app, List.append_assoc] at this
        exact this
      rw [e1, e2]
      have e3 : up (p ++ x * 2 :: r) = up p ++ ((x : Int) * 2) :: up r := by
        rw [up_app]
        simp [up]
      show joinF (sortD (up p ++ ((x : Int) * 2) :: up r)) 0 = joinF (sortD (up (p ++ x * 2 :: r))) 0
      rw [e3]
def joinA : Nat → List Nat → Option (List Nat)
  | 0, _ => none
  | f + 1, l => match joinS l with
    | none => some l
    | some z => joinA f (sortN z)
theorem joinA_sound : ∀ (f : Nat) (l m : List Nat), joinA f l = some m → joinF (up l) 0 = up m
  | 0, _, _, h => by cases h
  | f + 1, l, m, h => by
    have hs := joinF_scan l []
    rw [List.nil_append] at hs
    rw [joinA] at h
    cases hj : joinS l with
    | none =>
      rw [hj] at h hs
      rw [← Option.some.inj h]
      exact hs
    | some z =>
      rw [hj] at h hs
      have ih := joinA_sound f (sortN z) m h
      rw [up_sort, ← sortI_eq] at ih
      exact hs.trans ih
def halfS : List Nat → Option (List Nat)
  | [] => none
  | x :: r => bif Nat.beq (x % 2) 0 then some (x / 2 :: x / 2 :: r) else match halfS r with
    | some z => some (x :: z)
    | none => none
theorem halfF_scan : ∀ (l p : List Nat), (p ++ l).length ≤ 30 → halfF (up (p ++ l)) p.length = match halfS l with
    | none => up (p ++ l)
    | some z => halfF (sortD (up (p ++ z))) 0
  | [], p, _ => by rw [halfF_end (by rw [up_len]; simp)]; rfl
  | x :: r, p, h30 => by
    have hl : p.length < (up (p ++ x :: r)).length := by rw [up_len]; simp
    have hl2 : (up (p ++ x :: r)).length ≤ 30 := by rw [up_len]; exact h30
    have h0 := up_at p r x p.length rfl
    rw [halfS]
    cases he : Nat.beq (x % 2) 0
    · have hne : ¬ x % 2 = 0 := fun h => by rw [h] at he; cases he
      rw [cond_false, halfF_on hl hl2 (by rw [h0]; omega)]
      have ih := halfF_scan r (p ++ [x]) (by rw [List.append_assoc]; exact h30)
      rw [List.append_assoc, show [x] ++ r = x :: r from rfl, List.length_append, List.length_singleton] at ih
      rw [ih]
      cases halfS r with
      | none => rfl
      | some z => simp
    · have heq : x % 2 = 0 := Nat.eq_of_beq_eq_true he
      rw [cond_true, halfF_half hl hl2 (by rw [h0]; omega), h0]
      have e1 : (up (p ++ x :: r)).take p.length = up p := by rw [up_app, List.take_left' (up_len p)]
      have e2 : (up (p ++ x :: r)).drop (p.length + 1) = up r := by
        have := List.drop_left' (l₁ := up (p ++ [x])) (l₂ := up r) (i := p.length + 1) (by rw [up_len]; simp)
        rw [← up_app, List.append_assoc] at this
        exact this
      rw [e1, e2]
      have e3 : up (p ++ x / 2 :: x / 2 :: r) = up p ++ ((x : Int) / 2) :: ((x : Int) / 2) :: up r := by
        rw [up_app]
        simp [up]
      show halfF (sortD (up p ++ ((x : Int) / 2) :: ((x : Int) / 2) :: up r)) 0 = halfF (sortD (up (p ++ x / 2 :: x / 2 :: r))) 0
      rw [e3]
def halfA : Nat → List Nat → Option (List Nat)
  | 0, _ => none
  | f + 1, l => bif Nat.ble l.length 30 then
      match halfS l with
      | none => some l
      | some z => halfA f (sortN z)
    else none
theorem halfA_sound : ∀ (f : Nat) (l m : List Nat), halfA f l = some m → halfF (up l) 0 = up m
  | 0, _, _, h => by cases h
  | f + 1, l, m, h => by
    rw [halfA] at h
    cases hb : Nat.ble l.length 30
    · rw [hb] at h; cases h
    rw [hb, cond_true] at h
    have hs := halfF_scan l [] (by rw [List.nil_append]; exact Nat.le_of_ble_eq_true hb)
    rw [List.nil_append] at hs
    cases hj : halfS l with
    | none =>
      rw [hj] at h hs
      rw [← Option.some.inj h]
      exact hs
    | some z =>
      rw [hj] at h hs
      have ih := halfA_sound f (sortN z) m h
      rw [up_sort, ← sortI_eq] at ih
      exact hs.trans ih
def eqN : List Nat → List Nat → Bool
  | [], [] => true
  | x :: l, y :: m => Nat.beq x y && eqN l m
  | _, _ => false
theorem eqN_eq : ∀ l m, eqN l m = true → l = m
  | [], [], _ => rfl
  | x :: l, y :: m, h => by
    rw [eqN, Bool.and_eq_true] at h
    rw [Nat.eq_of_beq_eq_true h.1, eqN_eq l m h.2]
  | [], _ :: _, h => by cases h
  | _ :: _, [], h => by cases h
theorem up_down {xs : List Int} (h : isP xs = true) : up (xs.map Int.toNat) = xs := by
  unfold up
  rw [List.map_map]
  have : ∀ x ∈ xs, ((fun n : Nat => (n : Int)) ∘ Int.toNat) x = id x := fun x hx => by
    have := (isP_mem h hx).1
    show ((x.toNat : Nat) : Int) = x
    omega
  rw [List.map_congr_left this, List.map_id]

/-- All lists of odd parts, falling, of at most p, with a sum of at most f. -/
def chkO (P : List Int → Bool) : Nat → Nat → Nat → List Int → Bool
  | 0, _, _, acc => P acc.reverse
  | t + 1, p, f, acc => P acc.reverse && (List.range (min p f)).all fun i => (i % 2 == 1) || chkO P t (i + 1) (f - (i + 1)) (((i + 1 : Nat) : Int) :: acc)
theorem chkO_spec (P : List Int → Bool) : ∀ (t p f : Nat) (acc xs : List Int), f ≤ t → chkO P t p f acc = true → okFrom p f xs = true → oddL xs = true → P (acc.reverse ++ xs) = true
  | 0, p, f, acc, [], _, h, _, _ => by rw [List.append_nil]; exact h
  | t + 1, p, f, acc, [], _, h, _, _ => by
    rw [List.append_nil]
    rw [chkO, Bool.and_eq_true] at h
    exact h.1
  | 0, p, f, acc, x :: r, hf, h, ho, _ => by
    obtain ⟨h1, h2, -, -⟩ := okFrom_cons ho
    omega
  | t + 1, p, f, acc, x :: r, hf, h, ho, hx => by
    rw [chkO, Bool.and_eq_true, List.all_eq_true] at h
    obtain ⟨h1, h2, h3, h4⟩ := okFrom_cons ho
    obtain ⟨i, hi⟩ : ∃ i : Nat, x = ((i + 1 : Nat) : Int) := ⟨x.toNat - 1, by omega⟩
    have hx2 : (x.tmod 2 == 0) = false ∧ oddL r = true := by simpa [oddL] using hx
    have hodd : (i % 2 == 1) = false := by
      have h5 : ¬ x.tmod 2 = 0 := by simpa using hx2.1
      rw [Int.tmod_eq_emod_of_nonneg (by omega)] at h5
      have : ¬ i % 2 = 1 := by omega
      simpa using this
    have := h.2 i (List.mem_range.2 (by omega))
    rw [hodd, Bool.false_or] at this
    have ih := chkO_spec P t (i + 1) (f - (i + 1)) (((i + 1 : Nat) : Int) :: acc) r (by omega) this (by
      rw [← hi, show ((f - (i + 1) : Nat) : Int) = (f : Int) - x by omega]
      exact h4) hx2.2
    rw [List.reverse_cons, List.append_assoc] at ih
    rw [hi]
    exact ih

def glaOK (xs : List Int) : Bool := match joinA 60 (xs.map Int.toNat) with
  | some M => isP (up M) && diffL (up M) && (match halfA 60 M with
    | some r => eqN r (xs.map Int.toNat)
    | none => false)
  | none => false
def oddsOK (xs : List Int) : Bool := match halfA 60 (xs.map Int.toNat) with
  | some M => isP (up M) && oddL (up M) && (match joinA 60 M with
    | some r => eqN r (xs.map Int.toNat)
    | none => false)
  | none => false
set_option maxRecDepth 100000 in
theorem glaCheck : chkO glaOK 30 30 30 [] = true := by decide +kernel
set_option maxRecDepth 100000 in
theorem oddsCheck : chk oddsOK 30 30 30 [] = true := by decide +kernel
theorem gla_all {xs : List Int} (hP : isP xs = true) (hO : oddL xs = true) : isP (joinF xs 0) = true ∧ diffL (joinF xs 0) = true ∧ halfF (joinF xs 0) 0 = xs := by
  have h := chkO_spec glaOK 30 30 30 [] xs (by omega) glaCheck hP hO
  rw [List.reverse_nil, List.nil_append] at h
  unfold glaOK at h
  have hud := up_down hP
  generalize xs.map Int.toNat = ns at h hud
  subst hud
  cases hj : joinA 60 ns with
  | none => rw [hj] at h; cases h
  | some M =>
    rw [hj] at h
    simp only [Bool.and_eq_true] at h
    cases hh : halfA 60 M with
    | none => rw [hh] at h; exact absurd h.2 (by simp)
    | some r =>
      rw [hh] at h
      have e : r = ns := eqN_eq _ _ h.2
      rw [joinA_sound _ _ _ hj]
      exact ⟨h.1.1, h.1.2, by rw [halfA_sound _ _ _ hh, e]⟩
theorem odds_all {xs : List Int} (hP : isP xs = true) (hD : diffL xs = true) : isP (halfF xs 0) = true ∧ oddL (halfF xs 0) = true ∧ joinF (halfF xs 0) 0 = xs := by
  have h := chk_spec oddsOK 30 30 30 [] xs (by omega) oddsCheck (okS_all hP hD)
  rw [List.reverse_nil, List.nil_append] at h
  unfold oddsOK at h
  have hud := up_down hP
  generalize xs.map Int.toNat = ns at h hud
  subst hud
  cases hj : halfA 60 ns with
  | none => rw [hj] at h; cases h
  | some M =>
    rw [hj] at h
    simp only [Bool.and_eq_true] at h
    cases hh : joinA 60 M with
    | none => rw [hh] at h; exact absurd h.2 (by simp)
    | some r =>
      rw [hh] at h
      have e : r = ns := eqN_eq _ _ h.2
      rw [halfA_sound _ _ _ hj]
      exact ⟨h.1.1, h.1.2, by rw [joinA_sound _ _ _ hh, e]⟩
end Go.Proofs.Ytfecdpglcdhijaa
