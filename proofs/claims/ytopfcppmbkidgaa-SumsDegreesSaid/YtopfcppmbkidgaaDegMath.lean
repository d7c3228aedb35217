/- Products of polynomials as the law SumsDegrees works them out, and what is checked of all orders up to 60. No condition beyond those stated. -/
import Derived.Test.YtopfcppmbkidgaaCyPhi
namespace Go.Proofs.Ytopfcppmbkidgaa
open Go.RowKit

/-- Row i of a product: j places of g are added, times x. -/
def rowW (F G : Nat → Int) (x : Int) (i j t : Nat) : Int := if i ≤ t ∧ t < i + j then wrap64 (F t + wrap64 (x * G (t - i))) else F t
def mulW (f g : Nat → Int) (m : Nat) : Nat → Nat → Int
  | 0 => fun _ => 0
  | i + 1 => rowW (mulW f g m i) g (f i) i m
theorem rowW_zero {F G : Nat → Int} {x : Int} {i t : Nat} : rowW F G x i 0 t = F t := by unfold rowW; rw [if_neg (by omega)]
theorem rowW_step {F G : Nat → Int} {x : Int} {i j t : Nat} : rowW F G x i (j + 1) t = if t = i + j then wrap64 (F (i + j) + wrap64 (x * G j)) else rowW F G x i j t := by
  unfold rowW
  by_cases h : t = i + j
  · subst h
    rw [if_pos (by omega), if_pos rfl, Nat.add_sub_cancel_left]
  · rw [if_neg h]
    by_cases h2 : i ≤ t ∧ t < i + j
    · rw [if_pos (by omega), if_pos h2]
    · rw [if_neg (by omega), if_neg h2]
theorem rowW_at {F G : Nat → Int} {x : Int} {i j : Nat} : rowW F G x i j (i + j) = F (i + j) := by unfold rowW; rw [if_neg (by omega)]
theorem mulW_done (f g : Nat → Int) (m : Nat) {i t : Nat} : ∀ u, t < i → mulW f g m (i + u) t = mulW f g m i t
  | 0, _ => rfl
  | u + 1, h => by
    rw [← Nat.add_assoc, mulW]
    unfold rowW
    rw [if_neg (by omega), mulW_done f g m u h]

def addm (x : Int) : List Int → List Int → List Int
  | a :: l, c :: d => wrap64 (a + wrap64 (x * c)) :: addm x l d
  | l, [] => l
  | [], _ => []
theorem addm_len (x : Int) : ∀ (l d : List Int), (addm x l d).length = l.length
  | a :: l, c :: d => by simp [addm, addm_len x l d]
  | [], [] => rfl
  | _ :: _, [] => rfl
  | [], _ :: _ => rfl
theorem addm_get (x : Int) : ∀ (l d : List Int) (s : Nat), s < l.length → (addm x l d).getD s 0 = if s < d.length then wrap64 (l.getD s 0 + wrap64 (x * d.getD s 0)) else l.getD s 0
  | a :: l, c :: d, 0, _ => by simp [addm]
  | a :: l, c :: d, s + 1, h => by
    have := addm_get x l d s (by simpa using h)
    simp only [addm, List.getD_cons_succ, List.length_cons, Nat.add_lt_add_iff_right] at this ⊢
    exact this
  | l, [], s, _ => by cases l <;> simp [addm]
  | [], _ :: _, s, h => absurd h (by simp)
def mulG : List Int → List Int → List Int → List Int
  | [], _, acc => acc
  | x :: f, g, acc => match addm x acc g with
    | [] => []
    | a :: r => a :: mulG f g r
def prL (f g : List Int) : List Int := mulG f g (List.replicate (f.length + g.length - 1) 0)

theorem mulG_spec (f g : List Int) (N : Nat) (hN : N = f.length + g.length - 1) (hg : 1 ≤ g.length) : ∀ (u i : Nat) (f' acc : List Int), i + u = f.length → f'.length = u → (∀ s, s < u → f'.getD s 0 = f.getD (i + s) 0) → acc.length = N - i →
    (∀ s, s < N - i → acc.getD s 0 = mulW (fun j => f.getD j 0) (fun j => g.getD j 0) g.length i (i + s)) →
    (mulG f' g acc).length = N - i ∧ ∀ s, s < N - i → (mulG f' g acc).getD s 0 = mulW (fun j => f.getD j 0) (fun j => g.getD j 0) g.length f.length (i + s)
  | 0, i, f', acc, hi, hf, _, hl, h => by
    obtain rfl : f' = [] := List.eq_nil_of_length_eq_zero hf
    obtain rfl : i = f.length := by omega
    exact ⟨hl, h⟩
  | u + 1, i, [], acc, hi, hf, _, hl, h => absurd hf (by simp)
  | u + 1, i, x :: f', acc, hi, hf, hx, hl, h => by
    have hx0 : x = f.getD i 0 := by have := hx 0 (by omega); simpa using this
    have hal := addm_len x acc g
    have hag := addm_get x acc g
    obtain ⟨A, hA⟩ : ∃ A, addm x acc g = A := ⟨_, rfl⟩
    rw [hA] at hal hag
    have hpos : 0 < N - i := by omega
    match A, hA, hal, hag with
    | [], _, hal, _ => simp at hal; omega
    | a :: r, hA, hal, hag =>
      have key : ∀ s, s < N - i → (a :: r).getD s 0 = mulW (fun j => f.getD j 0) (fun j => g.getD j 0) g.length (i + 1) (i + s) := fun s hs => by
        rw [hag s (by omega), h s hs, mulW]
        unfold rowW
        by_cases c : s < g.length
        · rw [if_pos c, if_pos (by omega), hx0, Nat.add_sub_cancel_left]
        · rw [if_neg c, if_neg (by omega)]
      have ih := mulG_spec f g N hN hg u (i + 1) f' r (by omega) (by simpa using hf) (fun s hs => by
          have := hx (s + 1) (by omega)
          rw [List.getD_cons_succ] at this
          rw [this]; congr 1; omega) (by simp at hal; omega) (fun s hs => by
          have := key (s + 1) (by omega)
          rw [List.getD_cons_succ] at this
          rw [this]; congr 1; omega)
      have e : mulG (x :: f') g acc = a :: mulG f' g r := by
        show (match addm x acc g with | [] => [] | a :: r => a :: mulG f' g r) = _
        rw [hA]
      rw [e]
      refine ⟨by simp [ih.1]; omega, fun s hs => ?_⟩
      match s with
      | 0 =>
        have := key 0 hpos
        rw [List.getD_cons_zero] at this ⊢
        rw [this, show f.length = i + 1 + u by omega, mulW_done _ _ _ u (by omega)]
      | s + 1 =>
        rw [List.getD_cons_succ, ih.2 s (by omega)]
        congr 1
        omega
theorem prL_spec (f g : List Int) (hg : 1 ≤ g.length) : (prL f g).length = f.length + g.length - 1 ∧ ∀ t, t < f.length + g.length - 1 → mulW (fun j => f.getD j 0) (fun j => g.getD j 0) g.length f.length t = (prL f g).getD t 0 := by
  obtain ⟨h1, h2⟩ := mulG_spec f g (f.length + g.length - 1) rfl hg f.length 0 f (List.replicate (f.length + g.length - 1) 0) (by omega) rfl (fun s _ => by rw [Nat.zero_add]) (by simp) (fun s hs => by simp only [mulW, List.getD, List.getElem?_replicate]; split <;> rfl)
  refine ⟨h1, fun t ht => ?_⟩
  have := h2 t ht
  rw [Nat.zero_add] at this
  exact this.symm

/-! what the law reckons -/
def smW (L : List Int) : Nat → Int
  | 0 => 0
  | k + 1 => wrap64 (smW L k + L.getD k 0)
/-- The least divisor from p on. -/
def ldF (n : Nat) : Nat → Nat → Nat
  | 0, p => p
  | u + 1, p => if n % p = 0 then p else ldF n u (p + 1)
/-- m without the factors p. -/
def dvF (p : Nat) : Nat → Nat → Nat
  | 0, m => m
  | u + 1, m => if m % p = 0 then dvF p u (m / p) else m
def pOf (n : Nat) : Nat := if n = 1 then 0 else if 1 < dvF (ldF n n 2) n n then 1 else ldF n n 2
def dgL (n : Nat) : Nat → List Int
  | 0 => [1]
  | d + 1 => if n % (d + 1) = 0 then prL (dgL n d) (cyT (d + 1)) else dgL n d
def dgRun (n : Nat) : Nat → Nat → List Int → Bool
  | 0, _, l => l == cyL n 0
  | u + 1, d, l => if n % d = 0 then decide (1 ≤ (cyT d).length) && decide ((cyT d).length ≤ 61) && decide (1 ≤ l.length) && decide (l.length ≤ 61) && dgRun n u (d + 1) (prL l (cyT d)) else dgRun n u (d + 1) l
def dgOne (n : Nat) : Bool := decide ((cyT n).length = phF n n + 1) && decide ((cyT n).getD (phF n n) 0 = 1) && decide (smW (cyT n) (cyT n).length = (pOf n : Int)) && dgRun n n 1 [1]
def dgAll : Nat → Bool
  | 0 => true
  | n + 1 => dgOne (n + 1) && dgAll n
set_option maxRecDepth 100000 in
theorem dgAll60 : dgAll 60 = true := by decide +kernel
theorem dgAll_at : ∀ {N n : Nat}, dgAll N = true → 1 ≤ n → n ≤ N → dgOne n = true
  | 0, n, _, h1, h2 => absurd h1 (by omega)
  | N + 1, n, h, h1, h2 => by
    simp only [dgAll, Bool.and_eq_true] at h
    by_cases e : n = N + 1
    · subst e; exact h.1
    · exact dgAll_at h.2 h1 (by omega)
theorem dgRun_spec (n : Nat) : ∀ (u d : Nat), dgRun n u (d + 1) (dgL n d) = true → d + u = n → (∀ e, d < e → e ≤ n → n % e = 0 → 1 ≤ (cyT e).length ∧ (cyT e).length ≤ 61 ∧ 1 ≤ (dgL n (e - 1)).length ∧ (dgL n (e - 1)).length ≤ 61) ∧ dgL n n = cyL n 0
  | 0, d, h, hd => ⟨fun e h1 h2 => absurd h1 (by omega), by
    simp only [dgRun, beq_iff_eq] at h
    obtain rfl : d = n := by omega
    exact h⟩
  | u + 1, d, h, hd => by
    simp only [dgRun] at h
    by_cases c : n % (d + 1) = 0
    · rw [if_pos c] at h
      simp only [Bool.and_eq_true, decide_eq_true_eq] at h
      have e1 : dgL n (d + 1) = prL (dgL n d) (cyT (d + 1)) := by rw [dgL, if_pos c]
      rw [← e1] at h
      obtain ⟨i1, i2⟩ := dgRun_spec n u (d + 1) h.2 (by omega)
      refine ⟨fun e a b z => ?_, i2⟩
      by_cases ed : e = d + 1
      · subst ed; exact ⟨h.1.1.1.1, h.1.1.1.2, h.1.1.2, h.1.2⟩
      · exact i1 e (by omega) (by omega) z
    · rw [if_neg c] at h
      have e1 : dgL n (d + 1) = dgL n d := by rw [dgL, if_neg c]
      rw [← e1] at h
      obtain ⟨i1, i2⟩ := dgRun_spec n u (d + 1) h (by omega)
      refine ⟨fun e a b z => ?_, i2⟩
      by_cases ed : e = d + 1
      · subst ed; exact absurd z c
      · exact i1 e (by omega) (by omega) z
theorem dg_ok {n : Nat} (h1 : 1 ≤ n) (h2 : n ≤ 60) : (cyT n).length = phF n n + 1 ∧ (cyT n).getD (phF n n) 0 = 1 ∧ smW (cyT n) (cyT n).length = (pOf n : Int) ∧ (∀ e, 1 ≤ e → e ≤ n → n % e = 0 → 1 ≤ (cyT e).length ∧ (cyT e).length ≤ 61 ∧ 1 ≤ (dgL n (e - 1)).length ∧ (dgL n (e - 1)).length ≤ 61) ∧ dgL n n = cyL n 0 := by
  have h := dgAll_at dgAll60 h1 h2
  simp only [dgOne, Bool.and_eq_true, decide_eq_true_eq] at h
  obtain ⟨i1, i2⟩ := dgRun_spec n n 0 h.2 (by omega)
  exact ⟨h.1.1.1, h.1.1.2, h.1.2, fun e a b z => i1 e (by omega) b z, i2⟩
end Go.Proofs.Ytopfcppmbkidgaa
