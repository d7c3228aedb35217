/- Division of polynomials on lists turned about, as 'divided' does it; the polynomials of the roots of one order up to 60, checked. No condition beyond those stated. -/
import Derived.Test.YtopfcppmbkidgaaDvd
namespace Go.Proofs.Ytopfcppmbkidgaa
open Go.RowKit

def subm (x : Int) : List Int → List Int → List Int
  | a :: l, c :: d => wrap64 (a - wrap64 (x * c)) :: subm x l d
  | l, [] => l
  | [], _ => []
/-- The quotient (leading coefficient first) and what is left, of lists turned about; D without its leading coefficient. -/
def dvR (D : List Int) : Nat → List Int → List Int × List Int
  | 0, l => ([], l)
  | _ + 1, [] => ([], [])
  | q + 1, x :: l => let r := dvR D q (subm x l D); (x :: r.1, r.2)
def quoL (L D : List Int) : List Int := (dvR D.reverse.tail (L.length + 1 - D.length) L.reverse).1.reverse
def restL (L D : List Int) : List Int := (dvR D.reverse.tail (L.length + 1 - D.length) L.reverse).2.reverse

theorem subm_len (x : Int) : ∀ (l d : List Int), (subm x l d).length = l.length
  | a :: l, c :: d => by simp [subm, subm_len x l d]
  | [], [] => rfl
  | _ :: _, [] => rfl
  | [], _ :: _ => rfl
theorem subm_get (x : Int) : ∀ (l d : List Int) (s : Nat), s < l.length → (subm x l d).getD s 0 = if s < d.length then wrap64 (l.getD s 0 - wrap64 (x * d.getD s 0)) else l.getD s 0
  | a :: l, c :: d, 0, _ => by simp [subm]
  | a :: l, c :: d, s + 1, h => by
    have := subm_get x l d s (by simpa using h)
    simp only [subm, List.getD_cons_succ, List.length_cons, Nat.add_lt_add_iff_right] at this ⊢
    exact this
  | l, [], s, _ => by cases l <;> simp [subm]
  | [], _ :: _, s, h => absurd h (by simp)

/-- The list turned about stands for what the rounds leave. -/
theorem dvR_spec (P : Nat → Int) (D : List Int) (k q m : Nat) (hD : D.length = k + 1) (hm : m = k + q) : ∀ (u r : Nat) (l : List Int), r + u = q → l.length = m - r → (∀ s, s < m - r → l.getD s 0 = rsF P (fun j => D.getD j 0) q k r (m - 1 - r - s)) →
    (dvR D.reverse.tail u l).1.length = u ∧ (dvR D.reverse.tail u l).2.length = k ∧ (∀ s, s < u → (dvR D.reverse.tail u l).1.getD s 0 = quF P (fun j => D.getD j 0) q k (u - 1 - s)) ∧ ∀ s, s < k → (dvR D.reverse.tail u l).2.getD s 0 = rsF P (fun j => D.getD j 0) q k q (k - 1 - s)
  | 0, r, l, hr, hl, h => by
    obtain rfl : r = q := by omega
    refine ⟨rfl, by simp only [dvR]; omega, fun s hs => absurd hs (by omega), fun s hs => ?_⟩
    simp only [dvR]
    rw [h s (by omega)]
    congr 1
    omega
  | u + 1, r, [], hr, hl, h => absurd hl (by simp; omega)
  | u + 1, r, x :: l, hr, hl, h => by
    have hx : x = rsF P (fun j => D.getD j 0) q k r (q - 1 - r + k) := by
      have := h 0 (by omega)
      simp only [List.getD_cons_zero] at this
      rw [this]
      congr 1
      omega
    have hDt : D.reverse.tail.length = k := by simp [hD]
    have hDg : ∀ s, s < k → D.reverse.tail.getD s 0 = D.getD (k - 1 - s) 0 := fun s hs => by
      simp only [List.getD, List.getElem?_tail]
      rw [List.getElem?_reverse (by omega), show D.length - 1 - (s + 1) = k - 1 - s by omega]
    have hll : l.length = m - (r + 1) := by simp at hl; omega
    have ih := dvR_spec P D k q m hD hm u (r + 1) (subm x l D.reverse.tail) (by omega) (by rw [subm_len, hll]) (fun s hs => by
      rw [subm_get x l _ s (by omega), hDt]
      have hls : l.getD s 0 = rsF P (fun j => D.getD j 0) q k r (m - 1 - r - (s + 1)) := by
        have := h (s + 1) (by omega)
        simpa using this
      rw [hls, rsF]
      unfold ins
      by_cases hsk : s < k
      · rw [if_pos hsk, hDg s hsk, if_pos (by omega), hx]
        rw [show m - 1 - (r + 1) - s = m - 1 - r - (s + 1) by omega, show m - 1 - r - (s + 1) - (q - 1 - r) = k - 1 - s by omega]
      · rw [if_neg hsk, if_neg (by omega)]
        congr 1
        omega)
    obtain ⟨i1, i2, i3, i4⟩ := ih
    refine ⟨by simp only [dvR]; simpa using i1, i2, fun s hs => ?_, i4⟩
    match s with
    | 0 =>
      show x = _
      rw [hx]
      unfold quF
      rw [show q - 1 - (u + 1 - 1 - 0) = r by omega, show u + 1 - 1 - 0 + k = q - 1 - r + k by omega]
    | s + 1 =>
      show (dvR D.reverse.tail u (subm x l D.reverse.tail)).1.getD s 0 = _
      rw [i3 s (by omega)]
      congr 1
      omega

theorem rev_getD (L : List Int) {s : Nat} (h : s < L.length) : L.reverse.getD s 0 = L.getD (L.length - 1 - s) 0 := by
  simp only [List.getD]
  rw [List.getElem?_reverse h]
theorem quo_spec (L D : List Int) (k q : Nat) (hD : D.length = k + 1) (hL : L.length = k + q) :
    (quoL L D).length = q ∧ (restL L D).length = k ∧ (∀ t, t < q → quF (fun j => L.getD j 0) (fun j => D.getD j 0) q k t = (quoL L D).getD t 0) ∧ ∀ t, t < k → rsF (fun j => L.getD j 0) (fun j => D.getD j 0) q k q t = (restL L D).getD t 0 := by
  obtain ⟨i1, i2, i3, i4⟩ := dvR_spec (fun j => L.getD j 0) D k q (k + q) hD rfl q 0 L.reverse (by omega) (by simp [hL]) (fun s hs => by
    rw [rev_getD L (by omega)]
    show _ = L.getD _ 0
    congr 1
    omega)
  unfold quoL restL
  rw [show L.length + 1 - D.length = q by omega]
  refine ⟨by rw [List.length_reverse, i1], by rw [List.length_reverse, i2], fun t ht => ?_, fun t ht => ?_⟩
  · rw [rev_getD _ (by omega), i1, i3 _ (by omega)]
    congr 1
    omega
  · rw [rev_getD _ (by omega), i2, i4 _ (by omega)]
    congr 1
    omega

/-! the polynomials of the roots of one order -/
def cyTab : List (List Int) := [[],
  [-1, 1],
  [1, 1],
  [1, 1, 1],
  [1, 0, 1],
  [1, 1, 1, 1, 1],
  [1, -1, 1],
  [1, 1, 1, 1, 1, 1, 1],
  [1, 0, 0, 0, 1],
  [1, 0, 0, 1, 0, 0, 1],
  [1, -1, 1, -1, 1],
  [1, 1, 1, 1, 1, 1, 1, 1, 1, 1, 1],
  [1, 0, -1, 0, 1],
  [1, 1, 1, 1, 1, 1, 1, 1, 1, 1, 1, 1, 1],
  [1, -1, 1, -1, 1, -1, 1],
  [1, -1, 0, 1, -1, 1, 0, -1, 1],
  [1, 0, 0, 0, 0, 0, 0, 0, 1],
  [1, 1, 1, 1, 1, 1, 1, 1, 1, 1, 1, 1, 1, 1, 1, 1, 1],
  [1, 0, 0, -1, 0, 0, 1],
  [1, 1, 1, 1, 1, 1, 1, 1, 1, 1, 1, 1, 1, 1, 1, 1, 1, 1, 1],
  [1, 0, -1, 0, 1, 0, -1, 0, 1],
  [1, -1, 0, 1, -1, 0, 1, 0, -1, 1, 0, -1, 1],
  [1, -1, 1, -1, 1, -1, 1, -1, 1, -1, 1],
  [1, 1, 1, 1, 1, 1, 1, 1, 1, 1, 1, 1, 1, 1, 1, 1, 1, 1, 1, 1, 1, 1, 1],
  [1, 0, 0, 0, -1, 0, 0, 0, 1],
  [1, 0, 0, 0, 0, 1, 0, 0, 0, 0, 1, 0, 0, 0, 0, 1, 0, 0, 0, 0, 1],
  [1, -1, 1, -1, 1, -1, 1, -1, 1, -1, 1, -1, 1],
  [1, 0, 0, 0, 0, 0, 0, 0, 0, 1, 0, 0, 0, 0, 0, 0, 0, 0, 1],
  [1, 0, -1, 0, 1, 0, -1, 0, 1, 0, -1, 0, 1],
  [1, 1, 1, 1, 1, 1, 1, 1, 1, 1, 1, 1, 1, 1, 1, 1, 1, 1, 1, 1, 1, 1, 1, 1, 1, 1, 1, 1, 1],
  [1, 1, 0, -1, -1, -1, 0, 1, 1],
  [1, 1, 1, 1, 1, 1, 1, 1, 1, 1, 1, 1, 1, 1, 1, 1, 1, 1, 1, 1, 1, 1, 1, 1, 1, 1, 1, 1, 1, 1, 1],
  [1, 0, 0, 0, 0, 0, 0, 0, 0, 0, 0, 0, 0, 0, 0, 0, 1],
  [1, -1, 0, 1, -1, 0, 1, -1, 0, 1, -1, 1, 0, -1, 1, 0, -1, 1, 0, -1, 1],
  [1, -1, 1, -1, 1, -1, 1, -1, 1, -1, 1, -1, 1, -1, 1, -1, 1],
  [1, -1, 0, 0, 0, 1, -1, 1, -1, 0, 1, -1, 1, -1, 1, 0, -1, 1, -1, 1, 0, 0, 0, -1, 1],
  [1, 0, 0, 0, 0, 0, -1, 0, 0, 0, 0, 0, 1],
  [1, 1, 1, 1, 1, 1, 1, 1, 1, 1, 1, 1, 1, 1, 1, 1, 1, 1, 1, 1, 1, 1, 1, 1, 1, 1, 1, 1, 1, 1, 1, 1, 1, 1, 1, 1, 1],
  [1, -1, 1, -1, 1, -1, 1, -1, 1, -1, 1, -1, 1, -1, 1, -1, 1, -1, 1],
  [1, -1, 0, 1, -1, 0, 1, -1, 0, 1, -1, 0, 1, 0, -1, 1, 0, -1, 1, 0, -1, 1, 0, -1, 1],
  [1, 0, 0, 0, -1, 0, 0, 0, 1, 0, 0, 0, -1, 0, 0, 0, 1],
  [1, 1, 1, 1, 1, 1, 1, 1, 1, 1, 1, 1, 1, 1, 1, 1, 1, 1, 1, 1, 1, 1, 1, 1, 1, 1, 1, 1, 1, 1, 1, 1, 1, 1, 1, 1, 1, 1, 1, 1, 1],
  [1, 1, 0, -1, -1, 0, 1, 0, -1, -1, 0, 1, 1],
  [1, 1, 1, 1, 1, 1, 1, 1, 1, 1, 1, 1, 1, 1, 1, 1, 1, 1, 1, 1, 1, 1, 1, 1, 1, 1, 1, 1, 1, 1, 1, 1, 1, 1, 1, 1, 1, 1, 1, 1, 1, 1, 1],
  [1, 0, -1, 0, 1, 0, -1, 0, 1, 0, -1, 0, 1, 0, -1, 0, 1, 0, -1, 0, 1],
  [1, 0, 0, -1, 0, 0, 0, 0, 0, 1, 0, 0, -1, 0, 0, 1, 0, 0, 0, 0, 0, -1, 0, 0, 1],
  [1, -1, 1, -1, 1, -1, 1, -1, 1, -1, 1, -1, 1, -1, 1, -1, 1, -1, 1, -1, 1, -1, 1],
  [1, 1, 1, 1, 1, 1, 1, 1, 1, 1, 1, 1, 1, 1, 1, 1, 1, 1, 1, 1, 1, 1, 1, 1, 1, 1, 1, 1, 1, 1, 1, 1, 1, 1, 1, 1, 1, 1, 1, 1, 1, 1, 1, 1, 1, 1, 1],
  [1, 0, 0, 0, 0, 0, 0, 0, -1, 0, 0, 0, 0, 0, 0, 0, 1],
  [1, 0, 0, 0, 0, 0, 0, 1, 0, 0, 0, 0, 0, 0, 1, 0, 0, 0, 0, 0, 0, 1, 0, 0, 0, 0, 0, 0, 1, 0, 0, 0, 0, 0, 0, 1, 0, 0, 0, 0, 0, 0, 1],
  [1, 0, 0, 0, 0, -1, 0, 0, 0, 0, 1, 0, 0, 0, 0, -1, 0, 0, 0, 0, 1],
  [1, -1, 0, 1, -1, 0, 1, -1, 0, 1, -1, 0, 1, -1, 0, 1, -1, 1, 0, -1, 1, 0, -1, 1, 0, -1, 1, 0, -1, 1, 0, -1, 1],
  [1, 0, -1, 0, 1, 0, -1, 0, 1, 0, -1, 0, 1, 0, -1, 0, 1, 0, -1, 0, 1, 0, -1, 0, 1],
  [1, 1, 1, 1, 1, 1, 1, 1, 1, 1, 1, 1, 1, 1, 1, 1, 1, 1, 1, 1, 1, 1, 1, 1, 1, 1, 1, 1, 1, 1, 1, 1, 1, 1, 1, 1, 1, 1, 1, 1, 1, 1, 1, 1, 1, 1, 1, 1, 1, 1, 1, 1, 1],
  [1, 0, 0, 0, 0, 0, 0, 0, 0, -1, 0, 0, 0, 0, 0, 0, 0, 0, 1],
  [1, -1, 0, 0, 0, 1, -1, 0, 0, 0, 1, 0, -1, 0, 0, 1, 0, -1, 0, 0, 1, 0, 0, -1, 0, 1, 0, 0, -1, 0, 1, 0, 0, 0, -1, 1, 0, 0, 0, -1, 1],
  [1, 0, 0, 0, -1, 0, 0, 0, 1, 0, 0, 0, -1, 0, 0, 0, 1, 0, 0, 0, -1, 0, 0, 0, 1],
  [1, -1, 0, 1, -1, 0, 1, -1, 0, 1, -1, 0, 1, -1, 0, 1, -1, 0, 1, 0, -1, 1, 0, -1, 1, 0, -1, 1, 0, -1, 1, 0, -1, 1, 0, -1, 1],
  [1, -1, 1, -1, 1, -1, 1, -1, 1, -1, 1, -1, 1, -1, 1, -1, 1, -1, 1, -1, 1, -1, 1, -1, 1, -1, 1, -1, 1],
  [1, 1, 1, 1, 1, 1, 1, 1, 1, 1, 1, 1, 1, 1, 1, 1, 1, 1, 1, 1, 1, 1, 1, 1, 1, 1, 1, 1, 1, 1, 1, 1, 1, 1, 1, 1, 1, 1, 1, 1, 1, 1, 1, 1, 1, 1, 1, 1, 1, 1, 1, 1, 1, 1, 1, 1, 1, 1, 1],
  [1, 0, 1, 0, 0, 0, -1, 0, -1, 0, -1, 0, 0, 0, 1, 0, 1]]
def cyT (n : Nat) : List Int := cyTab.getD n []
/-- What is left when the divisors below d + 1 are divided out. -/
def cyL (n : Nat) : Nat → List Int
  | 0 => ((List.replicate (n + 1) (0 : Int)).set 0 (-1)).set n 1
  | d + 1 => if n % (d + 1) = 0 then quoL (cyL n d) (cyT (d + 1)) else cyL n d
/-- All that is wanted, with the lists handed on. -/
def cyRun (n : Nat) : Nat → Nat → List Int → Bool
  | 0, _, l => l == cyT n
  | u + 1, d, l => if n % d = 0 then decide (1 ≤ (cyT d).length) && decide ((cyT d).length ≤ l.length) && cyRun n u (d + 1) (quoL l (cyT d)) else cyRun n u (d + 1) l
def cyAll : Nat → Bool
  | 0 => true
  | n + 1 => cyRun (n + 1) n 1 (cyL (n + 1) 0) && cyAll n
set_option maxRecDepth 100000 in
theorem cyAll60 : cyAll 60 = true := by decide +kernel
theorem cyAll_at : ∀ {N n : Nat}, cyAll N = true → 1 ≤ n → n ≤ N → cyRun n (n - 1) 1 (cyL n 0) = true
  | 0, n, _, h1, h2 => absurd h1 (by omega)
  | N + 1, n, h, h1, h2 => by
    simp only [cyAll, Bool.and_eq_true] at h
    by_cases e : n = N + 1
    · subst e; exact h.1
    · exact cyAll_at h.2 h1 (by omega)
theorem cyRun_spec (n : Nat) : ∀ (u d : Nat), cyRun n u (d + 1) (cyL n d) = true → d + u = n - 1 → (∀ e, d < e → e ≤ d + u → n % e = 0 → 1 ≤ (cyT e).length ∧ (cyT e).length ≤ (cyL n (e - 1)).length) ∧ cyL n (n - 1) = cyT n
  | 0, d, h, hd => ⟨fun e h1 h2 => absurd h1 (by omega), by
    simp only [cyRun, beq_iff_eq] at h
    rw [← hd]; exact h⟩
  | u + 1, d, h, hd => by
    simp only [cyRun] at h
    by_cases c : n % (d + 1) = 0
    · rw [if_pos c] at h
      simp only [Bool.and_eq_true, decide_eq_true_eq] at h
      have e1 : cyL n (d + 1) = quoL (cyL n d) (cyT (d + 1)) := by rw [cyL, if_pos c]
      rw [← e1] at h
      obtain ⟨i1, i2⟩ := cyRun_spec n u (d + 1) h.2 (by omega)
      refine ⟨fun e a b z => ?_, i2⟩
      by_cases ed : e = d + 1
      · subst ed; exact h.1
      · exact i1 e (by omega) (by omega) z
    · rw [if_neg c] at h
      have e1 : cyL n (d + 1) = cyL n d := by rw [cyL, if_neg c]
      rw [← e1] at h
      obtain ⟨i1, i2⟩ := cyRun_spec n u (d + 1) h (by omega)
      refine ⟨fun e a b z => ?_, i2⟩
      by_cases ed : e = d + 1
      · subst ed; exact absurd z c
      · exact i1 e (by omega) (by omega) z
/-- What the walk of cyclotomic wants. -/
theorem cy_ok {n : Nat} (h1 : 1 ≤ n) (h2 : n ≤ 60) : (∀ e, 1 ≤ e → e < n → n % e = 0 → 1 ≤ (cyT e).length ∧ (cyT e).length ≤ (cyL n (e - 1)).length) ∧ cyL n (n - 1) = cyT n := by
  obtain ⟨i1, i2⟩ := cyRun_spec n (n - 1) 0 (cyAll_at cyAll60 h1 h2) (by omega)
  exact ⟨fun e a b z => i1 e (by omega) (by omega) z, i2⟩
end Go.Proofs.Ytopfcppmbkidgaa
