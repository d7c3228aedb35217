/- Plain numbers: how near the shift is to the golden ratio, told by Fibonacci numbers; the circle product as a product of pairs. No condition beyond those that each theorem names. -/
import Derived.Test.YtbdabpmpfciibaaCirc
namespace Go.Proofs.Ytbdabpmpfciibaa
open Go.RowKit

def eN (k : Nat) : Int := if k % 2 = 0 then fibN (90 - k) else -fibN (90 - k)
theorem eN_all : ∀ k : Fin 91, 2880067194370816120 * fibN (k.val + 1) - 4660046610375530309 * fibN k.val = eN k.val := by decide +kernel
theorem fibN_88 : fibN 88 = 1100087778366101931 := by decide +kernel
theorem fibN_89 : fibN 89 = 1779979416004714189 := by decide +kernel
theorem fibN_90 : fibN 90 = 2880067194370816120 := by decide +kernel
/-- The signed rest at an index. -/
def eI (k : Int) : Int := if k % 2 = 0 then fibI (90 - k) else -fibI (90 - k)
theorem eI_id {k : Int} (h0 : 0 ≤ k) (h1 : k ≤ 90) : 2880067194370816120 * fibI (k + 1) - 4660046610375530309 * fibI k = eI k := by
  obtain ⟨n, rfl⟩ : ∃ n : Nat, k = (n : Int) := ⟨k.toNat, by omega⟩
  have h := eN_all ⟨n, by omega⟩
  simp only at h
  rw [show (n : Int) + 1 = ((n + 1 : Nat) : Int) by omega, fibI_nat, fibI_nat, h]
  unfold eN eI
  rw [show (90 : Int) - (n : Int) = ((90 - n : Nat) : Int) by omega, fibI_nat]
  by_cases hp : n % 2 = 0
  · rw [if_pos hp, if_pos (by omega)]
  · rw [if_neg hp, if_neg (by omega)]
def sumE (i : Int) : List Int → Int
  | [] => 0
  | k :: r => eI (k + i) + sumE i r
theorem sumE_id (i : Int) : ∀ l : List Int, (∀ x ∈ l, 0 ≤ x + i ∧ x + i ≤ 90) → 2880067194370816120 * sumF (i + 1) l - 4660046610375530309 * sumF i l = sumE i l
  | [], _ => by simp [sumF, sumE]
  | k :: r, h => by
    have h1 := h k (by simp)
    have h2 := sumE_id i r (fun x hx => h x (by simp [hx]))
    have h3 := eI_id h1.1 h1.2
    simp only [sumF, sumE]
    rw [show k + (i + 1) = k + i + 1 by omega]
    omega
/-- The sum of Fibonacci numbers downward. -/
def absA (c : Int) : List Int → Int
  | [] => 0
  | k :: r => fibI (c - k) + absA c r
theorem absA_nonneg (c : Int) : ∀ l, 0 ≤ absA c l
  | [] => by simp [absA]
  | k :: r => by
    have := absA_nonneg c r
    have := fibI_nonneg (c - k)
    simp only [absA]; omega
theorem absA_le (c : Int) : ∀ (l : List Int) (h : Int), 1 ≤ h → h + 1 ≤ c → okN h l = true → absA c l + fibI (c - h - 1) ≤ fibI (c - 1)
  | [], h, h1, hc, _ => by
    have := fibI_mono (a := c - h - 1) (b := c - 1) (by omega)
    simp only [absA]; omega
  | k :: r, h, h1, hc, o => by
    obtain ⟨g1, g2, g3⟩ := okN_cons o
    have m := fibI_mono (a := c - h - 1) (b := c - k - 1) (by omega)
    have e := fibI_rec' (k := c - k + 1) (by omega)
    rw [show c - k + 1 - 1 = c - k by omega, show c - k + 1 - 2 = c - k - 1 by omega] at e
    simp only [absA]
    by_cases hk : k = 2
    · have hr := okN_nil (by omega) g3
      subst hr
      subst hk
      rw [show c - 2 + 1 = c - 1 by omega] at e
      simp only [absA]; omega
    · have ih := absA_le c r (k - 2) (by omega) (by omega) g3
      rw [show c - (k - 2) - 1 = c - k + 1 by omega] at ih
      omega
theorem absA_lt {c : Int} {l : List Int} {h : Int} (h1 : 1 ≤ h) (hc : h + 2 ≤ c) (o : okN h l = true) : absA c l < fibI (c - 1) := by
  have := absA_le c l h h1 (by omega) o
  have := fibI_pos (k := c - h - 1) (by omega)
  omega
theorem eI_abs (k : Int) : -fibI (90 - k) ≤ eI k ∧ eI k ≤ fibI (90 - k) := by
  have := fibI_nonneg (90 - k)
  unfold eI
  split <;> omega
theorem sumE_abs (i : Int) : ∀ l, -absA (90 - i) l ≤ sumE i l ∧ sumE i l ≤ absA (90 - i) l
  | [] => by simp [absA, sumE]
  | k :: r => by
    have h1 := sumE_abs i r
    have h2 := eI_abs (k + i)
    rw [show 90 - (k + i) = 90 - i - k by omega] at h2
    simp only [absA, sumE]
    omega
/-- The part of odd indices. -/
def oddB : List Int → Int
  | [] => 0
  | k :: r => (if k % 2 = 0 then 0 else fibI (90 - k)) + oddB r
theorem oddB_le : ∀ (l : List Int) (h : Int), 1 ≤ h → h ≤ 88 → okN h l = true → oddB l + fibI (89 - h) ≤ fibI 88
  | [], h, h1, hc, _ => by
    have := fibI_mono (a := 89 - h) (b := 88) (by omega)
    simp only [oddB]; omega
  | k :: r, h, h1, hc, o => by
    obtain ⟨g1, g2, g3⟩ := okN_cons o
    have m := fibI_mono (a := 89 - h) (b := 89 - k) (by omega)
    have m2 := fibI_mono (a := 89 - k) (b := 91 - k) (by omega)
    have e := fibI_rec' (k := 91 - k) (by omega)
    rw [show (91 : Int) - k - 1 = 90 - k by omega, show (91 : Int) - k - 2 = 89 - k by omega] at e
    simp only [oddB]
    by_cases hk : k = 2
    · have hr := okN_nil (by omega) g3
      subst hr
      subst hk
      have := fibI_mono (a := 89 - 2) (b := 88) (by omega)
      simp only [oddB]
      rw [if_pos (by omega)]
      omega
    · have ih := oddB_le r (k - 2) (by omega) (by omega) g3
      rw [show (89 : Int) - (k - 2) = 91 - k by omega] at ih
      split <;> omega
theorem sumE_odd : ∀ l, -oddB l ≤ sumE 0 l
  | [] => by simp [oddB, sumE]
  | k :: r => by
    have h1 := sumE_odd r
    have h2 := fibI_nonneg (90 - k)
    simp only [oddB, sumE]
    rw [Int.add_zero]
    unfold eI
    split <;> omega
theorem fibI_88 : fibI 88 = 1100087778366101931 := fibN_88
theorem fibI_89 : fibI 89 = 1779979416004714189 := fibN_89
theorem okN_bd {h : Int} {l : List Int} (o : okN h l = true) (hh : h ≤ 80) (i : Int) (h0 : -2 ≤ i) (h1 : i ≤ 10) : ∀ x ∈ l, 0 ≤ x + i ∧ x + i ≤ 90 := fun x hx => by
  have := okN_mem l h o x hx
  omega
/-- The shift of a numeral's value differs little from the golden ratio times it. -/
theorem near {h : Int} {l : List Int} (h0 : 1 ≤ h) (h1 : h ≤ 80) (o : okN h l = true) :
    2880067194370816120 * sumF 1 l - 4660046610375530309 * valL l < 1779979416004714189 ∧ -1100087778366101931 < 2880067194370816120 * sumF 1 l - 4660046610375530309 * valL l := by
  have e := sumE_id 0 l (okN_bd o h1 0 (by omega) (by omega))
  rw [Int.zero_add] at e
  unfold valL
  rw [e]
  have a1 := (sumE_abs 0 l).2
  rw [Int.sub_zero] at a1
  have a2 := absA_lt (c := 90) h0 (by omega) o
  rw [show (90 : Int) - 1 = 89 by omega, fibI_89] at a2
  have b1 := sumE_odd l
  have b2 := oddB_le l h h0 (by omega) o
  have b3 := fibI_pos (k := 89 - h) (by omega)
  rw [fibI_88] at b2
  omega
theorem near_num {n : Int} (h : isNum n = true) : 2880067194370816120 * shN n - 4660046610375530309 * n < 1779979416004714189 ∧ -1100087778366101931 < 2880067194370816120 * shN n - 4660046610375530309 * n := by
  have hb := isNum_yes h
  obtain ⟨o, v⟩ := enc_ok hb.1 (show n < 1548008755920 by omega)
  have := near (by omega) (by omega) o
  rw [v] at this
  exact this
/-- What is as near is the shift. -/
theorem shN_of {n d : Int} (h : isNum n = true) (h1 : -1100087778366101931 < 2880067194370816120 * d - 4660046610375530309 * n) (h2 : 2880067194370816120 * d - 4660046610375530309 * n < 1779979416004714189) : shN n = d := by
  have := near_num h
  omega
theorem sumF_two (i : Int) : ∀ l : List Int, (∀ x ∈ l, 0 ≤ x + i) → sumF (i + 2) l = sumF (i + 1) l + sumF i l
  | [], _ => by simp [sumF]
  | k :: r, h => by
    have h1 := h k (by simp)
    have h2 := sumF_two i r (fun x hx => h x (by simp [hx]))
    have h3 := fibI_rec h1
    simp only [sumF]
    rw [show k + (i + 2) = k + i + 2 by omega, show k + (i + 1) = k + i + 1 by omega]
    omega
theorem okN_up : ∀ (l : List Int) (h i : Int), 0 ≤ i → okN h l = true → okN (h + i) (upL i l) = true
  | [], _, _, _, _ => rfl
  | k :: r, h, i, hi, o => by
    obtain ⟨g1, g2, g3⟩ := okN_cons o
    have := okN_up r (k - 2) i hi g3
    show okN (h + i) ((k + i) :: upL i r) = true
    exact okN_mk (by omega) (by omega) (by rw [show k + i - 2 = k - 2 + i by omega]; exact this)
/-- The numeral of the shift is the numeral, raised. -/
theorem enc_shift {n : Int} (h : isNum n = true) : enc (shN n) = upL 1 (enc n) := by
  have hb := isNum_yes h
  obtain ⟨o, v⟩ := enc_ok hb.1 (show n < 1548008755920 by omega)
  have ho : isN (upL 1 (enc n)) = true := okN_mono _ (by omega) (okN_up _ _ 1 (by omega) o)
  have hv := enc_val ho
  rw [upL_val] at hv
  exact hv
theorem sumF_up (i j : Int) (l : List Int) : sumF i (upL j l) = sumF (j + i) l := by unfold upL; exact sumF_map i j l
theorem shN_shN {n : Int} (h : isNum n = true) : shN (shN n) = shN n + n := by
  have hb := isNum_yes h
  obtain ⟨o, v⟩ := enc_ok hb.1 (show n < 1548008755920 by omega)
  show sumF 1 (enc (shN n)) = _
  rw [enc_shift h, sumF_up]
  have := sumF_two 0 (enc n) (fun x hx => by have := okN_mem _ _ o x hx; omega)
  rw [show (0 : Int) + 2 = 1 + 1 by omega, show (0 : Int) + 1 = 1 by omega] at this
  rw [this]
  show shN n + valL (enc n) = _
  rw [v]

/-- Fibonacci numbers of sums. -/
theorem fibN_add (j : Nat) : ∀ k, fibN (j + k + 1) = fibN (k + 1) * fibN (j + 1) + fibN k * fibN j
  | 0 => by rw [fibN_0, show fibN (0 + 1) = 1 from rfl, Nat.add_zero, Int.one_mul, Int.zero_mul, Int.add_zero]
  | 1 => by
    rw [show fibN (1 + 1) = 1 from rfl, fibN_1, Int.one_mul, Int.one_mul]
    exact fibN_rec j
  | k + 2 => by
    have h1 := fibN_add j (k + 1)
    have h2 := fibN_add j k
    have e1 : fibN (j + (k + 2) + 1) = fibN (j + (k + 1) + 1) + fibN (j + k + 1) := fibN_rec (j + k + 1)
    have e2 : fibN (k + 2 + 1) = fibN (k + 1 + 1) + fibN (k + 1) := fibN_rec (k + 1)
    have e3 : fibN (k + 2) = fibN (k + 1) + fibN k := fibN_rec k
    rw [e1, h1, h2, e2, e3]
    simp only [Int.add_mul]
    omega
theorem fibI_add {j k : Int} (hj : 0 ≤ j) (hk : 0 ≤ k) : fibI (j + k) = fibI k * fibI (j + 1) + (fibI (k + 1) - fibI k) * fibI j := by
  obtain ⟨a, rfl⟩ : ∃ a : Nat, j = (a : Int) := ⟨j.toNat, by omega⟩
  obtain ⟨b, rfl⟩ : ∃ b : Nat, k = (b : Int) := ⟨k.toNat, by omega⟩
  rw [show (a : Int) + (b : Int) = ((a + b : Nat) : Int) by omega, show (a : Int) + 1 = ((a + 1 : Nat) : Int) by omega, show (b : Int) + 1 = ((b + 1 : Nat) : Int) by omega, fibI_nat, fibI_nat, fibI_nat, fibI_nat, fibI_nat]
  cases b with
  | zero => rw [fibN_0, show fibN (0 + 1) = 1 from rfl, Nat.add_zero]; omega
  | succ b =>
    have h := fibN_add a b
    have e := fibN_rec b
    rw [show a + (b + 1) = a + b + 1 by omega, h, show b + 1 + 1 = b + 2 by omega, e, show fibN (b + 1) + fibN b - fibN (b + 1) = fibN b by omega]
theorem sumF_add {k : Int} (hk : 0 ≤ k) : ∀ l : List Int, (∀ x ∈ l, 0 ≤ x) → sumF k l = fibI k * sumF 1 l + (fibI (k + 1) - fibI k) * valL l
  | [], _ => by simp [sumF, valL]
  | x :: r, h => by
    have h1 := h x (by simp)
    have h2 := sumF_add hk r (fun y hy => h y (by simp [hy]))
    have h3 := fibI_add h1 hk
    rw [valL_cons]
    simp only [sumF]
    rw [h2, h3, Int.mul_add, Int.mul_add]
    omega
theorem cirS_mul (xs : List Int) (hx : ∀ x ∈ xs, 0 ≤ x) : ∀ ys : List Int, (∀ y ∈ ys, 0 ≤ y) → cirS xs ys = valL ys * sumF 1 xs + (sumF 1 ys - valL ys) * valL xs
  | [], _ => by simp [sumF, valL, cirS]
  | y :: r, h => by
    have h1 := h y (by simp)
    have h2 := cirS_mul xs hx r (fun z hz => h z (by simp [hz]))
    rw [valL_cons]
    simp only [sumF, cirS]
    rw [h2, sumF_add h1 xs hx, Int.add_mul, show fibI (y + 1) + sumF 1 r - (fibI y + valL r) = (fibI (y + 1) - fibI y) + (sumF 1 r - valL r) by omega, Int.add_mul]
    omega
/-- The circle product by the shifts. -/
theorem ciN_mul {a b : Int} (ha : isNum a = true) (hb : isNum b = true) : ciN a b = b * shN a + (shN b - b) * a := by
  have h1 := isNum_yes ha
  have h2 := isNum_yes hb
  have := cirS_mul (enc a) (fun x hx => by have := enc_two ha x hx; omega) (enc b) (fun x hx => by have := enc_two hb x hx; omega)
  rw [(enc_ok h1.1 (show a < 1548008755920 by omega)).2, (enc_ok h2.1 (show b < 1548008755920 by omega)).2] at this
  exact this
def cirT (xs : List Int) : List Int → Int
  | [] => 0
  | k :: r => sumF (k + 1) xs + cirT xs r
def cirE (xs : List Int) : List Int → Int
  | [] => 0
  | k :: r => sumE k xs + cirE xs r
theorem cirT_mul (xs : List Int) (hx : ∀ x ∈ xs, 0 ≤ x) : ∀ ys : List Int, (∀ y ∈ ys, 0 ≤ y) → cirT xs ys = sumF 1 ys * sumF 1 xs + valL ys * valL xs
  | [], _ => by simp [sumF, valL, cirT]
  | y :: r, h => by
    have h1 := h y (by simp)
    have h2 := cirT_mul xs hx r (fun z hz => h z (by simp [hz]))
    have e := fibI_rec h1
    rw [valL_cons]
    simp only [sumF, cirT]
    rw [h2, sumF_add (show 0 ≤ y + 1 by omega) xs hx, show y + 1 + 1 = y + 2 by omega, show fibI (y + 2) - fibI (y + 1) = fibI y by omega, Int.add_mul, Int.add_mul]
    omega
theorem cirE_id (xs : List Int) : ∀ ys : List Int, (∀ y ∈ ys, ∀ x ∈ xs, 0 ≤ x + y ∧ x + y ≤ 90) → 2880067194370816120 * cirT xs ys - 4660046610375530309 * cirS xs ys = cirE xs ys
  | [], _ => by simp [cirT, cirS, cirE]
  | y :: r, h => by
    have h1 := sumE_id y xs (h y (by simp))
    have h2 := cirE_id xs r (fun z hz => h z (by simp [hz]))
    simp only [cirT, cirS, cirE]
    omega
theorem cirE_abs {h : Int} (xs : List Int) (h1 : 1 ≤ h) (o : okN h xs = true) : ∀ ys : List Int, (∀ y ∈ ys, y + h ≤ 88) → -absA 89 ys ≤ cirE xs ys ∧ cirE xs ys ≤ absA 89 ys
  | [], _ => by simp [cirE, absA]
  | y :: r, hy => by
    have h2 := cirE_abs xs h1 o r (fun z hz => hy z (by simp [hz]))
    have h3 := sumE_abs y xs
    have h4 := absA_lt (c := 90 - y) h1 (by have := hy y (by simp); omega) o
    rw [show 90 - y - 1 = 89 - y by omega] at h4
    simp only [cirE, absA]
    omega
/-- The shift of a circle product. -/
theorem shN_ciN {a b : Int} (ha : isNum a = true) (hb : isNum b = true) (hc : ciN a b ≤ 1000000000000) : shN (ciN a b) = shN b * shN a + b * a := by
  have h1 := isNum_yes ha
  have h2 := isNum_yes hb
  obtain ⟨o1, v1⟩ := enc_ok h1.1 (show a < 1548008755920 by omega)
  obtain ⟨o2, v2⟩ := enc_ok h2.1 (show b < 1548008755920 by omega)
  have hsmall : ∀ y ∈ enc b, ∀ x ∈ enc a, x + y ≤ 59 := by
    intro y hy x hx
    have e1 := cirS_mem_le (enc a) (enc b) y hy
    have e2 := sumF_mem_le y (enc a) x hx
    by_cases h : x + y ≤ 59
    · exact h
    · have e3 : fibI ((60 : Nat) : Int) ≤ fibI (x + y) := fibI_mono (by omega)
      rw [fibI_nat, fibN_60] at e3
      have : cirS (enc a) (enc b) ≤ 1000000000000 := hc
      omega
  have hT := cirT_mul (enc a) (fun x hx => by have := enc_two ha x hx; omega) (enc b) (fun x hx => by have := enc_two hb x hx; omega)
  rw [v1, v2] at hT
  have hid := cirE_id (enc a) (enc b) (fun y hy x hx => by
    have := hsmall y hy x hx
    have := enc_two ha x hx
    have := enc_two hb y hy
    omega)
  have hnum : isNum (ciN a b) = true := isNum_mk (cirS_nonneg _ _) hc
  have habs : -1100087778366101931 < cirE (enc a) (enc b) ∧ cirE (enc a) (enc b) < 1100087778366101931 := by
    cases hA : enc a with
    | nil =>
      have : ∀ ys, cirE [] ys = 0 := by
        intro ys
        induction ys with
        | nil => rfl
        | cons y r ih => simp only [cirE, sumE, ih]; omega
      rw [this]; omega
    | cons x0 r0 =>
      have hx0 : x0 ∈ enc a := by rw [hA]; simp
      rw [← hA]
      have g := okN_mem _ _ o1 x0 hx0
      have o1' : okN x0 (enc a) = true := by
        rw [hA] at o1 ⊢
        obtain ⟨g1, g2, g3⟩ := okN_cons o1
        exact okN_mk g1 (by omega) g3
      have h3 := cirE_abs (enc a) (h := x0) (by omega) o1' (enc b) (fun y hy => by have := hsmall y hy x0 hx0; omega)
      have h4 := absA_lt (c := 89) (show (1 : Int) ≤ 59 by omega) (by omega) o2
      rw [show (89 : Int) - 1 = 88 by omega, fibI_88] at h4
      omega
  have := shN_of (n := ciN a b) (d := cirT (enc a) (enc b)) hnum (by
    have e : ciN a b = cirS (enc a) (enc b) := rfl
    rw [e]; omega) (by
    have e : ciN a b = cirS (enc a) (enc b) := rfl
    rw [e]; omega)
  rw [this, hT]
  rfl
end Go.Proofs.Ytbdabpmpfciibaa
