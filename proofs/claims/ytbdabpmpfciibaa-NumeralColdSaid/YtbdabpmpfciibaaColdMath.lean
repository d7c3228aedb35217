/- Plain numbers: which numbers are the lesser heap of a cold pair, told by the last index of their numeral. No condition beyond those that each theorem names. -/
import Derived.Test.YtbdabpmpfciibaaPairs
namespace Go.Proofs.Ytbdabpmpfciibaa
open Go.RowKit

def lastF : List Int → Int
  | [] => 0
  | k :: r => if r = [] then k else lastF r
theorem lastF_one (k : Int) : lastF [k] = k := by simp [lastF]
theorem lastF_cons (k j : Int) (r : List Int) : lastF (k :: j :: r) = lastF (j :: r) := by
  rw [lastF, if_neg (by simp)]
theorem lastF_getD : ∀ l : List Int, lastF l = l.getD (l.length - 1) 0
  | [] => rfl
  | [k] => by simp [lastF]
  | k :: j :: r => by
    rw [lastF_cons, lastF_getD (j :: r)]
    simp [List.getD]
theorem sumE_sgn : ∀ (l : List Int) (k : Int) (r : List Int), l = k :: r → k ≤ 80 → okN k l = true →
    (lastF l % 2 = 0 → fibI (89 - k) ≤ sumE 0 l) ∧ (lastF l % 2 = 1 → sumE 0 l ≤ -fibI (89 - k))
  | _, k, [], rfl, hk, o => by
    have m := fibI_mono (a := 89 - k) (b := 90 - k) (by omega)
    obtain ⟨g1, g2, g3⟩ := okN_cons o
    rw [lastF_one]
    simp only [sumE]
    rw [Int.add_zero, Int.add_zero]
    unfold eI
    constructor
    · intro h; rw [if_pos h]; exact m
    · intro h; rw [if_neg (by omega)]; omega
  | _, k, j :: s, rfl, hk, o => by
    obtain ⟨g1, g2, g3⟩ := okN_cons o
    obtain ⟨p1, p2, p3⟩ := okN_cons g3
    have ih := sumE_sgn (j :: s) j s rfl (by omega) (okN_mk p1 (by omega) p3)
    have e := eI_abs (k + 0)
    rw [Int.add_zero] at e
    have rc := fibI_rec' (k := 91 - k) (by omega)
    rw [show (91 : Int) - k - 1 = 90 - k by omega, show (91 : Int) - k - 2 = 89 - k by omega] at rc
    have m := fibI_mono (a := 91 - k) (b := 89 - j) (by omega)
    rw [lastF_cons]
    have es : sumE 0 (k :: j :: s) = eI k + sumE 0 (j :: s) := by rw [sumE, Int.add_zero]
    rw [es]
    constructor
    · intro h
      have := ih.1 h
      omega
    · intro h
      have := ih.2 h
      omega
theorem okN_head {h k : Int} {r : List Int} (o : okN h (k :: r) = true) : okN k (k :: r) = true := by
  obtain ⟨g1, g2, g3⟩ := okN_cons o
  exact okN_mk g1 (Int.le_refl _) g3
theorem enc_ne {n : Int} (h : isNum n = true) (h1 : 1 ≤ n) : enc n ≠ [] := by
  intro e
  have hb := isNum_yes h
  have := (enc_ok hb.1 (show n < 1548008755920 by omega)).2
  rw [e, valL_nil] at this
  omega
theorem near_sgn {n : Int} (h : isNum n = true) (h1 : 1 ≤ n) :
    (lastF (enc n) % 2 = 0 → 1 ≤ 2880067194370816120 * shN n - 4660046610375530309 * n) ∧ (lastF (enc n) % 2 = 1 → 2880067194370816120 * shN n - 4660046610375530309 * n ≤ -1) := by
  have hb := isNum_yes h
  obtain ⟨o, v⟩ := enc_ok hb.1 (show n < 1548008755920 by omega)
  have e := sumE_id 0 (enc n) (okN_bd o (by omega) 0 (by omega) (by omega))
  have hv : sumF 0 (enc n) = n := v
  rw [Int.zero_add, hv] at e
  have hs : sumF 1 (enc n) = shN n := rfl
  rw [hs] at e
  rw [e]
  cases hl : enc n with
  | nil => exact absurd hl (enc_ne h h1)
  | cons k r =>
    rw [hl] at o
    have g := okN_cons o
    obtain ⟨t1, t2⟩ := sumE_sgn (k :: r) k r rfl (by omega) (okN_head o)
    have := fibI_pos (k := 89 - k) (by omega)
    constructor
    · intro h; have := t1 h; omega
    · intro h; have := t2 h; omega
/-- A number with an even last index is the lesser heap of the pair with its shift. -/
theorem cold_even {n : Int} (h1 : 1 ≤ n) (h2 : n ≤ 100000000) (he : lastF (enc n) % 2 = 0) : 1 ≤ shN n - n ∧ shN n - n ≤ n ∧ coldA (shN n - n) = n := by
  have hn := isNum_mk (n := n) (by omega) (by omega)
  have s1 := (near_sgn hn h1).1 he
  have s2 := (near_num hn).1
  have d1 : 1 ≤ shN n - n := by omega
  have d2 : shN n - n ≤ n := by omega
  have := coldA_near d1 (by omega)
  refine ⟨d1, d2, ?_⟩
  have a1 : 2880067194370816120 * n < 4660046610375530309 * (shN n - n) := by omega
  have a2 : 4660046610375530309 * (shN n - n) < 2880067194370816120 * n + 2880067194370816120 := by omega
  omega
theorem upL_up (i j : Int) (l : List Int) : upL i (upL j l) = upL (j + i) l := by
  unfold upL
  rw [List.map_map]
  apply List.map_congr_left
  intro x _
  show x + j + i = x + (j + i)
  omega
theorem upL_zero (l : List Int) : upL 0 l = l := by
  unfold upL
  rw [List.map_congr_left (g := id) (fun x _ => Int.add_zero x), List.map_id]
theorem lastF_up (i : Int) : ∀ l : List Int, l ≠ [] → lastF (upL i l) = lastF l + i
  | [], h => absurd rfl h
  | [k], _ => by simp [lastF, upL]
  | k :: j :: r, _ => by
    rw [lastF_cons]
    show lastF ((k + i) :: (j + i) :: upL i r) = _
    rw [lastF_cons]
    exact lastF_up i (j :: r) (by simp)
theorem okN_down : ∀ (l : List Int) (h : Int), okN h l = true → 3 ≤ lastF l → okN (h - 1) (upL (-1) l) = true
  | [], _, _, _ => rfl
  | [k], h, o, hl => by
    rw [lastF_one] at hl
    obtain ⟨g1, g2, g3⟩ := okN_cons o
    show okN (h - 1) [k + -1] = true
    exact okN_mk (by omega) (by omega) rfl
  | k :: j :: r, h, o, hl => by
    rw [lastF_cons] at hl
    obtain ⟨g1, g2, g3⟩ := okN_cons o
    have := okN_down (j :: r) (k - 2) g3 hl
    obtain ⟨p1, p2, -⟩ := okN_cons g3
    show okN (h - 1) ((k + -1) :: upL (-1) (j :: r)) = true
    exact okN_mk (by omega) (by omega) (by rw [show k + -1 - 2 = k - 2 - 1 by omega]; exact this)
theorem lastF_two : ∀ (l : List Int) (h : Int), okN h l = true → l ≠ [] → 2 ≤ lastF l
  | [], _, _, hl => absurd rfl hl
  | [k], _, o, _ => by rw [lastF_one]; exact (okN_cons o).1
  | k :: j :: r, _, o, _ => by rw [lastF_cons]; exact lastF_two (j :: r) _ (okN_cons o).2.2 (by simp)
/-- A number with an odd last index is the shift of one with an even last index. -/
theorem cold_odd {n : Int} (h1 : 1 ≤ n) (h2 : n ≤ 100000000) (ho : lastF (enc n) % 2 = 1) :
    isN (upL (-1) (enc n)) = true ∧ 1 ≤ sumF (-1) (enc n) ∧ sumF (-1) (enc n) < n ∧ shN (sumF (-1) (enc n)) = n ∧ coldA (n - sumF (-1) (enc n)) = sumF (-1) (enc n) := by
  have hn := isNum_mk (n := n) (by omega) (by omega)
  have hb := isNum_yes hn
  obtain ⟨o, v⟩ := enc_ok hb.1 (show n < 1548008755920 by omega)
  have hne := enc_ne hn h1
  have h3 : 3 ≤ lastF (enc n) := by
    have := lastF_two _ _ o hne
    omega
  have hN : isN (upL (-1) (enc n)) = true := okN_mono _ (by omega) (okN_down _ _ o h3)
  have hv := upL_val (-1) (enc n)
  have he := enc_val hN
  rw [hv] at he
  obtain ⟨m, hm⟩ : ∃ m, sumF (-1) (enc n) = m := ⟨_, rfl⟩
  rw [hm] at he hv ⊢
  have hs : shN m = n := by
    show sumF 1 (enc m) = n
    rw [he, sumF_up, show (-1 : Int) + 1 = 0 by omega]
    exact v
  have hm0 : 0 ≤ m := hm ▸ sumF_nonneg _ _
  have hle : lastF (enc m) % 2 = 0 := by
    rw [he, lastF_up _ _ hne]; omega
  have hmn : m ≤ n := by
    have e1 : ∀ l : List Int, sumF (-1) l ≤ valL l := by
      intro l
      induction l with
      | nil => simp [sumF, valL]
      | cons k r ih =>
        have := fibI_mono (a := k + -1) (b := k) (by omega)
        rw [valL_cons]
        simp only [sumF]; omega
    have := e1 (enc n)
    rw [hm, v] at this
    exact this
  have hm1 : 1 ≤ m := by
    by_cases h : m = 0
    · rw [h] at he
      have : upL (-1) (enc n) = [] := he.symm.trans (by decide +kernel)
      unfold upL at this
      exact absurd (List.map_eq_nil_iff.1 this) hne
    · omega
  obtain ⟨c1, c2, c3⟩ := cold_even hm1 (by omega) hle
  rw [hs] at c1 c3
  exact ⟨hN, hm1, by omega, hs, c3⟩
end Go.Proofs.Ytbdabpmpfciibaa
