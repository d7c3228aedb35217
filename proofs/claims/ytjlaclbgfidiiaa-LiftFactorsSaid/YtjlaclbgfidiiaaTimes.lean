/- The walks of times, and of the reference's Times. Condition: the slices lie in memory, the numbers are in range. -/
import Derived.Test.YtjlaclbgfidiiaaCalls
namespace Go.Proofs.Ytjlaclbgfidiiaa
open Go.RowKit
attribute [local go_sem] Oper.semAt_some

/-- What the first j numbers of g add to place t in row i. -/
def rowT (f g : List Int) (i j t : Nat) : Int := if i ≤ t ∧ t - i < j then f.getD i 0 * g.getD (t - i) 0 else 0
/-- What the first i rows add to place t. -/
def fullT (f g : List Int) : Nat → Nat → Int
  | 0, _ => 0
  | i + 1, t => fullT f g i t + rowT f g i g.length t
def acc (f g : List Int) (i j t : Nat) : Int := fullT f g i t + rowT f g i j t
/-- The product. -/
def mulF (f g : List Int) : List Int := (List.range (f.length + g.length - 1)).map fun t => fullT f g f.length t
theorem acc_start {f g : List Int} {t : Nat} : acc f g 0 0 t = 0 := by simp [acc, fullT, rowT]
theorem acc_next {f g : List Int} {i m : Nat} (t : Nat) (h : g.length = m) : acc f g i m t = acc f g (i + 1) 0 t := by
  subst h
  simp only [acc, fullT, rowT]
  rw [if_neg (show ¬ (i + 1 ≤ t ∧ t - (i + 1) < 0) by omega), Int.add_zero]
theorem acc_step {f g : List Int} {i j : Nat} (t : Nat) : acc f g i (j + 1) t = if t = i + j then acc f g i j (i + j) + f.getD i 0 * g.getD j 0 else acc f g i j t := by
  simp only [acc, rowT]
  by_cases h : t = i + j
  · subst h
    rw [if_pos rfl, if_pos (by omega), if_neg (by omega), Int.add_zero, show i + j - i = j by omega]
  · rw [if_neg h]
    by_cases h2 : i ≤ t ∧ t - i < j
    · rw [if_pos (by omega), if_pos h2]
    · rw [if_neg (by omega), if_neg h2]
theorem mul_abs2 {x y : Int} (x0 : -1000 ≤ x) (x1 : x ≤ 1000) (y0 : -1000 ≤ y) (y1 : y ≤ 1000) : -1000000 ≤ x * y ∧ x * y ≤ 1000000 := by
  rcases Int.le_total 0 x with h | h
  · have := mul_abs h x1 y0 y1; omega
  · have := mul_abs (a := -x) (by omega) (show -x ≤ 1000 by omega) y0 y1
    rw [Int.neg_mul] at this
    omega
theorem rowT_abs {f g : List Int} {i j t n m : Nat} (b1 : ∀ j, j < n → -1000 ≤ f.getD j 0 ∧ f.getD j 0 ≤ 1000) (b2 : ∀ j, j < m → -1000 ≤ g.getD j 0 ∧ g.getD j 0 ≤ 1000) (hi : i < n) (hj : j ≤ m) : -1000000 ≤ rowT f g i j t ∧ rowT f g i j t ≤ 1000000 := by
  unfold rowT
  split
  · rename_i h
    obtain ⟨x0, x1⟩ := b1 i hi
    obtain ⟨y0, y1⟩ := b2 (t - i) (by omega)
    exact mul_abs2 x0 x1 y0 y1
  · omega
theorem rowT_more {f g : List Int} {i j t : Nat} (h : g.length ≤ j) : rowT f g i j t = rowT f g i g.length t := by
  unfold rowT
  by_cases h1 : i ≤ t ∧ t - i < g.length
  · rw [if_pos (by omega), if_pos h1]
  · rw [if_neg h1]
    split
    · rename_i h2
      have : g.getD (t - i) 0 = 0 := by rw [List.getD, List.getElem?_eq_none (by omega)]; rfl
      rw [this, Int.mul_zero]
    · rfl
theorem fullT_abs {f g : List Int} {n m : Nat} (b1 : ∀ j, j < n → -1000 ≤ f.getD j 0 ∧ f.getD j 0 ≤ 1000) (b2 : ∀ j, j < m → -1000 ≤ g.getD j 0 ∧ g.getD j 0 ≤ 1000) (hg : g.length ≤ m) : ∀ (i t : Nat), i ≤ n → -(1000000 * (i : Int)) ≤ fullT f g i t ∧ fullT f g i t ≤ 1000000 * (i : Int)
  | 0, t, _ => by simp [fullT]
  | i + 1, t, h => by
    have ih := fullT_abs b1 b2 hg i t (by omega)
    have hr := rowT_abs (t := t) b1 b2 (show i < n by omega) hg
    simp only [fullT]
    omega
theorem getD_zero {g : List Int} {j : Nat} (h : g.length ≤ j) : g.getD j 0 = 0 := by rw [List.getD, List.getElem?_eq_none h]; rfl
theorem acc_abs {f g : List Int} {m n i j : Nat} (t : Nat) (hg : g.length = m) (hn : n ≤ 9) (b1 : ∀ j, j < n → -1000 ≤ f.getD j 0 ∧ f.getD j 0 ≤ 1000) (b2 : ∀ j, j < m → -1000 ≤ g.getD j 0 ∧ g.getD j 0 ≤ 1000) (hi : i < n) (hj : j ≤ m) : -1000000000 ≤ acc f g i j t ∧ acc f g i j t ≤ 1000000000 := by
  have h1 := fullT_abs b1 b2 (Nat.le_of_eq hg) i t (by omega)
  have h2 := rowT_abs (t := t) b1 b2 hi hj
  simp only [acc]
  omega
theorem mulF_cells (f g : List Int) {n m : Nat} (hf : f.length = n) (hg : g.length = m) (n0 : 1 ≤ n) (m0 : 1 ≤ m) : ((List.range (n + m - 1)).map fun t : Nat => Value.int .i64 (acc f g n 0 t)) = (mulF f g).map (Value.int .i64) := by
  subst hf hg
  unfold mulF
  rw [List.map_map]
  apply List.map_congr_left
  intro t _
  have : acc f g f.length 0 t = fullT f g f.length t := by
    simp only [acc, rowT]
    rw [if_neg (by omega), Int.add_zero]
  rw [this]
  rfl

set_option maxHeartbeats 8000000 in
set_option maxRecDepth 100000 in
theorem times_any (a1 a2 : Option Addr) (n m c1 c2 : Nat) (f g : List Int) (w : World) (h1 : Ints w a1 n f) (h2 : Ints w a2 m g) (n0 : 1 ≤ n) (n1 : n ≤ 9) (m0 : 1 ≤ m) (m1 : m ≤ 9)
    (b1 : ∀ j, j < n → -1000 ≤ f.getD j 0 ∧ f.getD j 0 ≤ 1000) (b2 : ∀ j, j < m → -1000 ≤ g.getD j 0 ∧ g.getD j 0 ≤ 1000) :
    Calls Try.prog 73 #[.slice a1 n c1, .slice a2 m c2] w fun e w' => (∃ v, e = .returned v ∧ Row w.heap.size v (mulF f g) w') ∧ Below w.heap.size w w' := by
  obtain ⟨i0, hi, hz0, hz1, hz2⟩ := info_parts info3
  have hab := fun i j t => acc_abs (f := f) (g := g) (m := m) (n := n) (i := i) (j := j) t h2.1 n1 b1 b2
  have hml := mulF_cells f g h1.1 h2.1 n0 m0
  have H1 := Lib.hid h1
  have H2 := Lib.hid h2
  have B1 := Lib.hid b1
  have B2 := Lib.hid b2
  have HAB := Lib.hid hab
  obtain ⟨N, hN⟩ : ∃ N, n + m - 1 = N := ⟨_, rfl⟩
  rw [hN] at hml
  have HML := Lib.hid hml
  have HN := Lib.hid hN
  have eN : (n : Int) + (m : Int) - 1 = (N : Int) := by omega
  have N0 : (0 : Int) ≤ (N : Int) := by omega
  have N17 : N ≤ 17 := by omega
  clear h1 h2 b1 b2 hab hml hN
  go_enter Try.func73, Try.ntmps73
  go_wp2_with (at_make; refine wpList_make_full _ rfl _ _ 86 rfl w.heap.size 3 i0 (.int .i64 0) 1 Try.underlying86 hi hz0 hz1 _ _ _ _ N rfl rfl (by omega) (by omega) (by rw [hz2]; omega) (by unfold maxLen; omega) (Nat.le_refl _) ?_; intro w1 hown hgrow)
  clear hi hz0 hz1 hz2
  have S0 := Lib.hid (CoState.made hown ((Below.refl w.heap.size w).grown hgrow (Nat.le_refl _) (fun k e => by cases e)))
  clear hown hgrow
  obtain ⟨G, hg⟩ : ∃ G, w.heap.size = G := ⟨_, rfl⟩
  rw [hg] at S0 ⊢
  have HG := Lib.hid hg
  clear hg
  go_loopg [6, 7, 19] n (fun gk s6 s7 s19 wr => ∃ i : Nat, i + gk = n ∧ s19 = .int .i64 (i : Int) ∧ CoState G N (acc f g i 0) w wr)
  case atStart => exact ⟨0, by omega, rfl, S0.out.congr fun j _ => by rw [acc_start]⟩
  case round =>
    obtain ⟨i, hin, rfl, hs⟩ := hrel
    have HS := Lib.hid hs
    have HI := Lib.hid hin
    clear hs S0
    by_cases hlt : i < n
    · have l1 : (i : Int) < (n : Int) := by omega
      have i00 : (0 : Int) ≤ (i : Int) := by omega
      obtain ⟨b, off, hab, hb, hc⟩ := H1.out.at (by omega)
      subst hab
      have hck := (HS.out.b.cell (p := ⟨b, off + i, none⟩) hb).trans (hc i hlt)
      obtain ⟨x0, x1⟩ := B1.out i hlt
      obtain ⟨x, hx⟩ : ∃ x, f.getD i 0 = x := ⟨_, rfl⟩
      rw [hx] at hck x0 x1
      have HX := Lib.hid hx
      obtain ⟨b', off', hab2, hb2, hc2⟩ := H2.out.at (by omega)
      subst hab2
      have HC2 := Lib.hid (And.intro hb2 hc2)
      clear hc hx hin hc2 hb2
      go_wp2
      obtain ⟨W0, hW0⟩ : ∃ W0, W0 = wr := ⟨_, rfl⟩
      rw [← hW0] at HS hck ⊢
      clear hW0 hck
      go_loopg [8, 9, 26] m (fun gk2 s8 s9 s26 wr => ∃ j : Nat, j + gk2 = m ∧ s26 = .int .i64 (j : Int) ∧ CoState G N (acc f g i j) w wr)
      case atStart => exact ⟨0, by omega, rfl, HS.out⟩
      case round =>
        obtain ⟨j, hjm, rfl, hs⟩ := hrel
        have HS2 := Lib.hid hs
        have HJ := Lib.hid hjm
        clear hs
        by_cases hlt2 : j < m
        · have l2 : (j : Int) < (m : Int) := by omega
          have j00 : (0 : Int) ≤ (j : Int) := by omega
          have hcj := (HS2.out.b.cell (p := ⟨b', off' + j, none⟩) HC2.out.1).trans (HC2.out.2 j hlt2)
          obtain ⟨y0, y1⟩ := B2.out j hlt2
          obtain ⟨y, hy⟩ : ∃ y, g.getD j 0 = y := ⟨_, rfl⟩
          rw [hy] at hcj y0 y1
          have HY := Lib.hid hy
          have hijN : i + j < N := by have := HN.out; omega
          have l3 : (i : Int) + (j : Int) < (N : Int) := by omega
          have eij : (i : Int) + (j : Int) = ((i + j : Nat) : Int) := by omega
          have hct := HS2.out.cell (j := i + j) hijN
          have hft := HS2.out.frozen (i + j)
          have hstep := fun t => acc_step (f := f) (g := g) (i := i) (j := j) t
          obtain ⟨z0, z1⟩ := HAB.out i j (i + j) (by omega) (by omega)
          obtain ⟨z, hz⟩ : ∃ z, acc f g i j (i + j) = z := ⟨_, rfl⟩
          rw [hz] at hct z0 z1
          simp only [HX.out, hy] at hstep
          obtain ⟨p0, p1⟩ := mul_abs2 x0 x1 y0 y1
          have HST := Lib.hid hstep
          have HZ := Lib.hid hz
          obtain ⟨T, hT⟩ : ∃ T, i + j = T := ⟨_, rfl⟩
          rw [hT] at hct hft eij hijN HZ
          have HT := Lib.hid hT
          have T0 : (0 : Int) ≤ (T : Int) := by omega
          have T1 : (T : Int) < (N : Int) := by omega
          clear hy hstep hz hT hjm l3
          go_wp2
          have HS3 := Lib.hid (show CoState G N (acc f g i (j + 1)) w (wr.setCell ⟨G, T, none⟩ (.int .i64 (z + x * y))) from
            (HS2.out.put T (z + x * y)).congr fun t _ => by
              rw [HST.out t, HT.out]
              by_cases ht : t = T
              · subst ht
                rw [if_pos rfl, if_pos rfl, HZ.out]
              · rw [if_neg ht, if_neg ht])
          go_roundg (m - j - 1)
          case rel => exact ⟨j + 1, by have := HJ.out; omega, by go_num, HS3.out⟩
          case measure => have := HJ.out; omega
        · have l2 : ¬ (j : Int) < (m : Int) := by omega
          have hjm2 : j = m := by omega
          have HS3 := Lib.hid (show CoState G N (acc f g (i + 1) 0) w wr from HS2.out.congr fun t _ => by rw [hjm2]; exact acc_next t (H2.out.1))
          clear hjm hjm2
          go_wp2
          go_roundg (n - i - 1)
          case rel => exact ⟨i + 1, by have := HI.out; omega, by go_num, HS3.out⟩
          case measure => have := HI.out; omega
    · have l1 : ¬ (i : Int) < (n : Int) := by omega
      have hin2 : i = n := by omega
      have ho := HS.out.own
      rw [hin2, HML.out] at ho
      have HR := Lib.hid (Row.of ho).1
      clear ho hin hin2
      go_wp2
      go_ret
      exact ⟨⟨_, rfl, HR.out⟩, HS.out.b⟩

set_option maxHeartbeats 8000000 in
set_option maxRecDepth 100000 in
theorem timesR_any (a1 a2 : Option Addr) (n m c1 c2 : Nat) (f g : List Int) (w : World) (h1 : Ints w a1 n f) (h2 : Ints w a2 m g) (n0 : 1 ≤ n) (n1 : n ≤ 9) (m0 : 1 ≤ m) (m1 : m ≤ 9)
    (b1 : ∀ j, j < n → -1000 ≤ f.getD j 0 ∧ f.getD j 0 ≤ 1000) (b2 : ∀ j, j < m → -1000 ≤ g.getD j 0 ∧ g.getD j 0 ≤ 1000) :
    Calls Try.prog 46 #[.slice a1 n c1, .slice a2 m c2] w fun e w' => (∃ v, e = .returned v ∧ Row w.heap.size v (mulF f g) w') ∧ Below w.heap.size w w' := by
  obtain ⟨i0, hi, hz0, hz1, hz2⟩ := info_parts info3
  have hab := fun i j t => acc_abs (f := f) (g := g) (m := m) (n := n) (i := i) (j := j) t h2.1 n1 b1 b2
  have hml := mulF_cells f g h1.1 h2.1 n0 m0
  have H1 := Lib.hid h1
  have H2 := Lib.hid h2
  have B1 := Lib.hid b1
  have B2 := Lib.hid b2
  have HAB := Lib.hid hab
  obtain ⟨N, hN⟩ : ∃ N, n + m - 1 = N := ⟨_, rfl⟩
  rw [hN] at hml
  have HML := Lib.hid hml
  have HN := Lib.hid hN
  have eN : (n : Int) + (m : Int) - 1 = (N : Int) := by omega
  have N0 : (0 : Int) ≤ (N : Int) := by omega
  have N17 : N ≤ 17 := by omega
  clear h1 h2 b1 b2 hab hml hN
  go_enter Try.func46, Try.ntmps46
  go_wp2_with (at_make; refine wpList_make_full _ rfl _ _ 22 rfl w.heap.size 3 i0 (.int .i64 0) 1 Try.underlying22 hi hz0 hz1 _ _ _ _ N rfl rfl (by omega) (by omega) (by rw [hz2]; omega) (by unfold maxLen; omega) (Nat.le_refl _) ?_; intro w1 hown hgrow)
  clear hi hz0 hz1 hz2
  have S0 := Lib.hid (CoState.made hown ((Below.refl w.heap.size w).grown hgrow (Nat.le_refl _) (fun k e => by cases e)))
  clear hown hgrow
  obtain ⟨G, hg⟩ : ∃ G, w.heap.size = G := ⟨_, rfl⟩
  rw [hg] at S0 ⊢
  have HG := Lib.hid hg
  clear hg
  go_loopg [6, 7, 19] n (fun gk s6 s7 s19 wr => ∃ i : Nat, i + gk = n ∧ s19 = .int .i64 (i : Int) ∧ CoState G N (acc f g i 0) w wr)
  case atStart => exact ⟨0, by omega, rfl, S0.out.congr fun j _ => by rw [acc_start]⟩
  case round =>
    obtain ⟨i, hin, rfl, hs⟩ := hrel
    have HS := Lib.hid hs
    have HI := Lib.hid hin
    clear hs S0
    by_cases hlt : i < n
    · have l1 : (i : Int) < (n : Int) := by omega
      have i00 : (0 : Int) ≤ (i : Int) := by omega
      obtain ⟨b, off, hab, hb, hc⟩ := H1.out.at (by omega)
      subst hab
      have hck := (HS.out.b.cell (p := ⟨b, off + i, none⟩) hb).trans (hc i hlt)
      obtain ⟨x0, x1⟩ := B1.out i hlt
      obtain ⟨x, hx⟩ : ∃ x, f.getD i 0 = x := ⟨_, rfl⟩
      rw [hx] at hck x0 x1
      have HX := Lib.hid hx
      obtain ⟨b', off', hab2, hb2, hc2⟩ := H2.out.at (by omega)
      subst hab2
      have HC2 := Lib.hid (And.intro hb2 hc2)
      clear hc hx hin hc2 hb2
      go_wp2
      obtain ⟨W0, hW0⟩ : ∃ W0, W0 = wr := ⟨_, rfl⟩
      rw [← hW0] at HS hck ⊢
      clear hW0 hck
      go_loopg [8, 9, 26] m (fun gk2 s8 s9 s26 wr => ∃ j : Nat, j + gk2 = m ∧ s26 = .int .i64 (j : Int) ∧ CoState G N (acc f g i j) w wr)
      case atStart => exact ⟨0, by omega, rfl, HS.out⟩
      case round =>
        obtain ⟨j, hjm, rfl, hs⟩ := hrel
        have HS2 := Lib.hid hs
        have HJ := Lib.hid hjm
        clear hs
        by_cases hlt2 : j < m
        · have l2 : (j : Int) < (m : Int) := by omega
          have j00 : (0 : Int) ≤ (j : Int) := by omega
          have hcj := (HS2.out.b.cell (p := ⟨b', off' + j, none⟩) HC2.out.1).trans (HC2.out.2 j hlt2)
          obtain ⟨y0, y1⟩ := B2.out j hlt2
          obtain ⟨y, hy⟩ : ∃ y, g.getD j 0 = y := ⟨_, rfl⟩
          rw [hy] at hcj y0 y1
          have HY := Lib.hid hy
          have hijN : i + j < N := by have := HN.out; omega
          have l3 : (i : Int) + (j : Int) < (N : Int) := by omega
          have eij : (i : Int) + (j : Int) = ((i + j : Nat) : Int) := by omega
          have hct := HS2.out.cell (j := i + j) hijN
          have hft := HS2.out.frozen (i + j)
          have hstep := fun t => acc_step (f := f) (g := g) (i := i) (j := j) t
          obtain ⟨z0, z1⟩ := HAB.out i j (i + j) (by omega) (by omega)
          obtain ⟨z, hz⟩ : ∃ z, acc f g i j (i + j) = z := ⟨_, rfl⟩
          rw [hz] at hct z0 z1
          simp only [HX.out, hy] at hstep
          obtain ⟨p0, p1⟩ := mul_abs2 x0 x1 y0 y1
          have HST := Lib.hid hstep
          have HZ := Lib.hid hz
          obtain ⟨T, hT⟩ : ∃ T, i + j = T := ⟨_, rfl⟩
          rw [hT] at hct hft eij hijN HZ
          have HT := Lib.hid hT
          have T0 : (0 : Int) ≤ (T : Int) := by omega
          have T1 : (T : Int) < (N : Int) := by omega
          clear hy hstep hz hT hjm l3
          go_wp2
          have HS3 := Lib.hid (show CoState G N (acc f g i (j + 1)) w (wr.setCell ⟨G, T, none⟩ (.int .i64 (z + x * y))) from
            (HS2.out.put T (z + x * y)).congr fun t _ => by
              rw [HST.out t, HT.out]
              by_cases ht : t = T
              · subst ht
                rw [if_pos rfl, if_pos rfl, HZ.out]
              · rw [if_neg ht, if_neg ht])
          go_roundg (m - j - 1)
          case rel => exact ⟨j + 1, by have := HJ.out; omega, by go_num, HS3.out⟩
          case measure => have := HJ.out; omega
        · have l2 : ¬ (j : Int) < (m : Int) := by omega
          have hjm2 : j = m := by omega
          have HS3 := Lib.hid (show CoState G N (acc f g (i + 1) 0) w wr from HS2.out.congr fun t _ => by rw [hjm2]; exact acc_next t (H2.out.1))
          clear hjm hjm2
          go_wp2
          go_roundg (n - i - 1)
          case rel => exact ⟨i + 1, by have := HI.out; omega, by go_num, HS3.out⟩
          case measure => have := HI.out; omega
    · have l1 : ¬ (i : Int) < (n : Int) := by omega
      have hin2 : i = n := by omega
      have ho := HS.out.own
      rw [hin2, HML.out] at ho
      have HR := Lib.hid (Row.of ho).1
      clear ho hin hin2
      go_wp2
      go_ret
      exact ⟨⟨_, rfl, HR.out⟩, HS.out.b⟩
end Go.Proofs.Ytjlaclbgfidiiaa
