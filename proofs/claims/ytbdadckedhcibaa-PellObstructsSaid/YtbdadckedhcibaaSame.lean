/- The walks of pell.validN, within, solves, oneClass, Same and gherkinref01.Number, IsSolution, Same, gherkinlaw01.pair. Conditions as stated in each theorem (bounds on the numbers). -/
import Derived.Test.YtbdadckedhcibaaAwake
import Derived.BigQuiet
import Derived.Deep.QuietTactic
namespace Go.Proofs.Ytbdadckedhcibaa
open Go.RowKit

set_option maxHeartbeats 400000 in
theorem within_yes (n m : Int) (w : World) (_hm : 0 ≤ m) (_hm' : m ≤ 1000000000) (h1 : -m ≤ n) (h2 : n ≤ m) :
    Calls Try.prog 66 #[.int .i64 n, .int .i64 m] w fun e w' => e = .returned (.bool true) ∧ w = w' := by
  go_enter Try.func66, Try.ntmps66
  go_wp2
  go_ret
  exact ⟨rfl, rfl⟩
set_option maxHeartbeats 400000 in
theorem within_no (n m : Int) (w : World) (_hm : 0 ≤ m) (_hm' : m ≤ 1000000000) (h1 : n < -m ∨ m < n) :
    Calls Try.prog 66 #[.int .i64 n, .int .i64 m] w fun e w' => e = .returned (.bool false) ∧ w = w' := by
  rcases h1 with h | h
  · go_enter Try.func66, Try.ntmps66
    go_wp2
    go_ret
    exact ⟨rfl, rfl⟩
  · go_enter Try.func66, Try.ntmps66
    go_wp2
    go_ret
    exact ⟨ret_bool (by simp; omega), rfl⟩

set_option maxHeartbeats 400000 in
theorem validN_yes (n : Int) (w : World) (h : isN n = true) :
    Calls Try.prog 48 #[.int .i64 n] w fun e w' => e = .returned (.bool true) ∧ w = w' := by
  simp [isN] at h
  have b : (n != 0) = true := by simp; omega
  go_enter Try.func48, Try.ntmps48
  go_wp2_with (go_at_call 66; refine (within_yes _ _ _ (by omega) (by omega) (by omega) (by omega)).mono ?_; rintro e w' ⟨rfl, rfl⟩)
  go_ret
  exact ⟨rfl, rfl⟩
set_option maxHeartbeats 400000 in
theorem validN_no (n : Int) (w : World) (h : isN n = false) :
    Calls Try.prog 48 #[.int .i64 n] w fun e w' => e = .returned (.bool false) ∧ w = w' := by
  by_cases h0 : n = 0
  · subst h0
    go_enter Try.func48, Try.ntmps48
    go_wp2
    go_ret
    exact ⟨rfl, rfl⟩
  · have b : (n != 0) = true := by simp; omega
    have h1 : n < -100 ∨ 100 < n := by simp [isN] at h; omega
    go_enter Try.func48, Try.ntmps48
    go_wp2_with (go_at_call 66; refine (within_no _ _ _ (by omega) (by omega) (by omega)).mono ?_; rintro e w' ⟨rfl, rfl⟩)
    go_ret
    exact ⟨rfl, rfl⟩
set_option maxHeartbeats 400000 in
theorem Number_any (n : Int) (w : World) :
    Calls Try.prog 26 #[.int .i64 n] w fun e w' => e = .returned (.bool (isN n)) ∧ w = w' := by
  by_cases h0 : n < -100
  · go_enter Try.func26, Try.ntmps26
    go_wp2
    go_ret
    exact ⟨ret_bool (by simp [isN]; omega), rfl⟩
  · by_cases h1 : 100 < n
    · go_enter Try.func26, Try.ntmps26
      go_wp2
      go_ret
      exact ⟨ret_bool (by simp [isN]; omega), rfl⟩
    · go_enter Try.func26, Try.ntmps26
      go_wp2
      go_ret
      refine ⟨ret_bool ?_, rfl⟩
      have e : (decide (-100 ≤ n)) = true := by simp; omega
      have e' : (decide (n ≤ 100)) = true := by simp; omega
      unfold isN
      rw [e, e']
      by_cases h : n = 0 <;> simp [h]

/-- What Same may be given, without what D and n must be. -/
def isPair (d n x y : Int) : Bool := decide (-1000000 ≤ x) && decide (x ≤ 1000000) && decide (-100000 ≤ y) && decide (y ≤ 100000) && decide (x * x - d * y * y = n)

theorem abs_sq {x m : Int} (h1 : -m ≤ x) (h2 : x ≤ m) : x * x ≤ m * m := by
  rcases Int.le_total 0 x with h | h
  · exact sq_le h h2
  · have := sq_le (a := -x) (b := m) (by omega) (by omega)
    have e : -x * -x = x * x := by grind
    omega
theorem dyy_bd {d y : Int} (hd0 : 0 ≤ d) (hd1 : d ≤ 100) (h1 : -100000 ≤ y) (h2 : y ≤ 100000) :
    -(100 * 100000) ≤ d * y ∧ d * y ≤ 100 * 100000 ∧ 0 ≤ d * y * y ∧ d * y * y ≤ 1000000000000 := by
  have s1 := sq_nonneg y
  have hy : y * y ≤ 100000 * 100000 := abs_sq h1 h2
  have a1 : d * -100000 ≤ d * y := Int.mul_le_mul_of_nonneg_left h1 hd0
  have a2 : d * y ≤ d * 100000 := Int.mul_le_mul_of_nonneg_left h2 hd0
  have s3 : d * y * y = d * (y * y) := Int.mul_assoc _ _ _
  have s4 : 0 ≤ d * (y * y) := Int.mul_nonneg (by omega) s1
  have s5 : d * (y * y) ≤ 100 * (100000 * 100000) := Int.mul_le_mul (by omega) hy s1 (by omega)
  rw [s3]
  omega

set_option maxHeartbeats 400000 in
theorem IsSol_any (d n x y : Int) (w : World) (hd : isD d = true) (hx1 : -1000000 ≤ x) (hx2 : x ≤ 1000000) (hy1 : -100000 ≤ y) (hy2 : y ≤ 100000) :
    Calls Try.prog 59 #[.int .i64 d, .int .i64 n, .agg #[.int .i64 x, .int .i64 y]] w fun e w' => e = .returned (.bool (decide (x * x - d * y * y = n))) ∧ Below w.heap.size w w' := by
  have hd2 := isD_bd hd
  have s0 := sq_nonneg x
  have s1 : x * x ≤ 1000000 * 1000000 := abs_sq hx1 hx2
  obtain ⟨s2, s3, s4, s5⟩ := dyy_bd (d := d) (by omega) (by omega) hy1 hy2
  go_enter Try.func59, Try.ntmps59
  go_wp2
  go_ret
  exact ⟨ret_bool (by by_cases h : x * x - d * y * y = n <;> simp [h]), (Below.refl _ _).alloc (Nat.le_refl _) _⟩

set_option maxHeartbeats 400000 in
theorem pair_any (d n x y : Int) (w : World) (hd : isD d = true) :
    Calls Try.prog 32 #[.int .i64 d, .int .i64 n, .agg #[.int .i64 x, .int .i64 y]] w fun e w' => e = .returned (.bool (isPair d n x y)) ∧ Below w.heap.size w w' := by
  have hbb := (Below.refl w.heap.size w).alloc (Nat.le_refl _) (.cells #[.int .i64 x, .int .i64 y] 44)
  by_cases h1 : x < -1000000
  · have hf : isPair d n x y = false := by simp [isPair]; omega
    have HF := Lib.hid hf
    clear hf
    go_enter Try.func32, Try.ntmps32
    go_wp2
    go_ret
    exact ⟨ret_bool HF.out.symm, hbb⟩
  · by_cases h2 : 1000000 < x
    · have hf : isPair d n x y = false := by simp [isPair]; omega
      have HF := Lib.hid hf
      clear hf
      go_enter Try.func32, Try.ntmps32
      go_wp2
      go_ret
      exact ⟨ret_bool HF.out.symm, hbb⟩
    · by_cases h3 : y < -100000
      · have hf : isPair d n x y = false := by simp [isPair]; omega
        have HF := Lib.hid hf
        clear hf
        go_enter Try.func32, Try.ntmps32
        go_wp2
        go_ret
        exact ⟨ret_bool HF.out.symm, hbb⟩
      · by_cases h4 : 100000 < y
        · have hf : isPair d n x y = false := by simp [isPair]; omega
          have HF := Lib.hid hf
          clear hf
          go_enter Try.func32, Try.ntmps32
          go_wp2
          go_ret
          exact ⟨ret_bool HF.out.symm, hbb⟩
        · have hf : isPair d n x y = decide (x * x - d * y * y = n) := by
            have e1 : decide (-1000000 ≤ x) = true := by simp; omega
            have e2 : decide (x ≤ 1000000) = true := by simp; omega
            have e3 : decide (-100000 ≤ y) = true := by simp; omega
            have e4 : decide (y ≤ 100000) = true := by simp; omega
            unfold isPair
            rw [e1, e2, e3, e4]
            simp
          have HF := Lib.hid hf
          clear hf
          go_enter Try.func32, Try.ntmps32
          go_wp2_with (go_at_call 59; refine (IsSol_any _ _ _ _ _ hd (by omega) (by omega) (by omega) (by omega)).mono ?_; rintro e w' ⟨rfl, hb⟩)
          go_ret
          exact ⟨ret_bool HF.out.symm, hbb.trans (hb.mono (by simp))⟩

set_option maxRecDepth 100000 in
set_option maxHeartbeats 400000 in
theorem solves_any (d n x y : Int) (w : World) (hd : isD d = true) :
    Calls Try.prog 58 #[.int .i64 d, .int .i64 n, .agg #[.int .i64 x, .int .i64 y]] w fun e w' => e = .returned (.bool (isPair d n x y)) ∧ Below w.heap.size w w' := by
  have hbb := (Below.refl w.heap.size w).alloc (Nat.le_refl _) (.cells #[.int .i64 x, .int .i64 y] 44)
  have HB := Lib.hid hbb
  clear hbb
  by_cases h1 : x < -1000000 ∨ 1000000 < x
  · have hf : isPair d n x y = false := by simp [isPair]; omega
    have HF := Lib.hid hf
    have HN := Lib.hid h1
    clear hf h1
    go_enter Try.func58, Try.ntmps58
    go_wp2
    go_quiet (fail)
    go_wp2_with (go_at_call 66; refine (within_no _ _ _ (by omega) (by omega) HN.out).mono ?_; rintro e w' ⟨rfl, rfl⟩)
    go_ret
    exact ⟨ret_bool HF.out.symm, below_drewN HB.out _⟩
  · have hx1 : -1000000 ≤ x := by omega
    have hx2 : x ≤ 1000000 := by omega
    clear h1
    by_cases h2 : y < -100000 ∨ 100000 < y
    · have hf : isPair d n x y = false := by simp [isPair]; omega
      have HF := Lib.hid hf
      have HN := Lib.hid h2
      clear hf h2
      go_enter Try.func58, Try.ntmps58
      go_wp2
      go_quiet (fail)
      go_wp2_with fail
      refine (within_yes _ _ _ (by omega) (by omega) (by omega) (by omega)).mono ?_
      rintro e w' ⟨rfl, rfl⟩
      go_wp2_with fail
      refine (within_no _ _ _ (by omega) (by omega) HN.out).mono ?_
      rintro e w' ⟨rfl, rfl⟩
      go_wp2
      go_ret
      exact ⟨ret_bool HF.out.symm, below_drewN HB.out _⟩
    · have hy1 : -100000 ≤ y := by omega
      have hy2 : y ≤ 100000 := by omega
      clear h2
      have hd2 := isD_bd hd
      have s0 := sq_nonneg x
      have s1 : x * x ≤ 1000000 * 1000000 := abs_sq hx1 hx2
      obtain ⟨s2, s3, s4, s5⟩ := dyy_bd (d := d) (by omega) (by omega) hy1 hy2
      have hf : isPair d n x y = decide (x * x - d * y * y = n) := by
        have e1 : decide (-1000000 ≤ x) = true := by simp; omega
        have e2 : decide (x ≤ 1000000) = true := by simp; omega
        have e3 : decide (-100000 ≤ y) = true := by simp; omega
        have e4 : decide (y ≤ 100000) = true := by simp; omega
        unfold isPair
        rw [e1, e2, e3, e4]
        simp
      have HF := Lib.hid hf
      clear hf
      go_enter Try.func58, Try.ntmps58
      go_wp2
      go_quiet (fail)
      go_wp2_with fail
      refine (within_yes _ _ _ (by omega) (by omega) (by omega) (by omega)).mono ?_
      rintro e w' ⟨rfl, rfl⟩
      go_wp2_with fail
      refine (within_yes _ _ _ (by omega) (by omega) (by omega) (by omega)).mono ?_
      rintro e w' ⟨rfl, rfl⟩
      go_wp2
      go_ret
      exact ⟨ret_bool (by rw [HF.out]; by_cases h : x * x - d * y * y = n <;> simp [h]), below_drewN HB.out _⟩

/-- Whether two pairs are of one class. -/
def oneB (d n x y u v : Int) : Bool := ((x * u - d * y * v).tmod n == 0) && ((x * v - y * u).tmod n == 0)

theorem abs_mul {a b m k : Int} (h1 : -m ≤ a) (h2 : a ≤ m) (h3 : -k ≤ b) (h4 : b ≤ k) : -(m * k) ≤ a * b ∧ a * b ≤ m * k := by
  have hm : 0 ≤ m := by omega
  have hk : 0 ≤ k := by omega
  have p1 : 0 ≤ (m - a) * (k + b) := Int.mul_nonneg (by omega) (by omega)
  have p2 : 0 ≤ (m + a) * (k - b) := Int.mul_nonneg (by omega) (by omega)
  have p3 : 0 ≤ (m - a) * (k - b) := Int.mul_nonneg (by omega) (by omega)
  have p4 : 0 ≤ (m + a) * (k + b) := Int.mul_nonneg (by omega) (by omega)
  have e1 : (m - a) * (k + b) = m * k + m * b - a * k - a * b := by grind
  have e2 : (m + a) * (k - b) = m * k - m * b + a * k - a * b := by grind
  have e3 : (m - a) * (k - b) = m * k - m * b - a * k + a * b := by grind
  have e4 : (m + a) * (k + b) = m * k + m * b + a * k + a * b := by grind
  omega

theorem one_bd {d x y u v : Int} (hd0 : 0 ≤ d) (hd1 : d ≤ 100) (x1 : -1000000 ≤ x) (x2 : x ≤ 1000000) (y1 : -100000 ≤ y) (y2 : y ≤ 100000) (u1 : -1000000 ≤ u) (u2 : u ≤ 1000000) (v1 : -100000 ≤ v) (v2 : v ≤ 100000) :
    (-1000000000000 ≤ x * u ∧ x * u ≤ 1000000000000) ∧ (-10000000 ≤ d * y ∧ d * y ≤ 10000000) ∧ (-1000000000000 ≤ d * y * v ∧ d * y * v ≤ 1000000000000) ∧ (-100000000000 ≤ x * v ∧ x * v ≤ 100000000000) ∧ (-100000000000 ≤ y * u ∧ y * u ≤ 100000000000) := by
  have a1 := abs_mul x1 x2 u1 u2
  have a2 := abs_mul (show -100 ≤ d by omega) hd1 y1 y2
  have a3 := abs_mul (a := d * y) (m := 10000000) (by omega) (by omega) v1 v2
  have a4 := abs_mul x1 x2 v1 v2
  have a5 := abs_mul y1 y2 u1 u2
  omega

theorem isN_bd {n : Int} (h : isN n = true) : -100 ≤ n ∧ n ≤ 100 ∧ n ≠ 0 := by
  simp [isN] at h
  omega

set_option maxHeartbeats 1000000 in
theorem oneClass_any (d n x y u v : Int) (w : World) (hd : isD d = true) (hn : isN n = true) (x1 : -1000000 ≤ x) (x2 : x ≤ 1000000) (y1 : -100000 ≤ y) (y2 : y ≤ 100000) (u1 : -1000000 ≤ u) (u2 : u ≤ 1000000) (v1 : -100000 ≤ v) (v2 : v ≤ 100000) :
    Calls Try.prog 52 #[.int .i64 d, .int .i64 n, .agg #[.int .i64 x, .int .i64 y], .agg #[.int .i64 u, .int .i64 v]] w fun e w' => e = .returned (.bool (oneB d n x y u v)) ∧ Below w.heap.size w w' := by
  have hd2 := isD_bd hd
  obtain ⟨n1, n2, n3⟩ := isN_bd hn
  obtain ⟨⟨a1, a2⟩, ⟨a3, a4⟩, ⟨a5, a6⟩, ⟨a7, a8⟩, ⟨a9, a10⟩⟩ := one_bd (d := d) (by omega) (by omega) x1 x2 y1 y2 u1 u2 v1 v2
  have hbb := ((Below.refl w.heap.size w).alloc (Nat.le_refl _) (.cells #[.int .i64 x, .int .i64 y] 44)).alloc (by simp) (.cells #[.int .i64 u, .int .i64 v] 44)
  have HB := Lib.hid hbb
  clear hbb hd hn
  by_cases h1 : ((x * u - d * y * v).tmod n == 0) = true
  · have hf : oneB d n x y u v = ((x * v - y * u).tmod n == 0) := by simp [oneB, h1]
    have HF := Lib.hid hf
    clear hf
    go_enter Try.func52, Try.ntmps52
    go_wp2
    go_quiet (fail)
    go_wp2
    go_ret
    exact ⟨ret_bool HF.out.symm, below_drewN HB.out _⟩
  · have h1' : ((x * u - d * y * v).tmod n == 0) = false := by simpa using h1
    have hf : oneB d n x y u v = false := by simp [oneB, h1']
    have HF := Lib.hid hf
    clear hf h1
    go_enter Try.func52, Try.ntmps52
    go_wp2
    go_quiet (fail)
    go_wp2
    go_ret
    exact ⟨ret_bool HF.out.symm, below_drewN HB.out _⟩

set_option maxHeartbeats 1000000 in
theorem refSame_any (d n x y u v : Int) (w : World) (hd : isD d = true) (hn : isN n = true) (x1 : -1000000 ≤ x) (x2 : x ≤ 1000000) (y1 : -100000 ≤ y) (y2 : y ≤ 100000) (u1 : -1000000 ≤ u) (u2 : u ≤ 1000000) (v1 : -100000 ≤ v) (v2 : v ≤ 100000) :
    Calls Try.prog 33 #[.int .i64 d, .int .i64 n, .agg #[.int .i64 x, .int .i64 y], .agg #[.int .i64 u, .int .i64 v]] w fun e w' => e = .returned (.bool (oneB d n x y u v)) ∧ Below w.heap.size w w' := by
  have hd2 := isD_bd hd
  obtain ⟨n1, n2, n3⟩ := isN_bd hn
  obtain ⟨⟨a1, a2⟩, ⟨a3, a4⟩, ⟨a5, a6⟩, ⟨a7, a8⟩, ⟨a9, a10⟩⟩ := one_bd (d := d) (by omega) (by omega) x1 x2 y1 y2 u1 u2 v1 v2
  have hbb := ((Below.refl w.heap.size w).alloc (Nat.le_refl _) (.cells #[.int .i64 x, .int .i64 y] 44)).alloc (by simp) (.cells #[.int .i64 u, .int .i64 v] 44)
  have HB := Lib.hid hbb
  clear hbb hd hn
  by_cases h1 : ((x * u - d * y * v).tmod n == 0) = true
  · have hf : oneB d n x y u v = ((x * v - y * u).tmod n == 0) := by simp [oneB, h1]
    have HF := Lib.hid hf
    clear hf
    go_enter Try.func33, Try.ntmps33
    go_wp2
    go_ret
    exact ⟨ret_bool HF.out.symm, HB.out⟩
  · have h1' : ((x * u - d * y * v).tmod n == 0) = false := by simpa using h1
    have hf : oneB d n x y u v = false := by simp [oneB, h1']
    have HF := Lib.hid hf
    clear hf h1
    go_enter Try.func33, Try.ntmps33
    go_wp2
    go_ret
    exact ⟨ret_bool HF.out.symm, HB.out⟩

/-- Whether Same takes its arguments. -/
def sameOK (d n x y u v : Int) : Bool := isD d && isN n && isPair d n x y && isPair d n u v

theorem isPair_bd {d n x y : Int} (h : isPair d n x y = true) : -1000000 ≤ x ∧ x ≤ 1000000 ∧ -100000 ≤ y ∧ y ≤ 100000 := by
  simp [isPair] at h
  omega

/-- A block of two cells, behind whatever left it alone. -/
def Boxed2 (W : World) (B : Nat) (x y : Int) : Prop := W.heap[B]? = some (.cells #[.int .i64 x, .int .i64 y] 44 (0, 0))
theorem boxed2_new (W : World) (x y : Int) : Boxed2 (W.alloc (.cells #[.int .i64 x, .int .i64 y] 44)) W.heap.size x y := World.alloc_heap_new W _
theorem boxed2_lt {W : World} {B : Nat} {x y : Int} (h : Boxed2 W B x y) : B < W.heap.size := (Array.getElem?_eq_some_iff.1 h).1
theorem boxed2_alloc {W : World} {B : Nat} {x y : Int} (h : Boxed2 W B x y) (o : Obj) : Boxed2 (W.alloc o) B x y := (Below.heap_alloc W o B (boxed2_lt h)).trans h
theorem boxed2_below {W W' : World} {B n : Nat} {x y : Int} (h : Boxed2 W B x y) (hb : Below n W W') (hn : B < n) : Boxed2 W' B x y := (hb.block B hn).trans h
theorem boxed2_c0 {W : World} {B : Nat} {x y : Int} (h : Boxed2 W B x y) : W.cell? ⟨B, 0, none⟩ = some (.int .i64 x) := by simp [World.cell?, show W.heap[B]? = _ from h]
theorem boxed2_c1 {W : World} {B : Nat} {x y : Int} (h : Boxed2 W B x y) : W.cell? ⟨B, 1, none⟩ = some (.int .i64 y) := by simp [World.cell?, show W.heap[B]? = _ from h]

set_option maxHeartbeats 1000000 in
theorem Same_yes (d n x y u v : Int) (w : World) (hd : isD d = true) (hn : isN n = true) (ha : isPair d n x y = true) (hb : isPair d n u v = true) :
    Calls Try.prog 31 #[.int .i64 d, .int .i64 n, .agg #[.int .i64 x, .int .i64 y], .agg #[.int .i64 u, .int .i64 v]] w fun e w' => e = .returned (.tuple #[.bool (oneB d n x y u v), .int .i64 0]) ∧ Below w.heap.size w w' := by
  obtain ⟨x1, x2, y1, y2⟩ := isPair_bd ha
  obtain ⟨u1, u2, v1, v2⟩ := isPair_bd hb
  have hbb := ((Below.refl w.heap.size w).alloc (Nat.le_refl _) (.cells #[.int .i64 x, .int .i64 y] 44)).alloc (by simp) (.cells #[.int .i64 u, .int .i64 v] 44)
  have HB := Lib.hid hbb
  have HD := Lib.hid hd
  have HN := Lib.hid hn
  have HA := Lib.hid ha
  have HBB := Lib.hid hb
  clear hbb hd hn ha hb
  go_enter Try.func31, Try.ntmps31
  go_wp2_with fail
  refine (validD_any _ _).mono ?_
  rintro e w' ⟨rfl, rfl⟩
  rw [HD.out]
  go_wp2_with fail
  refine (validN_yes _ _ HN.out).mono ?_
  rintro e w' ⟨rfl, rfl⟩
  go_wp2_with fail
  refine (solves_any _ _ _ _ _ HD.out).mono ?_
  rintro e w1 ⟨rfl, hb1⟩
  rw [HA.out]
  have p1 := boxed2_below (boxed2_alloc (boxed2_new w x y) (.cells #[.int .i64 u, .int .i64 v] 44)) hb1 (by simp; omega)
  have p2 := boxed2_below (boxed2_new (w.alloc (.cells #[.int .i64 x, .int .i64 y] 44)) u v) hb1 (by simp)
  rw [World.size_alloc] at p2
  have c10 := boxed2_c0 p1
  have c11 := boxed2_c1 p1
  have c20 := boxed2_c0 p2
  have c21 := boxed2_c1 p2
  go_wp2_with fail
  refine (solves_any _ _ _ _ _ HD.out).mono ?_
  rintro e w2 ⟨rfl, hb2⟩
  rw [HBB.out]
  have hsz1 := hb1.size
  have hsz2 := hb2.size
  simp only [World.size_alloc] at hsz1
  have q1 := boxed2_below p1 hb2 (by omega)
  have q2 := boxed2_below p2 hb2 (by omega)
  have d10 := boxed2_c0 q1
  have d11 := boxed2_c1 q1
  have d20 := boxed2_c0 q2
  have d21 := boxed2_c1 q2
  clear c10 c11 c20 c21
  go_wp2_with fail
  refine (oneClass_any _ _ _ _ _ _ _ HD.out HN.out x1 x2 y1 y2 u1 u2 v1 v2).mono ?_
  rintro e w3 ⟨rfl, hb3⟩
  go_wp2
  go_ret2
  have g1 := HB.out.size
  exact ⟨rfl, ((HB.out.trans (hb1.mono (by simp; omega))).trans (hb2.mono (by omega))).trans (hb3.mono (by omega))⟩

set_option maxHeartbeats 1000000 in
theorem Same_no (d n x y u v : Int) (w : World) (h : sameOK d n x y u v = false) :
    Calls Try.prog 31 #[.int .i64 d, .int .i64 n, .agg #[.int .i64 x, .int .i64 y], .agg #[.int .i64 u, .int .i64 v]] w fun e w' => e = .returned (.tuple #[.bool false, .int .i64 2]) ∧ Below w.heap.size w w' := by
  have hbb := ((Below.refl w.heap.size w).alloc (Nat.le_refl _) (.cells #[.int .i64 x, .int .i64 y] 44)).alloc (by simp) (.cells #[.int .i64 u, .int .i64 v] 44)
  have HB := Lib.hid hbb
  clear hbb
  by_cases hd : isD d = true
  · by_cases hn : isN n = true
    · by_cases ha : isPair d n x y = true
      · have hb : isPair d n u v = false := by simpa [sameOK, hd, hn, ha] using h
        have HD := Lib.hid hd
        have HN := Lib.hid hn
        have HA := Lib.hid ha
        have HBB := Lib.hid hb
        clear hd hn ha hb h
        go_enter Try.func31, Try.ntmps31
        go_wp2_with fail
        refine (validD_any _ _).mono ?_
        rintro e w' ⟨rfl, rfl⟩
        rw [HD.out]
        go_wp2_with fail
        refine (validN_yes _ _ HN.out).mono ?_
        rintro e w' ⟨rfl, rfl⟩
        go_wp2_with fail
        refine (solves_any _ _ _ _ _ HD.out).mono ?_
        rintro e w1 ⟨rfl, hb1⟩
        rw [HA.out]
        have p2 := boxed2_below (boxed2_new (w.alloc (.cells #[.int .i64 x, .int .i64 y] 44)) u v) hb1 (by simp)
        rw [World.size_alloc] at p2
        have c20 := boxed2_c0 p2
        have c21 := boxed2_c1 p2
        go_wp2_with fail
        refine (solves_any _ _ _ _ _ HD.out).mono ?_
        rintro e w2 ⟨rfl, hb2⟩
        rw [HBB.out]
        have hsz1 := hb1.size
        simp only [World.size_alloc] at hsz1
        go_wp2
        go_ret2
        exact ⟨rfl, (HB.out.trans (hb1.mono (by simp; omega))).trans (hb2.mono (by omega))⟩
      · have ha' : isPair d n x y = false := by simpa using ha
        have HD := Lib.hid hd
        have HN := Lib.hid hn
        have HA := Lib.hid ha'
        clear hd hn ha ha' h
        go_enter Try.func31, Try.ntmps31
        go_wp2_with fail
        refine (validD_any _ _).mono ?_
        rintro e w' ⟨rfl, rfl⟩
        rw [HD.out]
        go_wp2_with fail
        refine (validN_yes _ _ HN.out).mono ?_
        rintro e w' ⟨rfl, rfl⟩
        go_wp2_with fail
        refine (solves_any _ _ _ _ _ HD.out).mono ?_
        rintro e w1 ⟨rfl, hb1⟩
        rw [HA.out]
        go_wp2
        go_ret2
        exact ⟨rfl, HB.out.trans (hb1.mono (by simp; omega))⟩
    · have hn' : isN n = false := by simpa using hn
      have HD := Lib.hid hd
      have HN := Lib.hid hn'
      clear hd hn hn' h
      go_enter Try.func31, Try.ntmps31
      go_wp2_with fail
      refine (validD_any _ _).mono ?_
      rintro e w' ⟨rfl, rfl⟩
      rw [HD.out]
      go_wp2_with fail
      refine (validN_no _ _ HN.out).mono ?_
      rintro e w' ⟨rfl, rfl⟩
      go_wp2
      go_ret2
      exact ⟨rfl, HB.out⟩
  · have hd' : isD d = false := by simpa using hd
    have HD := Lib.hid hd'
    clear hd hd' h
    go_enter Try.func31, Try.ntmps31
    go_wp2_with fail
    refine (validD_any _ _).mono ?_
    rintro e w' ⟨rfl, rfl⟩
    rw [HD.out]
    go_wp2
    go_ret2
    exact ⟨rfl, HB.out⟩

/-- The law's two boxes, as they lie behind whatever left them alone. -/
def TwoBox (w W : World) (x y u v : Int) : Prop := w.heap.size + 2 ≤ W.heap.size ∧ Boxed2 W w.heap.size x y ∧ Boxed2 W (w.heap.size + 1) u v ∧ Below w.heap.size w W
theorem TwoBox.later {w W W' : World} {x y u v : Int} (h : TwoBox w W x y u v) (hb : Below W.heap.size W W') : TwoBox w W' x y u v :=
  ⟨by have := hb.size; have := h.1; omega, boxed2_below h.2.1 hb (boxed2_lt h.2.1), boxed2_below h.2.2.1 hb (boxed2_lt h.2.2.1), h.2.2.2.trans (hb.mono (by have := h.1; omega))⟩
theorem TwoBox.start (w : World) (x y u v : Int) : TwoBox w ((w.alloc (.cells #[.int .i64 x, .int .i64 y] 44)).alloc (.cells #[.int .i64 u, .int .i64 v] 44)) x y u v := by
  have p := boxed2_new (w.alloc (.cells #[.int .i64 x, .int .i64 y] 44)) u v
  rw [World.size_alloc] at p
  exact ⟨by simp, boxed2_alloc (boxed2_new w x y) _, p, ((Below.refl w.heap.size w).alloc (Nat.le_refl _) _).alloc (by simp) _⟩

set_option maxHeartbeats 1000000 in
theorem lawSame_yes (d n x y u v : Int) (w : World) (hd : isD d = true) (hn : isN n = true) (ha : isPair d n x y = true) (hb : isPair d n u v = true) :
    Calls Try.prog 7 #[.int .i64 d, .int .i64 n, .agg #[.int .i64 x, .int .i64 y], .agg #[.int .i64 u, .int .i64 v]] w fun e w' => e = .returned (.bool true) ∧ Below w.heap.size w w' := by
  have HT := Lib.hid (TwoBox.start w x y u v)
  have HD := Lib.hid hd
  have HN := Lib.hid hn
  have HA := Lib.hid ha
  have HBB := Lib.hid hb
  obtain ⟨x1, x2, y1, y2⟩ := isPair_bd ha
  obtain ⟨u1, u2, v1, v2⟩ := isPair_bd hb
  clear hd hn ha hb
  go_enter Try.func7, Try.ntmps7
  go_wp2_with fail
  refine (Same_yes _ _ _ _ _ _ _ HD.out HN.out HA.out HBB.out).mono ?_
  rintro e w1 ⟨rfl, hb1⟩
  have T1 := Lib.hid (HT.out.later hb1)
  have c10 := boxed2_c0 T1.out.2.1
  have c11 := boxed2_c1 T1.out.2.1
  have c20 := boxed2_c0 T1.out.2.2.1
  have c21 := boxed2_c1 T1.out.2.2.1
  clear hb1 HT
  go_wp2_with fail
  refine (Valid_any _ _).mono ?_
  rintro e w' ⟨rfl, rfl⟩
  rw [HD.out]
  go_wp2_with fail
  refine (Number_any _ _).mono ?_
  rintro e w' ⟨rfl, rfl⟩
  rw [HN.out]
  go_wp2_with fail
  refine (pair_any _ _ _ _ _ HD.out).mono ?_
  rintro e w2 ⟨rfl, hb2⟩
  rw [HA.out]
  have T2 := Lib.hid (T1.out.later hb2)
  clear c10 c11 c20 c21 hb2 T1
  have c10 := boxed2_c0 T2.out.2.1
  have c11 := boxed2_c1 T2.out.2.1
  have c20 := boxed2_c0 T2.out.2.2.1
  have c21 := boxed2_c1 T2.out.2.2.1
  go_wp2_with fail
  refine (pair_any _ _ _ _ _ HD.out).mono ?_
  rintro e w3 ⟨rfl, hb3⟩
  rw [HBB.out]
  have T3 := Lib.hid (T2.out.later hb3)
  clear c10 c11 c20 c21 hb3 T2
  have c10 := boxed2_c0 T3.out.2.1
  have c11 := boxed2_c1 T3.out.2.1
  have c20 := boxed2_c0 T3.out.2.2.1
  have c21 := boxed2_c1 T3.out.2.2.1
  go_wp2_with fail
  refine (refSame_any _ _ _ _ _ _ _ HD.out HN.out x1 x2 y1 y2 u1 u2 v1 v2).mono ?_
  rintro e w4 ⟨rfl, hb4⟩
  have T4 := Lib.hid (T3.out.later hb4)
  clear c10 c11 c20 c21 hb4 T3
  go_wp2_with fail
  refine (awake_any _).mono ?_
  rintro e w5 ⟨rfl, hb5⟩
  have T5 := Lib.hid (T4.out.later hb5)
  clear hb5 T4
  go_wp2
  go_ret
  exact ⟨rfl, T5.out.2.2.2⟩
end Go.Proofs.Ytbdadckedhcibaa
