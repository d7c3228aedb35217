/- The walk of gherkinref01.nearer. Condition: the bounds stated. -/
import Derived.Test.YtbdadckedhcibaaBestMath
namespace Go.Proofs.Ytbdadckedhcibaa
open Go.RowKit Go.Shelf
attribute [local go_sem] Oper.semAt_some

theorem pr_bd {a b A B : Int} (a0 : 0 ≤ a) (a1 : a ≤ A) (b0 : 0 ≤ b) (b1 : b ≤ B) : 0 ≤ a * b ∧ a * b ≤ A * B := ⟨Int.mul_nonneg a0 b0, Int.mul_le_mul a1 b1 b0 (by omega)⟩
theorem sq_bd {a A : Int} (a0 : -A ≤ a) (a1 : a ≤ A) : 0 ≤ a * a ∧ a * a ≤ A * A := by
  refine ⟨sq_nonneg a, ?_⟩
  by_cases h : 0 ≤ a
  · exact sq_le h a1
  · have := sq_le (a := -a) (b := A) (by omega) (by omega)
    rw [Int.neg_mul_neg] at this
    exact this
theorem dx_bd {d x : Int} (d0 : 0 ≤ d) (d1 : d ≤ 100) (x0 : -2000 ≤ x) (x1 : x ≤ 2000) : -200000 ≤ d * x ∧ d * x ≤ 200000 := by
  by_cases h : 0 ≤ x
  · have := pr_bd d0 d1 h x1; omega
  · have := pr_bd d0 d1 (show 0 ≤ -x by omega) (show -x ≤ 2000 by omega)
    rw [Int.mul_neg] at this
    omega
theorem dxx_bd {d x : Int} (d0 : 0 ≤ d) (d1 : d ≤ 100) (x0 : -2000 ≤ x) (x1 : x ≤ 2000) : 0 ≤ d * x * x ∧ d * x * x ≤ 400000000 := by
  have h := sq_bd x0 x1
  have := pr_bd d0 d1 h.1 h.2
  rw [Int.mul_assoc]
  omega
theorem near_f {d x y : Int} (h1 : 0 ≤ x) (h2 : y ≤ 0) : nearL d x y = false := by
  unfold nearL; rw [decide_eq_true h1, decide_eq_true h2]; rfl
theorem near_t1 {d x y : Int} (h1 : x = 0) (h2 : 0 < y) : nearL d x y = true := by
  unfold nearL; rw [decide_eq_false (show ¬ y ≤ 0 by omega), decide_eq_true (show x ≤ 0 by omega), decide_eq_true (show 0 ≤ y by omega), decide_eq_false (show ¬ y = 0 by omega)]; simp
theorem near_t2 {d x y : Int} (h1 : x < 0) (h2 : 0 ≤ y) : nearL d x y = true := by
  unfold nearL; rw [decide_eq_false (show ¬ 0 ≤ x by omega), decide_eq_true (show x ≤ 0 by omega), decide_eq_true (show 0 ≤ y by omega), decide_eq_false (show ¬ x = 0 by omega)]; simp
theorem near_p {d x y : Int} (h1 : 0 < x) (h2 : 0 < y) : nearL d x y = decide (d * x * x < y * y) := by
  unfold nearL; rw [decide_eq_false (show ¬ y ≤ 0 by omega), decide_eq_false (show ¬ x ≤ 0 by omega), decide_eq_true h1]; simp
theorem near_n {d x y : Int} (h1 : x < 0) (h2 : y < 0) : nearL d x y = decide (y * y < d * x * x) := by
  unfold nearL; rw [decide_eq_false (show ¬ 0 ≤ x by omega), decide_eq_false (show ¬ 0 ≤ y by omega), decide_eq_false (show ¬ 0 < x by omega)]; simp

theorem sg_NN {d p q u v x y : Int} (c1 : d * q * q < p * p) (c2 : d * v * v < u * u) (hx : -q - -v = x) (hy : -p - -u = y) : nearF d p q u v = nearL d x y := by
  unfold nearF sgF
  rw [decide_eq_true c1, decide_eq_true c2]
  have e1 : (bif true then (-1 : Int) else 1) * q - (bif true then (-1 : Int) else 1) * v = x := by simp only [cond_true, cond_false]; omega
  have e2 : (bif true then (-1 : Int) else 1) * p - (bif true then (-1 : Int) else 1) * u = y := by simp only [cond_true, cond_false]; omega
  rw [e1, e2]
set_option maxHeartbeats 2000000 in
set_option maxRecDepth 100000 in
theorem nearer_NN (d p q u v : Int) (w : World) (d0 : 0 ≤ d) (d1 : d ≤ 100) (p0 : 0 ≤ p) (p1 : p ≤ 10001) (q0 : 0 ≤ q) (q1 : q ≤ 1000) (u0 : 0 ≤ u) (u1 : u ≤ 10001) (v0 : 0 ≤ v) (v1 : v ≤ 1000)
    (c1 : d * q * q < p * p) (c2 : d * v * v < u * u) :
    Calls Try.prog 61 #[.int .i64 d, .int .i64 p, .int .i64 q, .int .i64 u, .int .i64 v] w fun e w' => e = .returned (.bool (nearF d p q u v)) ∧ w = w' := by
  obtain ⟨x, hx⟩ : ∃ x, -q - -v = x := ⟨_, rfl⟩
  obtain ⟨y, hy⟩ : ∃ y, -p - -u = y := ⟨_, rfl⟩
  have HR := Lib.hid (sg_NN c1 c2 hx hy)
  have x0 : -2000 ≤ x := by omega
  have x1 : x ≤ 2000 := by omega
  have y0 : -20002 ≤ y := by omega
  have y1 : y ≤ 20002 := by omega
  obtain ⟨a1, a2⟩ := pr_bd d0 d1 q0 q1
  obtain ⟨a3, a4⟩ := pr_bd a1 a2 q0 q1
  obtain ⟨a5, a6⟩ := pr_bd p0 p1 p0 p1
  obtain ⟨b1, b2⟩ := pr_bd d0 d1 v0 v1
  obtain ⟨b3, b4⟩ := pr_bd b1 b2 v0 v1
  obtain ⟨b5, b6⟩ := pr_bd u0 u1 u0 u1
  obtain ⟨g1, g2⟩ := dx_bd d0 d1 x0 x1
  obtain ⟨g3, g4⟩ := dxx_bd d0 d1 x0 x1
  obtain ⟨g5, g6⟩ := sq_bd y0 y1
  rw [HR.out]
  clear HR
  rcases Int.lt_trichotomy x 0 with h1 | h1 | h1 <;> rcases Int.lt_trichotomy y 0 with h2 | h2 | h2
  · rw [near_n h1 h2]
    go_enter Try.func61, Try.ntmps61
    go_wp2
    all_goals (go_ret; first | exact ⟨ret_bool rfl, rfl⟩ | exact ⟨ret_bool (by simp; omega), rfl⟩)
  · rw [near_t2 h1 (by omega)]
    go_enter Try.func61, Try.ntmps61
    go_wp2
    all_goals (go_ret; first | exact ⟨ret_bool rfl, rfl⟩ | exact ⟨ret_bool (by simp; omega), rfl⟩)
  · rw [near_t2 h1 (by omega)]
    go_enter Try.func61, Try.ntmps61
    go_wp2
    all_goals (go_ret; first | exact ⟨ret_bool rfl, rfl⟩ | exact ⟨ret_bool (by simp; omega), rfl⟩)
  · rw [near_f (by omega) (by omega)]
    go_enter Try.func61, Try.ntmps61
    go_wp2
    all_goals (go_ret; first | exact ⟨ret_bool rfl, rfl⟩ | exact ⟨ret_bool (by simp; omega), rfl⟩)
  · rw [near_f (by omega) (by omega)]
    go_enter Try.func61, Try.ntmps61
    go_wp2
    all_goals (go_ret; first | exact ⟨ret_bool rfl, rfl⟩ | exact ⟨ret_bool (by simp; omega), rfl⟩)
  · rw [near_t1 h1 h2]
    go_enter Try.func61, Try.ntmps61
    go_wp2
    all_goals (go_ret; first | exact ⟨ret_bool rfl, rfl⟩ | exact ⟨ret_bool (by simp; omega), rfl⟩)
  · rw [near_f (by omega) (by omega)]
    go_enter Try.func61, Try.ntmps61
    go_wp2
    all_goals (go_ret; first | exact ⟨ret_bool rfl, rfl⟩ | exact ⟨ret_bool (by simp; omega), rfl⟩)
  · rw [near_f (by omega) (by omega)]
    go_enter Try.func61, Try.ntmps61
    go_wp2
    all_goals (go_ret; first | exact ⟨ret_bool rfl, rfl⟩ | exact ⟨ret_bool (by simp; omega), rfl⟩)
  · rw [near_p h1 h2]
    go_enter Try.func61, Try.ntmps61
    go_wp2
    all_goals (go_ret; first | exact ⟨ret_bool rfl, rfl⟩ | exact ⟨ret_bool (by simp; omega), rfl⟩)
theorem sg_NP {d p q u v x y : Int} (c1 : d * q * q < p * p) (c2 : ¬ d * v * v < u * u) (hx : -q - v = x) (hy : -p - u = y) : nearF d p q u v = nearL d x y := by
  unfold nearF sgF
  rw [decide_eq_true c1, decide_eq_false c2]
  have e1 : (bif true then (-1 : Int) else 1) * q - (bif false then (-1 : Int) else 1) * v = x := by simp only [cond_true, cond_false]; omega
  have e2 : (bif true then (-1 : Int) else 1) * p - (bif false then (-1 : Int) else 1) * u = y := by simp only [cond_true, cond_false]; omega
  rw [e1, e2]
set_option maxHeartbeats 2000000 in
set_option maxRecDepth 100000 in
theorem nearer_NP (d p q u v : Int) (w : World) (d0 : 0 ≤ d) (d1 : d ≤ 100) (p0 : 0 ≤ p) (p1 : p ≤ 10001) (q0 : 0 ≤ q) (q1 : q ≤ 1000) (u0 : 0 ≤ u) (u1 : u ≤ 10001) (v0 : 0 ≤ v) (v1 : v ≤ 1000)
    (c1 : d * q * q < p * p) (c2 : ¬ d * v * v < u * u) :
    Calls Try.prog 61 #[.int .i64 d, .int .i64 p, .int .i64 q, .int .i64 u, .int .i64 v] w fun e w' => e = .returned (.bool (nearF d p q u v)) ∧ w = w' := by
  obtain ⟨x, hx⟩ : ∃ x, -q - v = x := ⟨_, rfl⟩
  obtain ⟨y, hy⟩ : ∃ y, -p - u = y := ⟨_, rfl⟩
  have HR := Lib.hid (sg_NP c1 c2 hx hy)
  have x0 : -2000 ≤ x := by omega
  have x1 : x ≤ 2000 := by omega
  have y0 : -20002 ≤ y := by omega
  have y1 : y ≤ 20002 := by omega
  obtain ⟨a1, a2⟩ := pr_bd d0 d1 q0 q1
  obtain ⟨a3, a4⟩ := pr_bd a1 a2 q0 q1
  obtain ⟨a5, a6⟩ := pr_bd p0 p1 p0 p1
  obtain ⟨b1, b2⟩ := pr_bd d0 d1 v0 v1
  obtain ⟨b3, b4⟩ := pr_bd b1 b2 v0 v1
  obtain ⟨b5, b6⟩ := pr_bd u0 u1 u0 u1
  obtain ⟨g1, g2⟩ := dx_bd d0 d1 x0 x1
  obtain ⟨g3, g4⟩ := dxx_bd d0 d1 x0 x1
  obtain ⟨g5, g6⟩ := sq_bd y0 y1
  rw [HR.out]
  clear HR
  rcases Int.lt_trichotomy x 0 with h1 | h1 | h1 <;> rcases Int.lt_trichotomy y 0 with h2 | h2 | h2
  · rw [near_n h1 h2]
    go_enter Try.func61, Try.ntmps61
    go_wp2
    all_goals (go_ret; first | exact ⟨ret_bool rfl, rfl⟩ | exact ⟨ret_bool (by simp; omega), rfl⟩)
  · rw [near_t2 h1 (by omega)]
    go_enter Try.func61, Try.ntmps61
    go_wp2
    all_goals (go_ret; first | exact ⟨ret_bool rfl, rfl⟩ | exact ⟨ret_bool (by simp; omega), rfl⟩)
  · rw [near_t2 h1 (by omega)]
    go_enter Try.func61, Try.ntmps61
    go_wp2
    all_goals (go_ret; first | exact ⟨ret_bool rfl, rfl⟩ | exact ⟨ret_bool (by simp; omega), rfl⟩)
  · rw [near_f (by omega) (by omega)]
    go_enter Try.func61, Try.ntmps61
    go_wp2
    all_goals (go_ret; first | exact ⟨ret_bool rfl, rfl⟩ | exact ⟨ret_bool (by simp; omega), rfl⟩)
  · rw [near_f (by omega) (by omega)]
    go_enter Try.func61, Try.ntmps61
    go_wp2
    all_goals (go_ret; first | exact ⟨ret_bool rfl, rfl⟩ | exact ⟨ret_bool (by simp; omega), rfl⟩)
  · rw [near_t1 h1 h2]
    go_enter Try.func61, Try.ntmps61
    go_wp2
    all_goals (go_ret; first | exact ⟨ret_bool rfl, rfl⟩ | exact ⟨ret_bool (by simp; omega), rfl⟩)
  · rw [near_f (by omega) (by omega)]
    go_enter Try.func61, Try.ntmps61
    go_wp2
    all_goals (go_ret; first | exact ⟨ret_bool rfl, rfl⟩ | exact ⟨ret_bool (by simp; omega), rfl⟩)
  · rw [near_f (by omega) (by omega)]
    go_enter Try.func61, Try.ntmps61
    go_wp2
    all_goals (go_ret; first | exact ⟨ret_bool rfl, rfl⟩ | exact ⟨ret_bool (by simp; omega), rfl⟩)
  · rw [near_p h1 h2]
    go_enter Try.func61, Try.ntmps61
    go_wp2
    all_goals (go_ret; first | exact ⟨ret_bool rfl, rfl⟩ | exact ⟨ret_bool (by simp; omega), rfl⟩)
theorem sg_PN {d p q u v x y : Int} (c1 : ¬ d * q * q < p * p) (c2 : d * v * v < u * u) (hx : q - -v = x) (hy : p - -u = y) : nearF d p q u v = nearL d x y := by
  unfold nearF sgF
  rw [decide_eq_false c1, decide_eq_true c2]
  have e1 : (bif false then (-1 : Int) else 1) * q - (bif true then (-1 : Int) else 1) * v = x := by simp only [cond_true, cond_false]; omega
  have e2 : (bif false then (-1 : Int) else 1) * p - (bif true then (-1 : Int) else 1) * u = y := by simp only [cond_true, cond_false]; omega
  rw [e1, e2]
set_option maxHeartbeats 2000000 in
set_option maxRecDepth 100000 in
theorem nearer_PN (d p q u v : Int) (w : World) (d0 : 0 ≤ d) (d1 : d ≤ 100) (p0 : 0 ≤ p) (p1 : p ≤ 10001) (q0 : 0 ≤ q) (q1 : q ≤ 1000) (u0 : 0 ≤ u) (u1 : u ≤ 10001) (v0 : 0 ≤ v) (v1 : v ≤ 1000)
    (c1 : ¬ d * q * q < p * p) (c2 : d * v * v < u * u) :
    Calls Try.prog 61 #[.int .i64 d, .int .i64 p, .int .i64 q, .int .i64 u, .int .i64 v] w fun e w' => e = .returned (.bool (nearF d p q u v)) ∧ w = w' := by
  obtain ⟨x, hx⟩ : ∃ x, q - -v = x := ⟨_, rfl⟩
  obtain ⟨y, hy⟩ : ∃ y, p - -u = y := ⟨_, rfl⟩
  have HR := Lib.hid (sg_PN c1 c2 hx hy)
  have x0 : -2000 ≤ x := by omega
  have x1 : x ≤ 2000 := by omega
  have y0 : -20002 ≤ y := by omega
  have y1 : y ≤ 20002 := by omega
  obtain ⟨a1, a2⟩ := pr_bd d0 d1 q0 q1
  obtain ⟨a3, a4⟩ := pr_bd a1 a2 q0 q1
  obtain ⟨a5, a6⟩ := pr_bd p0 p1 p0 p1
  obtain ⟨b1, b2⟩ := pr_bd d0 d1 v0 v1
  obtain ⟨b3, b4⟩ := pr_bd b1 b2 v0 v1
  obtain ⟨b5, b6⟩ := pr_bd u0 u1 u0 u1
  obtain ⟨g1, g2⟩ := dx_bd d0 d1 x0 x1
  obtain ⟨g3, g4⟩ := dxx_bd d0 d1 x0 x1
  obtain ⟨g5, g6⟩ := sq_bd y0 y1
  rw [HR.out]
  clear HR
  rcases Int.lt_trichotomy x 0 with h1 | h1 | h1 <;> rcases Int.lt_trichotomy y 0 with h2 | h2 | h2
  · rw [near_n h1 h2]
    go_enter Try.func61, Try.ntmps61
    go_wp2
    all_goals (go_ret; first | exact ⟨ret_bool rfl, rfl⟩ | exact ⟨ret_bool (by simp; omega), rfl⟩)
  · rw [near_t2 h1 (by omega)]
    go_enter Try.func61, Try.ntmps61
    go_wp2
    all_goals (go_ret; first | exact ⟨ret_bool rfl, rfl⟩ | exact ⟨ret_bool (by simp; omega), rfl⟩)
  · rw [near_t2 h1 (by omega)]
    go_enter Try.func61, Try.ntmps61
    go_wp2
    all_goals (go_ret; first | exact ⟨ret_bool rfl, rfl⟩ | exact ⟨ret_bool (by simp; omega), rfl⟩)
  · rw [near_f (by omega) (by omega)]
    go_enter Try.func61, Try.ntmps61
    go_wp2
    all_goals (go_ret; first | exact ⟨ret_bool rfl, rfl⟩ | exact ⟨ret_bool (by simp; omega), rfl⟩)
  · rw [near_f (by omega) (by omega)]
    go_enter Try.func61, Try.ntmps61
    go_wp2
    all_goals (go_ret; first | exact ⟨ret_bool rfl, rfl⟩ | exact ⟨ret_bool (by simp; omega), rfl⟩)
  · rw [near_t1 h1 h2]
    go_enter Try.func61, Try.ntmps61
    go_wp2
    all_goals (go_ret; first | exact ⟨ret_bool rfl, rfl⟩ | exact ⟨ret_bool (by simp; omega), rfl⟩)
  · rw [near_f (by omega) (by omega)]
    go_enter Try.func61, Try.ntmps61
    go_wp2
    all_goals (go_ret; first | exact ⟨ret_bool rfl, rfl⟩ | exact ⟨ret_bool (by simp; omega), rfl⟩)
  · rw [near_f (by omega) (by omega)]
    go_enter Try.func61, Try.ntmps61
    go_wp2
    all_goals (go_ret; first | exact ⟨ret_bool rfl, rfl⟩ | exact ⟨ret_bool (by simp; omega), rfl⟩)
  · rw [near_p h1 h2]
    go_enter Try.func61, Try.ntmps61
    go_wp2
    all_goals (go_ret; first | exact ⟨ret_bool rfl, rfl⟩ | exact ⟨ret_bool (by simp; omega), rfl⟩)
theorem sg_PP {d p q u v x y : Int} (c1 : ¬ d * q * q < p * p) (c2 : ¬ d * v * v < u * u) (hx : q - v = x) (hy : p - u = y) : nearF d p q u v = nearL d x y := by
  unfold nearF sgF
  rw [decide_eq_false c1, decide_eq_false c2]
  have e1 : (bif false then (-1 : Int) else 1) * q - (bif false then (-1 : Int) else 1) * v = x := by simp only [cond_true, cond_false]; omega
  have e2 : (bif false then (-1 : Int) else 1) * p - (bif false then (-1 : Int) else 1) * u = y := by simp only [cond_true, cond_false]; omega
  rw [e1, e2]
set_option maxHeartbeats 2000000 in
set_option maxRecDepth 100000 in
theorem nearer_PP (d p q u v : Int) (w : World) (d0 : 0 ≤ d) (d1 : d ≤ 100) (p0 : 0 ≤ p) (p1 : p ≤ 10001) (q0 : 0 ≤ q) (q1 : q ≤ 1000) (u0 : 0 ≤ u) (u1 : u ≤ 10001) (v0 : 0 ≤ v) (v1 : v ≤ 1000)
    (c1 : ¬ d * q * q < p * p) (c2 : ¬ d * v * v < u * u) :
    Calls Try.prog 61 #[.int .i64 d, .int .i64 p, .int .i64 q, .int .i64 u, .int .i64 v] w fun e w' => e = .returned (.bool (nearF d p q u v)) ∧ w = w' := by
  obtain ⟨x, hx⟩ : ∃ x, q - v = x := ⟨_, rfl⟩
  obtain ⟨y, hy⟩ : ∃ y, p - u = y := ⟨_, rfl⟩
  have HR := Lib.hid (sg_PP c1 c2 hx hy)
  have x0 : -2000 ≤ x := by omega
  have x1 : x ≤ 2000 := by omega
  have y0 : -20002 ≤ y := by omega
  have y1 : y ≤ 20002 := by omega
  obtain ⟨a1, a2⟩ := pr_bd d0 d1 q0 q1
  obtain ⟨a3, a4⟩ := pr_bd a1 a2 q0 q1
  obtain ⟨a5, a6⟩ := pr_bd p0 p1 p0 p1
  obtain ⟨b1, b2⟩ := pr_bd d0 d1 v0 v1
  obtain ⟨b3, b4⟩ := pr_bd b1 b2 v0 v1
  obtain ⟨b5, b6⟩ := pr_bd u0 u1 u0 u1
  obtain ⟨g1, g2⟩ := dx_bd d0 d1 x0 x1
  obtain ⟨g3, g4⟩ := dxx_bd d0 d1 x0 x1
  obtain ⟨g5, g6⟩ := sq_bd y0 y1
  rw [HR.out]
  clear HR
  rcases Int.lt_trichotomy x 0 with h1 | h1 | h1 <;> rcases Int.lt_trichotomy y 0 with h2 | h2 | h2
  · rw [near_n h1 h2]
    go_enter Try.func61, Try.ntmps61
    go_wp2
    all_goals (go_ret; first | exact ⟨ret_bool rfl, rfl⟩ | exact ⟨ret_bool (by simp; omega), rfl⟩)
  · rw [near_t2 h1 (by omega)]
    go_enter Try.func61, Try.ntmps61
    go_wp2
    all_goals (go_ret; first | exact ⟨ret_bool rfl, rfl⟩ | exact ⟨ret_bool (by simp; omega), rfl⟩)
  · rw [near_t2 h1 (by omega)]
    go_enter Try.func61, Try.ntmps61
    go_wp2
    all_goals (go_ret; first | exact ⟨ret_bool rfl, rfl⟩ | exact ⟨ret_bool (by simp; omega), rfl⟩)
  · rw [near_f (by omega) (by omega)]
    go_enter Try.func61, Try.ntmps61
    go_wp2
    all_goals (go_ret; first | exact ⟨ret_bool rfl, rfl⟩ | exact ⟨ret_bool (by simp; omega), rfl⟩)
  · rw [near_f (by omega) (by omega)]
    go_enter Try.func61, Try.ntmps61
    go_wp2
    all_goals (go_ret; first | exact ⟨ret_bool rfl, rfl⟩ | exact ⟨ret_bool (by simp; omega), rfl⟩)
  · rw [near_t1 h1 h2]
    go_enter Try.func61, Try.ntmps61
    go_wp2
    all_goals (go_ret; first | exact ⟨ret_bool rfl, rfl⟩ | exact ⟨ret_bool (by simp; omega), rfl⟩)
  · rw [near_f (by omega) (by omega)]
    go_enter Try.func61, Try.ntmps61
    go_wp2
    all_goals (go_ret; first | exact ⟨ret_bool rfl, rfl⟩ | exact ⟨ret_bool (by simp; omega), rfl⟩)
  · rw [near_f (by omega) (by omega)]
    go_enter Try.func61, Try.ntmps61
    go_wp2
    all_goals (go_ret; first | exact ⟨ret_bool rfl, rfl⟩ | exact ⟨ret_bool (by simp; omega), rfl⟩)
  · rw [near_p h1 h2]
    go_enter Try.func61, Try.ntmps61
    go_wp2
    all_goals (go_ret; first | exact ⟨ret_bool rfl, rfl⟩ | exact ⟨ret_bool (by simp; omega), rfl⟩)
theorem nearer_any (d p q u v : Int) (w : World) (d0 : 0 ≤ d) (d1 : d ≤ 100) (p0 : 0 ≤ p) (p1 : p ≤ 10001) (q0 : 0 ≤ q) (q1 : q ≤ 1000) (u0 : 0 ≤ u) (u1 : u ≤ 10001) (v0 : 0 ≤ v) (v1 : v ≤ 1000) :
    Calls Try.prog 61 #[.int .i64 d, .int .i64 p, .int .i64 q, .int .i64 u, .int .i64 v] w fun e w' => e = .returned (.bool (nearF d p q u v)) ∧ w = w' := by
  by_cases c1 : d * q * q < p * p <;> by_cases c2 : d * v * v < u * u
  · exact nearer_NN d p q u v w d0 d1 p0 p1 q0 q1 u0 u1 v0 v1 c1 c2
  · exact nearer_NP d p q u v w d0 d1 p0 p1 q0 q1 u0 u1 v0 v1 c1 c2
  · exact nearer_PN d p q u v w d0 d1 p0 p1 q0 q1 u0 u1 v0 v1 c1 c2
  · exact nearer_PP d p q u v w d0 d1 p0 p1 q0 q1 u0 u1 v0 v1 c1 c2
end Go.Proofs.Ytbdadckedhcibaa
