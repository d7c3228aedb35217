/- The walks of minus, and of the reference's gcd and less. Conditions: the numbers are in range. -/
import Derived.Test.YtbdiknlbmjdpeaaSmall
namespace Go.Proofs.Ytbdiknlbmjdpeaa
open Go.RowKit
attribute [local go_sem] Oper.semAt_some

theorem minus_any (num den d : Nat) (w : World) (h : den ≤ num * d) (h1 : num * d ≤ 4000000000000000000) (h2 : den * d ≤ 4000000000000000000) (hd : d ≤ 4000000000000000000) (hn : num ≤ 4000000000000000000) :
    Calls Try.prog 54 #[.agg #[.int .i64 (num : Int), .int .i64 (den : Int)], .int .i64 (d : Int)] w fun e w' => e = .returned (.agg #[.int .i64 ((num * d - den : Nat) : Int), .int .i64 ((den * d : Nat) : Int)]) ∧ Below w.heap.size w w' := by
  have e1 : wrap64 ((num : Int) * (d : Int)) = (num : Int) * (d : Int) := IntWalk.wrap64_in _ (by rw [← Int.natCast_mul]; omega)
  have e2 : wrap64 ((num : Int) * (d : Int) - (den : Int)) = ((num * d - den : Nat) : Int) := by
    rw [Int.natCast_sub h, Int.natCast_mul]
    exact IntWalk.wrap64_in _ (by rw [← Int.natCast_mul]; omega)
  have e3 : wrap64 ((den : Int) * (d : Int)) = ((den * d : Nat) : Int) := by
    rw [Int.natCast_mul]
    exact IntWalk.wrap64_in _ (by rw [← Int.natCast_mul]; omega)
  obtain ⟨A, hA⟩ : ∃ A, num * d - den = A := ⟨_, rfl⟩
  obtain ⟨B, hB⟩ : ∃ B, den * d = B := ⟨_, rfl⟩
  rw [hA] at e2 ⊢
  rw [hB] at e3 ⊢
  have HB := Lib.hid ((((Below.refl w.heap.size w).alloc (Nat.le_refl _) (.cells #[.int .i64 (num : Int), .int .i64 (den : Int)] 49)).alloc (by simp) (.cells #[.int .i64 (A : Int), .int .i64 (B : Int)] 49)))
  clear hA hB h h1 h2
  go_enter Try.func54, Try.ntmps54
  go_wp2
  refine bodyPost_ret (v := .agg #[.int .i64 (A : Int), .int .i64 (B : Int)]) (by simp [results, Try.results54, go_sem]) rfl ?_
  exact ⟨rfl, HB.out⟩

set_option maxHeartbeats 1000000 in
theorem gcd_any (a b : Nat) (ha : a ≤ 4000000000000000000) (hb : b ≤ 4000000000000000000) (w : World) :
    Calls Try.prog 55 #[.int .i64 (a : Int), .int .i64 (b : Int)] w fun e w' => e = .returned (.int .i64 ((Nat.gcd a b : Nat) : Int)) ∧ ∃ q, w' = w.drewN q := by
  obtain ⟨g, hg⟩ : ∃ g, Nat.gcd a b = g := ⟨_, rfl⟩
  rw [hg]
  have HG := Lib.hid hg
  clear hg
  go_enter Try.func55, Try.ntmps55
  go_wp2
  go_loopg [0, 1] b (fun gk s0 s1 wr => ∃ (x y q : Nat), x ≤ 4000000000000000000 ∧ y ≤ 4000000000000000000 ∧ y = gk ∧ Nat.gcd x y = g ∧ s0 = .int .i64 (x : Int) ∧ s1 = .int .i64 (y : Int) ∧ wr = w.drewN q)
  case atStart => exact ⟨a, b, 0, ha, hb, rfl, HG.out, rfl, rfl, rfl⟩
  case round =>
    obtain ⟨x, y, q, hx, hy, hyk, hxy, rfl, rfl, rfl⟩ := hrel
    have HXY := Lib.hid hxy
    have HYK := Lib.hid hyk
    clear hxy hyk
    by_cases h : y = 0
    · subst h
      have hle : (((0 : Nat) : Int) != 0) = false := rfl
      have e : x = g := by rw [← HXY.out, Nat.gcd_zero_right]
      subst e
      go_wp2
      go_ret
      exact ⟨rfl, q, rfl⟩
    · have hne : ¬ (y : Int) = 0 := by omega
      have hne2 : ((y : Int) != 0) = true := by rw [bne_iff_ne]; exact hne
      have x0 : (0 : Int) ≤ (x : Int) := by omega
      have y0 : (0 : Int) < (y : Int) := by omega
      clear h
      go_wp2
      go_quiet (fail)
      go_wp2
      go_roundg (x % y)
      case rel => exact ⟨y, x % y, q + nq, hy, by have := Nat.mod_lt x (show 0 < y by omega); omega, rfl, by rw [← HXY.out, Nat.gcd_comm x y, Nat.gcd_rec y x, Nat.gcd_comm], rfl, by go_num, by rw [World.drewN_drewN]⟩
      case measure => have := Nat.mod_lt x (show 0 < y by omega); have := HYK.out; omega

theorem less_math {a b d g x y : Nat} (hb : 0 < b) (hd : 0 < d) (hg : g = Nat.gcd b d) (hx : x = a * (d / g) - b / g) (hy : y = b * (d / g)) : x * (b * d) = (a * d - b) * y := by
  subst hx hy
  have hg0 : 0 < g := hg ▸ Nat.gcd_pos_of_pos_left d hb
  obtain ⟨d', hd'⟩ : g ∣ d := hg ▸ Nat.gcd_dvd_right b d
  obtain ⟨b', hb'⟩ : g ∣ b := hg ▸ Nat.gcd_dvd_left b d
  clear hg
  subst hd' hb'
  rw [Nat.mul_div_cancel_left _ hg0, Nat.mul_div_cancel_left _ hg0, Nat.sub_mul, Nat.sub_mul]
  congr 1 <;> (simp only [Nat.mul_assoc, Nat.mul_left_comm, Nat.mul_comm])
theorem red_math {x y g p q : Nat} (hg : 0 < g) (hgx : g ∣ x) (hgy : g ∣ y) (h : x * p = q * y) : x / g * p = q * (y / g) := by
  obtain ⟨x', rfl⟩ := hgx
  obtain ⟨y', rfl⟩ := hgy
  rw [Nat.mul_div_cancel_left _ hg, Nat.mul_div_cancel_left _ hg]
  apply Nat.eq_of_mul_eq_mul_left hg
  rw [← Nat.mul_assoc, h, Nat.mul_left_comm]
theorem le_shift {b k M : Nat} (hk : 0 < k) : b ≤ M / k ↔ b * k ≤ M := Nat.le_div_iff_mul_le hk
/-- What less answers where nothing is too great. -/
def IsLess (a b d : Nat) (x y : Nat) : Prop := 0 < y ∧ x * (b * d) = (a * d - b) * y ∧ y ≤ b * d ∧ x ≤ a * d - b ∧ y ≤ 2305843009213693952
set_option maxHeartbeats 4000000 in
set_option maxRecDepth 100000 in
theorem less_any (a b d : Nat) (hb0 : 0 < b) (hd0 : 0 < d) (h : b ≤ a * d) (hb1 : b ≤ 2305843009213693952) (hd1 : d ≤ 2305843009213693952) (h1 : a * (d / Nat.gcd b d) ≤ 2305843009213693952) (h2 : b * (d / Nat.gcd b d) ≤ 2305843009213693952) (w : World) :
    Calls Try.prog 41 #[.int .i64 (a : Int), .int .i64 (b : Int), .int .i64 (d : Int)] w fun e w' => (∃ x y, IsLess a b d x y ∧ e = .returned (.tuple #[.int .i64 (x : Int), .int .i64 (y : Int), .bool true])) ∧ ∃ q, w' = w.drewN q := by
  have hg0 := Nat.gcd_pos_of_pos_left d hb0
  have hgb := Nat.le_of_dvd hb0 (Nat.gcd_dvd_left b d)
  have hgd := Nat.le_of_dvd hd0 (Nat.gcd_dvd_right b d)
  have hG := gcd_any b d (by omega) (by omega) w
  have hm := fun x y => less_math (a := a) (b := b) (d := d) (g := Nat.gcd b d) (x := x) (y := y) hb0 hd0 rfl
  have hq0 : 0 < d / Nat.gcd b d := Nat.div_pos hgd hg0
  have hqd : d / Nat.gcd b d ≤ d := Nat.div_le_self _ _
  have hqb : b / Nat.gcd b d ≤ a * (d / Nat.gcd b d) := by
    obtain ⟨d', hd'⟩ : Nat.gcd b d ∣ d := Nat.gcd_dvd_right b d
    have h' : b ≤ a * (Nat.gcd b d * d') := hd' ▸ h
    have e1 : d / Nat.gcd b d = d' := Nat.div_eq_of_eq_mul_right hg0 hd'
    rw [e1, Nat.div_le_iff_le_mul hg0]
    have : a * (Nat.gcd b d * d') = a * d' * Nat.gcd b d := by rw [Nat.mul_assoc, Nat.mul_comm (Nat.gcd b d)]
    omega
  have hXle : a * (d / Nat.gcd b d) - b / Nat.gcd b d ≤ a * d - b := by
    obtain ⟨d', hd'⟩ : Nat.gcd b d ∣ d := Nat.gcd_dvd_right b d
    obtain ⟨b', hb'⟩ : Nat.gcd b d ∣ b := Nat.gcd_dvd_left b d
    have e1 : d / Nat.gcd b d = d' := Nat.div_eq_of_eq_mul_right hg0 hd'
    have e2 : b / Nat.gcd b d = b' := Nat.div_eq_of_eq_mul_right hg0 hb'
    have e3 : a * d - b = Nat.gcd b d * (a * d' - b') := by
      rw [Nat.mul_sub, Nat.mul_left_comm, ← hd', ← hb']
    rw [e1, e2, e3]
    exact Nat.le_mul_of_pos_left _ hg0
  obtain ⟨g, hg⟩ : ∃ g, Nat.gcd b d = g := ⟨_, rfl⟩
  rw [hg] at hg0 hgb hgd hG hm hq0 hqd hqb h1 h2 hXle
  obtain ⟨k, hk⟩ : ∃ k, d / g = k := ⟨_, rfl⟩
  obtain ⟨l, hl⟩ : ∃ l, b / g = l := ⟨_, rfl⟩
  rw [hk] at hq0 hqd hqb hm h1 h2 hXle
  rw [hl] at hqb hm hXle
  have hbk : b * k ≤ b * d := Nat.mul_le_mul_left b hqd
  have hak : a * k ≤ a * d := Nat.mul_le_mul_left a hqd
  have ha1 : a ≤ a * k := Nat.le_mul_of_pos_right _ hq0
  have t1 : b ≤ 2305843009213693952 / k := (le_shift hq0).2 (by omega)
  have t2 : a ≤ 2305843009213693952 / k := (le_shift hq0).2 (by omega)
  have hmm := hm _ _ rfl rfl
  have hG2 := fun w => gcd_any (a * k - l) (b * k) (by omega) (by omega) w
  have hbk0 : 0 < b * k := Nat.mul_pos hb0 hq0
  have hdx := Nat.gcd_dvd_left (a * k - l) (b * k)
  have hdy := Nat.gcd_dvd_right (a * k - l) (b * k)
  have hgy := Nat.le_of_dvd hbk0 hdy
  have hg20 := Nat.gcd_pos_of_pos_right (a * k - l) hbk0
  have c1 : ((d : Int) / (g : Int)) = (k : Int) := by rw [← hk, Int.natCast_ediv]
  have c2 : ((b : Int) / (g : Int)) = (l : Int) := by rw [← hl, Int.natCast_ediv]
  have c3 : IntKind.i64.wrap ((a : Int) * (k : Int)) = ((a * k : Nat) : Int) := by rw [Int.natCast_mul]; exact IntWalk.i64_in _ (by rw [← Int.natCast_mul]; omega)
  have c4 : IntKind.i64.wrap (((a * k : Nat) : Int) - (l : Int)) = ((a * k - l : Nat) : Int) := by rw [Int.natCast_sub hqb]; exact IntWalk.i64_in _ (by omega)
  have c5 : IntKind.i64.wrap ((b : Int) * (k : Int)) = ((b * k : Nat) : Int) := by rw [Int.natCast_mul]; exact IntWalk.i64_in _ (by rw [← Int.natCast_mul]; omega)
  have c6 : ((2305843009213693952 : Int) / (k : Int)) = ((2305843009213693952 / k : Nat) : Int) := by rw [Int.natCast_ediv]; rfl
  obtain ⟨m, hmq⟩ : ∃ m, 2305843009213693952 / k = m := ⟨_, rfl⟩
  rw [hmq] at t1 t2 c6
  obtain ⟨P, hP⟩ : ∃ P, a * k = P := ⟨_, rfl⟩
  rw [hP] at c3 c4 hG2 hmm hdx hdy hgy hg20 hqb hak hXle h1 ha1
  obtain ⟨X, hX⟩ : ∃ X, P - l = X := ⟨_, rfl⟩
  rw [hX] at c4 hG2 hmm hdx hdy hgy hg20 hXle
  obtain ⟨Y, hY⟩ : ∃ Y, b * k = Y := ⟨_, rfl⟩
  rw [hY] at c5 hG2 hmm hdx hdy hgy hg20 hbk hbk0 h2
  obtain ⟨G, hGG⟩ : ∃ G, Nat.gcd X Y = G := ⟨_, rfl⟩
  rw [hGG] at hdx hdy hgy hg20
  simp only [hGG] at hG2
  have hred := red_math hg20 hdx hdy hmm
  have hy0 : 0 < Y / G := Nat.div_pos hgy hg20
  have hyy := Nat.div_le_self Y G
  have hxx := Nat.div_le_self X G
  have hPP : P ≤ a * d := hak
  have HX0 : X = 0 → G = Y := fun e => by rw [← hGG, e, Nat.gcd_zero_left]
  have c7 : ((X : Int) / (G : Int)) = ((X / G : Nat) : Int) := by rw [Int.natCast_ediv]
  have c8 : ((Y : Int) / (G : Int)) = ((Y / G : Nat) : Int) := by rw [Int.natCast_ediv]
  have HFIN : IsLess a b d (X / G) (Y / G) := ⟨hy0, hred, by omega, by omega, by omega⟩
  obtain ⟨U, hU⟩ : ∃ U, X / G = U := ⟨_, rfl⟩
  obtain ⟨V, hV⟩ : ∃ V, Y / G = V := ⟨_, rfl⟩
  rw [hU] at c7 HFIN hxx
  rw [hV] at c8 HFIN hyy
  have HF := Lib.hid HFIN
  have HZ := Lib.hid HX0
  have HG := Lib.hid hG
  have HG2 := Lib.hid hG2
  have m1 : m ≤ 2305843009213693952 := by rw [← hmq]; exact Nat.div_le_self _ _
  have u1 : (k : Int) ≤ 4000000000000000000 := by omega
  have u2 : (l : Int) ≤ 4000000000000000000 := by have := Nat.div_le_self b g; omega
  have u3 : (m : Int) ≤ 4000000000000000000 := by omega
  have u4 : (X : Int) ≤ 4000000000000000000 := by omega
  have u5 : (Y : Int) ≤ 4000000000000000000 := by omega
  have u6 : (U : Int) ≤ 4000000000000000000 := by omega
  have u7 : (V : Int) ≤ 4000000000000000000 := by omega
  have u8 : (G : Int) ≤ 4000000000000000000 := by omega
  have b1 : (b : Int) ≤ (m : Int) := by omega
  have b2 : (a : Int) ≤ (m : Int) := by omega
  have b3 : ¬ (m : Int) < (b : Int) := by omega
  have b4 : ¬ (m : Int) < (a : Int) := by omega
  have g1 : (0 : Int) < (g : Int) := by omega
  have k1 : (0 : Int) < (k : Int) := by omega
  have G1 : (0 : Int) < (G : Int) := by omega
  clear hPP hU hV m1 hG hG2 hmq hP hX hY hGG hred hmm hm hk hl hg hdx hdy HX0 HFIN h h1 h2 hy0 hyy hxx hqb hak hbk hbk0 hgy hgb hgd hqd hq0 ha1 hXle hb1 hd1 t1 t2 hg0 hg20
  go_enter Try.func41, Try.ntmps41
  go_wp2_with fail
  refine HG.out.mono ?_
  rintro e w1 ⟨rfl, q, rfl⟩
  go_wp2
  go_quiet (fail)
  go_wp2_with fail
  refine (HG2.out _).mono ?_
  rintro e w2 ⟨rfl, q2, rfl⟩
  by_cases hx : X = 0
  · obtain rfl := HZ.out hx
    have hx2 : ((X : Int) == 0) = true := by rw [beq_iff_eq]; omega
    have hx3 : (X : Int) = 0 := by omega
    have HX3 := Lib.hid hx3
    clear hx hx3
    go_wp2
    go_quiet (fail)
    go_wp2
    go_ret3
    exact ⟨⟨_, _, HF.out, rfl⟩, _, by rw [World.drewN_drewN]⟩
  · have hx2 : ((X : Int) == 0) = false := by rw [beq_eq_false_iff_ne]; omega
    have hx3 : ¬ (X : Int) = 0 := by omega
    go_wp2
    go_quiet (fail)
    go_wp2
    go_ret3
    exact ⟨⟨_, _, HF.out, rfl⟩, _, by rw [World.drewN_drewN]⟩
set_option maxHeartbeats 4000000 in
set_option maxRecDepth 100000 in
theorem less_no (a b d : Nat) (hb0 : 0 < b) (hd0 : 0 < d) (hb1 : b ≤ 2305843009213693952) (hd1 : d ≤ 2305843009213693952) (h2 : 2305843009213693952 < b * (d / Nat.gcd b d)) (w : World) :
    Calls Try.prog 41 #[.int .i64 (a : Int), .int .i64 (b : Int), .int .i64 (d : Int)] w fun e w' => e = .returned (.tuple #[.int .i64 0, .int .i64 0, .bool false]) ∧ ∃ q, w' = w.drewN q := by
  have hg0 := Nat.gcd_pos_of_pos_left d hb0
  have hgd := Nat.le_of_dvd hd0 (Nat.gcd_dvd_right b d)
  have hgb := Nat.le_of_dvd hb0 (Nat.gcd_dvd_left b d)
  have hG := gcd_any b d (by omega) (by omega) w
  have hq0 : 0 < d / Nat.gcd b d := Nat.div_pos hgd hg0
  have hqd : d / Nat.gcd b d ≤ d := Nat.div_le_self _ _
  obtain ⟨g, hg⟩ : ∃ g, Nat.gcd b d = g := ⟨_, rfl⟩
  rw [hg] at hg0 hgd hgb hG hq0 hqd h2
  obtain ⟨k, hk⟩ : ∃ k, d / g = k := ⟨_, rfl⟩
  rw [hk] at hq0 hqd h2
  have t1 : ¬ b ≤ 2305843009213693952 / k := fun h => by have := (le_shift hq0).1 h; omega
  have c1 : ((d : Int) / (g : Int)) = (k : Int) := by rw [← hk, Int.natCast_ediv]
  have c6 : ((2305843009213693952 : Int) / (k : Int)) = ((2305843009213693952 / k : Nat) : Int) := by rw [Int.natCast_ediv]; rfl
  obtain ⟨m, hmq⟩ : ∃ m, 2305843009213693952 / k = m := ⟨_, rfl⟩
  rw [hmq] at t1 c6
  have m1 : m ≤ 2305843009213693952 := by rw [← hmq]; exact Nat.div_le_self _ _
  have u1 : (k : Int) ≤ 4000000000000000000 := by omega
  have u3 : (m : Int) ≤ 4000000000000000000 := by omega
  have b3 : (m : Int) < (b : Int) := by omega
  have b4 : m < b := by omega
  have g1 : (0 : Int) < (g : Int) := by omega
  have k1 : (0 : Int) < (k : Int) := by omega
  have HG := Lib.hid hG
  clear hG hmq hk hg h2 hgb hgd hqd hq0 t1 hg0 m1
  go_enter Try.func41, Try.ntmps41
  go_wp2_with fail
  refine HG.out.mono ?_
  rintro e w1 ⟨rfl, q, rfl⟩
  go_wp2
  go_ret3
  exact ⟨rfl, q, rfl⟩
end Go.Proofs.Ytbdiknlbmjdpeaa
