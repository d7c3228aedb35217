/- The walks of fraction, sees and side, and of the reference's frac. Conditions: the numbers are in range. -/
import Derived.Test.YtjlaclbgfidiiaaPt1
namespace Go.Proofs.Ytjlaclbgfidiiaa
open Go.RowKit
attribute [local go_sem] Oper.semAt_some

/-- A fraction in lowest terms. -/
def frN (n d : Int) : Int := n / ((Nat.gcd n.natAbs d.natAbs : Nat) : Int)
def frD (n d : Int) : Int := d / ((Nat.gcd n.natAbs d.natAbs : Nat) : Int)
theorem fr_facts {n d : Int} (hd : 1 ≤ d) (d1 : d ≤ 1000) (n0 : -1000 ≤ n) (n1 : n ≤ 1000) : ∃ (g : Nat) (N D : Int), Nat.gcd n.natAbs d.natAbs = g ∧ frN n d = N ∧ frD n d = D ∧ 1 ≤ g ∧ (g : Int) ≤ 1000 ∧ n = (g : Int) * N ∧ d = (g : Int) * D ∧ n.tdiv (g : Int) = N ∧ d.tdiv (g : Int) = D ∧ -1000 ≤ N ∧ N ≤ 1000 ∧ 1 ≤ D ∧ D ≤ d := by
  have hg : 1 ≤ Nat.gcd n.natAbs d.natAbs := Nat.gcd_pos_of_pos_right _ (by omega)
  have hg2 : Nat.gcd n.natAbs d.natAbs ≤ d.natAbs := Nat.le_of_dvd (by omega) (Nat.gcd_dvd_right _ _)
  obtain ⟨N, hN⟩ : ((Nat.gcd n.natAbs d.natAbs : Nat) : Int) ∣ n := Int.ofNat_dvd_left.2 (Nat.gcd_dvd_left _ _)
  obtain ⟨D, hD⟩ : ((Nat.gcd n.natAbs d.natAbs : Nat) : Int) ∣ d := Int.ofNat_dvd_left.2 (Nat.gcd_dvd_right _ _)
  have eN : frN n d = N := by
    unfold frN
    generalize Nat.gcd n.natAbs d.natAbs = g at *
    rw [hN, Int.mul_ediv_cancel_left _ (by omega)]
  have eD : frD n d = D := by
    unfold frD
    generalize Nat.gcd n.natAbs d.natAbs = g at *
    rw [hD, Int.mul_ediv_cancel_left _ (by omega)]
  obtain ⟨g, hgg⟩ : ∃ g, Nat.gcd n.natAbs d.natAbs = g := ⟨_, rfl⟩
  rw [hgg] at hg hg2 hN hD
  have tN : n.tdiv (g : Int) = N := by rw [hN, Int.mul_tdiv_cancel_left _ (by omega)]
  have tD : d.tdiv (g : Int) = D := by rw [hD, Int.mul_tdiv_cancel_left _ (by omega)]
  have bN : N.natAbs ≤ n.natAbs := by
    rw [hN, Int.natAbs_mul]
    exact Nat.le_mul_of_pos_left _ (by omega)
  have bD : D.natAbs ≤ d.natAbs := by
    rw [hD, Int.natAbs_mul]
    exact Nat.le_mul_of_pos_left _ (by omega)
  have D0 : 1 ≤ D := by
    apply Decidable.byContradiction
    intro h
    have : (g : Int) * D ≤ (g : Int) * 0 := Int.mul_le_mul_of_nonneg_left (by omega) (by omega)
    omega
  exact ⟨g, N, D, hgg, eN, eD, hg, by omega, hN, hD, tN, tD, by omega, by omega, D0, by omega⟩
theorem frozen_new (w : World) (vs : Array Value) (o : Nat) {t : TypeId} : (w.alloc (.cells vs t)).frozen? ⟨w.heap.size, o, none⟩ = false := by
  unfold World.frozen?
  rw [heap_alloc_last]
  rfl

set_option maxHeartbeats 4000000 in
set_option maxRecDepth 100000 in
theorem fraction_any (n d : Int) (hd : 1 ≤ d) (d1 : d ≤ 1000) (n0 : -1000 ≤ n) (n1 : n ≤ 1000) (w : World) :
    Calls Try.prog 90 #[.int .i64 n, .int .i64 d] w fun e w' => e = .returned (.agg #[.int .i64 (frN n d), .int .i64 (frD n d)]) ∧ Below w.heap.size w w' := by
  obtain ⟨g, N, D, hg, eN, eD, g1, g2, hN, hD, tN, tD, N0, N1, D0, D1⟩ := fr_facts hd d1 n0 n1
  have hG := fun w => gcdL_any n.natAbs d.natAbs (by omega) (by omega) w
  rw [hg] at hG
  have ed : ((d.natAbs : Nat) : Int) = d := by omega
  have en : ((n.natAbs : Nat) : Int) = max n (-n) := by omega
  rw [ed, en] at hG
  rw [eN, eD]
  have HG := Lib.hid hG
  have hb0 : Below w.heap.size w (w.alloc (.cells #[.int .i64 0, .int .i64 0] 48)) := (Below.refl _ _).alloc (Nat.le_refl _) _
  obtain ⟨c0, c1⟩ := cell_pair w (.int .i64 0) (.int .i64 0) 48
  have f0 := frozen_new w #[.int .i64 0, .int .i64 0] 0 (t := 48)
  have f1 := frozen_new w #[.int .i64 0, .int .i64 0] 1 (t := 48)
  have HB := Lib.hid hb0
  have gne : ¬ (g : Int) = 0 := by omega
  clear hG hg eN eD hN hD ed en hb0
  go_enter Try.func90, Try.ntmps90
  go_wp2_with fail
  refine (HG.out _).mono ?_
  rintro e w1 ⟨rfl, q, rfl⟩
  obtain ⟨W0, hW0⟩ : ∃ W0, w.alloc (.cells #[.int .i64 0, .int .i64 0] 48) = W0 := ⟨_, rfl⟩
  rw [hW0] at c0 c1 f0 f1 HB ⊢
  clear hW0 HG
  go_wp2
  go_region
  all_goals
    go_wp2
    exact bodyPost_ret (v := .agg #[.int .i64 N, .int .i64 D]) (by simp [results, Try.results90, go_sem, c0, c1]) rfl ⟨rfl, by first | exact ((below_drewN HB.out _).setCell (p := ⟨w.heap.size, 0, none⟩) (Nat.le_refl _) _).setCell (p := ⟨w.heap.size, 1, none⟩) (Nat.le_refl _) _ | exact below_drewN (((below_drewN HB.out _).setCell (p := ⟨w.heap.size, 0, none⟩) (Nat.le_refl _) _).setCell (p := ⟨w.heap.size, 1, none⟩) (Nat.le_refl _) _) _ | exact ((below_drewN (below_drewN HB.out _) _).setCell (p := ⟨w.heap.size, 0, none⟩) (Nat.le_refl _) _).setCell (p := ⟨w.heap.size, 1, none⟩) (Nat.le_refl _) _⟩

set_option maxHeartbeats 4000000 in
set_option maxRecDepth 100000 in
theorem fracR2_any (n d : Int) (hd : 1 ≤ d) (d1 : d ≤ 1000) (n0 : -1000 ≤ n) (n1 : n ≤ 1000) (w : World) :
    Calls Try.prog 66 #[.int .i64 n, .int .i64 d] w fun e w' => e = .returned (.agg #[.int .i64 (frN n d), .int .i64 (frD n d)]) ∧ Below w.heap.size w w' := by
  obtain ⟨g, N, D, hg, eN, eD, g1, g2, hN, hD, tN, tD, N0, N1, D0, D1⟩ := fr_facts hd d1 n0 n1
  obtain ⟨d', rfl⟩ : ∃ d' : Nat, d = (d' : Int) := ⟨d.toNat, by omega⟩
  rw [show ((d' : Int)).natAbs = d' by omega] at hg
  have hn : ((n.natAbs : Nat) : Int) = max n (-n) := by omega
  obtain ⟨n', hn'⟩ : ∃ n', n.natAbs = n' := ⟨_, rfl⟩
  rw [hn'] at hg hn
  have hnb : n' ≤ 1000 := by omega
  rw [eN, eD]
  have HG := Lib.hid hg
  have hb0 : Below w.heap.size w (w.alloc (.cells #[.int .i64 0, .int .i64 0] 48)) := (Below.refl _ _).alloc (Nat.le_refl _) _
  obtain ⟨c0, c1⟩ := cell_pair w (.int .i64 0) (.int .i64 0) 48
  have f0 := frozen_new w #[.int .i64 0, .int .i64 0] 0 (t := 48)
  have f1 := frozen_new w #[.int .i64 0, .int .i64 0] 1 (t := 48)
  have HB := Lib.hid hb0
  have gne : ¬ (g : Int) = 0 := by omega
  have hm : max n (-n) = (n' : Int) := hn.symm
  clear hg eN eD hN hD hn hn' hb0
  go_enter Try.func66, Try.ntmps66
  go_wp2
  obtain ⟨W0, hW0⟩ : ∃ W0, w.alloc (.cells #[.int .i64 0, .int .i64 0] 48) = W0 := ⟨_, rfl⟩
  rw [hW0] at c0 c1 f0 f1 HB ⊢
  clear hW0
  go_loopg [5, 6] d' (fun gk s5 s6 wr => ∃ (x y q : Nat), x ≤ 1000 ∧ y ≤ 1000 ∧ y = gk ∧ Nat.gcd x y = g ∧ s5 = .int .i64 (x : Int) ∧ s6 = .int .i64 (y : Int) ∧ wr = W0.drewN q)
  case atStart => exact ⟨n', d', 0, hnb, by omega, rfl, HG.out, rfl, rfl, rfl⟩
  case round =>
    obtain ⟨x, y, q, hx, hy, hyk, hxy, rfl, rfl, rfl⟩ := hrel
    have HXY := Lib.hid hxy
    have HYK := Lib.hid hyk
    clear hxy hyk
    by_cases h : y = 0
    · subst h
      have e : x = g := by rw [← HXY.out, Nat.gcd_zero_right]
      subst e
      have hz : (((0 : Nat) : Int) != 0) = false := rfl
      go_wp2
      go_region
      all_goals
        go_wp2
        exact bodyPost_ret (v := .agg #[.int .i64 N, .int .i64 D]) (by simp [results, Try.results66, go_sem, c0, c1]) rfl ⟨rfl, by first | exact ((below_drewN HB.out _).setCell (p := ⟨w.heap.size, 0, none⟩) (Nat.le_refl _) _).setCell (p := ⟨w.heap.size, 1, none⟩) (Nat.le_refl _) _ | exact below_drewN (((below_drewN HB.out _).setCell (p := ⟨w.heap.size, 0, none⟩) (Nat.le_refl _) _).setCell (p := ⟨w.heap.size, 1, none⟩) (Nat.le_refl _) _) _ | exact ((below_drewN (below_drewN HB.out _) _).setCell (p := ⟨w.heap.size, 0, none⟩) (Nat.le_refl _) _).setCell (p := ⟨w.heap.size, 1, none⟩) (Nat.le_refl _) _⟩
    · have hz : ((y : Int) != 0) = true := by simp; omega
      have yne : ¬ (y : Int) = 0 := by omega
      have em : (x : Int) % (y : Int) = ((x % y : Nat) : Int) := by rw [Int.natCast_emod]
      have hlt : x % y < y := Nat.mod_lt _ (by omega)
      have HGG : RowKit.Hid (Nat.gcd y (x % y) = g) := Lib.hid (by rw [← HXY.out, Nat.gcd_comm x y, Nat.gcd_rec y x, Nat.gcd_comm])
      obtain ⟨m, hm'⟩ : ∃ m, x % y = m := ⟨_, rfl⟩
      rw [hm'] at em hlt HGG
      clear hm' h
      go_wp2
      go_quiet (fail)
      go_wp2
      go_roundg m
      case rel => exact ⟨y, m, _, hy, by omega, rfl, HGG.out, rfl, by first | rfl | rw [em], by first | rfl | rw [World.drewN_drewN]⟩
      case measure => have := HYK.out; omega

/-- Is c on the line from a through b, or below it? -/
def seesF (a b c : Int × Int) : Bool := decide ((c.2 - a.2) * (b.1 - a.1) ≤ (b.2 - a.2) * (c.1 - a.1))
theorem mul_small {x y : Int} (x0 : -1000 ≤ x) (x1 : x ≤ 1000) (y0 : -1000 ≤ y) (y1 : y ≤ 1000) : -1000000 ≤ x * y ∧ x * y ≤ 1000000 := by
  rcases Int.le_total 0 x with h | h
  · have := mul_abs h x1 y0 y1; omega
  · have := mul_abs (a := -x) (by omega) (show -x ≤ 1000 by omega) y0 y1
    rw [Int.neg_mul] at this
    omega
/-- A point whose numbers are small. -/
def okP (a : Int × Int) : Prop := 0 ≤ a.1 ∧ a.1 ≤ 100 ∧ 0 ≤ a.2 ∧ a.2 ≤ 100

set_option maxHeartbeats 4000000 in
set_option maxRecDepth 100000 in
theorem sees_any (ai ao bi bo ci co : Int) (ha : okP (ai, ao)) (hb : okP (bi, bo)) (hc : okP (ci, co)) (w : World) :
    Calls Try.prog 82 #[.agg #[.int .i64 ai, .int .i64 ao], .agg #[.int .i64 bi, .int .i64 bo], .agg #[.int .i64 ci, .int .i64 co]] w fun e w' => e = .returned (.bool (seesF (ai, ao) (bi, bo) (ci, co))) ∧ Below w.heap.size w w' := by
  obtain ⟨a1, a2, a3, a4⟩ := ha
  obtain ⟨b1, b2, b3, b4⟩ := hb
  obtain ⟨c1, c2, c3, c4⟩ := hc
  simp only at a1 a2 a3 a4 b1 b2 b3 b4 c1 c2 c3 c4
  obtain ⟨p0, p1⟩ := mul_small (x := co - ao) (y := bi - ai) (by omega) (by omega) (by omega) (by omega)
  obtain ⟨p2, p3⟩ := mul_small (x := bo - ao) (y := ci - ai) (by omega) (by omega) (by omega) (by omega)
  have HB := Lib.hid ((((Below.refl w.heap.size w).alloc (Nat.le_refl _) (.cells #[.int .i64 ai, .int .i64 ao] 103)).alloc (by simp) (.cells #[.int .i64 bi, .int .i64 bo] 103)).alloc (by first | (simp; done) | (simp; omega)) (.cells #[.int .i64 ci, .int .i64 co] 103))
  unfold seesF
  go_enter Try.func82, Try.ntmps82
  go_wp2
  go_ret
  exact ⟨rfl, HB.out⟩
end Go.Proofs.Ytjlaclbgfidiiaa
