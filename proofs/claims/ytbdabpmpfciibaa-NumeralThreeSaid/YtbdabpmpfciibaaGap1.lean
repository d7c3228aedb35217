/- The walks of numeral.coprime and the reference's gcd and Points: whether numbers are arguments of Gaps. No condition beyond those stated. -/
import Derived.Test.YtbdabpmpfciibaaGapMath
import Derived.Sort.QuietIn
namespace Go.Proofs.Ytbdabpmpfciibaa
open Go.RowKit
attribute [local go_sem] Oper.semAt_some

set_option maxHeartbeats 2000000 in
theorem coprime_any (a b : Nat) (w : World) (ha : a ≤ 1000) (hb : b ≤ 1000) :
    Calls Try.prog 83 #[.int .i64 (a : Int), .int .i64 (b : Int)] w fun e w' => e = .returned (.bool (Nat.gcd a b == 1)) ∧ Below w.heap.size w w' := by
  go_enter Try.func83, Try.ntmps83
  go_wp2
  go_loopg [0, 1] b (fun gk s0 s1 wr => ∃ (x y : Nat), s0 = .int .i64 (x : Int) ∧ s1 = .int .i64 (y : Int) ∧ y ≤ gk ∧ x ≤ 1000 ∧ y ≤ 1000 ∧ Nat.gcd x y = Nat.gcd a b ∧ Below w.heap.size w wr)
  case atStart => exact ⟨a, b, rfl, rfl, Nat.le_refl _, ha, hb, rfl, Below.refl _ _⟩
  case round =>
    obtain ⟨x, y, rfl, rfl, hy, hx1, hy1, hg, hbl⟩ := hrel
    have HBL := Lib.hid hbl
    clear hbl
    have HG := Lib.hid hg
    have HY := Lib.hid hy
    clear hg hy
    by_cases h0 : y = 0
    · subst h0
      have e : Nat.gcd a b = x := by rw [← HG.out, Nat.gcd_zero_right]
      have HE := Lib.hid e
      clear e
      go_wp2
      go_ret
      refine ⟨?_, HBL.out⟩
      rw [HE.out]
      refine ret_bool ?_
      by_cases hx : x = 1
      · subst hx; rfl
      · have h2 : ¬ (x : Int) = 1 := by omega
        rw [show (x == 1) = false from beq_eq_false_iff_ne.2 hx]
        exact beq_eq_false_iff_ne.2 h2
    · have hpos : (0 : Int) < (y : Int) := by omega
      have hne : ¬ (y : Int) = 0 := by omega
      have hneb : ((y : Int) == 0) = false := by rw [beq_eq_false_iff_ne]; exact hne
      obtain ⟨r, hr⟩ : ∃ r, x % y = r := ⟨_, rfl⟩
      have hrt : (x : Int).tmod (y : Int) = (r : Int) := by rw [Int.tmod_eq_emod_of_nonneg (by omega), ← hr]; omega
      have hry : r < y := hr ▸ Nat.mod_lt _ (by omega)
      have hg2 : Nat.gcd y r = Nat.gcd a b := by rw [← HG.out, Nat.gcd_comm x y, Nat.gcd_rec y x, hr, Nat.gcd_comm]
      have HG2 := Lib.hid hg2
      have r1 : r ≤ 1000 := by omega
      clear hr hg2 h0
      go_wp2
      go_quiet (fail)
      go_wp2
      go_roundg (gk - 1)
      case rel => exact ⟨y, r, rfl, rfl, by have := HY.out; omega, hy1, r1, HG2.out, below_drewN HBL.out _⟩
      case measure => have := HY.out; omega

set_option maxHeartbeats 2000000 in
theorem gcd_any (a b : Nat) (w : World) (ha : a ≤ 1000) (hb : b ≤ 1000) :
    Calls Try.prog 86 #[.int .i64 (a : Int), .int .i64 (b : Int)] w fun e w' => e = .returned (.int .i64 (Nat.gcd a b : Int)) ∧ Below w.heap.size w w' := by
  go_enter Try.func86, Try.ntmps86
  go_wp2
  go_loopg [0, 1] b (fun gk s0 s1 wr => ∃ (x y : Nat), s0 = .int .i64 (x : Int) ∧ s1 = .int .i64 (y : Int) ∧ y ≤ gk ∧ x ≤ 1000 ∧ y ≤ 1000 ∧ Nat.gcd x y = Nat.gcd a b ∧ Below w.heap.size w wr)
  case atStart => exact ⟨a, b, rfl, rfl, Nat.le_refl _, ha, hb, rfl, Below.refl _ _⟩
  case round =>
    obtain ⟨x, y, rfl, rfl, hy, hx1, hy1, hg, hbl⟩ := hrel
    have HBL := Lib.hid hbl
    clear hbl
    have HG := Lib.hid hg
    have HY := Lib.hid hy
    clear hg hy
    by_cases h0 : y = 0
    · subst h0
      have e : Nat.gcd a b = x := by rw [← HG.out, Nat.gcd_zero_right]
      have HE := Lib.hid e
      clear e
      go_wp2
      go_ret
      refine ⟨?_, HBL.out⟩
      rw [HE.out]
      rfl
    · have hpos : (0 : Int) < (y : Int) := by omega
      have hne : ¬ (y : Int) = 0 := by omega
      have hneb : ((y : Int) == 0) = false := by rw [beq_eq_false_iff_ne]; exact hne
      obtain ⟨r, hr⟩ : ∃ r, x % y = r := ⟨_, rfl⟩
      have hrt : (x : Int).tmod (y : Int) = (r : Int) := by rw [Int.tmod_eq_emod_of_nonneg (by omega), ← hr]; omega
      have hry : r < y := hr ▸ Nat.mod_lt _ (by omega)
      have hg2 : Nat.gcd y r = Nat.gcd a b := by rw [← HG.out, Nat.gcd_comm x y, Nat.gcd_rec y x, hr, Nat.gcd_comm]
      have HG2 := Lib.hid hg2
      have r1 : r ≤ 1000 := by omega
      clear hr hg2 h0
      go_wp2
      go_quiet (fail)
      go_wp2
      go_roundg (gk - 1)
      case rel => exact ⟨y, r, rfl, rfl, by have := HY.out; omega, hy1, r1, HG2.out, below_drewN HBL.out _⟩
      case measure => have := HY.out; omega

/-- Whether numbers are arguments of Gaps. -/
def isPts (p m n : Int) : Bool := decide (2 ≤ m) && decide (m ≤ 1000) && decide (1 ≤ p) && decide (p < m) && decide (1 ≤ n) && decide (n ≤ m) && (Nat.gcd p.toNat m.toNat == 1)
theorem isPts_yes {p m n : Int} (h : isPts p m n = true) : 2 ≤ m ∧ m ≤ 1000 ∧ 1 ≤ p ∧ p < m ∧ 1 ≤ n ∧ n ≤ m ∧ Nat.gcd p.toNat m.toNat = 1 := by
  unfold isPts at h
  simp only [Bool.and_eq_true, decide_eq_true_eq, beq_iff_eq] at h
  exact ⟨h.1.1.1.1.1.1, h.1.1.1.1.1.2, h.1.1.1.1.2, h.1.1.1.2, h.1.1.2, h.1.2, h.2⟩
theorem isPts_mk {p m n : Int} (h : 2 ≤ m ∧ m ≤ 1000 ∧ 1 ≤ p ∧ p < m ∧ 1 ≤ n ∧ n ≤ m ∧ Nat.gcd p.toNat m.toNat = 1) : isPts p m n = true := by
  unfold isPts
  simp only [Bool.and_eq_true, decide_eq_true_eq, beq_iff_eq]
  exact ⟨⟨⟨⟨⟨⟨h.1, h.2.1⟩, h.2.2.1⟩, h.2.2.2.1⟩, h.2.2.2.2.1⟩, h.2.2.2.2.2.1⟩, h.2.2.2.2.2.2⟩
theorem isPts_no {p m n : Int} (h : ¬ (2 ≤ m ∧ m ≤ 1000 ∧ 1 ≤ p ∧ p < m ∧ 1 ≤ n ∧ n ≤ m ∧ Nat.gcd p.toNat m.toNat = 1)) : isPts p m n = false := by
  rw [← Bool.not_eq_true]
  exact fun hh => h (isPts_yes hh)

set_option maxHeartbeats 4000000 in
theorem Points_any (p m n : Int) (w : World) :
    Calls Try.prog 53 #[.int .i64 p, .int .i64 m, .int .i64 n] w fun e w' => e = .returned (.bool (isPts p m n)) ∧ Below w.heap.size w w' := by
  by_cases h1 : 2 ≤ m
  · by_cases h2 : m ≤ 1000
    · by_cases h3 : 1 ≤ p
      · by_cases h4 : p < m
        · have HG := Lib.hid (gcd_any p.toNat m.toNat w (by omega) (by omega))
          rw [show ((p.toNat : Nat) : Int) = p by omega, show ((m.toNat : Nat) : Int) = m by omega] at HG
          obtain ⟨g, hg⟩ : ∃ g, Nat.gcd p.toNat m.toNat = g := ⟨_, rfl⟩
          rw [hg] at HG
          by_cases hg1 : g = 1
          · subst hg1
            by_cases h5 : 1 ≤ n
            · by_cases h6 : n ≤ m
              · rw [isPts_mk ⟨h1, h2, h3, h4, h5, h6, hg⟩]
                clear hg
                go_enter Try.func53, Try.ntmps53
                go_wp2_with fail
                refine HG.out.mono ?_
                rintro e w1 ⟨rfl, hb⟩
                have HB := Lib.hid hb
                clear hb
                go_wp2
                go_ret
                exact ⟨rfl, HB.out⟩
              · rw [isPts_no (fun h => h6 h.2.2.2.2.2.1)]
                clear hg
                go_enter Try.func53, Try.ntmps53
                go_wp2_with fail
                refine HG.out.mono ?_
                rintro e w1 ⟨rfl, hb⟩
                have HB := Lib.hid hb
                clear hb
                go_wp2
                go_ret
                exact ⟨by show Ending.returned (.bool (decide (n ≤ m))) = _; rw [decide_eq_false (show ¬ n ≤ m by omega)], HB.out⟩
            · rw [isPts_no (fun h => h5 h.2.2.2.2.1)]
              clear hg
              go_enter Try.func53, Try.ntmps53
              go_wp2_with fail
              refine HG.out.mono ?_
              rintro e w1 ⟨rfl, hb⟩
              have HB := Lib.hid hb
              clear hb
              go_wp2
              go_ret
              exact ⟨rfl, HB.out⟩
          · rw [isPts_no (fun h => hg1 (hg ▸ h.2.2.2.2.2.2))]
            have hgb : ((g : Int) == 1) = false := by rw [beq_eq_false_iff_ne]; omega
            clear hg
            go_enter Try.func53, Try.ntmps53
            go_wp2_with fail
            refine HG.out.mono ?_
            rintro e w1 ⟨rfl, hb⟩
            have HB := Lib.hid hb
            clear hb
            go_wp2
            go_ret
            exact ⟨rfl, HB.out⟩
        · rw [isPts_no (fun h => h4 h.2.2.2.1)]
          go_enter Try.func53, Try.ntmps53
          go_wp2
          go_ret
          exact ⟨rfl, Below.refl _ _⟩
      · rw [isPts_no (fun h => h3 h.2.2.1)]
        go_enter Try.func53, Try.ntmps53
        go_wp2
        go_ret
        exact ⟨rfl, Below.refl _ _⟩
    · rw [isPts_no (fun h => h2 h.2.1)]
      go_enter Try.func53, Try.ntmps53
      go_wp2
      go_ret
      exact ⟨rfl, Below.refl _ _⟩
  · rw [isPts_no (fun h => h1 h.1)]
    go_enter Try.func53, Try.ntmps53
    go_wp2
    go_ret
    exact ⟨rfl, Below.refl _ _⟩
end Go.Proofs.Ytbdabpmpfciibaa
