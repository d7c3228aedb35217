/- The walks of coprime and of the greatest common divisors of the reference and of the law; the reference's Turns. Conditions as stated in each theorem. -/
import Derived.Test.YtopfcppmbkidgaaBase
namespace Go.Proofs.Ytopfcppmbkidgaa
open Go.RowKit
attribute [local go_sem] Oper.semAt_some

set_option maxHeartbeats 1000000 in
theorem gcdR_any (a b : Nat) (ha : a ≤ 4611686018427387904) (hb : b ≤ 4611686018427387904) (w : World) :
    Calls Try.prog 71 #[.int .i64 (a : Int), .int .i64 (b : Int)] w fun e w' => e = .returned (.int .i64 ((Nat.gcd a b : Nat) : Int)) ∧ Below w.heap.size w w' := by
  obtain ⟨g, hg⟩ : ∃ g, Nat.gcd a b = g := ⟨_, rfl⟩
  rw [hg]
  have HG := Lib.hid hg
  have HB := Lib.hid (Below.refl w.heap.size w)
  clear hg
  go_enter Try.func71, Try.ntmps71
  go_wp2
  go_loopg [0, 1] b (fun gk s5 s6 wr => ∃ (x y q : Nat), x ≤ 4611686018427387904 ∧ y ≤ 4611686018427387904 ∧ y = gk ∧ Nat.gcd x y = g ∧ s5 = .int .i64 (x : Int) ∧ s6 = .int .i64 (y : Int) ∧ wr = w.drewN q)
  case atStart => exact ⟨a, b, 0, ha, hb, rfl, HG.out, rfl, rfl, rfl⟩
  case round =>
    obtain ⟨x, y, q, hx, hy, hyk, hxy, rfl, rfl, rfl⟩ := hrel
    have HXY := Lib.hid hxy
    have HYK := Lib.hid hyk
    clear hxy hyk
    by_cases h : y = 0
    · subst h
      have e : x = g := by rw [← HXY.out, Nat.gcd_zero_right]
      subst e
      go_wp2
      go_ret
      exact ⟨rfl, below_drewN HB.out _⟩
    · have hz : (0 : Int) < (y : Int) := by omega
      have yne : ¬ (y : Int) = 0 := by omega
      have ybe : ((y : Int) == 0) = false := by simpa using yne
      have em : (x : Int) % (y : Int) = ((x % y : Nat) : Int) := by rw [Int.natCast_emod]
      have hlt : x % y < y := Nat.mod_lt _ (by omega)
      have HGG : RowKit.Hid (Nat.gcd y (x % y) = g) := Lib.hid (by rw [← HXY.out, Nat.gcd_comm x y, Nat.gcd_rec y x, Nat.gcd_comm])
      obtain ⟨m, hm'⟩ : ∃ m, x % y = m := ⟨_, rfl⟩
      rw [hm'] at em hlt HGG
      clear hm' h
      go_wp2
      go_quiet (fail)
      go_wp2
      go_roundg m
      case rel => exact ⟨y, m, _, hy, by omega, rfl, HGG.out, rfl, by first | rfl | rw [em], by first | rfl | rw [World.drewN_drewN]⟩
      case measure => have := HYK.out; omega
set_option maxHeartbeats 1000000 in
theorem gcdL_any (a b : Nat) (ha : a ≤ 4611686018427387904) (hb : b ≤ 4611686018427387904) (w : World) :
    Calls Try.prog 58 #[.int .i64 (a : Int), .int .i64 (b : Int)] w fun e w' => e = .returned (.int .i64 ((Nat.gcd a b : Nat) : Int)) ∧ Below w.heap.size w w' := by
  obtain ⟨g, hg⟩ : ∃ g, Nat.gcd a b = g := ⟨_, rfl⟩
  rw [hg]
  have HG := Lib.hid hg
  have HB := Lib.hid (Below.refl w.heap.size w)
  clear hg
  go_enter Try.func58, Try.ntmps58
  go_wp2
  go_loopg [0, 1] b (fun gk s5 s6 wr => ∃ (x y q : Nat), x ≤ 4611686018427387904 ∧ y ≤ 4611686018427387904 ∧ y = gk ∧ Nat.gcd x y = g ∧ s5 = .int .i64 (x : Int) ∧ s6 = .int .i64 (y : Int) ∧ wr = w.drewN q)
  case atStart => exact ⟨a, b, 0, ha, hb, rfl, HG.out, rfl, rfl, rfl⟩
  case round =>
    obtain ⟨x, y, q, hx, hy, hyk, hxy, rfl, rfl, rfl⟩ := hrel
    have HXY := Lib.hid hxy
    have HYK := Lib.hid hyk
    clear hxy hyk
    by_cases h : y = 0
    · subst h
      have e : x = g := by rw [← HXY.out, Nat.gcd_zero_right]
      subst e
      go_wp2
      go_ret
      exact ⟨rfl, below_drewN HB.out _⟩
    · have hz : (0 : Int) < (y : Int) := by omega
      have yne : ¬ (y : Int) = 0 := by omega
      have ybe : ((y : Int) == 0) = false := by simpa using yne
      have em : (x : Int) % (y : Int) = ((x % y : Nat) : Int) := by rw [Int.natCast_emod]
      have hlt : x % y < y := Nat.mod_lt _ (by omega)
      have HGG : RowKit.Hid (Nat.gcd y (x % y) = g) := Lib.hid (by rw [← HXY.out, Nat.gcd_comm x y, Nat.gcd_rec y x, Nat.gcd_comm])
      obtain ⟨m, hm'⟩ : ∃ m, x % y = m := ⟨_, rfl⟩
      rw [hm'] at em hlt HGG
      clear hm' h
      go_wp2
      go_quiet (fail)
      go_wp2
      go_roundg m
      case rel => exact ⟨y, m, _, hy, by omega, rfl, HGG.out, rfl, by first | rfl | rw [em], by first | rfl | rw [World.drewN_drewN]⟩
      case measure => have := HYK.out; omega
set_option maxHeartbeats 1000000 in
theorem coprime_any (a b : Nat) (ha : a ≤ 4611686018427387904) (hb : b ≤ 4611686018427387904) (w : World) :
    Calls Try.prog 68 #[.int .i64 (a : Int), .int .i64 (b : Int)] w fun e w' => e = .returned (.bool (Nat.gcd a b == 1)) ∧ Below w.heap.size w w' := by
  obtain ⟨g, hg⟩ : ∃ g, Nat.gcd a b = g := ⟨_, rfl⟩
  rw [hg]
  have HG := Lib.hid hg
  have HB := Lib.hid (Below.refl w.heap.size w)
  clear hg
  go_enter Try.func68, Try.ntmps68
  go_wp2
  go_loopg [0, 1] b (fun gk s5 s6 wr => ∃ (x y q : Nat), x ≤ 4611686018427387904 ∧ y ≤ 4611686018427387904 ∧ y = gk ∧ Nat.gcd x y = g ∧ s5 = .int .i64 (x : Int) ∧ s6 = .int .i64 (y : Int) ∧ wr = w.drewN q)
  case atStart => exact ⟨a, b, 0, ha, hb, rfl, HG.out, rfl, rfl, rfl⟩
  case round =>
    obtain ⟨x, y, q, hx, hy, hyk, hxy, rfl, rfl, rfl⟩ := hrel
    have HXY := Lib.hid hxy
    have HYK := Lib.hid hyk
    clear hxy hyk
    by_cases h : y = 0
    · subst h
      have e : x = g := by rw [← HXY.out, Nat.gcd_zero_right]
      subst e
      have hd : (x == 1) = ((x : Int) == 1) := by
        rw [Bool.eq_iff_iff, beq_iff_eq, beq_iff_eq]; omega
      have HD := Lib.hid hd
      clear hd
      go_wp2
      go_ret
      exact ⟨ret_bool HD.out.symm, below_drewN HB.out _⟩
    · have hz : (0 : Int) < (y : Int) := by omega
      have yne : ¬ (y : Int) = 0 := by omega
      have ybe : ((y : Int) == 0) = false := by simpa using yne
      have em : (x : Int) % (y : Int) = ((x % y : Nat) : Int) := by rw [Int.natCast_emod]
      have hlt : x % y < y := Nat.mod_lt _ (by omega)
      have HGG : RowKit.Hid (Nat.gcd y (x % y) = g) := Lib.hid (by rw [← HXY.out, Nat.gcd_comm x y, Nat.gcd_rec y x, Nat.gcd_comm])
      obtain ⟨m, hm'⟩ : ∃ m, x % y = m := ⟨_, rfl⟩
      rw [hm'] at em hlt HGG
      clear hm' h
      go_wp2
      go_quiet (fail)
      go_wp2
      go_roundg m
      case rel => exact ⟨y, m, _, hy, by omega, rfl, HGG.out, rfl, by first | rfl | rw [em], by first | rfl | rw [World.drewN_drewN]⟩
      case measure => have := HYK.out; omega

def trB (n t : Int) : Bool := decide (1 ≤ t) && decide (t ≤ n) && (Nat.gcd t.toNat n.toNat == 1)
set_option maxHeartbeats 1000000 in
theorem turnsR_any (n t : Int) (hn : n ≤ 1000000) (w : World) :
    Calls Try.prog 30 #[.int .i64 n, .int .i64 t] w fun e w' => e = .returned (.bool (trB n t)) ∧ Below w.heap.size w w' := by
  unfold trB
  by_cases h1 : 1 ≤ t
  · have d1 := decide_eq_true h1
    by_cases h2 : t ≤ n
    · have d2 := decide_eq_true h2
      obtain ⟨x, rfl⟩ := Int.eq_ofNat_of_zero_le (show 0 ≤ t by omega)
      obtain ⟨m, rfl⟩ := Int.eq_ofNat_of_zero_le (show 0 ≤ n by omega)
      have HC := Lib.hid (fun W => gcdR_any x m (by omega) (by omega) W)
      rw [Int.toNat_natCast, Int.toNat_natCast]
      obtain ⟨g, hg⟩ : ∃ g, Nat.gcd x m = g := ⟨_, rfl⟩
      rw [hg] at HC ⊢
      have hd : (g == 1) = ((g : Int) == 1) := by
        rw [Bool.eq_iff_iff, beq_iff_eq, beq_iff_eq]; omega
      rw [d1, d2, hd]
      clear hg hd
      go_enter Try.func30, Try.ntmps30
      go_wp2_with fail
      refine (HC.out _).mono ?_
      rintro e w1 ⟨rfl, hb1⟩
      have H1 := Lib.hid hb1
      clear hb1
      go_wp2
      go_ret
      exact ⟨rfl, H1.out⟩
    · have d2 := decide_eq_false h2
      rw [d1, d2]
      have HB := Lib.hid (Below.refl w.heap.size w)
      go_enter Try.func30, Try.ntmps30
      go_wp2
      go_ret
      exact ⟨rfl, HB.out⟩
  · have d1 := decide_eq_false h1
    rw [d1]
    have HB := Lib.hid (Below.refl w.heap.size w)
    go_enter Try.func30, Try.ntmps30
    go_wp2
    go_ret
    exact ⟨rfl, HB.out⟩
end Go.Proofs.Ytopfcppmbkidgaa
