/- The walks of Turns, Points, Root and Least. Conditions: the cases that the names tell. -/
import Derived.Test.YtopfcppmbkidgaaVal
import Derived.Test.YtopfcppmbkidgaaGcd
import Derived.Test.YtopfcppmbkidgaaPri
import Derived.Test.YtopfcppmbkidgaaTrn
import Derived.Test.YtopfcppmbkidgaaPts
import Derived.Test.YtopfcppmbkidgaaRts
namespace Go.Proofs.Ytopfcppmbkidgaa
open Go.RowKit
attribute [local go_sem] Oper.semAt_some

def okT (a n : Int) : Prop := 1 ≤ n ∧ n ≤ 200 ∧ 0 ≤ a ∧ a < n ∧ Nat.gcd a.toNat n.toNat = 1

set_option maxRecDepth 100000 in
set_option maxHeartbeats 1000000 in
theorem Turns_yes (a n : Nat) (h : okT (a : Int) (n : Int)) (w : World) :
    Calls Try.prog 46 #[.int .i64 (a : Int), .int .i64 (n : Int)] w fun e w' => e = .returned (.tuple #[.int .i64 (sgn a n n), .int .i64 0]) ∧ Below w.heap.size w w' := by
  obtain ⟨h1, h2, h3, h4, h5⟩ := h
  rw [Int.toNat_natCast, Int.toNat_natCast] at h5
  have HC := Lib.hid (fun W => coprime_any a n (by omega) (by omega) W)
  rw [h5] at HC
  have HT := Lib.hid (fun W => turns_any a n (by omega) (by omega) W)
  go_enter Try.func46, Try.ntmps46
  go_wp2_with fail
  refine (HC.out _).mono ?_
  rintro e w1 ⟨rfl, hb1⟩
  have H1 := Lib.hid hb1
  clear hb1
  go_wp2_with fail
  refine (HT.out _).mono ?_
  rintro e w2 ⟨rfl, hb2⟩
  have H2 := Lib.hid (H1.out.trans (hb2.mono H1.out.size))
  clear hb2
  go_wp2
  go_ret2
  exact ⟨rfl, H2.out⟩

set_option maxRecDepth 100000 in
set_option maxHeartbeats 1000000 in
theorem Turns_no (a n : Int) (h : ¬ okT a n) (w : World) :
    Calls Try.prog 46 #[.int .i64 a, .int .i64 n] w fun e w' => e = .returned (.tuple #[.int .i64 0, .int .i64 2]) ∧ Below w.heap.size w w' := by
  have HB := Lib.hid (Below.refl w.heap.size w)
  by_cases h1 : 1 ≤ n
  · by_cases h2 : n ≤ 200
    · by_cases h3 : 0 ≤ a
      · by_cases h4 : a < n
        · obtain ⟨x, rfl⟩ := Int.eq_ofNat_of_zero_le h3
          obtain ⟨m, rfl⟩ := Int.eq_ofNat_of_zero_le (show 0 ≤ n by omega)
          have h5 : ¬ Nat.gcd x m = 1 := fun e => h ⟨h1, h2, h3, h4, by rw [Int.toNat_natCast, Int.toNat_natCast]; exact e⟩
          have HC := Lib.hid (fun W => coprime_any x m (by omega) (by omega) W)
          rw [beq_eq_false_iff_ne.2 h5] at HC
          clear h h5
          go_enter Try.func46, Try.ntmps46
          go_wp2_with fail
          refine (HC.out _).mono ?_
          rintro e w1 ⟨rfl, hb1⟩
          have H1 := Lib.hid hb1
          clear hb1
          go_wp2
          go_ret2
          exact ⟨rfl, H1.out⟩
        · clear h
          go_enter Try.func46, Try.ntmps46
          go_wp2
          go_ret2
          exact ⟨rfl, HB.out⟩
      · clear h
        go_enter Try.func46, Try.ntmps46
        go_wp2
        go_ret2
        exact ⟨rfl, HB.out⟩
    · clear h
      go_enter Try.func46, Try.ntmps46
      go_wp2
      go_ret2
      exact ⟨rfl, HB.out⟩
  · clear h
    go_enter Try.func46, Try.ntmps46
    go_wp2
    go_ret2
    exact ⟨rfl, HB.out⟩

def okP (p q : Int) : Prop := p ≤ 200 ∧ q ≤ 200 ∧ p ≠ q ∧ PrI p ∧ PrI q
theorem PrI.odd {p : Int} (h : PrI p) : p % 2 = 1 := by
  obtain ⟨x, rfl⟩ := Int.eq_ofNat_of_zero_le (show 0 ≤ p by have := h.1; omega)
  have := (PrI.nat.1 h).odd
  omega

set_option maxRecDepth 100000 in
set_option maxHeartbeats 1000000 in
theorem Points_yes (p q : Nat) (h : okP (p : Int) (q : Int)) (w : World) :
    Calls Try.prog 47 #[.int .i64 (p : Int), .int .i64 (q : Int)] w fun e w' => e = .returned (.tuple #[.int .i64 ((S q p : Nat) : Int), .int .i64 0]) ∧ w' = w := by
  obtain ⟨h1, h2, h3, h4, h5⟩ := h
  have hb : ((p : Int) == (q : Int)) = false := beq_eq_false_iff_ne.2 h3
  have HP := Lib.hid (fun W => isOddPrime_any p true ⟨fun _ => h4, fun _ => rfl⟩ (by omega) W)
  have HQ := Lib.hid (fun W => isOddPrime_any q true ⟨fun _ => h5, fun _ => rfl⟩ (by omega) W)
  have ho := h4.odd
  have HT := Lib.hid (fun W => points_any p q (by omega) (by omega) (by omega) W)
  clear h3 h4 h5
  go_enter Try.func47, Try.ntmps47
  go_wp2_with fail
  refine (HP.out _).mono ?_
  rintro e w1 ⟨rfl, rfl⟩
  go_wp2_with fail
  refine (HQ.out _).mono ?_
  rintro e w1 ⟨rfl, rfl⟩
  go_wp2_with fail
  refine (HT.out _).mono ?_
  rintro e w1 ⟨rfl, rfl⟩
  go_wp2
  go_ret2
  exact ⟨rfl, rfl⟩

set_option maxRecDepth 100000 in
set_option maxHeartbeats 1000000 in
theorem Points_no (p q : Int) (h : ¬ okP p q) (w : World) :
    Calls Try.prog 47 #[.int .i64 p, .int .i64 q] w fun e w' => e = .returned (.tuple #[.int .i64 0, .int .i64 2]) ∧ w' = w := by
  by_cases h1 : p ≤ 200
  · by_cases h2 : q ≤ 200
    · by_cases h3 : p = q
      · clear h
        have hb : (p == q) = true := beq_iff_eq.2 h3
        clear h3
        go_enter Try.func47, Try.ntmps47
        go_wp2
        go_ret2
        exact ⟨rfl, rfl⟩
      · have hb : (p == q) = false := beq_eq_false_iff_ne.2 h3
        by_cases h4 : PrI p
        · have h5 : ¬ PrI q := fun h5 => h ⟨h1, h2, h3, h4, h5⟩
          have HP := Lib.hid (fun W => isOddPrime_any p true ⟨fun _ => h4, fun _ => rfl⟩ (by omega) W)
          have HQ := Lib.hid (fun W => isOddPrime_any q false ⟨fun e => (by cases e), fun e => absurd e h5⟩ (by omega) W)
          clear h h3 h4 h5
          go_enter Try.func47, Try.ntmps47
          go_wp2_with fail
          refine (HP.out _).mono ?_
          rintro e w1 ⟨rfl, rfl⟩
          go_wp2_with fail
          refine (HQ.out _).mono ?_
          rintro e w1 ⟨rfl, rfl⟩
          go_wp2
          go_ret2
          exact ⟨rfl, rfl⟩
        · have HP := Lib.hid (fun W => isOddPrime_any p false ⟨fun e => (by cases e), fun e => absurd e h4⟩ (by omega) W)
          clear h h3 h4
          go_enter Try.func47, Try.ntmps47
          go_wp2_with (first | (go_at_call 61; refine (HP.out _).mono ?_; rintro e w' ⟨rfl, rfl⟩))
          go_ret2
          exact ⟨rfl, rfl⟩
    · clear h
      go_enter Try.func47, Try.ntmps47
      go_wp2
      go_ret2
      exact ⟨rfl, rfl⟩
  · clear h
    go_enter Try.func47, Try.ntmps47
    go_wp2
    go_ret2
    exact ⟨rfl, rfl⟩

set_option maxRecDepth 100000 in
set_option maxHeartbeats 1000000 in
theorem Root_hit (a p r : Nat) (hp : PrI (p : Int)) (hp2 : p ≤ 10000) (ha : a < p) (hr : r < p) (hP : r * r % p = a) (hF : ∀ j, j < r → j * j % p ≠ a) (w : World) :
    Calls Try.prog 51 #[.int .i64 (a : Int), .int .i64 (p : Int)] w fun e w' => e = .returned (.tuple #[.int .i64 (r : Int), .int .i64 0]) ∧ w' = w := by
  have HP := Lib.hid (fun W => isOddPrime_any p true ⟨fun _ => hp, fun _ => rfl⟩ (by omega) W)
  have HT := Lib.hid (fun W => root_hit a p r hp2 ha hr hP hF W)
  clear hp hP hF
  go_enter Try.func51, Try.ntmps51
  go_wp2_with (first | (go_at_call 61; refine (HP.out _).mono ?_; rintro e w' ⟨rfl, rfl⟩) | (go_at_call 80; refine (HT.out _).mono ?_; rintro e w' ⟨rfl, rfl⟩))
  go_ret2
  exact ⟨rfl, rfl⟩
set_option maxRecDepth 100000 in
set_option maxHeartbeats 1000000 in
theorem Root_miss (a p : Nat) (hp : PrI (p : Int)) (hp2 : p ≤ 10000) (ha : a < p) (hF : ∀ j, j < p → j * j % p ≠ a) (w : World) :
    Calls Try.prog 51 #[.int .i64 (a : Int), .int .i64 (p : Int)] w fun e w' => e = .returned (.tuple #[.int .i64 0, .int .i64 4]) ∧ w' = w := by
  have HP := Lib.hid (fun W => isOddPrime_any p true ⟨fun _ => hp, fun _ => rfl⟩ (by omega) W)
  have HT := Lib.hid (fun W => root_miss a p hp2 ha hF W)
  clear hp hF
  go_enter Try.func51, Try.ntmps51
  go_wp2_with (first | (go_at_call 61; refine (HP.out _).mono ?_; rintro e w' ⟨rfl, rfl⟩) | (go_at_call 80; refine (HT.out _).mono ?_; rintro e w' ⟨rfl, rfl⟩))
  go_ret2
  exact ⟨rfl, rfl⟩
set_option maxRecDepth 100000 in
set_option maxHeartbeats 1000000 in
theorem Root_no (a p : Int) (h : ¬ (PrI p ∧ p ≤ 10000 ∧ 0 ≤ a ∧ a < p)) (w : World) :
    Calls Try.prog 51 #[.int .i64 a, .int .i64 p] w fun e w' => e = .returned (.tuple #[.int .i64 0, .int .i64 2]) ∧ w' = w := by
  by_cases h1 : p ≤ 10000
  · by_cases h2 : PrI p
    · have HP := Lib.hid (fun W => isOddPrime_any p true ⟨fun _ => h2, fun _ => rfl⟩ (by omega) W)
      by_cases h3 : 0 ≤ a
      · have h4 : ¬ a < p := fun h4 => h ⟨h2, h1, h3, h4⟩
        clear h h2
        go_enter Try.func51, Try.ntmps51
        go_wp2_with (first | (go_at_call 61; refine (HP.out _).mono ?_; rintro e w' ⟨rfl, rfl⟩))
        go_ret2
        exact ⟨rfl, rfl⟩
      · clear h h2
        go_enter Try.func51, Try.ntmps51
        go_wp2_with (first | (go_at_call 61; refine (HP.out _).mono ?_; rintro e w' ⟨rfl, rfl⟩))
        go_ret2
        exact ⟨rfl, rfl⟩
    · have HP := Lib.hid (fun W => isOddPrime_any p false ⟨fun e => (by cases e), fun e => absurd e h2⟩ (by omega) W)
      clear h h2
      go_enter Try.func51, Try.ntmps51
      go_wp2_with (first | (go_at_call 61; refine (HP.out _).mono ?_; rintro e w' ⟨rfl, rfl⟩))
      go_ret2
      exact ⟨rfl, rfl⟩
  · clear h
    go_enter Try.func51, Try.ntmps51
    go_wp2
    go_ret2
    exact ⟨rfl, rfl⟩

set_option maxRecDepth 100000 in
set_option maxHeartbeats 1000000 in
theorem Least_yes (p r : Nat) (hq : PrI (p : Int)) (hp : p ≤ 10000) (h2 : 2 ≤ r) (hr : r ≤ p) (hP : Jv (r : Int) p ≠ 1) (hF : ∀ j : Nat, 2 ≤ j → j < r → Jv (j : Int) p = 1) (w : World) :
    Calls Try.prog 52 #[.int .i64 (p : Int)] w fun e w' => e = .returned (.tuple #[.int .i64 (r : Int), .int .i64 0]) ∧ Below w.heap.size w w' := by
  have HP := Lib.hid (fun W => isOddPrime_any p true ⟨fun _ => hq, fun _ => rfl⟩ (by omega) W)
  have ho := hq.odd
  have h3 := hq.1
  have HT := Lib.hid (fun W => least_any p r hp (by omega) (by omega) h2 hr hP hF W)
  clear hq hP hF h3 ho
  go_enter Try.func52, Try.ntmps52
  go_wp2_with (go_at_call 61; refine (HP.out _).mono ?_; rintro e w' ⟨rfl, rfl⟩)
  refine (HT.out _).mono ?_
  rintro e w1 ⟨rfl, hb1⟩
  have H1 := Lib.hid hb1
  clear hb1
  go_wp2
  go_ret2
  exact ⟨rfl, H1.out⟩
set_option maxRecDepth 100000 in
set_option maxHeartbeats 1000000 in
theorem Least_no (p : Int) (h : ¬ (PrI p ∧ p ≤ 10000)) (w : World) :
    Calls Try.prog 52 #[.int .i64 p] w fun e w' => e = .returned (.tuple #[.int .i64 0, .int .i64 2]) ∧ w' = w := by
  by_cases h1 : p ≤ 10000
  · have HP := Lib.hid (fun W => isOddPrime_any p false ⟨fun e => (by cases e), fun e => absurd ⟨e, h1⟩ h⟩ (by omega) W)
    clear h
    go_enter Try.func52, Try.ntmps52
    go_wp2_with (go_at_call 61; refine (HP.out _).mono ?_; rintro e w' ⟨rfl, rfl⟩)
    go_ret2
    exact ⟨rfl, rfl⟩
  · clear h
    go_enter Try.func52, Try.ntmps52
    go_wp2
    go_ret2
    exact ⟨rfl, rfl⟩
end Go.Proofs.Ytopfcppmbkidgaa
