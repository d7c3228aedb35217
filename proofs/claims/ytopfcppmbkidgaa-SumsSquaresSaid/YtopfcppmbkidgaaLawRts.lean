/- The law SumsRoots: it returns true, whatever its arguments are. -/
import Derived.Test.YtopfcppmbkidgaaExp
namespace Go.Proofs.Ytopfcppmbkidgaa
open Go.RowKit
attribute [local go_sem] Oper.semAt_some

/-- the least of those that there are. -/
theorem least_ex {P : Nat → Prop} : ∀ n, P n → ∃ m, m ≤ n ∧ P m ∧ ∀ j, j < m → ¬ P j := fun n => by
  induction n using Nat.strongRecOn with
  | ind n ih =>
    intro h
    by_cases hh : ∃ j, j < n ∧ P j
    · obtain ⟨j, h1, h2⟩ := hh
      obtain ⟨m, m1, m2, m3⟩ := ih j h1 h2
      exact ⟨m, by omega, m2, m3⟩
    · exact ⟨n, Nat.le_refl _, h, fun j hj hp => hh ⟨j, hj, hp⟩⟩
theorem first_root {p a : Nat} (h : ∃ z, z < p ∧ z * z % p = a) : ∃ z, z < p ∧ z * z % p = a ∧ ∀ y, y < z → y * y % p ≠ a := by
  obtain ⟨z, z1, z2⟩ := h
  obtain ⟨m, m1, m2, m3⟩ := least_ex (P := fun z => z * z % p = a) z z2
  exact ⟨m, by omega, m2, m3⟩
/-- The least number without a root. -/
theorem Prm.least {p : Nat} (h : Prm p) : ∃ r, 2 ≤ r ∧ r < p ∧ (∀ z, z < p → z * z % p ≠ r) ∧ (∀ j, 2 ≤ j → j < r → ∃ z, z < p ∧ z * z % p = j ∧ ∀ y, y < z → y * y % p ≠ j) ∧ Jv (r : Int) p = -1 ∧ ∀ j : Nat, 2 ≤ j → j < r → Jv (j : Int) p = 1 := by
  obtain ⟨y, y1, y2, y3⟩ := h.none
  obtain ⟨m, m1, m2, m3⟩ := least_ex (P := fun y => 2 ≤ y ∧ ∀ z, z < p → z * z % p ≠ y) y ⟨y1, y3⟩
  have hr : ∀ j, 2 ≤ j → j < m → ∃ z, z < p ∧ z * z % p = j := fun j h1 h2 => Classical.byContradiction fun hn => m3 j h2 ⟨h1, fun z hz e => hn ⟨z, hz, e⟩⟩
  refine ⟨m, m2.1, by omega, m2.2, fun j h1 h2 => first_root (hr j h1 h2), ?_, fun j h1 h2 => ((h.symbol (by omega : j < p)).2 (by omega)).2 (hr j h1 h2)⟩
  obtain ⟨s1, s2⟩ := h.symbol (by omega : m < p)
  rcases Jv_cases (m : Int) p with e | e | e
  · have := s1.1 e; omega
  · obtain ⟨z, z1, z2⟩ := (s2 (by omega)).1 e
    exact absurd z2 (m2.2 z z1)
  · exact e

set_option maxRecDepth 100000 in
set_option maxHeartbeats 2000000 in
theorem roots_no (a p : Int) (h : ¬ (PrI p ∧ p ≤ 10000)) (w : World) : Calls Try.prog 8 #[.int .i64 a, .int .i64 p] w fun e w' => e = .returned (.bool true) ∧ Below w.heap.size w w' := by
  have HR := Lib.hid (fun W => Root_no a p (fun k => h ⟨k.1, k.2.1⟩) W)
  have HL := Lib.hid (fun W => Least_no p h W)
  have HP := Lib.hid (fun W => prime_any p false ⟨fun e => (by cases e), fun e => absurd e h⟩ W)
  have HA := Lib.hid (fun W => awake_any W)
  clear h
  go_enter Try.func8, Try.ntmps8
  go_wp2_with fail
  refine (HR.out _).mono ?_
  rintro e w1 ⟨rfl, rfl⟩
  go_wp2_with fail
  refine (HL.out _).mono ?_
  rintro e w1 ⟨rfl, rfl⟩
  go_wp2_with fail
  refine (HP.out _).mono ?_
  rintro e w1 ⟨rfl, rfl⟩
  go_wp2_with fail
  refine (HA.out _).mono ?_
  rintro e w1 ⟨rfl, hb⟩
  have HB := Lib.hid hb
  clear hb
  go_wp2
  go_ret
  exact ⟨rfl, HB.out⟩

set_option maxRecDepth 100000 in
set_option maxHeartbeats 2000000 in
theorem roots_out (a : Int) (p : Nat) (hq : PrI (p : Int)) (hp : p ≤ 10000) (h : ¬ (0 ≤ a ∧ a < p)) (w : World) : Calls Try.prog 8 #[.int .i64 a, .int .i64 (p : Int)] w fun e w' => e = .returned (.bool true) ∧ Below w.heap.size w w' := by
  obtain ⟨r, r1, r2, r3, r4, r5, r6⟩ := (PrI.nat.1 hq).least
  have HR := Lib.hid (fun W => Root_no a p (fun k => h k.2.2) W)
  have HL := Lib.hid (fun W => Least_yes p r hq hp r1 (by omega) (by rw [r5]; decide) r6 W)
  have HP := Lib.hid (fun W => prime_any p true ⟨fun _ => ⟨hq, by omega⟩, fun _ => rfl⟩ W)
  have HLR := Lib.hid (fun W => leastR_any p r hp r1 r2 r3 r4 W)
  have HA := Lib.hid (fun W => awake_any W)
  clear hq r1 r2 r3 r4 r5 r6
  by_cases h0 : 0 ≤ a
  · have h1 : (p : Int) ≤ a := by omega
    clear h
    go_enter Try.func8, Try.ntmps8
    go_wp2_with fail
    refine (HR.out _).mono ?_
    rintro e w1 ⟨rfl, rfl⟩
    go_wp2_with fail
    refine (HL.out _).mono ?_
    rintro e w2 ⟨rfl, hb⟩
    have HB := Lib.hid hb
    clear hb
    go_wp2_with fail
    refine (HP.out _).mono ?_
    rintro e w3 ⟨rfl, rfl⟩
    go_wp2_with fail
    refine (HLR.out _).mono ?_
    rintro e w3 ⟨rfl, rfl⟩
    go_wp2_with fail
    refine (HA.out _).mono ?_
    rintro e w4 ⟨rfl, hb⟩
    have HB2 := Lib.hid (HB.out.trans (hb.mono HB.out.size))
    clear hb
    go_wp2
    go_ret
    exact ⟨rfl, HB2.out⟩
  · clear h
    go_enter Try.func8, Try.ntmps8
    go_wp2_with fail
    refine (HR.out _).mono ?_
    rintro e w1 ⟨rfl, rfl⟩
    go_wp2_with fail
    refine (HL.out _).mono ?_
    rintro e w2 ⟨rfl, hb⟩
    have HB := Lib.hid hb
    clear hb
    go_wp2_with fail
    refine (HP.out _).mono ?_
    rintro e w3 ⟨rfl, rfl⟩
    go_wp2_with fail
    refine (HLR.out _).mono ?_
    rintro e w3 ⟨rfl, rfl⟩
    go_wp2_with fail
    refine (HA.out _).mono ?_
    rintro e w4 ⟨rfl, hb⟩
    have HB2 := Lib.hid (HB.out.trans (hb.mono HB.out.size))
    clear hb
    go_wp2
    go_ret
    exact ⟨rfl, HB2.out⟩

set_option maxRecDepth 100000 in
set_option maxHeartbeats 2000000 in
theorem roots_in (a p : Nat) (hq : PrI (p : Int)) (hp : p ≤ 10000) (h : a < p) (x e : Int) (HR : RowKit.Hid (∀ W, Calls Try.prog 51 #[.int .i64 (a : Int), .int .i64 (p : Int)] W fun e1 w' => e1 = .returned (.tuple #[.int .i64 x, .int .i64 e]) ∧ w' = W))
    (HRR : RowKit.Hid (∀ W, Calls Try.prog 54 #[.int .i64 (a : Int), .int .i64 (p : Int)] W fun e1 w' => e1 = .returned (.tuple #[.int .i64 x, .int .i64 e]) ∧ w' = W)) (w : World) :
    Calls Try.prog 8 #[.int .i64 (a : Int), .int .i64 (p : Int)] w fun e w' => e = .returned (.bool true) ∧ Below w.heap.size w w' := by
  obtain ⟨r, r1, r2, r3, r4, r5, r6⟩ := (PrI.nat.1 hq).least
  have HL := Lib.hid (fun W => Least_yes p r hq hp r1 (by omega) (by rw [r5]; decide) r6 W)
  have HP := Lib.hid (fun W => prime_any p true ⟨fun _ => ⟨hq, by omega⟩, fun _ => rfl⟩ W)
  have HLR := Lib.hid (fun W => leastR_any p r hp r1 r2 r3 r4 W)
  have HA := Lib.hid (fun W => awake_any W)
  have h0 : 0 ≤ (a : Int) := by omega
  have h1 : (a : Int) < p := by omega
  clear hq r1 r2 r3 r4 r5 r6
  go_enter Try.func8, Try.ntmps8
  go_wp2_with fail
  refine (HR.out _).mono ?_
  rintro e w1 ⟨rfl, rfl⟩
  go_wp2_with fail
  refine (HL.out _).mono ?_
  rintro e w2 ⟨rfl, hb⟩
  have HB := Lib.hid hb
  clear hb
  go_wp2_with fail
  refine (HP.out _).mono ?_
  rintro e w3 ⟨rfl, rfl⟩
  go_wp2_with fail
  refine (HLR.out _).mono ?_
  rintro e w3 ⟨rfl, rfl⟩
  go_wp2_with fail
  refine (HA.out _).mono ?_
  rintro e w4 ⟨rfl, hb⟩
  have HB2 := Lib.hid (HB.out.trans (hb.mono HB.out.size))
  clear hb
  go_wp2_with fail
  refine (HRR.out _).mono ?_
  rintro e w5 ⟨rfl, rfl⟩
  go_wp2
  go_ret
  exact ⟨rfl, HB2.out⟩

theorem roots_any (a p : Int) (w : World) : Calls Try.prog 8 #[.int .i64 a, .int .i64 p] w fun e w' => e = .returned (.bool true) ∧ Below w.heap.size w w' := by
  by_cases h : PrI p ∧ p ≤ 10000
  · obtain ⟨x, rfl⟩ := Int.eq_ofNat_of_zero_le (show 0 ≤ p by have := h.1.1; omega)
    by_cases h2 : 0 ≤ a ∧ a < x
    · obtain ⟨y, rfl⟩ := Int.eq_ofNat_of_zero_le h2.1
      have hy : y < x := by omega
      have hx : x ≤ 10000 := by omega
      by_cases h3 : ∃ z, z < x ∧ z * z % x = y
      · obtain ⟨z, z1, z2, z3⟩ := first_root h3
        exact roots_in y x h.1 hx hy _ _ (Lib.hid (fun W => Root_hit y x z h.1 hx hy z1 z2 z3 W)) (Lib.hid (fun W => rootR_hit y x z hx hy z1 z2 z3 W)) w
      · have hn : ∀ z, z < x → z * z % x ≠ y := fun z hz e => h3 ⟨z, hz, e⟩
        exact roots_in y x h.1 hx hy _ _ (Lib.hid (fun W => Root_miss y x h.1 hx hy hn W)) (Lib.hid (fun W => rootR_miss y x hx hy hn W)) w
    · exact roots_out a x h.1 (by omega) h2 w
  · exact roots_no a p h w
end Go.Proofs.Ytopfcppmbkidgaa
