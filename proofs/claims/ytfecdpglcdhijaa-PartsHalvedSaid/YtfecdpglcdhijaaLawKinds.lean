/- The law PartsKinds: its walk in every case. No condition. -/
import Derived.Test.YtfecdpglcdhijaaKindW0
import Derived.Test.YtfecdpglcdhijaaKindW1
import Derived.Test.YtfecdpglcdhijaaKindW2
import Derived.Test.YtfecdpglcdhijaaKindW3
import Derived.Test.YtfecdpglcdhijaaKindW4
import Derived.Test.YtfecdpglcdhijaaKindW5
import Derived.Test.YtfecdpglcdhijaaKindR
import Derived.Test.YtfecdpglcdhijaaKindQ
import Derived.Test.YtfecdpglcdhijaaAwake
namespace Go.Proofs.Ytfecdpglcdhijaa
open Go.RowKit
attribute [local go_sem] Oper.semAt_some

set_option maxHeartbeats 1000000 in
theorem Pentagonal_no (n : Int) (hn : n < 0 ∨ 100 < n) (w : World) :
    Calls Try.prog 43 #[.int .i64 n] w fun e w' => e = .returned (.tuple #[.int .i64 0, .int .i64 2]) ∧ w' = w := by
  by_cases h : n < 0
  · clear hn
    go_enter Try.func43, Try.ntmps43
    go_wp2
    go_ret2
    exact ⟨rfl, rfl⟩
  · have h2 : 100 < n := by omega
    clear hn
    go_enter Try.func43, Try.ntmps43
    go_wp2
    go_ret2
    exact ⟨rfl, rfl⟩

set_option maxHeartbeats 1000000 in
theorem Kinds_no (n k : Int) (hn : n < 0 ∨ 100 < n) (w : World) :
    Calls Try.prog 42 #[.int .i64 n, .int .i64 k] w fun e w' => e = .returned (.tuple #[.int .i64 0, .int .i64 2]) ∧ w' = w := by
  by_cases h : n < 0
  · clear hn
    go_enter Try.func42, Try.ntmps42
    go_wp2
    go_ret2
    exact ⟨rfl, rfl⟩
  · have h2 : 100 < n := by omega
    clear hn
    go_enter Try.func42, Try.ntmps42
    go_wp2
    go_ret2
    exact ⟨rfl, rfl⟩

set_option maxHeartbeats 1000000 in
theorem Kinds_bad (n k : Int) (hn0 : 0 ≤ n) (hn : n ≤ 100) (hk : k < 0 ∨ 5 < k) (w : World) :
    Calls Try.prog 42 #[.int .i64 n, .int .i64 k] w fun e w' => e = .returned (.tuple #[.int .i64 0, .int .i64 2]) ∧ w' = w := by
  have g1 : ¬ n < 0 := by omega
  have g2 : ¬ 100 < n := by omega
  have e0 : ¬ k = 0 := by omega
  have e1 : ¬ k = 1 := by omega
  have e2 : ¬ k = 2 := by omega
  have e3 : ¬ k = 3 := by omega
  have e4 : ¬ k = 4 := by omega
  have e5 : ¬ k = 5 := by omega
  clear hk
  go_enter Try.func42, Try.ntmps42
  go_wp2
  go_ret2
  exact ⟨rfl, rfl⟩

set_option maxHeartbeats 1000000 in
theorem Kinds_yes0 (n : Nat) (hn : n ≤ 100) (w : World) :
    Calls Try.prog 42 #[.int .i64 (n : Int), .int .i64 0] w fun e w' => e = .returned (.tuple #[.int .i64 (k1F (alF 0) n n), .int .i64 0]) ∧ Below w.heap.size w w' := by
  have hE := ways0 n hn w
  obtain ⟨X, hX⟩ : ∃ X, k1F (alF 0) n n = X := ⟨_, rfl⟩
  rw [hX] at hE ⊢
  have HE := Lib.hid hE
  have g1 : ¬ (n : Int) < 0 := by omega
  have g2 : ¬ (100 : Int) < (n : Int) := by omega
  clear hE hX
  go_enter Try.func42, Try.ntmps42
  go_wp2_with (go_at_call 57; refine HE.out.mono ?_; rintro e w1 ⟨rfl, hb⟩; have HB := Lib.hid hb; clear hb)
  go_ret2
  exact ⟨rfl, HB.out⟩

set_option maxHeartbeats 2000000 in
theorem lawKinds0 (n : Nat) (hn : n ≤ 100) (w : World) :
    Calls Try.prog 7 #[.int .i64 (n : Int), .int .i64 0] w fun e w' => e = .returned (.bool true) ∧ Below w.heap.size w w' := by
  have H1 := Lib.hid (fun W => Kinds_yes0 n hn W)
  have H2 := Lib.hid (fun W => Pentagonal_yes n hn W)
  have H3 := Lib.hid (fun W => refPent_any n hn W)
  have H4 := Lib.hid (fun W => refKinds0 n hn W)
  have g1 : ¬ (n : Int) < 0 := by omega
  have g2 : ¬ (100 : Int) < (n : Int) := by omega
  obtain ⟨X, hX⟩ : ∃ X, k1F (alF 0) n n = X := ⟨_, rfl⟩
  obtain ⟨Y, hY⟩ : ∃ Y, penF n n = Y := ⟨_, rfl⟩
  rw [hX] at H1 H4
  rw [hY] at H2 H3
  clear hX hY
  go_enter Try.func7, Try.ntmps7
  go_wp2_with fail
  refine (H1.out _).mono ?_
  rintro e w1 ⟨rfl, hb1⟩
  have B1 := Lib.hid hb1
  clear hb1
  go_wp2_with fail
  refine (H2.out _).mono ?_
  rintro e w2 ⟨rfl, hb2⟩
  have B2 := Lib.hid (B1.out.trans (hb2.mono B1.out.size))
  clear hb2 B1
  go_wp2_with fail
  refine (H3.out _).mono ?_
  rintro e w3 ⟨rfl, hb3⟩
  have B3 := Lib.hid (B2.out.trans (hb3.mono B2.out.size))
  clear hb3 B2
  go_wp2_with fail
  refine (awake_any _).mono ?_
  rintro e w4 ⟨rfl, hb4⟩
  have B4 := Lib.hid (B3.out.trans (hb4.mono B3.out.size))
  clear hb4 B3
  go_wp2_with fail
  refine (H4.out _).mono ?_
  rintro e w5 ⟨rfl, hb5⟩
  have B5 := Lib.hid (B4.out.trans (hb5.mono B4.out.size))
  clear hb5 B4
  go_wp2_with fail
  go_ret
  exact ⟨rfl, B5.out⟩

set_option maxHeartbeats 1000000 in
theorem Kinds_yes1 (n : Nat) (hn : n ≤ 100) (w : World) :
    Calls Try.prog 42 #[.int .i64 (n : Int), .int .i64 1] w fun e w' => e = .returned (.tuple #[.int .i64 (k0F (alF 1) n n), .int .i64 0]) ∧ Below w.heap.size w w' := by
  have hE := ways1 n hn w
  obtain ⟨X, hX⟩ : ∃ X, k0F (alF 1) n n = X := ⟨_, rfl⟩
  rw [hX] at hE ⊢
  have HE := Lib.hid hE
  have g1 : ¬ (n : Int) < 0 := by omega
  have g2 : ¬ (100 : Int) < (n : Int) := by omega
  clear hE hX
  go_enter Try.func42, Try.ntmps42
  go_wp2_with (go_at_call 57; refine HE.out.mono ?_; rintro e w1 ⟨rfl, hb⟩; have HB := Lib.hid hb; clear hb)
  go_ret2
  exact ⟨rfl, HB.out⟩

set_option maxHeartbeats 2000000 in
theorem lawKinds1 (n : Nat) (hn : n ≤ 100) (w : World) :
    Calls Try.prog 7 #[.int .i64 (n : Int), .int .i64 1] w fun e w' => e = .returned (.bool true) ∧ Below w.heap.size w w' := by
  have H1 := Lib.hid (fun W => Kinds_yes1 n hn W)
  have H2 := Lib.hid (fun W => Pentagonal_yes n hn W)
  have H3 := Lib.hid (fun W => refPent_any n hn W)
  have H4 := Lib.hid (fun W => refKinds1 n hn W)
  have g1 : ¬ (n : Int) < 0 := by omega
  have g2 : ¬ (100 : Int) < (n : Int) := by omega
  obtain ⟨X, hX⟩ : ∃ X, k0F (alF 1) n n = X := ⟨_, rfl⟩
  obtain ⟨Y, hY⟩ : ∃ Y, penF n n = Y := ⟨_, rfl⟩
  rw [hX] at H1 H4
  rw [hY] at H2 H3
  clear hX hY
  go_enter Try.func7, Try.ntmps7
  go_wp2_with fail
  refine (H1.out _).mono ?_
  rintro e w1 ⟨rfl, hb1⟩
  have B1 := Lib.hid hb1
  clear hb1
  go_wp2_with fail
  refine (H2.out _).mono ?_
  rintro e w2 ⟨rfl, hb2⟩
  have B2 := Lib.hid (B1.out.trans (hb2.mono B1.out.size))
  clear hb2 B1
  go_wp2_with fail
  refine (H3.out _).mono ?_
  rintro e w3 ⟨rfl, hb3⟩
  have B3 := Lib.hid (B2.out.trans (hb3.mono B2.out.size))
  clear hb3 B2
  go_wp2_with fail
  refine (awake_any _).mono ?_
  rintro e w4 ⟨rfl, hb4⟩
  have B4 := Lib.hid (B3.out.trans (hb4.mono B3.out.size))
  clear hb4 B3
  go_wp2_with fail
  refine (H4.out _).mono ?_
  rintro e w5 ⟨rfl, hb5⟩
  have B5 := Lib.hid (B4.out.trans (hb5.mono B4.out.size))
  clear hb5 B4
  go_wp2_with fail
  go_ret
  exact ⟨rfl, B5.out⟩

set_option maxHeartbeats 1000000 in
theorem Kinds_yes2 (n : Nat) (hn : n ≤ 100) (w : World) :
    Calls Try.prog 42 #[.int .i64 (n : Int), .int .i64 2] w fun e w' => e = .returned (.tuple #[.int .i64 (k2F (alF 2) n n), .int .i64 0]) ∧ Below w.heap.size w w' := by
  have hE := ways2 n hn w
  obtain ⟨X, hX⟩ : ∃ X, k2F (alF 2) n n = X := ⟨_, rfl⟩
  rw [hX] at hE ⊢
  have HE := Lib.hid hE
  have g1 : ¬ (n : Int) < 0 := by omega
  have g2 : ¬ (100 : Int) < (n : Int) := by omega
  clear hE hX
  go_enter Try.func42, Try.ntmps42
  go_wp2_with (go_at_call 57; refine HE.out.mono ?_; rintro e w1 ⟨rfl, hb⟩; have HB := Lib.hid hb; clear hb)
  go_ret2
  exact ⟨rfl, HB.out⟩

set_option maxHeartbeats 2000000 in
theorem lawKinds2 (n : Nat) (hn : n ≤ 100) (w : World) :
    Calls Try.prog 7 #[.int .i64 (n : Int), .int .i64 2] w fun e w' => e = .returned (.bool true) ∧ Below w.heap.size w w' := by
  have H1 := Lib.hid (fun W => Kinds_yes2 n hn W)
  have H2 := Lib.hid (fun W => Pentagonal_yes n hn W)
  have H3 := Lib.hid (fun W => refPent_any n hn W)
  have H4 := Lib.hid (fun W => refKinds2 n hn W)
  have g1 : ¬ (n : Int) < 0 := by omega
  have g2 : ¬ (100 : Int) < (n : Int) := by omega
  obtain ⟨X, hX⟩ : ∃ X, k2F (alF 2) n n = X := ⟨_, rfl⟩
  obtain ⟨Y, hY⟩ : ∃ Y, penF n n = Y := ⟨_, rfl⟩
  rw [hX] at H1 H4
  rw [hY] at H2 H3
  clear hX hY
  go_enter Try.func7, Try.ntmps7
  go_wp2_with fail
  refine (H1.out _).mono ?_
  rintro e w1 ⟨rfl, hb1⟩
  have B1 := Lib.hid hb1
  clear hb1
  go_wp2_with fail
  refine (H2.out _).mono ?_
  rintro e w2 ⟨rfl, hb2⟩
  have B2 := Lib.hid (B1.out.trans (hb2.mono B1.out.size))
  clear hb2 B1
  go_wp2_with fail
  refine (H3.out _).mono ?_
  rintro e w3 ⟨rfl, hb3⟩
  have B3 := Lib.hid (B2.out.trans (hb3.mono B2.out.size))
  clear hb3 B2
  go_wp2_with fail
  refine (awake_any _).mono ?_
  rintro e w4 ⟨rfl, hb4⟩
  have B4 := Lib.hid (B3.out.trans (hb4.mono B3.out.size))
  clear hb4 B3
  go_wp2_with fail
  refine (H4.out _).mono ?_
  rintro e w5 ⟨rfl, hb5⟩
  have B5 := Lib.hid (B4.out.trans (hb5.mono B4.out.size))
  clear hb5 B4
  go_wp2_with fail
  go_ret
  exact ⟨rfl, B5.out⟩

set_option maxHeartbeats 1000000 in
theorem Kinds_yes3 (n : Nat) (hn : n ≤ 100) (w : World) :
    Calls Try.prog 42 #[.int .i64 (n : Int), .int .i64 3] w fun e w' => e = .returned (.tuple #[.int .i64 (k0F (alF 3) n n), .int .i64 0]) ∧ Below w.heap.size w w' := by
  have hE := ways3 n hn w
  obtain ⟨X, hX⟩ : ∃ X, k0F (alF 3) n n = X := ⟨_, rfl⟩
  rw [hX] at hE ⊢
  have HE := Lib.hid hE
  have g1 : ¬ (n : Int) < 0 := by omega
  have g2 : ¬ (100 : Int) < (n : Int) := by omega
  clear hE hX
  go_enter Try.func42, Try.ntmps42
  go_wp2_with (go_at_call 57; refine HE.out.mono ?_; rintro e w1 ⟨rfl, hb⟩; have HB := Lib.hid hb; clear hb)
  go_ret2
  exact ⟨rfl, HB.out⟩

set_option maxHeartbeats 2000000 in
theorem lawKinds3 (n : Nat) (hn : n ≤ 100) (w : World) :
    Calls Try.prog 7 #[.int .i64 (n : Int), .int .i64 3] w fun e w' => e = .returned (.bool true) ∧ Below w.heap.size w w' := by
  have H1 := Lib.hid (fun W => Kinds_yes3 n hn W)
  have H2 := Lib.hid (fun W => Pentagonal_yes n hn W)
  have H3 := Lib.hid (fun W => refPent_any n hn W)
  have H4 := Lib.hid (fun W => refKinds3 n hn W)
  have g1 : ¬ (n : Int) < 0 := by omega
  have g2 : ¬ (100 : Int) < (n : Int) := by omega
  obtain ⟨X, hX⟩ : ∃ X, k0F (alF 3) n n = X := ⟨_, rfl⟩
  obtain ⟨Y, hY⟩ : ∃ Y, penF n n = Y := ⟨_, rfl⟩
  rw [hX] at H1 H4
  rw [hY] at H2 H3
  clear hX hY
  go_enter Try.func7, Try.ntmps7
  go_wp2_with fail
  refine (H1.out _).mono ?_
  rintro e w1 ⟨rfl, hb1⟩
  have B1 := Lib.hid hb1
  clear hb1
  go_wp2_with fail
  refine (H2.out _).mono ?_
  rintro e w2 ⟨rfl, hb2⟩
  have B2 := Lib.hid (B1.out.trans (hb2.mono B1.out.size))
  clear hb2 B1
  go_wp2_with fail
  refine (H3.out _).mono ?_
  rintro e w3 ⟨rfl, hb3⟩
  have B3 := Lib.hid (B2.out.trans (hb3.mono B2.out.size))
  clear hb3 B2
  go_wp2_with fail
  refine (awake_any _).mono ?_
  rintro e w4 ⟨rfl, hb4⟩
  have B4 := Lib.hid (B3.out.trans (hb4.mono B3.out.size))
  clear hb4 B3
  go_wp2_with fail
  refine (H4.out _).mono ?_
  rintro e w5 ⟨rfl, hb5⟩
  have B5 := Lib.hid (B4.out.trans (hb5.mono B4.out.size))
  clear hb5 B4
  go_wp2_with fail
  go_ret
  exact ⟨rfl, B5.out⟩

set_option maxHeartbeats 1000000 in
theorem Kinds_yes4 (n : Nat) (hn : n ≤ 100) (w : World) :
    Calls Try.prog 42 #[.int .i64 (n : Int), .int .i64 4] w fun e w' => e = .returned (.tuple #[.int .i64 (k2F (alF 4) n n), .int .i64 0]) ∧ Below w.heap.size w w' := by
  have hE := ways4 n hn w
  obtain ⟨X, hX⟩ : ∃ X, k2F (alF 4) n n = X := ⟨_, rfl⟩
  rw [hX] at hE ⊢
  have HE := Lib.hid hE
  have g1 : ¬ (n : Int) < 0 := by omega
  have g2 : ¬ (100 : Int) < (n : Int) := by omega
  clear hE hX
  go_enter Try.func42, Try.ntmps42
  go_wp2_with (go_at_call 57; refine HE.out.mono ?_; rintro e w1 ⟨rfl, hb⟩; have HB := Lib.hid hb; clear hb)
  go_ret2
  exact ⟨rfl, HB.out⟩

set_option maxHeartbeats 2000000 in
theorem lawKinds4 (n : Nat) (hn : n ≤ 100) (w : World) :
    Calls Try.prog 7 #[.int .i64 (n : Int), .int .i64 4] w fun e w' => e = .returned (.bool true) ∧ Below w.heap.size w w' := by
  have H1 := Lib.hid (fun W => Kinds_yes4 n hn W)
  have H2 := Lib.hid (fun W => Pentagonal_yes n hn W)
  have H3 := Lib.hid (fun W => refPent_any n hn W)
  have H4 := Lib.hid (fun W => refKinds4 n hn W)
  have g1 : ¬ (n : Int) < 0 := by omega
  have g2 : ¬ (100 : Int) < (n : Int) := by omega
  obtain ⟨X, hX⟩ : ∃ X, k2F (alF 4) n n = X := ⟨_, rfl⟩
  obtain ⟨Y, hY⟩ : ∃ Y, penF n n = Y := ⟨_, rfl⟩
  rw [hX] at H1 H4
  rw [hY] at H2 H3
  clear hX hY
  go_enter Try.func7, Try.ntmps7
  go_wp2_with fail
  refine (H1.out _).mono ?_
  rintro e w1 ⟨rfl, hb1⟩
  have B1 := Lib.hid hb1
  clear hb1
  go_wp2_with fail
  refine (H2.out _).mono ?_
  rintro e w2 ⟨rfl, hb2⟩
  have B2 := Lib.hid (B1.out.trans (hb2.mono B1.out.size))
  clear hb2 B1
  go_wp2_with fail
  refine (H3.out _).mono ?_
  rintro e w3 ⟨rfl, hb3⟩
  have B3 := Lib.hid (B2.out.trans (hb3.mono B2.out.size))
  clear hb3 B2
  go_wp2_with fail
  refine (awake_any _).mono ?_
  rintro e w4 ⟨rfl, hb4⟩
  have B4 := Lib.hid (B3.out.trans (hb4.mono B3.out.size))
  clear hb4 B3
  go_wp2_with fail
  refine (H4.out _).mono ?_
  rintro e w5 ⟨rfl, hb5⟩
  have B5 := Lib.hid (B4.out.trans (hb5.mono B4.out.size))
  clear hb5 B4
  go_wp2_with fail
  go_ret
  exact ⟨rfl, B5.out⟩

set_option maxHeartbeats 1000000 in
theorem Kinds_yes5 (n : Nat) (hn : n ≤ 100) (w : World) :
    Calls Try.prog 42 #[.int .i64 (n : Int), .int .i64 5] w fun e w' => e = .returned (.tuple #[.int .i64 (k0F (alF 5) n n), .int .i64 0]) ∧ Below w.heap.size w w' := by
  have hE := ways5 n hn w
  obtain ⟨X, hX⟩ : ∃ X, k0F (alF 5) n n = X := ⟨_, rfl⟩
  rw [hX] at hE ⊢
  have HE := Lib.hid hE
  have g1 : ¬ (n : Int) < 0 := by omega
  have g2 : ¬ (100 : Int) < (n : Int) := by omega
  clear hE hX
  go_enter Try.func42, Try.ntmps42
  go_wp2_with (go_at_call 57; refine HE.out.mono ?_; rintro e w1 ⟨rfl, hb⟩; have HB := Lib.hid hb; clear hb)
  go_ret2
  exact ⟨rfl, HB.out⟩

set_option maxHeartbeats 2000000 in
theorem lawKinds5 (n : Nat) (hn : n ≤ 100) (w : World) :
    Calls Try.prog 7 #[.int .i64 (n : Int), .int .i64 5] w fun e w' => e = .returned (.bool true) ∧ Below w.heap.size w w' := by
  have H1 := Lib.hid (fun W => Kinds_yes5 n hn W)
  have H2 := Lib.hid (fun W => Pentagonal_yes n hn W)
  have H3 := Lib.hid (fun W => refPent_any n hn W)
  have H4 := Lib.hid (fun W => refKinds5 n hn W)
  have g1 : ¬ (n : Int) < 0 := by omega
  have g2 : ¬ (100 : Int) < (n : Int) := by omega
  obtain ⟨X, hX⟩ : ∃ X, k0F (alF 5) n n = X := ⟨_, rfl⟩
  obtain ⟨Y, hY⟩ : ∃ Y, penF n n = Y := ⟨_, rfl⟩
  rw [hX] at H1 H4
  rw [hY] at H2 H3
  clear hX hY
  go_enter Try.func7, Try.ntmps7
  go_wp2_with fail
  refine (H1.out _).mono ?_
  rintro e w1 ⟨rfl, hb1⟩
  have B1 := Lib.hid hb1
  clear hb1
  go_wp2_with fail
  refine (H2.out _).mono ?_
  rintro e w2 ⟨rfl, hb2⟩
  have B2 := Lib.hid (B1.out.trans (hb2.mono B1.out.size))
  clear hb2 B1
  go_wp2_with fail
  refine (H3.out _).mono ?_
  rintro e w3 ⟨rfl, hb3⟩
  have B3 := Lib.hid (B2.out.trans (hb3.mono B2.out.size))
  clear hb3 B2
  go_wp2_with fail
  refine (awake_any _).mono ?_
  rintro e w4 ⟨rfl, hb4⟩
  have B4 := Lib.hid (B3.out.trans (hb4.mono B3.out.size))
  clear hb4 B3
  go_wp2_with fail
  refine (H4.out _).mono ?_
  rintro e w5 ⟨rfl, hb5⟩
  have B5 := Lib.hid (B4.out.trans (hb5.mono B4.out.size))
  clear hb5 B4
  go_wp2_with fail
  go_ret
  exact ⟨rfl, B5.out⟩

set_option maxHeartbeats 2000000 in
theorem lawKinds_bad (n : Nat) (k : Int) (hn : n ≤ 100) (hk : k < 0 ∨ 5 < k) (w : World) :
    Calls Try.prog 7 #[.int .i64 (n : Int), .int .i64 k] w fun e w' => e = .returned (.bool true) ∧ Below w.heap.size w w' := by
  have H1 := Lib.hid (fun W => Kinds_bad n k (by omega) (by omega) hk W)
  have H2 := Lib.hid (fun W => Pentagonal_yes n hn W)
  have H3 := Lib.hid (fun W => refPent_any n hn W)
  have g1 : ¬ (n : Int) < 0 := by omega
  have g2 : ¬ (100 : Int) < (n : Int) := by omega
  obtain ⟨Y, hY⟩ : ∃ Y, penF n n = Y := ⟨_, rfl⟩
  rw [hY] at H2 H3
  have HK := Lib.hid hk
  clear hY hk
  go_enter Try.func7, Try.ntmps7
  go_wp2_with fail
  refine (H1.out _).mono ?_
  rintro e w' ⟨rfl, rfl⟩
  go_wp2_with fail
  refine (H2.out _).mono ?_
  rintro e w2 ⟨rfl, hb2⟩
  have B2 := Lib.hid hb2
  clear hb2
  go_wp2_with fail
  refine (H3.out _).mono ?_
  rintro e w3 ⟨rfl, hb3⟩
  have B3 := Lib.hid (B2.out.trans (hb3.mono B2.out.size))
  clear hb3 B2
  go_wp2_with fail
  refine (awake_any _).mono ?_
  rintro e w4 ⟨rfl, hb4⟩
  have B4 := Lib.hid (B3.out.trans (hb4.mono B3.out.size))
  clear hb4 B3
  by_cases h : k < 0
  · clear HK
    go_wp2_with fail
    go_ret
    exact ⟨rfl, B4.out⟩
  · have h2 : 5 < k := by have := HK.out; omega
    clear HK
    go_wp2_with fail
    go_ret
    exact ⟨rfl, B4.out⟩

set_option maxHeartbeats 2000000 in
theorem lawKinds_no (n k : Int) (hn : n < 0 ∨ 100 < n) (w : World) :
    Calls Try.prog 7 #[.int .i64 n, .int .i64 k] w fun e w' => e = .returned (.bool true) ∧ Below w.heap.size w w' := by
  have H1 := Lib.hid (fun W => Kinds_no n k hn W)
  have H2 := Lib.hid (fun W => Pentagonal_no n hn W)
  have HN := Lib.hid hn
  clear hn
  go_enter Try.func7, Try.ntmps7
  go_wp2_with fail
  refine (H1.out _).mono ?_
  rintro e w' ⟨rfl, rfl⟩
  go_wp2_with fail
  refine (H2.out _).mono ?_
  rintro e w' ⟨rfl, rfl⟩
  by_cases h : n < 0
  · clear HN
    go_wp2_with fail
    refine (awake_any _).mono ?_
    rintro e w4 ⟨rfl, hb4⟩
    have B4 := Lib.hid hb4
    clear hb4
    go_wp2_with fail
    go_ret
    exact ⟨rfl, B4.out⟩
  · have h2 : 100 < n := by have := HN.out; omega
    clear HN
    go_wp2_with fail
    refine (awake_any _).mono ?_
    rintro e w4 ⟨rfl, hb4⟩
    have B4 := Lib.hid hb4
    clear hb4
    go_wp2_with fail
    go_ret
    exact ⟨rfl, B4.out⟩

theorem lawKinds_any (n k : Int) (w : World) :
    Calls Try.prog 7 #[.int .i64 n, .int .i64 k] w fun e w' => e = .returned (.bool true) ∧ Below w.heap.size w w' := by
  by_cases hn : n < 0 ∨ 100 < n
  · exact lawKinds_no n k hn w
  · obtain ⟨N, rfl⟩ : ∃ N : Nat, n = (N : Int) := ⟨n.toNat, by omega⟩
    by_cases hk : k < 0 ∨ 5 < k
    · exact lawKinds_bad N k (by omega) hk w
    · have c : k = 0 ∨ k = 1 ∨ k = 2 ∨ k = 3 ∨ k = 4 ∨ k = 5 := by omega
      rcases c with rfl | rfl | rfl | rfl | rfl | rfl
      · exact lawKinds0 N (by omega) w
      · exact lawKinds1 N (by omega) w
      · exact lawKinds2 N (by omega) w
      · exact lawKinds3 N (by omega) w
      · exact lawKinds4 N (by omega) w
      · exact lawKinds5 N (by omega) w
end Go.Proofs.Ytfecdpglcdhijaa
