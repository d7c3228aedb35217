/- The law PartsLists: its walk in every case. No condition on the argument. -/
import Derived.Test.YtfecdpglcdhijaaCount
import Derived.Test.YtfecdpglcdhijaaRefList
namespace Go.Proofs.Ytfecdpglcdhijaa
open Go.RowKit

theorem pF_small (n : Nat) (hn : n ≤ 20) : (pF 20 n n).length ≤ 1048576 ∧ ∀ l ∈ pF 20 n n, l.length ≤ 1000 := by
  have h1 := pF_len 20 n n hn
  have h2 : 2 ^ n ≤ 2 ^ 20 := Nat.pow_le_pow_right (by omega) hn
  exact ⟨by omega, fun l hl => by have := pF_mem 20 n n hn l hl; omega⟩

theorem samePF (a1 a2 : Option Addr) (n N c d : Nat) (w : World) (hn : n ≤ 20) (hN : (pF 20 n n).length = N) (h1 : TabR w a1 (pF 20 n n)) (h2 : TabR w a2 (pF 20 n n)) :
    Calls Try.prog 19 #[.slice a1 N c, .slice a2 N d] w fun e w' => e = .returned (.bool true) ∧ ∃ q, w' = w.drewN q := by
  obtain ⟨s1, s2⟩ := pF_small n hn
  have hE := same_any a1 a2 c d (pF 20 n n) (pF 20 n n) w h1 h2 (by omega) (by omega) s2 s2
  rw [hN, beq_self_eq_true] at hE
  exact hE

set_option maxHeartbeats 2000000 in
set_option maxRecDepth 100000 in
theorem lawLists_low (n : Nat) (hn : n ≤ 20) (w : World) :
    Calls Try.prog 3 #[.int .i64 (n : Int)] w fun e w' => e = .returned (.bool true) ∧ Below w.heap.size w w' := by
  have hL := fun W => List_yes n hn W
  have hR := fun W => refList_any n hn W
  have hS := fun a1 a2 N c d W h => samePF a1 a2 n N c d W hn h
  have hC := fun W => Count_yes n (by omega) W
  have hD := fun W => refCount_any n (by omega) W
  obtain ⟨T, hT⟩ : ∃ T, pF 20 n n = T := ⟨_, rfl⟩
  obtain ⟨N, hN⟩ : ∃ N, T.length = N := ⟨_, rfl⟩
  obtain ⟨X, hX⟩ : ∃ X, cntF n n = X := ⟨_, rfl⟩
  rw [hT] at hL hR hS
  rw [hX] at hC hD
  have HL := Lib.hid hL
  have HR := Lib.hid hR
  have HS := Lib.hid hS
  have HC := Lib.hid hC
  have HD := Lib.hid hD
  have HN := Lib.hid hN
  have g1 : ¬ (n : Int) < 0 := by omega
  have g2 : ¬ (20 : Int) < (n : Int) := by omega
  have g3 : ¬ (400 : Int) < (n : Int) := by omega
  clear hL hR hS hC hD hT hN hX
  go_enter Try.func3, Try.ntmps3
  go_wp2_with fail
  refine (HL.out _).mono ?_
  rintro e w1 ⟨a1, c1, rfl, ht1, hb1⟩
  rw [HN.out] at ht1 ⊢
  have B1 := Lib.hid hb1
  have R1 := Lib.hid ht1.read.1
  clear ht1 hb1
  go_wp2_with fail
  refine (HC.out _).mono ?_
  rintro e w2 ⟨rfl, hb2⟩
  have B2 := Lib.hid (B1.out.trans (hb2.mono B1.out.size))
  have R2 := Lib.hid (R1.out.below hb2)
  clear hb2 B1 R1
  go_wp2_with fail
  refine (HR.out _).mono ?_
  rintro e w3 ⟨a3, c3, rfl, ht3, hb3⟩
  rw [HN.out] at ht3 ⊢
  have B3 := Lib.hid (B2.out.trans (hb3.mono B2.out.size))
  have R3 := Lib.hid (R2.out.below hb3)
  have S3 := Lib.hid ht3.read
  clear ht3 hb3 B2 R2
  go_wp2_with fail
  refine (HS.out _ _ N _ _ _ HN.out R3.out S3.out).mono ?_
  rintro e w4 ⟨rfl, q, rfl⟩
  have B4 := Lib.hid (below_drewN B3.out q)
  clear B3 R3 S3
  go_wp2_with fail
  refine (HD.out _).mono ?_
  rintro e w5 ⟨rfl, hb5⟩
  have B5 := Lib.hid (B4.out.trans (hb5.mono B4.out.size))
  clear hb5 B4
  go_wp2_with fail
  refine (awake_any _).mono ?_
  rintro e w6 ⟨rfl, hb6⟩
  have B6 := Lib.hid (B5.out.trans (hb6.mono B5.out.size))
  clear hb6 B5
  go_wp2_with fail
  go_ret
  exact ⟨rfl, B6.out⟩

set_option maxHeartbeats 2000000 in
set_option maxRecDepth 100000 in
theorem lawLists_mid (n : Nat) (hn : 20 < n) (hn4 : n ≤ 400) (w : World) :
    Calls Try.prog 3 #[.int .i64 (n : Int)] w fun e w' => e = .returned (.bool true) ∧ Below w.heap.size w w' := by
  have hL := fun W => List_no (n : Int) (.inr (by omega)) W
  have hC := fun W => Count_yes n (by omega) W
  have hD := fun W => refCount_any n (by omega) W
  obtain ⟨X, hX⟩ : ∃ X, cntF n n = X := ⟨_, rfl⟩
  rw [hX] at hC hD
  have HL := Lib.hid hL
  have HC := Lib.hid hC
  have HD := Lib.hid hD
  have g1 : ¬ (n : Int) < 0 := by omega
  have g2 : (20 : Int) < (n : Int) := by omega
  have g3 : ¬ (400 : Int) < (n : Int) := by omega
  clear hL hC hD hX
  go_enter Try.func3, Try.ntmps3
  go_wp2_with fail
  refine (HL.out _).mono ?_
  rintro e w' ⟨rfl, rfl⟩
  go_wp2_with fail
  refine (HC.out _).mono ?_
  rintro e w2 ⟨rfl, hb2⟩
  have B2 := Lib.hid hb2
  clear hb2
  go_wp2_with fail
  refine (HD.out _).mono ?_
  rintro e w5 ⟨rfl, hb5⟩
  have B5 := Lib.hid (B2.out.trans (hb5.mono B2.out.size))
  clear hb5 B2
  go_wp2_with fail
  refine (awake_any _).mono ?_
  rintro e w6 ⟨rfl, hb6⟩
  have B6 := Lib.hid (B5.out.trans (hb6.mono B5.out.size))
  clear hb6 B5
  go_wp2_with fail
  go_ret
  exact ⟨rfl, B6.out⟩

set_option maxHeartbeats 2000000 in
set_option maxRecDepth 100000 in
theorem lawLists_out (n : Int) (hn : n < 0 ∨ 400 < n) (w : World) :
    Calls Try.prog 3 #[.int .i64 n] w fun e w' => e = .returned (.bool true) ∧ Below w.heap.size w w' := by
  have HL := Lib.hid (fun W => List_no n (by omega) W)
  have HC := Lib.hid (fun W => Count_no n hn W)
  rcases hn with hn | hn
  case' inl => have g1 : n < 0 := hn
  case' inr =>
    have g1 : ¬ n < 0 := by omega
    have g2 : (20 : Int) < n := by omega
    have g3 : (400 : Int) < n := by omega
  all_goals
    go_enter Try.func3, Try.ntmps3
    go_wp2_with fail
    refine (HL.out _).mono ?_
    rintro e w' ⟨rfl, rfl⟩
    go_wp2_with fail
    refine (HC.out _).mono ?_
    rintro e w' ⟨rfl, rfl⟩
    go_wp2_with fail
    refine (awake_any _).mono ?_
    rintro e w6 ⟨rfl, hb6⟩
    have B6 := Lib.hid hb6
    clear hb6
    go_wp2_with fail
    go_ret
    exact ⟨rfl, B6.out⟩

theorem lawLists_any (n : Int) (w : World) :
    Calls Try.prog 3 #[.int .i64 n] w fun e w' => e = .returned (.bool true) ∧ Below w.heap.size w w' := by
  by_cases h : n < 0 ∨ 400 < n
  · exact lawLists_out n h w
  · obtain ⟨m, rfl⟩ : ∃ m : Nat, n = (m : Int) := ⟨n.toNat, by omega⟩
    by_cases h2 : m ≤ 20
    · exact lawLists_low m h2 w
    · exact lawLists_mid m (by omega) (by omega) w
end Go.Proofs.Ytfecdpglcdhijaa
