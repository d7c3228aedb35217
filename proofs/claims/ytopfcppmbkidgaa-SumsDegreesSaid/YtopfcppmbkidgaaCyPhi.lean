/- The walks of Cyclotomic and of the reference's Phi. Conditions as stated in each theorem. -/
import Derived.Test.YtopfcppmbkidgaaCyc
import Derived.Test.YtopfcppmbkidgaaGcd
namespace Go.Proofs.Ytopfcppmbkidgaa
open Go.RowKit
attribute [local go_sem] Oper.semAt_some

set_option maxHeartbeats 400000 in
theorem Cyclotomic_yes (n : Nat) (h1 : 1 ≤ n) (h2 : n ≤ 60) (w : World) : Calls Try.prog 17 #[.int .i64 (n : Int)] w fun e w' =>
    (∃ g, e = .returned (.tuple #[.slice (some ⟨g, 0, none⟩) (cyT n).length (cyT n).length, .int .i64 0]) ∧ Lis g (cyT n) w w') ∧ Below w.heap.size w w' := by
  have HC := Lib.hid (fun W => cyc_any n n (Nat.le_refl _) h1 h2 W)
  have l1 : ¬ (n : Int) < 1 := by omega
  have l2 : ¬ (60 : Int) < (n : Int) := by omega
  go_enter Try.func17, Try.ntmps17
  go_wp2_with fail
  refine (HC.out _).mono ?_
  rintro e v1 ⟨⟨g, rfl, hl⟩, hb⟩
  have HL := Lib.hid hl
  have HB := Lib.hid hb
  clear hl hb
  go_wp2
  go_ret2
  exact ⟨⟨g, rfl, HL.out⟩, HB.out⟩
set_option maxHeartbeats 400000 in
theorem Cyclotomic_no (n : Int) (h : n < 1 ∨ 60 < n) (w : World) : Calls Try.prog 17 #[.int .i64 n] w fun e w' => e = .returned (.tuple #[.slice none 0 0, .int .i64 2]) ∧ Below w.heap.size w w' := by
  have HB := Lib.hid (Below.refl w.heap.size w)
  by_cases l1 : n < 1
  · go_enter Try.func17, Try.ntmps17
    go_wp2
    go_ret2
    exact ⟨rfl, HB.out⟩
  · have l2 : 60 < n := by omega
    clear h
    go_enter Try.func17, Try.ntmps17
    go_wp2
    go_ret2
    exact ⟨rfl, HB.out⟩

/-- How many numbers from 1 to i have no factor in common with n. -/
def phF (n : Nat) : Nat → Nat
  | 0 => 0
  | i + 1 => phF n i + if Nat.gcd (i + 1) n = 1 then 1 else 0
theorem phF_le (n : Nat) : ∀ i, phF n i ≤ i
  | 0 => Nat.le_refl _
  | i + 1 => by have := phF_le n i; rw [phF]; split <;> omega
set_option maxHeartbeats 4000000 in
theorem phi_any (n : Nat) (h1 : 1 ≤ n) (h2 : n ≤ 1000) (w : World) : Calls Try.prog 56 #[.int .i64 (n : Int)] w fun e w' => e = .returned (.int .i64 ((phF n n : Nat) : Int)) ∧ Below w.heap.size w w' := by
  have HB0 := Lib.hid (Below.refl w.heap.size w)
  go_enter Try.func56, Try.ntmps56
  go_wp2
  go_loopg [3, 4] n (fun gk s3 s4 wr => ∃ i c : Nat, i + gk = n ∧ c ≤ i ∧ phF n i = c ∧ s3 = .int .i64 (c : Int) ∧ s4 = .int .i64 ((i : Int) + 1) ∧ Below w.heap.size w wr)
  case atStart => exact ⟨0, 0, by omega, Nat.le_refl _, rfl, rfl, rfl, HB0.out⟩
  case round =>
    obtain ⟨i, c, hi, hc, hp, rfl, rfl, hb⟩ := hrel
    have HI := Lib.hid (And.intro hi (And.intro hc hp))
    have KP := Lib.hid hb
    clear hb HB0 hp
    by_cases hlt : i < n
    · have l1 : (i : Int) + 1 ≤ (n : Int) := by omega
      have hG := gcdR_any (i + 1) n (by omega) (by omega)
      have hN : (Nat.gcd (i + 1) n = 1 → phF n (i + 1) = phF n i + 1) ∧ (¬ Nat.gcd (i + 1) n = 1 → phF n (i + 1) = phF n i) := ⟨fun e => by rw [phF, if_pos e], fun e => by rw [phF, if_neg e]; rfl⟩
      obtain ⟨g, hg⟩ : ∃ g, Nat.gcd (i + 1) n = g := ⟨_, rfl⟩
      rw [hg] at hG hN
      rw [show ((i + 1 : Nat) : Int) = (i : Int) + 1 by omega] at hG
      have HG := Lib.hid hG
      have HNX := Lib.hid hN
      have HLT := Lib.hid hlt
      have w1 : wrap64 ((i : Int) + 1 + 1) = (i : Int) + 1 + 1 := IntWalk.wrap64_in _ (by omega)
      have w2 : wrap64 ((c : Int) + 1) = (c : Int) + 1 := IntWalk.wrap64_in _ (by omega)
      clear hG hN hg hi hc hlt
      go_wp2_with fail
      refine (HG.out _).mono ?_
      rintro e v1 ⟨rfl, hb⟩
      have KQ := Lib.hid (KP.out.trans (hb.mono KP.out.size))
      clear hb KP
      by_cases g1 : g = 1
      · subst g1
        go_wp2
        go_roundg (gk - 1)
        case rel => exact ⟨i + 1, c + 1, by have := HI.out.1; have := HLT.out; omega, by have := HI.out.2.1; omega, by rw [HNX.out.1 (by first | rfl | trivial), HI.out.2.2], by go_num, by go_num, KQ.out⟩
        case measure => have := HI.out.1; have := HLT.out; omega
      · have l3 : ((g : Int) == 1) = false := beq_eq_false_iff_ne.2 (by omega)
        have l4 : ¬ (g : Int) = 1 := by omega
        go_wp2
        go_roundg (gk - 1)
        case rel => exact ⟨i + 1, c, by have := HI.out.1; have := HLT.out; omega, by have := HI.out.2.1; omega, by rw [HNX.out.2 g1, HI.out.2.2], rfl, by go_num, KQ.out⟩
        case measure => have := HI.out.1; have := HLT.out; omega
    · have l1 : ¬ (i : Int) + 1 ≤ (n : Int) := by omega
      have hin : i = n := by omega
      have HF := Lib.hid (show (c : Int) = ((phF n n : Nat) : Int) by rw [← HI.out.2.2, hin])
      clear hin hi hc
      go_wp2
      go_ret
      exact ⟨ret_int HF.out, KP.out⟩
end Go.Proofs.Ytopfcppmbkidgaa
