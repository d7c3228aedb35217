/- The walk of basis.valid. Condition: the table lies in memory, its rows are short. -/
import Derived.Test.YtgfenponlkmfmaaRDet
namespace Go.Proofs.Ytgfenponlkmfmaa
open Go.RowKit
attribute [local go_sem] Oper.semAt_some

set_option maxHeartbeats 4000000 in
set_option maxRecDepth 100000 in
theorem valid_any (a : Option Addr) (n c : Nat) (L : List (List Int)) (w : World) (h : Tab w a n L) (hn : n ≤ 4611686018427387904) (hr : ∀ i, i < n → (row L i).length ≤ 4611686018427387904) :
    Calls Try.prog 56 #[.slice a n c] w fun e w' => e = .returned (.bool (isBasis L)) ∧ w' = w := by
  obtain ⟨B, hB⟩ : ∃ B, isBasis L = B := ⟨_, rfl⟩
  rw [hB]
  have H := Lib.hid h
  have HB := Lib.hid hB
  have HL := Lib.hid h.1
  have HR := Lib.hid hr
  have hno : ¬ tabB L 20 = true → B = false := by
    intro hh
    rw [← hB, Bool.eq_false_iff]
    intro h2
    exact hh (isBasis_spec.1 h2).1
  have HNO := Lib.hid hno
  clear hB h hr hno
  by_cases hn1 : n < 1
  · have hf : B = false := HNO.out fun hh => by
      have := (tabB_spec.1 hh).2
      rw [HL.out] at this
      omega
    have HF := Lib.hid hf
    have l1 : (n : Int) < 1 := by omega
    clear hf
    go_enter Try.func56, Try.ntmps56
    go_wp2
    go_ret
    exact ⟨ret_bool HF.out.symm, rfl⟩
  by_cases hn4 : 4 < n
  · have hf : B = false := HNO.out fun hh => by
      have := (tabB_spec.1 hh).2
      rw [HL.out] at this
      omega
    have HF := Lib.hid hf
    have l1 : ¬ (n : Int) < 1 := by omega
    have l2 : (4 : Int) < (n : Int) := by omega
    clear hf
    go_enter Try.func56, Try.ntmps56
    go_wp2
    go_ret
    exact ⟨ret_bool HF.out.symm, rfl⟩
  have l1 : ¬ (n : Int) < 1 := by omega
  have l2 : ¬ (4 : Int) < (n : Int) := by omega
  have l3 : decide ((n : Int) < 1) = false := by simpa using l1
  have l4 : decide ((4 : Int) < (n : Int)) = false := by simpa using l2
  have l5 : decide ((n : Int) > 4) = false := by simpa using l2
  go_enter Try.func56, Try.ntmps56
  go_wp2
  go_loopg [15] n (fun gk s15 wr => ∃ (k : Nat), s15 = .int .i64 (k : Int) ∧ k + gk = n ∧ RowKit.Hid (∀ i, i < k → inB (row L i) n 20 = true) ∧ wr = w)
  case atStart => exact ⟨0, rfl, by omega, Lib.hid (fun i hi => by omega), rfl⟩
  case round =>
    obtain ⟨k, rfl, hk, HP, rfl⟩ := hrel
    have HK := Lib.hid hk
    by_cases hkn : k < n
    · have m1 : (k : Int) < (n : Int) := by omega
      have k0 : (0 : Int) ≤ (k : Int) := by omega
      obtain ⟨b, off, ai, ci, rfl, hbl, hcell, hlie⟩ := H.out.at hkn
      have hC := within_any ai (row L k).length ci (row L k) n 20 wr hlie.ints (HR.out k hkn) (by omega) (by omega)
      obtain ⟨N, hN⟩ : ∃ N, (row L k).length = N := ⟨_, rfl⟩
      rw [hN] at hC hcell
      have HC := Lib.hid hC
      obtain ⟨b, hb⟩ : ∃ b, inB (row L k) n 20 = b := ⟨_, rfl⟩
      rw [hb] at HC
      have HBB := Lib.hid hb
      clear hC hN hlie hk hb
      cases b with
      | false =>
        have hf : B = false := HNO.out fun hh => by
          have := (tabB_spec.1 hh).1 k (by rw [HL.out]; exact hkn)
          rw [HL.out, HBB.out] at this
          cases this
        have HF := Lib.hid hf
        clear hf
        go_wp2_with fail
        refine HC.out.mono ?_
        rintro e w1 ⟨rfl, rfl⟩
        go_wp2
        go_ret
        exact ⟨ret_bool HF.out.symm, rfl⟩
      | true =>
        have hp : ∀ i, i < k + 1 → inB (row L i) n 20 = true := by
          intro i hi
          by_cases hik : i = k
          · subst hik
            exact HBB.out
          · exact HP.out i (by omega)
        have HP2 := Lib.hid hp
        clear hp
        go_wp2_with fail
        refine HC.out.mono ?_
        rintro e w1 ⟨rfl, rfl⟩
        go_wp2
        go_roundg (gk - 1)
        case rel => exact ⟨k + 1, by go_num, by have := HK.out; omega, HP2.out, rfl⟩
        case measure => have := HK.out; omega
    · have m1 : ¬ (k : Int) < (n : Int) := by omega
      have ht : tabB L 20 = true := tabB_spec.2 ⟨fun i hi => by rw [HL.out] at hi ⊢; exact HP.out i (by omega), by rw [HL.out]; omega, by rw [HL.out]; omega⟩
      have hsq := tab_sq ht
      rw [HL.out] at hsq
      have hC := determinant_any a n c L wr H.out (by omega) hsq
      have hsm := (det_small ht HL.out).2
      rw [hsm] at hC
      have hf : B = decide (det n (ent L) ≠ 0) := by
        rw [← HB.out]
        unfold isBasis
        rw [ht, HL.out]
        rfl
      obtain ⟨D, hD⟩ : ∃ D, det n (ent L) = D := ⟨_, rfl⟩
      rw [hD] at hC hf
      have HF := Lib.hid hf
      have HC := Lib.hid hC
      clear hf hC hD hsm hsq ht hk hkn
      go_wp2_with fail
      refine HC.out.mono ?_
      rintro e w1 ⟨rfl, rfl⟩
      go_wp2
      go_ret
      refine ⟨ret_bool ?_, rfl⟩
      rw [HF.out]
      by_cases hd : D = 0
      · simp [hd]
      · simp [hd]
end Go.Proofs.Ytgfenponlkmfmaa
