/- The walks that ask whether a slice is a fraction, and whether it is a numeral along one, the program's and the reference's. Condition: the slices lie in memory. -/
import Derived.Test.YtbdabpmpfciibaaAlong
namespace Go.Proofs.Ytbdabpmpfciibaa
open Go.RowKit
attribute [local go_sem] Oper.semAt_some

set_option maxHeartbeats 2000000 in
theorem fracValid_any (a : Option Addr) (n c : Nat) (q : List Int) (w : World) (h : Ints w a n q) (hn : n ≤ 4611686018427387904) :
    Calls Try.prog 78 #[.slice a n c] w fun e w' => e = .returned (.bool (isQ q)) ∧ w' = w := by
  have H := Lib.hid h
  have HL := Lib.hid h.1
  clear h
  by_cases h1 : n < 1
  · have hQ := Lib.hid (isQ_no_len (q := q) (.inl (by have := HL.out; omega)))
    rw [hQ.out]
    have h1i : (n : Int) < 1 := by omega
    go_enter Try.func78, Try.ntmps78
    go_wp2
    go_ret
    exact ⟨rfl, rfl⟩
  · have h1i : ¬ (n : Int) < 1 := by omega
    have h1j : ¬ n = 0 := by omega
    by_cases h2 : 10 < n
    · have hQ := Lib.hid (isQ_no_len (q := q) (.inr (by have := HL.out; omega)))
      rw [hQ.out]
      have h2i : (10 : Int) < (n : Int) := by omega
      go_enter Try.func78, Try.ntmps78
      go_wp2
      go_ret
      exact ⟨rfl, rfl⟩
    · have h2i : ¬ (10 : Int) < (n : Int) := by omega
      have hb1 : decide ((n : Int) < 1) = false := by simp; omega
      have hb2 : decide ((10 : Int) < (n : Int)) = false := by simp; omega
      obtain ⟨B, hB⟩ : ∃ B, isQ q = B := ⟨_, rfl⟩
      rw [hB]
      have HBB := Lib.hid hB
      clear hB
      go_enter Try.func78, Try.ntmps78
      go_wp2
      go_loopg [15] n (fun gk i wr => ∃ (k : Nat), k + gk = n ∧ i = .int .i64 (k : Int) ∧ (∀ j, j < k → 1 ≤ q.getD j 0 ∧ q.getD j 0 ≤ 9) ∧ wr = w)
      case atStart => exact ⟨0, by omega, rfl, fun j hj => by omega, rfl⟩
      case round =>
        obtain ⟨k, hk, rfl, hall, hww⟩ := hrel
        have hww2 := hww.symm
        subst hww2
        have HALL := Lib.hid hall
        clear hall
        by_cases hkn : k = n
        · have hge : ¬ (k : Int) < (n : Int) := by omega
          have hge2 : ¬ k < n := by omega
          have hT : B = true := by
            rw [← HBB.out]
            exact isQ_mk (by have := HL.out; omega) (by have := HL.out; omega) (fun j hj => HALL.out j (by have := HL.out; omega))
          subst hT
          clear hkn hk
          go_wp2
          go_ret
          exact ⟨rfl, rfl⟩
        · have hlt : (k : Int) < (n : Int) := by omega
          have hlt2 : k < n := by omega
          obtain ⟨b, off, rfl, hb, hc⟩ := H.out.at (by omega)
          have hck := hc k hlt2
          obtain ⟨x, hx⟩ : ∃ x, q.getD k 0 = x := ⟨_, rfl⟩
          rw [hx] at hck
          have HX := Lib.hid hx
          have HK := Lib.hid hk
          have k0 : (0 : Int) ≤ (k : Int) := by omega
          clear hc hx hk hkn
          by_cases hbad : x < 1 ∨ 9 < x
          · have hF : B = false := by
              rw [← HBB.out]
              exact isQ_no_at (k := k) (by have := HL.out; omega) (by rw [HX.out]; exact hbad)
            subst hF
            by_cases g1 : x < 1
            · clear hbad
              go_wp2
              go_ret
              exact ⟨rfl, rfl⟩
            · have g2 : 9 < x := by omega
              clear hbad
              go_wp2
              go_ret
              exact ⟨rfl, rfl⟩
          · have g1 : ¬ x < 1 := by omega
            have g2 : ¬ 9 < x := by omega
            clear hbad
            go_wp2
            go_roundg (n - k - 1)
            case rel =>
              refine ⟨k + 1, by have := HK.out; omega, by go_num, fun j hj => ?_, rfl⟩
              by_cases hjk : j = k
              · subst hjk; rw [HX.out]; omega
              · exact HALL.out j (by omega)
            case measure => have := HK.out; omega

set_option maxHeartbeats 2000000 in
theorem refFraction_any (a : Option Addr) (n c : Nat) (q : List Int) (w : World) (h : Ints w a n q) (hn : n ≤ 4611686018427387904) :
    Calls Try.prog 47 #[.slice a n c] w fun e w' => e = .returned (.bool (isQ q)) ∧ w' = w := by
  have H := Lib.hid h
  have HL := Lib.hid h.1
  clear h
  obtain ⟨B, hB⟩ : ∃ B, isQ q = B := ⟨_, rfl⟩
  rw [hB]
  have HBB := Lib.hid hB
  clear hB
  go_enter Try.func47, Try.ntmps47
  go_wp2
  go_loopg [7] n (fun gk i wr => ∃ (k : Nat), k + gk = n ∧ i = .int .i64 (k : Int) ∧ (∀ j, j < k → 1 ≤ q.getD j 0 ∧ q.getD j 0 ≤ 9) ∧ wr = w)
  case atStart => exact ⟨0, by omega, rfl, fun j hj => by omega, rfl⟩
  case round =>
    obtain ⟨k, hk, rfl, hall, hww⟩ := hrel
    have hww2 := hww.symm
    subst hww2
    have HALL := Lib.hid hall
    clear hall
    by_cases hkn : k = n
    · have hge : ¬ (k : Int) < (n : Int) := by omega
      have hge2 : ¬ k < n := by omega
      by_cases h1 : n < 1
      · have hF : B = false := by rw [← HBB.out]; exact isQ_no_len (.inl (by have := HL.out; omega))
        have h1i : ¬ 1 ≤ (n : Int) := by omega
        have h1j : ¬ 1 ≤ n := by omega
        subst hF
        clear hkn hk h1
        go_wp2
        go_ret
        exact ⟨rfl, rfl⟩
      · have h1i : 1 ≤ (n : Int) := by omega
        have h1j : 1 ≤ n := by omega
        have h1k : 0 < n := by omega
        by_cases h2 : 10 < n
        · have hF : B = false := by rw [← HBB.out]; exact isQ_no_len (.inr (by have := HL.out; omega))
          have h2i : ¬ (n : Int) ≤ 10 := by omega
          subst hF
          clear hkn hk h1 h2
          go_wp2
          go_ret
          exact ⟨rfl, rfl⟩
        · have hT : B = true := by
            rw [← HBB.out]
            exact isQ_mk (by have := HL.out; omega) (by have := HL.out; omega) (fun j hj => HALL.out j (by have := HL.out; omega))
          have h2i : (n : Int) ≤ 10 := by omega
          subst hT
          clear hkn hk h1 h2
          go_wp2
          go_ret
          exact ⟨rfl, rfl⟩
    · have hlt : (k : Int) < (n : Int) := by omega
      have hlt2 : k < n := by omega
      obtain ⟨b, off, rfl, hb, hc⟩ := H.out.at (by omega)
      have hck := hc k hlt2
      obtain ⟨x, hx⟩ : ∃ x, q.getD k 0 = x := ⟨_, rfl⟩
      rw [hx] at hck
      have HX := Lib.hid hx
      have HK := Lib.hid hk
      have k0 : (0 : Int) ≤ (k : Int) := by omega
      clear hc hx hk hkn
      by_cases hbad : x < 1 ∨ 9 < x
      · have hF : B = false := by
          rw [← HBB.out]
          exact isQ_no_at (k := k) (by have := HL.out; omega) (by rw [HX.out]; exact hbad)
        subst hF
        by_cases g1 : x < 1
        · clear hbad
          go_wp2
          go_ret
          exact ⟨rfl, rfl⟩
        · have g2 : 9 < x := by omega
          clear hbad
          go_wp2
          go_ret
          exact ⟨rfl, rfl⟩
      · have g1 : ¬ x < 1 := by omega
        have g2 : ¬ 9 < x := by omega
        clear hbad
        go_wp2
        go_roundg (n - k - 1)
        case rel =>
          refine ⟨k + 1, by have := HK.out; omega, by go_num, fun j hj => ?_, rfl⟩
          by_cases hjk : j = k
          · subst hjk; rw [HX.out]; omega
          · exact HALL.out j (by omega)
        case measure => have := HK.out; omega
end Go.Proofs.Ytbdabpmpfciibaa
