/- The walks of crank, the program's and the reference's. Condition: the slice lies in memory and holds a partition. -/
import Derived.Test.YtfecdpglcdhijaaSmall
namespace Go.Proofs.Ytfecdpglcdhijaa
open Go.RowKit

set_option maxHeartbeats 1000000 in
theorem crank_any (a : Option Addr) (n c : Nat) (xs : List Int) (w : World) (h : Ints w a n xs) (hP : isP xs = true) :
    Calls Try.prog 67 #[.slice a n c] w fun e w' => e = .returned (.int .i64 (crankL xs)) ∧ w' = w := by
  have hl := h.1
  have hn := isP_len hP
  by_cases h0 : n = 0
  · subst h0
    have hQ : crankL xs = 0 := if_pos hl
    have HQ := Lib.hid hQ
    clear hQ h hP
    go_enter Try.func67, Try.ntmps67
    go_wp2
    go_ret
    exact ⟨ret_int HQ.out.symm, rfl⟩
  · obtain ⟨b, off, rfl, hb, hc⟩ := h.at (by omega)
    have HL := Lib.hid hl
    have HC := Lib.hid hc
    have HP := Lib.hid hP
    have hn0 : ((n : Int) == 0) = false := by simp; omega
    have hn1 : (0 : Int) < (n : Int) := by omega
    have hn2 : 0 < n := by omega
    have hn3 : n ≤ 30 := by omega
    have hcr : crankL xs = if ones xs = 0 then xs.getD 0 0 else over (ones xs) xs - ones xs := if_neg (by omega)
    have HCR := Lib.hid hcr
    clear hc hl hP h h0 hn hcr
    go_enter Try.func67, Try.ntmps67
    go_wp2
    go_loopg [3, 14] n (fun gk o i wr => ∃ (k : Nat), k + gk = n ∧ i = .int .i64 (k : Int) ∧ o = .int .i64 (ones (xs.take k)) ∧ wr = w)
    case atStart => exact ⟨0, by omega, rfl, rfl, rfl⟩
    case round =>
      obtain ⟨k, hk, rfl, rfl, rfl⟩ := hrel
      obtain ⟨on1, on2⟩ := ones_nonneg (xs.take k)
      rw [List.length_take] at on2
      by_cases hkn : k = n
      · have hge : ¬ (k : Int) < (n : Int) := by omega
        have hge2 : ¬ k < n := by omega
        rw [List.take_of_length_le (by have := HL.out; omega)] at on1 on2 ⊢
        obtain ⟨O, hO⟩ : ∃ O, ones xs = O := ⟨_, rfl⟩
        rw [hO] at on1 on2 ⊢
        have HO := Lib.hid hO
        have hob : O ≤ 30 := by omega
        clear hO on2 hkn
        by_cases hz : O = 0
        · have hz2 : (O == 0) = true := by simp [hz]
          have hck := HC.out 0 (by omega)
          rw [Nat.add_zero] at hck
          have hQ : crankL xs = xs.getD 0 0 := by rw [HCR.out, HO.out, if_pos hz]
          obtain ⟨x, hx⟩ : ∃ x, xs.getD 0 0 = x := ⟨_, rfl⟩
          rw [hx] at hck hQ
          have HQ := Lib.hid hQ
          clear hQ hx
          go_wp2
          go_ret
          exact ⟨ret_int HQ.out.symm, rfl⟩
        · have hz2 : (O == 0) = false := by simp [hz]
          have hQ : crankL xs = over O xs - O := by rw [HCR.out, HO.out, if_neg hz]
          have HQ := Lib.hid hQ
          clear hQ hz
          go_wp2
          go_loopg [4, 30] n (fun gk2 g i wr2 => ∃ (m : Nat), m + gk2 = n ∧ i = .int .i64 (m : Int) ∧ g = .int .i64 (over O (xs.take m)) ∧ wr2 = wr)
          case atStart => exact ⟨0, by omega, rfl, rfl, rfl⟩
          case round =>
            obtain ⟨m, hm, rfl, rfl, rfl⟩ := hrel
            obtain ⟨ov1, ov2⟩ := over_nonneg O (xs.take m)
            rw [List.length_take] at ov2
            by_cases hmn : m = n
            · have hge : ¬ (m : Int) < (n : Int) := by omega
              have hge2 : ¬ m < n := by omega
              rw [List.take_of_length_le (by have := HL.out; omega)] at ov1 ov2 ⊢
              obtain ⟨V, hV⟩ : ∃ V, over O xs = V := ⟨_, rfl⟩
              rw [hV] at ov1 ov2 ⊢
              have hvb : V ≤ 30 := by omega
              have HV := Lib.hid hV
              clear hV hmn ov2
              go_wp2
              go_ret
              exact ⟨ret_int (by rw [HQ.out, HV.out]), rfl⟩
            · have hlt : (m : Int) < (n : Int) := by omega
              have hlt2 : m < n := by omega
              have hck := HC.out m hlt2
              have hst := over_take (l := xs) (k := m) (by have := HL.out; omega) O
              obtain ⟨x, hx⟩ : ∃ x, xs.getD m 0 = x := ⟨_, rfl⟩
              rw [hx] at hck hst
              have hvb : over O (xs.take m) ≤ 30 := by omega
              obtain ⟨V, hV⟩ : ∃ V, over O (xs.take m) = V := ⟨_, rfl⟩
              rw [hV] at ov1 hvb hst ⊢
              have m0 : (0 : Int) ≤ (m : Int) := by omega
              clear hV hmn ov2 hx
              by_cases hxo : O < x
              · rw [if_pos hxo] at hst
                have HST := Lib.hid hst
                clear hst
                go_wp2
                go_roundg (gk - 1)
                case rel => exact ⟨m + 1, by omega, by go_num, by rw [HST.out], rfl⟩
                case measure => omega
              · rw [if_neg hxo] at hst
                have HST := Lib.hid hst
                clear hst
                go_wp2
                go_roundg (gk - 1)
                case rel => exact ⟨m + 1, by omega, by go_num, by rw [HST.out, Int.add_zero], rfl⟩
                case measure => omega
      · have hlt : (k : Int) < (n : Int) := by omega
        have hlt2 : k < n := by omega
        have hck := HC.out k hlt2
        have hst := ones_take (l := xs) (k := k) (by have := HL.out; omega)
        obtain ⟨x, hx⟩ : ∃ x, xs.getD k 0 = x := ⟨_, rfl⟩
        rw [hx] at hck hst
        have hob : ones (xs.take k) ≤ 30 := by omega
        obtain ⟨V, hV⟩ : ∃ V, ones (xs.take k) = V := ⟨_, rfl⟩
        rw [hV] at on1 hob hst ⊢
        have k0 : (0 : Int) ≤ (k : Int) := by omega
        clear hV hkn on2 hx
        by_cases hx1 : x = 1
        · rw [if_pos hx1] at hst
          have HST := Lib.hid hst
          have hb1 : (x == 1) = true := by simp [hx1]
          clear hst hx1
          go_wp2
          go_roundg (gk - 1)
          case rel => exact ⟨k + 1, by omega, by go_num, by rw [HST.out], rfl⟩
          case measure => omega
        · rw [if_neg hx1] at hst
          have HST := Lib.hid hst
          have hb1 : (x == 1) = false := by simp [hx1]
          clear hst hx1
          go_wp2
          go_roundg (gk - 1)
          case rel => exact ⟨k + 1, by omega, by go_num, by rw [HST.out, Int.add_zero], rfl⟩
          case measure => omega
set_option maxHeartbeats 1000000 in
theorem refCrank_any (a : Option Addr) (n c : Nat) (xs : List Int) (w : World) (h : Ints w a n xs) (hP : isP xs = true) :
    Calls Try.prog 33 #[.slice a n c] w fun e w' => e = .returned (.int .i64 (crankL xs)) ∧ w' = w := by
  have hl := h.1
  have hn := isP_len hP
  have H := Lib.hid h
  have HL := Lib.hid hl
  have hn3 : n ≤ 30 := by omega
  clear hl hP h hn
  go_enter Try.func33, Try.ntmps33
  go_wp2
  go_loopg [3, 11] n (fun gk o i wr => ∃ (k : Nat), k + gk = n ∧ i = .int .i64 (k : Int) ∧ o = .int .i64 (ones (xs.take k)) ∧ wr = w)
  case atStart => exact ⟨0, by omega, rfl, rfl, rfl⟩
  case round =>
    obtain ⟨k, hk, rfl, rfl, rfl⟩ := hrel
    obtain ⟨on1, on2⟩ := ones_nonneg (xs.take k)
    rw [List.length_take] at on2
    by_cases hkn : k = n
    · have hge : ¬ (k : Int) < (n : Int) := by omega
      have hge2 : ¬ k < n := by omega
      rw [List.take_of_length_le (by have := HL.out; omega)] at on1 on2 ⊢
      obtain ⟨O, hO⟩ : ∃ O, ones xs = O := ⟨_, rfl⟩
      rw [hO] at on1 on2 ⊢
      have HO := Lib.hid hO
      have hob : O ≤ 30 := by omega
      clear hO on2 hkn
      go_wp2
      go_loopg [4, 22] n (fun gk g i wr2 => ∃ (m : Nat), m + gk = n ∧ i = .int .i64 (m : Int) ∧ g = .int .i64 (over O (xs.take m)) ∧ wr2 = wr)
      case atStart => exact ⟨0, by omega, rfl, rfl, rfl⟩
      case round =>
        obtain ⟨m, hm, rfl, rfl, rfl⟩ := hrel
        obtain ⟨ov1, ov2⟩ := over_nonneg O (xs.take m)
        rw [List.length_take] at ov2
        by_cases hmn : m = n
        · have hge : ¬ (m : Int) < (n : Int) := by omega
          have hge2 : ¬ m < n := by omega
          rw [List.take_of_length_le (by have := HL.out; omega)] at ov1 ov2 ⊢
          obtain ⟨V, hV⟩ : ∃ V, over O xs = V := ⟨_, rfl⟩
          rw [hV] at ov1 ov2 ⊢
          have hvb : V ≤ 30 := by omega
          have HV := Lib.hid hV
          clear hV hmn ov2
          by_cases h0 : n = 0
          · have hQ : crankL xs = 0 := if_pos (by have := HL.out; omega)
            have HQ := Lib.hid hQ
            have hn0 : ((n : Int) == 0) = true := by simp; omega
            clear hQ h0
            go_wp2
            go_ret
            exact ⟨ret_int HQ.out.symm, rfl⟩
          · have hcr : crankL xs = if ones xs = 0 then xs.getD 0 0 else over (ones xs) xs - ones xs := if_neg (by have := HL.out; omega)
            rw [HO.out] at hcr
            have hn0 : ((n : Int) == 0) = false := by simp; omega
            have hn2 : 0 < n := by omega
            have hn1 : (0 : Int) < (n : Int) := by omega
            obtain ⟨b, off, rfl, hb, hc⟩ := H.out.at (by omega)
            have hck := hc 0 (by omega)
            rw [Nat.add_zero] at hck
            by_cases hz : O = 0
            · have hz2 : (O == 0) = true := by simp [hz]
              rw [if_pos hz] at hcr
              obtain ⟨x, hx⟩ : ∃ x, xs.getD 0 0 = x := ⟨_, rfl⟩
              rw [hx] at hck hcr
              have HQ := Lib.hid hcr
              clear hcr hx h0 hc
              go_wp2
              go_ret
              exact ⟨ret_int HQ.out.symm, rfl⟩
            · have hz2 : (O == 0) = false := by simp [hz]
              rw [if_neg hz, HV.out] at hcr
              have HQ := Lib.hid hcr
              clear hcr h0 hc hz
              go_wp2
              go_ret
              exact ⟨ret_int HQ.out.symm, rfl⟩
        · have hlt : (m : Int) < (n : Int) := by omega
          have hlt2 : m < n := by omega
          obtain ⟨b, off, rfl, hb, hc⟩ := H.out.at (by omega)
          have hck := hc m hlt2
          have hst := over_take (l := xs) (k := m) (by have := HL.out; omega) O
          obtain ⟨x, hx⟩ : ∃ x, xs.getD m 0 = x := ⟨_, rfl⟩
          rw [hx] at hck hst
          have hvb : over O (xs.take m) ≤ 30 := by omega
          obtain ⟨V, hV⟩ : ∃ V, over O (xs.take m) = V := ⟨_, rfl⟩
          rw [hV] at ov1 hvb hst ⊢
          have m0 : (0 : Int) ≤ (m : Int) := by omega
          clear hV hmn ov2 hx hc
          by_cases hxo : O < x
          · rw [if_pos hxo] at hst
            have HST := Lib.hid hst
            clear hst
            go_wp2
            go_roundg (gk - 1)
            case rel => exact ⟨m + 1, by omega, by go_num, by rw [HST.out], rfl⟩
            case measure => omega
          · rw [if_neg hxo] at hst
            have HST := Lib.hid hst
            clear hst
            go_wp2
            go_roundg (gk - 1)
            case rel => exact ⟨m + 1, by omega, by go_num, by rw [HST.out, Int.add_zero], rfl⟩
            case measure => omega
    · have hlt : (k : Int) < (n : Int) := by omega
      have hlt2 : k < n := by omega
      obtain ⟨b, off, rfl, hb, hc⟩ := H.out.at (by omega)
      have hck := hc k hlt2
      have hst := ones_take (l := xs) (k := k) (by have := HL.out; omega)
      obtain ⟨x, hx⟩ : ∃ x, xs.getD k 0 = x := ⟨_, rfl⟩
      rw [hx] at hck hst
      have hob : ones (xs.take k) ≤ 30 := by omega
      obtain ⟨V, hV⟩ : ∃ V, ones (xs.take k) = V := ⟨_, rfl⟩
      rw [hV] at on1 hob hst ⊢
      have k0 : (0 : Int) ≤ (k : Int) := by omega
      clear hV hkn on2 hx hc
      by_cases hx1 : x = 1
      · rw [if_pos hx1] at hst
        have HST := Lib.hid hst
        have hb1 : (x == 1) = true := by simp [hx1]
        clear hst hx1
        go_wp2
        go_roundg (gk - 1)
        case rel => exact ⟨k + 1, by omega, by go_num, by rw [HST.out], rfl⟩
        case measure => omega
      · rw [if_neg hx1] at hst
        have HST := Lib.hid hst
        have hb1 : (x == 1) = false := by simp [hx1]
        clear hst hx1
        go_wp2
        go_roundg (gk - 1)
        case rel => exact ⟨k + 1, by omega, by go_num, by rw [HST.out, Int.add_zero], rfl⟩
        case measure => omega
end Go.Proofs.Ytfecdpglcdhijaa
