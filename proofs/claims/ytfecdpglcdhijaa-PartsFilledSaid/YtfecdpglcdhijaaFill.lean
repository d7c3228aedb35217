/- The walks of partition.sum, fillable and fillings, of parts.Fillings and of the reference's Fillings: the factorial divided by the product of all hooks, as the machine counts, or the documented error. Condition: the slice lies in memory; for fillings it holds a partition of at most 20. -/
import Derived.Test.YtfecdpglcdhijaaRefHooks
import Derived.Test.YtfecdpglcdhijaaFillMath
import Derived.Test.YtfecdpglcdhijaaPent
namespace Go.Proofs.Ytfecdpglcdhijaa
open Go.RowKit
attribute [local go_sem] Oper.semAt_some

set_option maxHeartbeats 1000000 in
theorem psum_any (a : Option Addr) (n c : Nat) (xs : List Int) (w : World) (h : Ints w a n xs) (hn : n ≤ 1000) (hb : ∀ j, j < n → 0 ≤ xs.getD j 0 ∧ xs.getD j 0 ≤ 1000) :
    Calls Try.prog 94 #[.slice a n c] w fun e w' => e = .returned (.int .i64 (sumL xs)) ∧ w' = w := by
  have H := Lib.hid h
  have HL := Lib.hid h.1
  have HBD := Lib.hid hb
  clear h hb
  go_enter Try.func94, Try.ntmps94
  go_wp2
  go_loopg [3, 8] n (fun gk o i wr => ∃ (k : Nat), k + gk = n ∧ i = .int .i64 (k : Int) ∧ o = .int .i64 (sumL (xs.take k)) ∧ 0 ≤ sumL (xs.take k) ∧ sumL (xs.take k) ≤ 1000 * (k : Int) ∧ wr = w)
  case atStart => exact ⟨0, by omega, rfl, rfl, by simp [sumL], by simp [sumL], rfl⟩
  case round =>
    obtain ⟨k, hk, rfl, rfl, h1, h2, rfl⟩ := hrel
    by_cases hkn : k = n
    · have hge : ¬ (k : Int) < (n : Int) := by omega
      have hge2 : ¬ k < n := by omega
      rw [List.take_of_length_le (by have := HL.out; omega)] at h1 h2 ⊢
      obtain ⟨V, hV⟩ : ∃ V, sumL xs = V := ⟨_, rfl⟩
      rw [hV] at h1 h2 ⊢
      have HV := Lib.hid hV
      clear hV hkn h2
      go_wp2
      go_ret
      exact ⟨ret_int HV.out.symm, rfl⟩
    · have hlt : (k : Int) < (n : Int) := by omega
      have hlt2 : k < n := by omega
      obtain ⟨b, off, rfl, hb, hc⟩ := H.out.at (by omega)
      have hck := hc k hlt2
      obtain ⟨x1, x2⟩ := HBD.out k hlt2
      have hst := sumL_take (l := xs) (k := k) (by have := HL.out; omega)
      obtain ⟨x, hx⟩ : ∃ x, xs.getD k 0 = x := ⟨_, rfl⟩
      rw [hx] at hck hst x1 x2
      obtain ⟨V, hV⟩ : ∃ V, sumL (xs.take k) = V := ⟨_, rfl⟩
      rw [hV] at h1 h2 hst ⊢
      have HST := Lib.hid hst
      have k0 : (0 : Int) ≤ (k : Int) := by omega
      clear hV hx hkn hc hst
      go_wp2
      go_roundg (gk - 1)
      case rel => exact ⟨k + 1, by omega, by go_num, by rw [HST.out], by rw [HST.out]; omega, by rw [HST.out]; omega, rfl⟩
      case measure => omega

set_option maxHeartbeats 4000000 in
set_option maxRecDepth 100000 in
theorem fillings_any (a : Option Addr) (n c : Nat) (xs : List Int) (w : World) (h : Ints w a n xs) (hP : isP xs = true) (hs20 : sumL xs ≤ 20) (hcn : n ≤ c) (hcm : c ≤ maxLen) :
    Calls Try.prog 83 #[.slice a n c] w fun e w' => e = .returned (.int .i64 (factF (sumL xs).toNat / prodF xs)) ∧ Below w.heap.size w w' := by
  have hl := h.1
  have hn := isP_len hP
  rw [hl] at hn
  have hbd : ∀ j, j < n → 0 ≤ xs.getD j 0 ∧ xs.getD j 0 ≤ 1000 := fun j hj => by have := isP_at hP (j := j) (by rw [hl]; exact hj); omega
  have hsum := isP_sum hP
  obtain ⟨S, hS⟩ : ∃ S : Nat, sumL xs = (S : Int) := ⟨(sumL xs).toNat, by omega⟩
  have hpr := prod_all hP hs20
  have hfa := fact_all (k := S) (by omega)
  have hpd : prodF xs = prodTo (hooksL xs) n := by unfold prodF; rw [hl]
  have HSM := Lib.hid (psum_any a n c xs w h (by omega) hbd)
  have HHK := Lib.hid (fun W (hW : Ints W a n xs) => hooks_any a n c xs W hW hP hcn hcm)
  have H := Lib.hid h
  have HP := Lib.hid hP
  have HL := Lib.hid hl
  have HS := Lib.hid hS
  have HPD := Lib.hid hpd
  have hS20 : S ≤ 20 := by omega
  rw [hS, Int.toNat_natCast]
  obtain ⟨FA, hFA⟩ : ∃ FA, factF S = FA := ⟨_, rfl⟩
  obtain ⟨PR, hPR⟩ : ∃ PR, prodF xs = PR := ⟨_, rfl⟩
  rw [hFA] at hfa ⊢
  rw [hPR] at hpr ⊢
  have HFA := Lib.hid hFA
  have HPR := Lib.hid hPR
  clear h hP hl hbd hsum hS hpd hFA hPR hs20
  go_enter Try.func83, Try.ntmps83
  go_wp2_with (go_at_call 94; refine HSM.out.mono ?_; rintro e w ⟨rfl, rfl⟩; rw [HS.out])
  go_loopg [3, 12] S (fun gk f i wr => ∃ (k : Nat), k + gk = S ∧ i = .int .i64 (k : Int) ∧ f = .int .i64 (factF k) ∧ wr = w)
  case atStart => exact ⟨0, by omega, rfl, rfl, rfl⟩
  case round =>
    obtain ⟨k, hk, rfl, rfl, rfl⟩ := hrel
    by_cases hkS : k = S
    · have hge : ¬ (k : Int) < (S : Int) := by omega
      have hge2 : ¬ k < S := by omega
      have hfk : factF k = FA := by rw [hkS]; exact HFA.out
      rw [hfk]
      clear hkS hfk
      go_wp2_with (go_at_call 81; refine (HHK.out _ H.out).mono ?_; rintro e w1 ⟨g, rfl, ht, hb⟩; have HT := Lib.hid ht.read.1; have HB := Lib.hid hb; clear ht hb)
      go_loopg [4, 23] n (fun gk p i wr2 => ∃ (m : Nat), m + gk = n ∧ i = .int .i64 (m : Int) ∧ p = .int .i64 (prodTo (hooksL xs) m) ∧ wr2 = w1)
      case atStart => exact ⟨0, by omega, rfl, rfl, rfl⟩
      case round =>
        obtain ⟨m, hm, rfl, rfl, rfl⟩ := hrel
        by_cases hmn : m = n
        · have hge3 : ¬ (m : Int) < (n : Int) := by omega
          have hge4 : ¬ m < n := by omega
          have hpm : prodTo (hooksL xs) m = PR := by rw [hmn, ← HPD.out]; exact HPR.out
          rw [hpm]
          have hq0 : (PR == 0) = false := by simp; omega
          obtain ⟨hp1, hp2⟩ := hpr
          obtain ⟨hf1, hf2⟩ := hfa
          have hdiv1 : 0 ≤ FA / PR := Int.ediv_nonneg hf1 (by omega)
          have hdiv2 : FA / PR ≤ FA := Int.ediv_le_self _ hf1
          clear hmn hpm
          go_wp2
          go_ret
          exact ⟨rfl, HB.out⟩
        · have hltm : (m : Int) < (n : Int) := by omega
          have hltm2 : m < n := by omega
          have m0 : (0 : Int) ≤ (m : Int) := by omega
          rcases HT.out with h0 | ⟨b1, o1, he1, hb1, hc1⟩
          · rw [hooksL_len, HL.out] at h0; omega
          cases he1
          obtain ⟨ai, ci, hx1, hi1⟩ := hc1 m (by rw [hooksL_len, HL.out]; exact hltm2)
          (try rw [Nat.zero_add] at hx1)
          have hnx := prodTo_succ (L := hooksL xs) (i := m) (by rw [hooksL_len, HL.out]; exact hltm2)
          obtain ⟨row, hrow⟩ : ∃ row, nthL (hooksL xs) m = row := ⟨_, rfl⟩
          obtain ⟨P0, hP0⟩ : ∃ P0, prodTo (hooksL xs) m = P0 := ⟨_, rfl⟩
          rw [hrow] at hx1 hi1 hnx
          rw [hP0] at hnx ⊢
          have hrl : row.length ≤ 30 := by
            rw [← hrow, hooksL_at (by rw [HL.out]; exact hltm2)]
            have := isP_at HP.out (j := m) (by rw [HL.out]; exact hltm2)
            rw [hkL, hkPre, List.length_map, List.length_range]
            omega
          obtain ⟨X, hX⟩ : ∃ X, row.length = X := ⟨_, rfl⟩
          rw [hX] at hx1 hi1 hrl
          have HI1 := Lib.hid hi1
          have HX := Lib.hid hX
          have HNX := Lib.hid hnx
          clear hmn hc1 hb1 hi1 hrow hP0 hX hnx
          go_wp2_with fail
          go_loopg [4, 29] X (fun gk p i wr3 => ∃ (j : Nat), j + gk = X ∧ i = .int .i64 (j : Int) ∧ p = .int .i64 (mulF P0 (row.take j)) ∧ wr3 = wr)
          case atStart => exact ⟨0, by omega, rfl, rfl, rfl⟩
          case round =>
            obtain ⟨j, hj, rfl, rfl, rfl⟩ := hrel
            by_cases hjX : j = X
            · have hge5 : ¬ (j : Int) < (X : Int) := by omega
              have hge6 : ¬ j < X := by omega
              rw [List.take_of_length_le (by rw [HX.out]; omega)]
              obtain ⟨V, hV⟩ : ∃ V, mulF P0 row = V := ⟨_, rfl⟩
              rw [hV]
              have HV := Lib.hid hV
              clear hV hjX
              go_wp2_with fail
              go_roundg (n - m - 1)
              case rel => exact ⟨m + 1, by omega, by go_num, by rw [HNX.out, HV.out], rfl⟩
              case measure => omega
            · have hltj : (j : Int) < (X : Int) := by omega
              have hltj2 : j < X := by omega
              have j0 : (0 : Int) ≤ (j : Int) := by omega
              obtain ⟨b3, o3, rfl, hb3, hc3⟩ := HI1.out.at (by omega)
              have hx3 := hc3 j hltj2
              have hst := mulF_take (p := P0) (row := row) (j := j) (by rw [HX.out]; exact hltj2)
              obtain ⟨x, hx⟩ : ∃ x, row.getD j 0 = x := ⟨_, rfl⟩
              rw [hx] at hx3 hst
              obtain ⟨V, hV⟩ : ∃ V, mulF P0 (row.take j) = V := ⟨_, rfl⟩
              rw [hV] at hst ⊢
              have HST := Lib.hid hst
              clear hjX hc3 hb3 hx hV hst
              go_wp2_with fail
              go_roundg (gk - 1)
              case rel => exact ⟨j + 1, by omega, by go_num, by rw [HST.out], rfl⟩
              case measure => omega
    · have hlt : (k : Int) < (S : Int) := by omega
      have hlt2 : k < S := by omega
      have hfs : factF (k + 1) = wrap64 (factF k * ((k : Int) + 1)) := rfl
      obtain ⟨V, hV⟩ : ∃ V, factF k = V := ⟨_, rfl⟩
      rw [hV] at hfs ⊢
      have HFS := Lib.hid hfs
      have k0 : (0 : Int) ≤ (k : Int) := by omega
      clear hkS hfs hV
      go_wp2_with fail
      go_roundg (gk - 1)
      case rel => exact ⟨k + 1, by omega, by go_num, by rw [HFS.out], rfl⟩
      case measure => omega

set_option maxHeartbeats 4000000 in
set_option maxRecDepth 100000 in
theorem refFillings_any (a : Option Addr) (n c : Nat) (xs : List Int) (w : World) (h : Ints w a n xs) (hP : isP xs = true) (hs20 : sumL xs ≤ 20) :
    Calls Try.prog 50 #[.slice a n c] w fun e w' => e = .returned (.int .i64 (factF (sumL xs).toNat / prodF xs)) ∧ Below w.heap.size w w' := by
  have hl := h.1
  have hn := isP_len hP
  rw [hl] at hn
  have hbd : ∀ j, j < n → 0 ≤ xs.getD j 0 ∧ xs.getD j 0 ≤ 1000 := fun j hj => by have := isP_at hP (j := j) (by rw [hl]; exact hj); omega
  have hsum := isP_sum hP
  obtain ⟨S, hS⟩ : ∃ S : Nat, sumL xs = (S : Int) := ⟨(sumL xs).toNat, by omega⟩
  have hpr := prod_all hP hs20
  have hfa := fact_all (k := S) (by omega)
  have hpd : prodF xs = prodTo (hooksL xs) n := by unfold prodF; rw [hl]
  have HSM := Lib.hid (Sum_any a n c xs w h (by omega) hbd)
  have HHK := Lib.hid (fun W (hW : Ints W a n xs) => refHooks_any a n c xs W hW hP)
  have H := Lib.hid h
  have HP := Lib.hid hP
  have HL := Lib.hid hl
  have HS := Lib.hid hS
  have HPD := Lib.hid hpd
  have hS20 : S ≤ 20 := by omega
  rw [hS, Int.toNat_natCast]
  obtain ⟨FA, hFA⟩ : ∃ FA, factF S = FA := ⟨_, rfl⟩
  obtain ⟨PR, hPR⟩ : ∃ PR, prodF xs = PR := ⟨_, rfl⟩
  rw [hFA] at hfa ⊢
  rw [hPR] at hpr ⊢
  have HFA := Lib.hid hFA
  have HPR := Lib.hid hPR
  clear h hP hl hbd hsum hS hpd hFA hPR hs20
  go_enter Try.func50, Try.ntmps50
  go_wp2_with (go_at_call 49; refine HSM.out.mono ?_; rintro e w ⟨rfl, rfl⟩; rw [HS.out])
  go_loopg [3, 12] S (fun gk f i wr => ∃ (k : Nat), k + gk = S ∧ i = .int .i64 (k : Int) ∧ f = .int .i64 (factF k) ∧ wr = w)
  case atStart => exact ⟨0, by omega, rfl, rfl, rfl⟩
  case round =>
    obtain ⟨k, hk, rfl, rfl, rfl⟩ := hrel
    by_cases hkS : k = S
    · have hge : ¬ (k : Int) < (S : Int) := by omega
      have hge2 : ¬ k < S := by omega
      have hfk : factF k = FA := by rw [hkS]; exact HFA.out
      rw [hfk]
      clear hkS hfk
      go_wp2_with (go_at_call 48; refine (HHK.out _ H.out).mono ?_; rintro e w1 ⟨ao, co, rfl, ht, hb⟩; have HT := Lib.hid ht.read.1; have HB := Lib.hid hb; clear ht hb)
      go_loopg [4, 23] n (fun gk p i wr2 => ∃ (m : Nat), m + gk = n ∧ i = .int .i64 (m : Int) ∧ p = .int .i64 (prodTo (hooksL xs) m) ∧ wr2 = w1)
      case atStart => exact ⟨0, by omega, rfl, rfl, rfl⟩
      case round =>
        obtain ⟨m, hm, rfl, rfl, rfl⟩ := hrel
        by_cases hmn : m = n
        · have hge3 : ¬ (m : Int) < (n : Int) := by omega
          have hge4 : ¬ m < n := by omega
          have hpm : prodTo (hooksL xs) m = PR := by rw [hmn, ← HPD.out]; exact HPR.out
          rw [hpm]
          have hq0 : (PR == 0) = false := by simp; omega
          obtain ⟨hp1, hp2⟩ := hpr
          obtain ⟨hf1, hf2⟩ := hfa
          have hdiv1 : 0 ≤ FA / PR := Int.ediv_nonneg hf1 (by omega)
          have hdiv2 : FA / PR ≤ FA := Int.ediv_le_self _ hf1
          clear hmn hpm
          go_wp2
          go_ret
          exact ⟨rfl, HB.out⟩
        · have hltm : (m : Int) < (n : Int) := by omega
          have hltm2 : m < n := by omega
          have m0 : (0 : Int) ≤ (m : Int) := by omega
          rcases HT.out with h0 | ⟨b1, o1, he1, hb1, hc1⟩
          · rw [hooksL_len, HL.out] at h0; omega
          cases he1
          obtain ⟨ai, ci, hx1, hi1⟩ := hc1 m (by rw [hooksL_len, HL.out]; exact hltm2)
          (try rw [Nat.zero_add] at hx1)
          have hnx := prodTo_succ (L := hooksL xs) (i := m) (by rw [hooksL_len, HL.out]; exact hltm2)
          obtain ⟨row, hrow⟩ : ∃ row, nthL (hooksL xs) m = row := ⟨_, rfl⟩
          obtain ⟨P0, hP0⟩ : ∃ P0, prodTo (hooksL xs) m = P0 := ⟨_, rfl⟩
          rw [hrow] at hx1 hi1 hnx
          rw [hP0] at hnx ⊢
          have hrl : row.length ≤ 30 := by
            rw [← hrow, hooksL_at (by rw [HL.out]; exact hltm2)]
            have := isP_at HP.out (j := m) (by rw [HL.out]; exact hltm2)
            rw [hkL, hkPre, List.length_map, List.length_range]
            omega
          obtain ⟨X, hX⟩ : ∃ X, row.length = X := ⟨_, rfl⟩
          rw [hX] at hx1 hi1 hrl
          have HI1 := Lib.hid hi1
          have HX := Lib.hid hX
          have HNX := Lib.hid hnx
          clear hmn hc1 hb1 hi1 hrow hP0 hX hnx
          go_wp2_with fail
          go_loopg [4, 29] X (fun gk p i wr3 => ∃ (j : Nat), j + gk = X ∧ i = .int .i64 (j : Int) ∧ p = .int .i64 (mulF P0 (row.take j)) ∧ wr3 = wr)
          case atStart => exact ⟨0, by omega, rfl, rfl, rfl⟩
          case round =>
            obtain ⟨j, hj, rfl, rfl, rfl⟩ := hrel
            by_cases hjX : j = X
            · have hge5 : ¬ (j : Int) < (X : Int) := by omega
              have hge6 : ¬ j < X := by omega
              rw [List.take_of_length_le (by rw [HX.out]; omega)]
              obtain ⟨V, hV⟩ : ∃ V, mulF P0 row = V := ⟨_, rfl⟩
              rw [hV]
              have HV := Lib.hid hV
              clear hV hjX
              go_wp2_with fail
              go_roundg (n - m - 1)
              case rel => exact ⟨m + 1, by omega, by go_num, by rw [HNX.out, HV.out], rfl⟩
              case measure => omega
            · have hltj : (j : Int) < (X : Int) := by omega
              have hltj2 : j < X := by omega
              have j0 : (0 : Int) ≤ (j : Int) := by omega
              obtain ⟨b3, o3, rfl, hb3, hc3⟩ := HI1.out.at (by omega)
              have hx3 := hc3 j hltj2
              have hst := mulF_take (p := P0) (row := row) (j := j) (by rw [HX.out]; exact hltj2)
              obtain ⟨x, hx⟩ : ∃ x, row.getD j 0 = x := ⟨_, rfl⟩
              rw [hx] at hx3 hst
              obtain ⟨V, hV⟩ : ∃ V, mulF P0 (row.take j) = V := ⟨_, rfl⟩
              rw [hV] at hst ⊢
              have HST := Lib.hid hst
              clear hjX hc3 hb3 hx hV hst
              go_wp2_with fail
              go_roundg (gk - 1)
              case rel => exact ⟨j + 1, by omega, by go_num, by rw [HST.out], rfl⟩
              case measure => omega
    · have hlt : (k : Int) < (S : Int) := by omega
      have hlt2 : k < S := by omega
      have hfs : factF (k + 1) = wrap64 (factF k * ((k : Int) + 1)) := rfl
      obtain ⟨V, hV⟩ : ∃ V, factF k = V := ⟨_, rfl⟩
      rw [hV] at hfs ⊢
      have HFS := Lib.hid hfs
      have k0 : (0 : Int) ≤ (k : Int) := by omega
      clear hkS hfs hV
      go_wp2_with fail
      go_roundg (gk - 1)
      case rel => exact ⟨k + 1, by omega, by go_num, by rw [HFS.out], rfl⟩
      case measure => omega

set_option maxHeartbeats 1000000 in
theorem fillable_any (a : Option Addr) (n c : Nat) (xs : List Int) (w : World) (h : Ints w a n xs) (hn : n ≤ 4611686018427387904) :
    Calls Try.prog 82 #[.slice a n c] w fun e w' => e = .returned (.bool (isP xs && decide (sumL xs ≤ 20))) ∧ w' = w := by
  have HV := Lib.hid (valid_any a n c xs w h hn)
  by_cases hP : isP xs = true
  · have hbd : ∀ j, j < n → 0 ≤ xs.getD j 0 ∧ xs.getD j 0 ≤ 1000 := fun j hj => by have := isP_at hP (j := j) (by rw [h.1]; exact hj); omega
    have hn2 := isP_len hP
    rw [h.1] at hn2
    have HSM := Lib.hid (psum_any a n c xs w h (by omega) hbd)
    have HP := Lib.hid hP
    rw [hP, Bool.true_and]
    obtain ⟨S, hS⟩ : ∃ S, sumL xs = S := ⟨_, rfl⟩
    have HS := Lib.hid hS
    rw [hS]
    clear h hP hbd hS
    by_cases hs : S ≤ 20
    · have hd : decide (S ≤ 20) = true := by simpa using hs
      rw [hd]
      clear hd
      go_enter Try.func82, Try.ntmps82
      go_wp2_with (first | (go_at_call 62; refine HV.out.mono ?_; rintro e w' ⟨rfl, rfl⟩; rw [HP.out]) | (go_at_call 94; refine HSM.out.mono ?_; rintro e w' ⟨rfl, rfl⟩; rw [HS.out]))
      go_ret
      exact ⟨ret_bool (by simp [hs]), rfl⟩
    · have hd : decide (S ≤ 20) = false := by simpa using hs
      rw [hd]
      clear hd
      go_enter Try.func82, Try.ntmps82
      go_wp2_with (first | (go_at_call 62; refine HV.out.mono ?_; rintro e w' ⟨rfl, rfl⟩; rw [HP.out]) | (go_at_call 94; refine HSM.out.mono ?_; rintro e w' ⟨rfl, rfl⟩; rw [HS.out]))
      go_ret
      exact ⟨ret_bool (by simp [hs]), rfl⟩
  · have hP' : isP xs = false := by simpa using hP
    have HP := Lib.hid hP'
    rw [hP', Bool.false_and]
    clear h hP hP'
    go_enter Try.func82, Try.ntmps82
    go_wp2_with (go_at_call 62; refine HV.out.mono ?_; rintro e w' ⟨rfl, rfl⟩; rw [HP.out])
    go_ret
    exact ⟨rfl, rfl⟩

set_option maxHeartbeats 1000000 in
theorem Fillings_yes (a : Option Addr) (n c : Nat) (xs : List Int) (w : World) (h : Ints w a n xs) (hP : isP xs = true) (hs : sumL xs ≤ 20) (hcn : n ≤ c) (hcm : c ≤ maxLen) :
    Calls Try.prog 47 #[.slice a n c] w fun e w' => e = .returned (.tuple #[.int .i64 (factF (sumL xs).toNat / prodF xs), .int .i64 0]) ∧ Below w.heap.size w w' := by
  have hn := isP_len hP
  rw [h.1] at hn
  have HV := Lib.hid (fillable_any a n c xs w h (by omega))
  have HF := Lib.hid (fillings_any a n c xs w h hP hs hcn hcm)
  have hB : (isP xs && decide (sumL xs ≤ 20)) = true := by rw [hP]; simpa using hs
  have HB := Lib.hid hB
  obtain ⟨F, hF⟩ : ∃ F, factF (sumL xs).toNat / prodF xs = F := ⟨_, rfl⟩
  rw [hF] at HF ⊢
  clear h hP hs hB hF
  go_enter Try.func47, Try.ntmps47
  go_wp2_with (first | (go_at_call 82; refine HV.out.mono ?_; rintro e w' ⟨rfl, rfl⟩; rw [HB.out]) | (go_at_call 83; refine HF.out.mono ?_; rintro e w1 ⟨rfl, hb⟩; have HB1 := Lib.hid hb; clear hb) | go_in)
  go_ret2
  exact ⟨rfl, HB1.out⟩

set_option maxHeartbeats 1000000 in
theorem Fillings_no (a : Option Addr) (n c : Nat) (xs : List Int) (w : World) (h : Ints w a n xs) (hB : (isP xs && decide (sumL xs ≤ 20)) = false) (hn : n ≤ 4611686018427387904) :
    Calls Try.prog 47 #[.slice a n c] w fun e w' => e = .returned (.tuple #[.int .i64 0, .int .i64 2]) ∧ w' = w := by
  have HV := Lib.hid (fillable_any a n c xs w h hn)
  have HB := Lib.hid hB
  clear h hB
  go_enter Try.func47, Try.ntmps47
  go_wp2_with (first | (go_at_call 82; refine HV.out.mono ?_; rintro e w' ⟨rfl, rfl⟩; rw [HB.out]) | go_in)
  go_ret2
  exact ⟨rfl, rfl⟩
end Go.Proofs.Ytfecdpglcdhijaa
