/- The walks of slices.Compare, numeral.Less, and the reference's Add. Condition: the slices lie in memory. -/
import Derived.Test.YtbdabpmpfciibaaLawCodes
namespace Go.Proofs.Ytbdabpmpfciibaa
open Go.RowKit
attribute [local go_sem] Oper.semAt_some

theorem cmpL_drop {xs ys : List Int} {k : Nat} (h1 : k < xs.length) (h2 : k < ys.length) : cmpL (xs.drop k) (ys.drop k) = if xs.getD k 0 < ys.getD k 0 then -1 else if ys.getD k 0 < xs.getD k 0 then 1 else cmpL (xs.drop (k + 1)) (ys.drop (k + 1)) := by
  rw [drop_cons h1, drop_cons h2, cmpL]
theorem cmpL_end1 {xs ys : List Int} {k : Nat} (h1 : k < xs.length) (h2 : ys.length ≤ k) : cmpL (xs.drop k) (ys.drop k) = 1 := by
  rw [drop_cons h1, List.drop_of_length_le h2, cmpL]
theorem cmpL_end0 {xs ys : List Int} {k : Nat} (h1 : xs.length ≤ k) : cmpL (xs.drop k) (ys.drop k) = if k < ys.length then -1 else 0 := by
  rw [List.drop_of_length_le h1]
  by_cases h : k < ys.length
  · rw [drop_cons h, cmpL, if_pos h]
  · rw [List.drop_of_length_le (by omega), cmpL, if_neg h]

set_option maxHeartbeats 1000000 in
theorem compare_any (a1 a2 : Option Addr) (n m c d : Nat) (xs ys : List Int) (w : World) (h1 : Ints w a1 n xs) (h2 : Ints w a2 m ys) (hn : n ≤ 4611686018427387904) (hm : m ≤ 4611686018427387904) :
    Calls Try.prog 57 #[.slice a1 n c, .slice a2 m d] w fun e w' => e = .returned (.int .i64 (cmpL xs ys)) ∧ w' = w := by
  have H1 := Lib.hid h1
  have H2 := Lib.hid h2
  have L1 := Lib.hid h1.1
  have L2 := Lib.hid h2.1
  obtain ⟨V, hV⟩ : ∃ V, cmpL xs ys = V := ⟨_, rfl⟩
  rw [hV]
  have HV := Lib.hid hV
  clear h1 h2 hV
  go_enter Try.func57, Try.ntmps57
  go_wp2
  go_loopg [11] n (fun gk i wr => ∃ (k : Nat), k + gk = n ∧ i = .int .i64 (k : Int) ∧ cmpL (xs.drop k) (ys.drop k) = V ∧ wr = w)
  case atStart => exact ⟨0, by omega, rfl, HV.out, rfl⟩
  case round =>
    obtain ⟨k, hk, rfl, hc, rfl⟩ := hrel
    have HC := Lib.hid hc
    clear hc
    by_cases hkn : k = n
    · have hge : ¬ (k : Int) < (n : Int) := by omega
      have hge2 : ¬ k < n := by omega
      have he := cmpL_end0 (xs := xs) (ys := ys) (k := k) (by have := L1.out; omega)
      rw [HC.out] at he
      by_cases hm2 : k < ys.length
      · rw [if_pos hm2] at he
        have hlt : (n : Int) < (m : Int) := by have := L2.out; omega
        have hlt2 : n < m := by omega
        have HE := Lib.hid he
        clear hkn he hm2
        go_wp2
        go_ret
        exact ⟨ret_int HE.out.symm, rfl⟩
      · rw [if_neg hm2] at he
        have hlt : ¬ (n : Int) < (m : Int) := by have := L2.out; omega
        have hlt2 : ¬ n < m := by omega
        have HE := Lib.hid he
        clear hkn he hm2
        go_wp2
        go_ret
        exact ⟨ret_int HE.out.symm, rfl⟩
    · have hlt : (k : Int) < (n : Int) := by omega
      have hlt2 : k < n := by omega
      obtain ⟨b, off, rfl, hb, hc⟩ := H1.out.at (by omega)
      have hck := hc k hlt2
      have k0 : (0 : Int) ≤ (k : Int) := by omega
      obtain ⟨x, hx⟩ : ∃ x, xs.getD k 0 = x := ⟨_, rfl⟩
      rw [hx] at hck
      have HX := Lib.hid hx
      have hkl : k < xs.length := by have := L1.out; omega
      clear hc hx hkn
      by_cases hkm : k < m
      · have hkm2 : ¬ (m : Int) ≤ (k : Int) := by omega
        have hkm3 : (k : Int) < (m : Int) := by omega
        obtain ⟨b2, off2, rfl, hb2, hc2⟩ := H2.out.at (by omega)
        have hcy := hc2 k hkm
        obtain ⟨y, hy⟩ : ∃ y, ys.getD k 0 = y := ⟨_, rfl⟩
        rw [hy] at hcy
        have hst := cmpL_drop (xs := xs) (ys := ys) (k := k) hkl (by have := L2.out; omega)
        rw [HX.out, hy, HC.out] at hst
        have HK := Lib.hid hk
        clear hc2 hy hk
        by_cases h1 : x < y
        · rw [if_pos h1] at hst
          have HST := Lib.hid hst
          have hci : Lib.compareInt x y = -1 := by unfold Lib.compareInt; rw [if_pos h1]
          have HCI := Lib.hid hci
          clear hst hci
          go_wp2_with (go_at_call 87; refine (Try.cmp_Compare_int x y _).mono ?_; rintro e w' ⟨rfl, rfl⟩; rw [HCI.out])
          go_ret
          exact ⟨ret_int HST.out.symm, rfl⟩
        · rw [if_neg h1] at hst
          by_cases h2 : y < x
          · rw [if_pos h2] at hst
            have HST := Lib.hid hst
            have hci : Lib.compareInt x y = 1 := by unfold Lib.compareInt; rw [if_neg h1, if_pos h2]
            have HCI := Lib.hid hci
            clear hst hci
            go_wp2_with (go_at_call 87; refine (Try.cmp_Compare_int x y _).mono ?_; rintro e w' ⟨rfl, rfl⟩; rw [HCI.out])
            go_ret
            exact ⟨ret_int HST.out.symm, rfl⟩
          · rw [if_neg h2] at hst
            have HST := Lib.hid hst.symm
            have hci : Lib.compareInt x y = 0 := by unfold Lib.compareInt; rw [if_neg h1, if_neg h2]
            have HCI := Lib.hid hci
            clear hst hci
            go_wp2_with (go_at_call 87; refine (Try.cmp_Compare_int x y _).mono ?_; rintro e w' ⟨rfl, rfl⟩; rw [HCI.out])
            go_roundg (n - k - 1)
            case rel => exact ⟨k + 1, by have := HK.out; omega, by go_num, HST.out, rfl⟩
            case measure => have := HK.out; omega
      · have hkm2 : (m : Int) ≤ (k : Int) := by omega
        have hkm3 : m ≤ k := by omega
        have hst := cmpL_end1 (xs := xs) (ys := ys) (k := k) hkl (by have := L2.out; omega)
        rw [HC.out] at hst
        have HST := Lib.hid hst
        clear hst
        go_wp2
        go_ret
        exact ⟨ret_int HST.out.symm, rfl⟩
end Go.Proofs.Ytbdabpmpfciibaa
