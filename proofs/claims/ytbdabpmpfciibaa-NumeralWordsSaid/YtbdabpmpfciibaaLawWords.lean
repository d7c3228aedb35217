/- The walk of the reference's Word, and of the law NumeralWords. No condition. -/
import Derived.Test.YtbdabpmpfciibaaWord
namespace Go.Proofs.Ytbdabpmpfciibaa
open Go.RowKit
attribute [local go_sem] Oper.semAt_some

theorem str_app (xs : List Int) (x : Int) (b : UInt8) (h : UInt8.ofNat x.toNat = b) : strOfNums xs ++ (⟨#[b]⟩ : ByteArray) = strOfNums (xs ++ [x]) := by
  apply ByteArray.ext
  simp [strOfNums, ByteArray.data_append, h]
theorem wordS_succ (k : Nat) : wordS (k + 1) = strOfNums (lettL k ++ [lett k]) := by unfold wordS; rw [lettL_succ]
theorem wordS_0 : wordS 0 = ⟨#[]⟩ := rfl
theorem word_one {k : Nat} (h : lettB k = true) : wordS k ++ (⟨#[49]⟩ : ByteArray) = wordS (k + 1) := by
  rw [wordS_succ]
  unfold wordS
  exact str_app _ _ _ (by unfold lett; rw [if_pos h]; rfl)
theorem word_zero {k : Nat} (h : lettB k = false) : wordS k ++ (⟨#[48]⟩ : ByteArray) = wordS (k + 1) := by
  rw [wordS_succ]
  unfold wordS
  exact str_app _ _ _ (by unfold lett; rw [h]; rfl)
theorem enc_0 : enc 0 = [] := by decide +kernel

set_option maxHeartbeats 4000000 in
set_option maxRecDepth 100000 in
theorem refWord_any (n : Nat) (w : World) (hn : n ≤ 2000) :
    Calls Try.prog 37 #[.int .i64 (n : Int)] w fun e w' => e = .returned (.string (wordS n)) ∧ Below w.heap.size w w' := by
  go_enter Try.func37, Try.ntmps37
  go_wp2
  go_loopg [3, 4, 5, 7] n (fun gk s u4 u5 i wr => ∃ (k : Nat), k + gk = n ∧ i = .int .i64 (k : Int) ∧ s = .string (wordS k) ∧ Below w.heap.size w wr)
  case atStart => exact ⟨0, by omega, rfl, rfl, Below.refl _ _⟩
  case round =>
    obtain ⟨k, hk, rfl, rfl, hb⟩ := hrel
    have HB := Lib.hid hb
    clear hb
    by_cases hkn : k = n
    · have hge : ¬ (k : Int) < (n : Int) := by omega
      have hge2 : ¬ k < n := by omega
      obtain ⟨S, hS⟩ : ∃ S, wordS k = S := ⟨_, rfl⟩
      have hS2 : wordS n = S := by rw [← hkn]; exact hS
      rw [hS]
      have HS := Lib.hid hS2
      clear hkn hk hS hS2
      go_wp2
      go_ret
      exact ⟨by rw [HS.out]; rfl, HB.out⟩
    · have hlt : (k : Int) < (n : Int) := by omega
      have hlt2 : k < n := by omega
      have k0 : (0 : Int) ≤ (k : Int) := by omega
      have hnum := isNum_mk (n := (k : Int)) (by omega) (by omega)
      have HE := Lib.hid (fun w => refEncodeI (k : Int) hnum w)
      have hsz := wordS_size k
      have hw1 := word_one (k := k)
      have hw0 := word_zero (k := k)
      obtain ⟨S, hS⟩ : ∃ S, wordS k = S := ⟨_, rfl⟩
      rw [hS] at hsz hw1 hw0 ⊢
      obtain ⟨S2, hS2⟩ : ∃ S2, wordS (k + 1) = S2 := ⟨_, rfl⟩
      rw [hS2] at hw1 hw0
      have HS2 := Lib.hid hS2
      have HW1 := Lib.hid hw1
      have HW0 := Lib.hid hw0
      have HK := Lib.hid hk
      have z1 : (⟨#[49]⟩ : ByteArray).size = 1 := rfl
      have z0 : (⟨#[48]⟩ : ByteArray).size = 1 := rfl
      have hif : ¬ 9223372036854775807 < k + 1 := by omega
      have hif2 : k + 1 ≤ 9223372036854775807 := by omega
      clear hw1 hw0 hS hS2 hk hkn
      by_cases hk0 : k = 0
      · have hL : enc (k : Int) = [] := by rw [hk0]; exact enc_0
        have hl : lettB k = false := by unfold lettB; rw [hk0]; rfl
        have HAPP := Lib.hid (HW0.out hl)
        rw [hL] at HE
        clear hk0 hL hl hnum
        go_wp2_with fail
        refine (HE.out _).mono ?_
        rintro e w1 ⟨a, N, c, rfl, hi, -, -, -, hb⟩
        have hN : N = 0 := hi.1.symm
        subst hN
        have HB1 := Lib.hid (HB.out.trans (hb.mono HB.out.size))
        have happ := HAPP.out
        clear hi hb
        go_wp2
        go_roundg (n - k - 1)
        case rel => exact ⟨k + 1, by have := HK.out; omega, by go_num, by rw [HS2.out], HB1.out⟩
        case measure => have := HK.out; omega
      · have hne := enc_ne hnum (by omega)
        have hlg := lastF_getD (enc (k : Int))
        obtain ⟨L, hL⟩ : ∃ L, enc (k : Int) = L := ⟨_, rfl⟩
        have hlb : lettB k = decide (lastF L = 2) := by unfold lettB; rw [hL]; simp; omega
        rw [hL] at HE hne hlg
        obtain ⟨y, hy⟩ : ∃ y, lastF L = y := ⟨_, rfl⟩
        rw [hy] at hlg hlb
        have HNE := Lib.hid hne
        have HLG := Lib.hid hlg
        have HLB := Lib.hid hlb
        clear hk0 hL hnum hne hlg hlb hy
        go_wp2_with fail
        refine (HE.out _).mono ?_
        rintro e w1 ⟨a, N, c, rfl, hi, hN, -, -, hb⟩
        obtain ⟨j, hj⟩ : ∃ j, N = j + 1 := ⟨N - 1, by
          have h1 := hi.1
          have h2 : L.length ≠ 0 := fun h => HNE.out (List.length_eq_zero_iff.1 h)
          omega⟩
        have hlen := hi.1
        obtain ⟨b, off, rfl, hb2, hc⟩ := hi.at (by omega)
        have hcj := hc j (by omega)
        have hyy := HLG.out
        rw [hlen, hj, Nat.add_sub_cancel] at hyy
        rw [← hyy] at hcj
        have hpos : (0 : Int) < (N : Int) := by omega
        have hpos2 : 0 < N := by omega
        have hidx : (N : Int) - 1 = (j : Int) := by omega
        have g0 : (0 : Int) ≤ (j : Int) := by omega
        have g1 : (j : Int) < (N : Int) := by omega
        have g2 : j < N := by omega
        have HB1 := Lib.hid (HB.out.trans (hb.mono HB.out.size))
        clear hi hb hc hlen hyy hj
        by_cases h2 : y = 2
        · have happ := HW1.out (by rw [HLB.out]; simp [h2])
          have hyb : (y == 2) = true := by simp [h2]
          clear h2
          go_wp2
          go_roundg (n - k - 1)
          case rel => exact ⟨k + 1, by have := HK.out; omega, by go_num, by rw [HS2.out], HB1.out⟩
          case measure => have := HK.out; omega
        · have happ := HW0.out (by rw [HLB.out]; simp [h2])
          have hyb : (y == 2) = false := by simp [h2]
          clear h2
          go_wp2
          go_roundg (n - k - 1)
          case rel => exact ⟨k + 1, by have := HK.out; omega, by go_num, by rw [HS2.out], HB1.out⟩
          case measure => have := HK.out; omega

set_option maxHeartbeats 2000000 in
theorem Word_no (n : Int) (w : World) (h : n < 0 ∨ 2000 < n) :
    Calls Try.prog 36 #[.int .i64 n] w fun e w' => e = .returned (.tuple #[.string ⟨#[]⟩, .int .i64 2]) ∧ w' = w := by
  by_cases h0 : n < 0
  · clear h
    go_enter Try.func36, Try.ntmps36
    go_wp2
    go_ret2
    exact ⟨rfl, rfl⟩
  · have h1 : 2000 < n := by omega
    clear h
    go_enter Try.func36, Try.ntmps36
    go_wp2
    go_ret2
    exact ⟨rfl, rfl⟩

set_option maxHeartbeats 4000000 in
theorem lawWords_any (n : Int) (w : World) :
    Calls Try.prog 6 #[.int .i64 n] w fun e w' => e = .returned (.bool true) ∧ Below w.heap.size w w' := by
  by_cases h : n < 0 ∨ 2000 < n
  · have HW := Lib.hid (Word_no n w h)
    by_cases h0 : n < 0
    · clear h
      go_enter Try.func6, Try.ntmps6
      go_wp2_with fail
      refine HW.out.mono ?_
      rintro e w' ⟨rfl, rfl⟩
      go_wp2_with fail
      refine (awake_any _).mono ?_
      rintro e w1 ⟨rfl, hb⟩
      have HB := Lib.hid hb
      clear hb
      go_wp2
      go_ret
      exact ⟨rfl, HB.out⟩
    · have h1 : 2000 < n := by omega
      clear h
      go_enter Try.func6, Try.ntmps6
      go_wp2_with fail
      refine HW.out.mono ?_
      rintro e w' ⟨rfl, rfl⟩
      go_wp2_with fail
      refine (awake_any _).mono ?_
      rintro e w1 ⟨rfl, hb⟩
      have HB := Lib.hid hb
      clear hb
      go_wp2
      go_ret
      exact ⟨rfl, HB.out⟩
  · obtain ⟨m, rfl⟩ : ∃ m : Nat, n = (m : Int) := ⟨n.toNat, by omega⟩
    have HW := Lib.hid (Word_yes m w (by omega))
    have HR := Lib.hid (fun w => refWord_any m w (by omega))
    have h0 : ¬ (m : Int) < 0 := by omega
    have h1 : ¬ (2000 : Int) < (m : Int) := by omega
    obtain ⟨S, hS⟩ : ∃ S, wordS m = S := ⟨_, rfl⟩
    rw [hS] at HW HR
    clear h hS
    go_enter Try.func6, Try.ntmps6
    go_wp2_with fail
    refine HW.out.mono ?_
    rintro e w1 ⟨rfl, hb1⟩
    have HB1 := Lib.hid hb1
    clear hb1
    go_wp2_with fail
    refine (HR.out _).mono ?_
    rintro e w2 ⟨rfl, hb2⟩
    have HB2 := Lib.hid (HB1.out.trans (hb2.mono HB1.out.size))
    clear hb2
    go_wp2_with fail
    refine (awake_any _).mono ?_
    rintro e w3 ⟨rfl, hb3⟩
    have HB3 := Lib.hid (HB2.out.trans (hb3.mono HB2.out.size))
    clear hb3
    go_wp2
    go_ret
    exact ⟨rfl, HB3.out⟩
end Go.Proofs.Ytbdabpmpfciibaa
