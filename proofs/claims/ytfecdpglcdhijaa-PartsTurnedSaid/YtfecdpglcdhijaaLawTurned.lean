/- The law PartsTurned: its walk in every case. Condition: the slice lies in memory. -/
import Derived.Test.YtfecdpglcdhijaaHooks
namespace Go.Proofs.Ytfecdpglcdhijaa
open Go.RowKit

theorem rank_bd {xs : List Int} (hP : isP xs = true) : -30 ≤ rankL xs ∧ rankL xs ≤ 30 := by
  have hn := isP_len hP
  unfold rankL
  by_cases h0 : xs.length = 0
  · rw [if_pos h0]; omega
  · rw [if_neg h0]
    have := isP_at hP (j := 0) (by omega)
    omega

/-- The hooks of the columns are those turned over. -/
theorem hooks_turned {xs : List Int} (hP : isP xs = true) {i j : Nat} (hi : i < xs.length) (hj : (j : Int) < xs.getD i 0) :
    j < (conjL xs).length ∧ (i : Int) < (conjL xs).getD j 0 ∧ hkAt (conjL xs) j i = hkAt xs i j := by
  have h1 := isP_head hP hi
  have h2 : j < (xs.getD 0 0).toNat := by omega
  have hK := conj_isP hP
  have hc := conj_at h2
  have ho := (over_iff xs 30 30 hP (j : Int) i).2 ⟨hi, hj⟩
  have hcc : over (i : Int) (conjL xs) = xs.getD i 0 := by
    have hh := conj_head hP (by omega)
    rw [← conj_at (l := conjL xs) (j := i) (by rw [hh]; omega), conj_conj hP]
  refine ⟨by rw [conj_len]; exact h2, by rw [hc]; exact ho, ?_⟩
  unfold hkAt
  rw [hc, hcc]
  omega
theorem hkL_at {xs : List Int} {i j : Nat} (h : (j : Int) < xs.getD i 0) : (hkL xs i).getD j 0 = hkAt xs i j := by
  have : j < (xs.getD i 0).toNat := by omega
  unfold hkL hkPre
  rw [List.getD_eq_getElem?_getD, List.getElem?_map, List.getElem?_range this]
  rfl
theorem hkL_len (xs : List Int) (i : Nat) : (hkL xs i).length = (xs.getD i 0).toNat := by simp [hkL, hkPre]

set_option maxHeartbeats 4000000 in
set_option maxRecDepth 100000 in
theorem lawTurned_yes (a : Option Addr) (n c : Nat) (xs : List Int) (w : World) (h : Ints w a n xs) (hP : isP xs = true) (hc : n ≤ c) (hcm : c ≤ maxLen) :
    Calls Try.prog 10 #[.slice a n c] w fun e w' => e = .returned (.bool true) ∧ Below w.heap.size w w' := by
  have HT := Lib.hid (At.start h)
  have HP := Lib.hid hP
  have hn : n ≤ 30 := by have := isP_len hP; rw [h.1] at this; exact this
  have HC := Lib.hid (And.intro hc hcm)
  have HL := Lib.hid h.1
  have hKP := conj_isP hP
  have hKc := conj_conj hP
  have hKs := conj_sq hP
  have hKr := conj_rank hP
  have hrb := rank_bd hP
  have htn := fun i j => hooks_turned hP (i := i) (j := j)
  obtain ⟨K, hK⟩ : ∃ K, conjL xs = K := ⟨_, rfl⟩
  rw [hK] at hKP hKc hKs hKr
  rw [hK] at htn
  obtain ⟨k, hk⟩ : ∃ k, K.length = k := ⟨_, rfl⟩
  have hkl := isP_len hKP
  rw [hk] at hkl
  obtain ⟨R, hR⟩ : ∃ R, rankL xs = R := ⟨_, rfl⟩
  rw [hR] at hKr hrb
  have HK := Lib.hid hK
  have HKL := Lib.hid hk
  have HKP := Lib.hid hKP
  have HKC := Lib.hid hKc
  have HKS := Lib.hid hKs
  have HKR := Lib.hid hKr
  have HR := Lib.hid hR
  have HTN := Lib.hid htn
  obtain ⟨r1, r2⟩ := hrb
  clear h hP hc hcm hK hk hKP hKc hKs hKr hR htn
  go_enter Try.func10, Try.ntmps10
  go_wp2_with fail
  refine (list_yes a n c xs _ HT.out.i HP.out HC.out.1 HC.out.2).mono ?_
  rintro e w1 ⟨a1, c1, rfl, ho1, hc1, hm1, hb1⟩
  have T1 := Lib.hid (HT.out.later hb1)
  have O1 := Lib.hid (And.intro (Ints.own ho1).1 (And.intro hc1 hm1))
  clear ho1 hc1 hm1 hb1 HT
  go_wp2_with fail
  refine (Conjugate_yes a1 n c1 xs _ O1.out.1 HP.out O1.out.2.1 O1.out.2.2).mono ?_
  rintro e w2 ⟨a2, c2, rfl, ho2, hb2⟩
  rw [HK.out] at ho2 ⊢
  rw [HKL.out] at ho2 ⊢
  have T2 := Lib.hid (T1.out.later hb2)
  have A2 := Lib.hid (Ints.own ho2).1
  clear ho2 hb2 T1 O1
  go_wp2_with fail
  refine (clone_any a2 k c2 K _ A2.out (by omega)).mono ?_
  rintro e w3 ⟨a3, c3, rfl, ho3, hc3, hm3, hb3⟩
  have T3 := Lib.hid (T2.out.later hb3)
  have A3 := Lib.hid (A2.out.below hb3)
  have O3 := Lib.hid (And.intro (Ints.own ho3).1 (And.intro hc3 hm3))
  clear ho3 hc3 hm3 hb3 T2 A2
  go_wp2_with fail
  refine (Conjugate_yes a3 k c3 K _ O3.out.1 HKP.out O3.out.2.1 O3.out.2.2).mono ?_
  rintro e w4 ⟨a4, c4, rfl, ho4, hb4⟩
  rw [HKC.out] at ho4 ⊢
  rw [HL.out] at ho4 ⊢
  have T4 := Lib.hid (T3.out.later hb4)
  have A4 := Lib.hid (A3.out.below hb4)
  have B4 := Lib.hid (Ints.own ho4).1
  clear ho4 hb4 T3 A3 O3
  go_wp2_with fail
  refine (list_yes a n c xs _ T4.out.i HP.out HC.out.1 HC.out.2).mono ?_
  rintro e w5 ⟨a5, c5, rfl, ho5, -, -, hb5⟩
  have T5 := Lib.hid (T4.out.later hb5)
  have A5 := Lib.hid (A4.out.below hb5)
  have B5 := Lib.hid (B4.out.below hb5)
  have O5 := Lib.hid (Ints.own ho5).1
  clear ho5 hb5 T4 A4 B4
  go_wp2_with fail
  refine (Square_any a5 n c5 xs _ O5.out (by omega)).mono ?_
  rintro e w' ⟨rfl, rfl⟩
  rw [if_pos HP.out, if_pos HP.out]
  clear O5
  go_wp2_with fail
  refine (clone_any a2 k c2 K _ A5.out (by omega)).mono ?_
  rintro e w6 ⟨a6, c6, rfl, ho6, -, -, hb6⟩
  have T6 := Lib.hid (T5.out.later hb6)
  have A6 := Lib.hid (A5.out.below hb6)
  have B6 := Lib.hid (B5.out.below hb6)
  have O6 := Lib.hid (Ints.own ho6).1
  clear ho6 hb6 T5 A5 B5
  go_wp2_with fail
  refine (Square_any a6 k c6 K _ O6.out (by omega)).mono ?_
  rintro e w' ⟨rfl, rfl⟩
  rw [if_pos HKP.out, if_pos HKP.out, HKS.out]
  clear O6
  go_wp2_with fail
  refine (list_yes a n c xs _ T6.out.i HP.out HC.out.1 HC.out.2).mono ?_
  rintro e w7 ⟨a7, c7, rfl, ho7, -, -, hb7⟩
  have T7 := Lib.hid (T6.out.later hb7)
  have A7 := Lib.hid (A6.out.below hb7)
  have B7 := Lib.hid (B6.out.below hb7)
  have O7 := Lib.hid (Ints.own ho7).1
  clear ho7 hb7 T6 A6 B6
  go_wp2_with fail
  refine (Rank_any a7 n c7 xs _ O7.out (by omega)).mono ?_
  rintro e w' ⟨rfl, rfl⟩
  rw [if_pos HP.out, if_pos HP.out, HR.out]
  clear O7
  go_wp2_with fail
  refine (clone_any a2 k c2 K _ A7.out (by omega)).mono ?_
  rintro e w8 ⟨a8, c8, rfl, ho8, -, -, hb8⟩
  have T8 := Lib.hid (T7.out.later hb8)
  have A8 := Lib.hid (A7.out.below hb8)
  have B8 := Lib.hid (B7.out.below hb8)
  have O8 := Lib.hid (Ints.own ho8).1
  clear ho8 hb8 T7 A7 B7
  go_wp2_with fail
  refine (Rank_any a8 k c8 K _ O8.out (by omega)).mono ?_
  rintro e w' ⟨rfl, rfl⟩
  rw [if_pos HKP.out, if_pos HKP.out, HKR.out]
  clear O8
  go_wp2_with fail
  refine (list_yes a n c xs _ T8.out.i HP.out HC.out.1 HC.out.2).mono ?_
  rintro e w9 ⟨a9, c9, rfl, ho9, hc9, hm9, hb9⟩
  have T9 := Lib.hid (T8.out.later hb9)
  have A9 := Lib.hid (A8.out.below hb9)
  have B9 := Lib.hid (B8.out.below hb9)
  have O9 := Lib.hid (And.intro (Ints.own ho9).1 (And.intro hc9 hm9))
  clear ho9 hc9 hm9 hb9 T8 A8 B8
  go_wp2_with fail
  refine (Hooks_yes a9 n c9 xs _ O9.out.1 HP.out O9.out.2.1 O9.out.2.2).mono ?_
  rintro e w10 ⟨gh, rfl, hth, hb10⟩
  have T10 := Lib.hid (T9.out.later hb10)
  have A10 := Lib.hid (A9.out.below hb10)
  have B10 := Lib.hid (B9.out.below hb10)
  have H10 := Lib.hid hth.read.1
  clear hth hb10 T9 A9 B9 O9
  go_wp2_with fail
  refine (clone_any a2 k c2 K _ A10.out (by omega)).mono ?_
  rintro e w11 ⟨a11, c11, rfl, ho11, hc11, hm11, hb11⟩
  have T11 := Lib.hid (T10.out.later hb11)
  have B11 := Lib.hid (B10.out.below hb11)
  have H11 := Lib.hid (H10.out.below hb11)
  have O11 := Lib.hid (And.intro (Ints.own ho11).1 (And.intro hc11 hm11))
  clear ho11 hc11 hm11 hb11 T10 A10 B10 H10
  go_wp2_with fail
  refine (Hooks_yes a11 k c11 K _ O11.out.1 HKP.out O11.out.2.1 O11.out.2.2).mono ?_
  rintro e w12 ⟨gk, rfl, htk, hb12⟩
  have T12 := Lib.hid (T11.out.later hb12)
  have B12 := Lib.hid (B11.out.below hb12)
  have H12 := Lib.hid (H11.out.below hb12)
  have G12 := Lib.hid htk.read.1
  clear htk hb12 T11 B11 H11 O11
  go_wp2_with fail
  refine (equal_any _ _ _ _ _ _ xs xs _ B12.out T12.out.i (by omega) (by omega)).mono ?_
  rintro e w13 ⟨rfl, q, rfl⟩
  rw [beq_self_eq_true]
  have T13 := Lib.hid (T12.out.later (below_drewN (Below.refl _ _) q))
  have H13 := Lib.hid (H12.out.below (below_drewN (Below.refl _ _) q))
  have G13 := Lib.hid (G12.out.below (below_drewN (Below.refl _ _) q))
  obtain ⟨W, hW⟩ : ∃ W, w12.drewN q = W := ⟨_, rfl⟩
  rw [hW] at T13 H13 G13 ⊢
  clear T12 B12 H12 G12 hW
  go_wp2_with fail
  go_loopg [137] n (fun gk i wr => ∃ (m : Nat), m + gk = n ∧ i = .int .i64 (m : Int) ∧ wr = W)
  case atStart => exact ⟨0, by omega, rfl, rfl⟩
  case round =>
    obtain ⟨i, hi, rfl, rfl⟩ := hrel
    by_cases hin : i = n
    · have hge : ¬ (i : Int) < (n : Int) := by omega
      have hge2 : ¬ i < n := by omega
      clear hin
      go_wp2_with fail
      refine (awake_any _).mono ?_
      rintro e w14 ⟨rfl, hb14⟩
      have T14 := Lib.hid (T13.out.later hb14)
      clear hb14
      go_wp2_with fail
      go_ret
      exact ⟨rfl, T14.out.b⟩
    · have hlt : (i : Int) < (n : Int) := by omega
      have hlt2 : i < n := by omega
      have i0 : (0 : Int) ≤ (i : Int) := by omega
      rcases H13.out with h0 | ⟨b1, o1, he1, hb1, hc1⟩
      · rw [hooksL_len, HL.out] at h0; omega
      cases he1
      obtain ⟨ai, ci, hx1, hi1⟩ := hc1 i (by rw [hooksL_len, HL.out]; exact hlt2)
      rw [hooksL_at (by rw [HL.out]; exact hlt2)] at hx1 hi1
      obtain ⟨X, hX⟩ : ∃ X, (hkL xs i).length = X := ⟨_, rfl⟩
      have hX2 := hX
      rw [hkL_len] at hX2
      have hxb := isP_at HP.out (j := i) (by rw [HL.out]; exact hlt2)
      rw [hX] at hx1 hi1
      have hXb : X ≤ 30 := by omega
      have HI1 := Lib.hid hi1
      have HX := Lib.hid (show xs.getD i 0 = (X : Int) by omega)
      rw [Nat.zero_add] at hx1
      clear hin hc1 hb1 hX hX2 hxb hi1
      go_wp2_with fail
      go_loopg [144] X (fun gk j wr2 => ∃ (m : Nat), m + gk = X ∧ j = .int .i64 (m : Int) ∧ wr2 = wr)
      case atStart => exact ⟨0, by omega, rfl, rfl⟩
      case round =>
        obtain ⟨j, hj, rfl, rfl⟩ := hrel
        by_cases hjX : j = X
        · have hge : ¬ (j : Int) < (X : Int) := by omega
          have hge2 : ¬ j < X := by omega
          clear hjX
          go_wp2_with fail
          go_roundg (n - i - 1)
          case rel => exact ⟨i + 1, by omega, by go_num, rfl⟩
          case measure => omega
        · have hltj : (j : Int) < (X : Int) := by omega
          have hltj2 : j < X := by omega
          have j0 : (0 : Int) ≤ (j : Int) := by omega
          obtain ⟨t1, t2, t3⟩ := HTN.out i j (by rw [HL.out]; exact hlt2) (by rw [HX.out]; exact hltj)
          rw [HKL.out] at t1
          obtain ⟨b3, o3, rfl, hb3, hc3⟩ := HI1.out.at (by omega)
          have hx3 := hc3 j hltj2
          rw [hkL_at (by rw [HX.out]; exact hltj)] at hx3
          rcases G13.out with h0 | ⟨b2, o2, he2, hb2, hc2⟩
          · rw [hooksL_len, HKL.out] at h0; omega
          cases he2
          obtain ⟨aj, cj, hx2, hi2⟩ := hc2 j (by rw [hooksL_len, HKL.out]; exact t1)
          rw [hooksL_at (by rw [HKL.out]; exact t1)] at hx2 hi2
          obtain ⟨Y, hY⟩ : ∃ Y, (hkL K j).length = Y := ⟨_, rfl⟩
          have hY2 := hY
          rw [hkL_len] at hY2
          rw [hY] at hx2 hi2
          have hiY : i < Y := by omega
          obtain ⟨b4, o4, rfl, hb4, hc4⟩ := hi2.at (by omega)
          have hx4 := hc4 i hiY
          rw [hkL_at t2, t3] at hx4
          obtain ⟨V, hV⟩ : ∃ V, hkAt xs i j = V := ⟨_, rfl⟩
          rw [hV] at hx3 hx4
          rw [Nat.zero_add] at hx2
          have hkj : (j : Int) < (k : Int) := by omega
          have hkj2 : ¬ (k : Int) ≤ (j : Int) := by omega
          have hiY2 : (i : Int) < (Y : Int) := by omega
          have hiY3 : ¬ (Y : Int) ≤ (i : Int) := by omega
          clear hjX hc3 hc2 hb2 hb3 hb4 hc4 t2 t3 hY hY2 hV hi2
          go_wp2_with fail
          go_roundg (gk - 1)
          case rel => exact ⟨j + 1, by omega, by go_num, rfl⟩
          case measure => omega

set_option maxHeartbeats 2000000 in
set_option maxRecDepth 100000 in
theorem lawTurned_no (a : Option Addr) (n c : Nat) (xs : List Int) (w : World) (h : Ints w a n xs) (hP : isP xs = false) (hc : n ≤ c) (hn : n ≤ 4611686018427387904) (hcm : c ≤ maxLen) :
    Calls Try.prog 10 #[.slice a n c] w fun e w' => e = .returned (.bool true) ∧ Below w.heap.size w w' := by
  have HT := Lib.hid (At.start h)
  have HP := Lib.hid hP
  have HC := Lib.hid (And.intro hc (And.intro hn hcm))
  clear h hP hc hn hcm
  go_enter Try.func10, Try.ntmps10
  go_wp2_with fail
  refine (list_no a n c xs _ HT.out.i HP.out HC.out.1 HC.out.2.1 HC.out.2.2).mono ?_
  rintro e w1 ⟨a1, c1, m1, ys1, rfl, hm1, hy1, ho1, -, -, hb1⟩
  have T1 := Lib.hid (HT.out.later hb1)
  have O1 := Lib.hid (And.intro (Ints.own ho1).1 hy1)
  clear ho1 hy1 hb1 HT
  go_wp2_with fail
  refine (Conjugate_no a1 m1 c1 ys1 _ O1.out.1 O1.out.2 (by omega)).mono ?_
  rintro e w' ⟨rfl, rfl⟩
  clear O1
  go_wp2_with fail
  refine (awake_any _).mono ?_
  rintro e w2 ⟨rfl, hb2⟩
  have T2 := Lib.hid (T1.out.later hb2)
  clear hb2 T1
  go_wp2_with fail
  go_ret
  exact ⟨rfl, T2.out.b⟩

theorem lawTurned_any (a : Option Addr) (n c : Nat) (xs : List Int) (w : World) (h : Ints w a n xs) (hc : n ≤ c) (hn : n ≤ 4611686018427387904) (hcm : c ≤ maxLen) :
    Calls Try.prog 10 #[.slice a n c] w fun e w' => e = .returned (.bool true) ∧ Below w.heap.size w w' := by
  by_cases hP : isP xs = true
  · exact lawTurned_yes a n c xs w h hP hc hcm
  · exact lawTurned_no a n c xs w h (by simpa using hP) hc hn hcm
end Go.Proofs.Ytfecdpglcdhijaa
