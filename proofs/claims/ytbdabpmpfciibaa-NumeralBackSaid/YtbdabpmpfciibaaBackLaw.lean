/- The law NumeralBack: its walk in every case (written by tools/lawback.py). Condition: the slice lies in memory. -/
import Derived.Test.YtbdabpmpfciibaaLawBack
namespace Go.Proofs.Ytbdabpmpfciibaa
open Go.RowKit

set_option maxHeartbeats 8000000 in
set_option maxRecDepth 100000 in
theorem lawBack_lt (m n : Int) (a : Option Addr) (p c : Nat) (xs : List Int) (w : World) (h : Ints w a p xs) (hc : p ≤ c) (hp : p ≤ 4611686018427387904) (hcm : c ≤ maxLen) (hm : isNum m = true) (hn : isNum n = true) (hlt : m < n) :
    Calls Try.prog 10 #[.int .i64 m, .int .i64 n, .slice a p c] w fun e w' => e = .returned (.bool true) ∧ Below w.heap.size w w' := by
  have H0 := Lib.hid h
  have HC := Lib.hid (And.intro hc hcm)
  have HVT := Lib.hid (And.intro (vV_take xs) (vE_take xs))
  have E1 := Lib.hid (show enE m = 0 by unfold enE; rw [if_pos hm])
  have E2 := Lib.hid (show enE n = 0 by unfold enE; rw [if_pos hn])
  have L1 := Lib.hid (show enN m = enc m by unfold enN; rw [if_pos hm])
  have L2 := Lib.hid (show enN n = enc n by unfold enN; rw [if_pos hn])
  have HM := Lib.hid (vV_enc hm)
  have HNN := Lib.hid (vV_enc hn)
  obtain ⟨f1, f2, f3, f4, f5⟩ := tail_facts hm hn
  have hd : decide (m < n) = true := by simpa using hlt
  rw [hd] at f1
  obtain ⟨C, hC⟩ : ∃ C, cmpL (enc m) (enc n) = C := ⟨_, rfl⟩
  rw [hC] at f3
  have HCM := Lib.hid hC
  have hC0 : C < 0 := f3.2 hlt
  have HF := Lib.hid (And.intro f1 (And.intro f2 (And.intro f4 f5)))
  have m0 := (isNum_yes hm).1
  have m1 := (isNum_yes hm).2
  have n0 := (isNum_yes hn).1
  have n1' := (isNum_yes hn).2
  clear h hc hcm hm hn f1 f2 f3 f4 f5 hd hC
  go_enter Try.func10, Try.ntmps10
  go_wp2_with fail
  refine (EncodeA m _).mono ?_
  rintro e w1 ⟨a1, n1, c1, rfl, hi1, hn1, -, -, hb1⟩
  rw [E1.out]
  go_wp2_with fail
  refine (EncodeA n _).mono ?_
  rintro e w2 ⟨a2, n2, c2, rfl, hi2, hn2, -, -, hb2⟩
  rw [E2.out]
  have T2 := Lib.hid (B3.mk (hb1.trans (hb2.mono hb1.size)) ((H0.out.below hb1).below hb2) (hi1.below hb2) hi2)
  rw [L1.out, L2.out] at T2
  have HN := Lib.hid (And.intro hn1 hn2)
  clear hi1 hi2 hb1 hb2
  go_wp2_with fail
  refine (list_row a p c xs _ T2.out.x HC.out.1 hp HC.out.2).mono ?_
  rintro e w3 ⟨a3, n3, c3, rfl, hn3, hi3, -, -, hb3⟩
  have T3 := Lib.hid (T2.out.later hb3)
  have I3 := Lib.hid hi3
  clear hi3 hb3 T2
  go_wp2_with fail
  refine (Value_any a3 n3 c3 _ _ I3.out (by omega)).mono ?_
  rintro e w4 ⟨rfl, hb4⟩
  rw [HVT.out.1, HVT.out.2]
  have T4 := Lib.hid (T3.out.later hb4)
  clear hb4 T3 I3
  by_cases hv : vE xs = 0
  · obtain ⟨hN, hnum, hen⟩ := vE_zero hv
    have HNUM := Lib.hid hnum
    have HEN := Lib.hid hen
    rw [hv]
    obtain ⟨V, hV⟩ : ∃ V, vV xs = V := ⟨_, rfl⟩
    rw [hV] at HNUM HEN ⊢
    clear hN hnum hen hv hV
    go_wp2_with fail
    refine (EncodeI V HNUM.out _).mono ?_
    rintro e w5 ⟨a5, n5, c5, rfl, hi5, hn5, -, -, hb5⟩
    rw [HEN.out] at hi5
    have T4b := Lib.hid (T4.out.later hb5)
    have I5 := Lib.hid hi5
    clear hi5 hb5 T4
    go_wp2_with fail
    refine (equal_any a5 a n5 p c5 c xs xs _ I5.out T4b.out.x (by omega) hp).mono ?_
    rintro e w5b ⟨rfl, q, rfl⟩
    rw [beq_self_eq_true]
    have T5 := Lib.hid (T4b.out.later (below_drewN (Below.refl _ _) q))
    clear T4b I5
    go_wp2_with fail
    refine (cloneI _ _ _ _ _ T5.out.i HN.out.1).mono ?_
    rintro e w6 ⟨a6, c6, rfl, hi6, hb6⟩
    have T6 := Lib.hid (T5.out.later hb6)
    have I6 := Lib.hid hi6
    clear hi6 hb6 T5
    go_wp2_with fail
    refine (Value_any a6 _ c6 _ _ I6.out (by have := HN.out.1; omega)).mono ?_
    rintro e w7 ⟨rfl, hb7⟩
    rw [HM.out.1, HM.out.2]
    have T7 := Lib.hid (T6.out.later hb7)
    clear hb7 T6 I6
    go_wp2_with fail
    refine (cloneI _ _ _ _ _ T7.out.j HN.out.2).mono ?_
    rintro e w8 ⟨a8, c8, rfl, hi8, hb8⟩
    have T8 := Lib.hid (T7.out.later hb8)
    have I8 := Lib.hid hi8
    clear hi8 hb8 T7
    go_wp2_with fail
    refine (Value_any a8 _ c8 _ _ I8.out (by have := HN.out.2; omega)).mono ?_
    rintro e w9 ⟨rfl, hb9⟩
    rw [HNN.out.1, HNN.out.2]
    have T9 := Lib.hid (T8.out.later hb9)
    clear hb9 T8 I8
    go_wp2_with fail
    refine (cloneI _ _ _ _ _ T9.out.i HN.out.1).mono ?_
    rintro e w10 ⟨a10, c10, rfl, hi10, hb10⟩
    have T10 := Lib.hid (T9.out.later hb10)
    have I10 := Lib.hid hi10
    clear hi10 hb10 T9
    go_wp2_with fail
    refine (cloneI _ _ _ _ _ T10.out.j HN.out.2).mono ?_
    rintro e w11 ⟨a11, c11, rfl, hi11, hb11⟩
    have T11 := Lib.hid (T10.out.later hb11)
    have I11 := Lib.hid (And.intro (I10.out.below hb11) hi11)
    clear hi11 hb11 T10 I10
    go_wp2_with fail
    refine (Less_any a10 a11 _ _ c10 c11 _ _ _ I11.out.1 I11.out.2 (by have := HN.out.1; omega) (by have := HN.out.2; omega)).mono ?_
    rintro e w12 ⟨rfl, rfl⟩
    rw [HF.out.1, HF.out.2.1]
    clear I11
    go_wp2_with fail
    refine (compare_any _ _ _ _ _ _ _ _ _ T11.out.i T11.out.j (by have := HN.out.1; omega) (by have := HN.out.2; omega)).mono ?_
    rintro e w13 ⟨rfl, rfl⟩
    rw [HCM.out]
    go_wp2_with fail
    refine (cloneI _ _ _ _ _ T11.out.i HN.out.1).mono ?_
    rintro e w14 ⟨a14, c14, rfl, hi14, hb14⟩
    have T14 := Lib.hid (T11.out.later hb14)
    have I14 := Lib.hid hi14
    clear hi14 hb14 T11
    go_wp2_with fail
    refine (cloneI _ _ _ _ _ T14.out.j HN.out.2).mono ?_
    rintro e w15 ⟨a15, c15, rfl, hi15, hb15⟩
    have T15 := Lib.hid (T14.out.later hb15)
    have I15 := Lib.hid (And.intro (I14.out.below hb15) hi15)
    clear hi15 hb15 T14 I14
    go_wp2_with fail
    refine (Add_any a14 a15 _ _ c14 c15 _ _ _ I15.out.1 I15.out.2 (by have := HN.out.1; omega) (by have := HN.out.2; omega)).mono ?_
    rintro e w16 ⟨a16, N16, c16, rfl, hi16, hn16, -, -, hb16⟩
    rw [HF.out.2.2.1]
    have T16 := Lib.hid (T15.out.later hb16)
    have I16 := Lib.hid hi16
    clear hi16 hb16 T15 I15
    by_cases hsum : m + n ≤ 1000000000000
    · have HS := Lib.hid (show szE (m + n) = 0 by unfold szE; rw [if_neg (by omega)])
      have hL := HF.out.2.2.2 hsum
      rw [hL] at I16
      have HV := Lib.hid (vV_enc (isNum_mk (n := m + n) (by omega) hsum))
      rw [HS.out]
      clear hL
      go_wp2_with fail
      refine (Value_any a16 N16 c16 _ _ I16.out (by omega)).mono ?_
      rintro e w17 ⟨rfl, hb17⟩
      rw [HV.out.1, HV.out.2]
      have T17 := Lib.hid (T16.out.later hb17)
      clear hb17 T16 I16
      go_wp2_with fail
      refine (awake_any _).mono ?_
      rintro e w18 ⟨rfl, hb18⟩
      have T18 := Lib.hid (T17.out.later hb18)
      clear hb18 T17
      go_wp2
      go_ret
      exact ⟨rfl, T18.out.b⟩
    · have HS := Lib.hid (show szE (m + n) = 6 by unfold szE; rw [if_pos (by omega)])
      have hsum2 : 1000000000000 < m + n := by omega
      rw [HS.out]
      clear hsum
      go_wp2_with fail
      refine (awake_any _).mono ?_
      rintro e w18 ⟨rfl, hb18⟩
      have T18 := Lib.hid (T16.out.later hb18)
      clear hb18 T16
      go_wp2
      go_ret
      exact ⟨rfl, T18.out.b⟩
  · have T5 := T4
    rcases vE_vals xs with h | h | h
    · exact absurd h hv
    · rw [h]
      obtain ⟨V, hV⟩ : ∃ V, vV xs = V := ⟨_, rfl⟩
      rw [hV]
      clear h hv hV T4
      go_wp2_with fail
      refine (cloneI _ _ _ _ _ T5.out.i HN.out.1).mono ?_
      rintro e w6 ⟨a6, c6, rfl, hi6, hb6⟩
      have T6 := Lib.hid (T5.out.later hb6)
      have I6 := Lib.hid hi6
      clear hi6 hb6 T5
      go_wp2_with fail
      refine (Value_any a6 _ c6 _ _ I6.out (by have := HN.out.1; omega)).mono ?_
      rintro e w7 ⟨rfl, hb7⟩
      rw [HM.out.1, HM.out.2]
      have T7 := Lib.hid (T6.out.later hb7)
      clear hb7 T6 I6
      go_wp2_with fail
      refine (cloneI _ _ _ _ _ T7.out.j HN.out.2).mono ?_
      rintro e w8 ⟨a8, c8, rfl, hi8, hb8⟩
      have T8 := Lib.hid (T7.out.later hb8)
      have I8 := Lib.hid hi8
      clear hi8 hb8 T7
      go_wp2_with fail
      refine (Value_any a8 _ c8 _ _ I8.out (by have := HN.out.2; omega)).mono ?_
      rintro e w9 ⟨rfl, hb9⟩
      rw [HNN.out.1, HNN.out.2]
      have T9 := Lib.hid (T8.out.later hb9)
      clear hb9 T8 I8
      go_wp2_with fail
      refine (cloneI _ _ _ _ _ T9.out.i HN.out.1).mono ?_
      rintro e w10 ⟨a10, c10, rfl, hi10, hb10⟩
      have T10 := Lib.hid (T9.out.later hb10)
      have I10 := Lib.hid hi10
      clear hi10 hb10 T9
      go_wp2_with fail
      refine (cloneI _ _ _ _ _ T10.out.j HN.out.2).mono ?_
      rintro e w11 ⟨a11, c11, rfl, hi11, hb11⟩
      have T11 := Lib.hid (T10.out.later hb11)
      have I11 := Lib.hid (And.intro (I10.out.below hb11) hi11)
      clear hi11 hb11 T10 I10
      go_wp2_with fail
      refine (Less_any a10 a11 _ _ c10 c11 _ _ _ I11.out.1 I11.out.2 (by have := HN.out.1; omega) (by have := HN.out.2; omega)).mono ?_
      rintro e w12 ⟨rfl, rfl⟩
      rw [HF.out.1, HF.out.2.1]
      clear I11
      go_wp2_with fail
      refine (compare_any _ _ _ _ _ _ _ _ _ T11.out.i T11.out.j (by have := HN.out.1; omega) (by have := HN.out.2; omega)).mono ?_
      rintro e w13 ⟨rfl, rfl⟩
      rw [HCM.out]
      go_wp2_with fail
      refine (cloneI _ _ _ _ _ T11.out.i HN.out.1).mono ?_
      rintro e w14 ⟨a14, c14, rfl, hi14, hb14⟩
      have T14 := Lib.hid (T11.out.later hb14)
      have I14 := Lib.hid hi14
      clear hi14 hb14 T11
      go_wp2_with fail
      refine (cloneI _ _ _ _ _ T14.out.j HN.out.2).mono ?_
      rintro e w15 ⟨a15, c15, rfl, hi15, hb15⟩
      have T15 := Lib.hid (T14.out.later hb15)
      have I15 := Lib.hid (And.intro (I14.out.below hb15) hi15)
      clear hi15 hb15 T14 I14
      go_wp2_with fail
      refine (Add_any a14 a15 _ _ c14 c15 _ _ _ I15.out.1 I15.out.2 (by have := HN.out.1; omega) (by have := HN.out.2; omega)).mono ?_
      rintro e w16 ⟨a16, N16, c16, rfl, hi16, hn16, -, -, hb16⟩
      rw [HF.out.2.2.1]
      have T16 := Lib.hid (T15.out.later hb16)
      have I16 := Lib.hid hi16
      clear hi16 hb16 T15 I15
      by_cases hsum : m + n ≤ 1000000000000
      · have HS := Lib.hid (show szE (m + n) = 0 by unfold szE; rw [if_neg (by omega)])
        have hL := HF.out.2.2.2 hsum
        rw [hL] at I16
        have HV := Lib.hid (vV_enc (isNum_mk (n := m + n) (by omega) hsum))
        rw [HS.out]
        clear hL
        go_wp2_with fail
        refine (Value_any a16 N16 c16 _ _ I16.out (by omega)).mono ?_
        rintro e w17 ⟨rfl, hb17⟩
        rw [HV.out.1, HV.out.2]
        have T17 := Lib.hid (T16.out.later hb17)
        clear hb17 T16 I16
        go_wp2_with fail
        refine (awake_any _).mono ?_
        rintro e w18 ⟨rfl, hb18⟩
        have T18 := Lib.hid (T17.out.later hb18)
        clear hb18 T17
        go_wp2
        go_ret
        exact ⟨rfl, T18.out.b⟩
      · have HS := Lib.hid (show szE (m + n) = 6 by unfold szE; rw [if_pos (by omega)])
        have hsum2 : 1000000000000 < m + n := by omega
        rw [HS.out]
        clear hsum
        go_wp2_with fail
        refine (awake_any _).mono ?_
        rintro e w18 ⟨rfl, hb18⟩
        have T18 := Lib.hid (T16.out.later hb18)
        clear hb18 T16
        go_wp2
        go_ret
        exact ⟨rfl, T18.out.b⟩
    · rw [h]
      obtain ⟨V, hV⟩ : ∃ V, vV xs = V := ⟨_, rfl⟩
      rw [hV]
      clear h hv hV T4
      go_wp2_with fail
      refine (cloneI _ _ _ _ _ T5.out.i HN.out.1).mono ?_
      rintro e w6 ⟨a6, c6, rfl, hi6, hb6⟩
      have T6 := Lib.hid (T5.out.later hb6)
      have I6 := Lib.hid hi6
      clear hi6 hb6 T5
      go_wp2_with fail
      refine (Value_any a6 _ c6 _ _ I6.out (by have := HN.out.1; omega)).mono ?_
      rintro e w7 ⟨rfl, hb7⟩
      rw [HM.out.1, HM.out.2]
      have T7 := Lib.hid (T6.out.later hb7)
      clear hb7 T6 I6
      go_wp2_with fail
      refine (cloneI _ _ _ _ _ T7.out.j HN.out.2).mono ?_
      rintro e w8 ⟨a8, c8, rfl, hi8, hb8⟩
      have T8 := Lib.hid (T7.out.later hb8)
      have I8 := Lib.hid hi8
      clear hi8 hb8 T7
      go_wp2_with fail
      refine (Value_any a8 _ c8 _ _ I8.out (by have := HN.out.2; omega)).mono ?_
      rintro e w9 ⟨rfl, hb9⟩
      rw [HNN.out.1, HNN.out.2]
      have T9 := Lib.hid (T8.out.later hb9)
      clear hb9 T8 I8
      go_wp2_with fail
      refine (cloneI _ _ _ _ _ T9.out.i HN.out.1).mono ?_
      rintro e w10 ⟨a10, c10, rfl, hi10, hb10⟩
      have T10 := Lib.hid (T9.out.later hb10)
      have I10 := Lib.hid hi10
      clear hi10 hb10 T9
      go_wp2_with fail
      refine (cloneI _ _ _ _ _ T10.out.j HN.out.2).mono ?_
      rintro e w11 ⟨a11, c11, rfl, hi11, hb11⟩
      have T11 := Lib.hid (T10.out.later hb11)
      have I11 := Lib.hid (And.intro (I10.out.below hb11) hi11)
      clear hi11 hb11 T10 I10
      go_wp2_with fail
      refine (Less_any a10 a11 _ _ c10 c11 _ _ _ I11.out.1 I11.out.2 (by have := HN.out.1; omega) (by have := HN.out.2; omega)).mono ?_
      rintro e w12 ⟨rfl, rfl⟩
      rw [HF.out.1, HF.out.2.1]
      clear I11
      go_wp2_with fail
      refine (compare_any _ _ _ _ _ _ _ _ _ T11.out.i T11.out.j (by have := HN.out.1; omega) (by have := HN.out.2; omega)).mono ?_
      rintro e w13 ⟨rfl, rfl⟩
      rw [HCM.out]
      go_wp2_with fail
      refine (cloneI _ _ _ _ _ T11.out.i HN.out.1).mono ?_
      rintro e w14 ⟨a14, c14, rfl, hi14, hb14⟩
      have T14 := Lib.hid (T11.out.later hb14)
      have I14 := Lib.hid hi14
      clear hi14 hb14 T11
      go_wp2_with fail
      refine (cloneI _ _ _ _ _ T14.out.j HN.out.2).mono ?_
      rintro e w15 ⟨a15, c15, rfl, hi15, hb15⟩
      have T15 := Lib.hid (T14.out.later hb15)
      have I15 := Lib.hid (And.intro (I14.out.below hb15) hi15)
      clear hi15 hb15 T14 I14
      go_wp2_with fail
      refine (Add_any a14 a15 _ _ c14 c15 _ _ _ I15.out.1 I15.out.2 (by have := HN.out.1; omega) (by have := HN.out.2; omega)).mono ?_
      rintro e w16 ⟨a16, N16, c16, rfl, hi16, hn16, -, -, hb16⟩
      rw [HF.out.2.2.1]
      have T16 := Lib.hid (T15.out.later hb16)
      have I16 := Lib.hid hi16
      clear hi16 hb16 T15 I15
      by_cases hsum : m + n ≤ 1000000000000
      · have HS := Lib.hid (show szE (m + n) = 0 by unfold szE; rw [if_neg (by omega)])
        have hL := HF.out.2.2.2 hsum
        rw [hL] at I16
        have HV := Lib.hid (vV_enc (isNum_mk (n := m + n) (by omega) hsum))
        rw [HS.out]
        clear hL
        go_wp2_with fail
        refine (Value_any a16 N16 c16 _ _ I16.out (by omega)).mono ?_
        rintro e w17 ⟨rfl, hb17⟩
        rw [HV.out.1, HV.out.2]
        have T17 := Lib.hid (T16.out.later hb17)
        clear hb17 T16 I16
        go_wp2_with fail
        refine (awake_any _).mono ?_
        rintro e w18 ⟨rfl, hb18⟩
        have T18 := Lib.hid (T17.out.later hb18)
        clear hb18 T17
        go_wp2
        go_ret
        exact ⟨rfl, T18.out.b⟩
      · have HS := Lib.hid (show szE (m + n) = 6 by unfold szE; rw [if_pos (by omega)])
        have hsum2 : 1000000000000 < m + n := by omega
        rw [HS.out]
        clear hsum
        go_wp2_with fail
        refine (awake_any _).mono ?_
        rintro e w18 ⟨rfl, hb18⟩
        have T18 := Lib.hid (T16.out.later hb18)
        clear hb18 T16
        go_wp2
        go_ret
        exact ⟨rfl, T18.out.b⟩

set_option maxHeartbeats 8000000 in
set_option maxRecDepth 100000 in
theorem lawBack_ge (m n : Int) (a : Option Addr) (p c : Nat) (xs : List Int) (w : World) (h : Ints w a p xs) (hc : p ≤ c) (hp : p ≤ 4611686018427387904) (hcm : c ≤ maxLen) (hm : isNum m = true) (hn : isNum n = true) (hlt : ¬ m < n) :
    Calls Try.prog 10 #[.int .i64 m, .int .i64 n, .slice a p c] w fun e w' => e = .returned (.bool true) ∧ Below w.heap.size w w' := by
  have H0 := Lib.hid h
  have HC := Lib.hid (And.intro hc hcm)
  have HVT := Lib.hid (And.intro (vV_take xs) (vE_take xs))
  have E1 := Lib.hid (show enE m = 0 by unfold enE; rw [if_pos hm])
  have E2 := Lib.hid (show enE n = 0 by unfold enE; rw [if_pos hn])
  have L1 := Lib.hid (show enN m = enc m by unfold enN; rw [if_pos hm])
  have L2 := Lib.hid (show enN n = enc n by unfold enN; rw [if_pos hn])
  have HM := Lib.hid (vV_enc hm)
  have HNN := Lib.hid (vV_enc hn)
  obtain ⟨f1, f2, f3, f4, f5⟩ := tail_facts hm hn
  have hd : decide (m < n) = false := by simpa using hlt
  rw [hd] at f1
  obtain ⟨C, hC⟩ : ∃ C, cmpL (enc m) (enc n) = C := ⟨_, rfl⟩
  rw [hC] at f3
  have HCM := Lib.hid hC
  have hC0 : ¬ C < 0 := fun h => hlt (f3.1 h)
  have HF := Lib.hid (And.intro f1 (And.intro f2 (And.intro f4 f5)))
  have m0 := (isNum_yes hm).1
  have m1 := (isNum_yes hm).2
  have n0 := (isNum_yes hn).1
  have n1' := (isNum_yes hn).2
  clear h hc hcm hm hn f1 f2 f3 f4 f5 hd hC
  go_enter Try.func10, Try.ntmps10
  go_wp2_with fail
  refine (EncodeA m _).mono ?_
  rintro e w1 ⟨a1, n1, c1, rfl, hi1, hn1, -, -, hb1⟩
  rw [E1.out]
  go_wp2_with fail
  refine (EncodeA n _).mono ?_
  rintro e w2 ⟨a2, n2, c2, rfl, hi2, hn2, -, -, hb2⟩
  rw [E2.out]
  have T2 := Lib.hid (B3.mk (hb1.trans (hb2.mono hb1.size)) ((H0.out.below hb1).below hb2) (hi1.below hb2) hi2)
  rw [L1.out, L2.out] at T2
  have HN := Lib.hid (And.intro hn1 hn2)
  clear hi1 hi2 hb1 hb2
  go_wp2_with fail
  refine (list_row a p c xs _ T2.out.x HC.out.1 hp HC.out.2).mono ?_
  rintro e w3 ⟨a3, n3, c3, rfl, hn3, hi3, -, -, hb3⟩
  have T3 := Lib.hid (T2.out.later hb3)
  have I3 := Lib.hid hi3
  clear hi3 hb3 T2
  go_wp2_with fail
  refine (Value_any a3 n3 c3 _ _ I3.out (by omega)).mono ?_
  rintro e w4 ⟨rfl, hb4⟩
  rw [HVT.out.1, HVT.out.2]
  have T4 := Lib.hid (T3.out.later hb4)
  clear hb4 T3 I3
  by_cases hv : vE xs = 0
  · obtain ⟨hN, hnum, hen⟩ := vE_zero hv
    have HNUM := Lib.hid hnum
    have HEN := Lib.hid hen
    rw [hv]
    obtain ⟨V, hV⟩ : ∃ V, vV xs = V := ⟨_, rfl⟩
    rw [hV] at HNUM HEN ⊢
    clear hN hnum hen hv hV
    go_wp2_with fail
    refine (EncodeI V HNUM.out _).mono ?_
    rintro e w5 ⟨a5, n5, c5, rfl, hi5, hn5, -, -, hb5⟩
    rw [HEN.out] at hi5
    have T4b := Lib.hid (T4.out.later hb5)
    have I5 := Lib.hid hi5
    clear hi5 hb5 T4
    go_wp2_with fail
    refine (equal_any a5 a n5 p c5 c xs xs _ I5.out T4b.out.x (by omega) hp).mono ?_
    rintro e w5b ⟨rfl, q, rfl⟩
    rw [beq_self_eq_true]
    have T5 := Lib.hid (T4b.out.later (below_drewN (Below.refl _ _) q))
    clear T4b I5
    go_wp2_with fail
    refine (cloneI _ _ _ _ _ T5.out.i HN.out.1).mono ?_
    rintro e w6 ⟨a6, c6, rfl, hi6, hb6⟩
    have T6 := Lib.hid (T5.out.later hb6)
    have I6 := Lib.hid hi6
    clear hi6 hb6 T5
    go_wp2_with fail
    refine (Value_any a6 _ c6 _ _ I6.out (by have := HN.out.1; omega)).mono ?_
    rintro e w7 ⟨rfl, hb7⟩
    rw [HM.out.1, HM.out.2]
    have T7 := Lib.hid (T6.out.later hb7)
    clear hb7 T6 I6
    go_wp2_with fail
    refine (cloneI _ _ _ _ _ T7.out.j HN.out.2).mono ?_
    rintro e w8 ⟨a8, c8, rfl, hi8, hb8⟩
    have T8 := Lib.hid (T7.out.later hb8)
    have I8 := Lib.hid hi8
    clear hi8 hb8 T7
    go_wp2_with fail
    refine (Value_any a8 _ c8 _ _ I8.out (by have := HN.out.2; omega)).mono ?_
    rintro e w9 ⟨rfl, hb9⟩
    rw [HNN.out.1, HNN.out.2]
    have T9 := Lib.hid (T8.out.later hb9)
    clear hb9 T8 I8
    go_wp2_with fail
    refine (cloneI _ _ _ _ _ T9.out.i HN.out.1).mono ?_
    rintro e w10 ⟨a10, c10, rfl, hi10, hb10⟩
    have T10 := Lib.hid (T9.out.later hb10)
    have I10 := Lib.hid hi10
    clear hi10 hb10 T9
    go_wp2_with fail
    refine (cloneI _ _ _ _ _ T10.out.j HN.out.2).mono ?_
    rintro e w11 ⟨a11, c11, rfl, hi11, hb11⟩
    have T11 := Lib.hid (T10.out.later hb11)
    have I11 := Lib.hid (And.intro (I10.out.below hb11) hi11)
    clear hi11 hb11 T10 I10
    go_wp2_with fail
    refine (Less_any a10 a11 _ _ c10 c11 _ _ _ I11.out.1 I11.out.2 (by have := HN.out.1; omega) (by have := HN.out.2; omega)).mono ?_
    rintro e w12 ⟨rfl, rfl⟩
    rw [HF.out.1, HF.out.2.1]
    clear I11
    go_wp2_with fail
    refine (compare_any _ _ _ _ _ _ _ _ _ T11.out.i T11.out.j (by have := HN.out.1; omega) (by have := HN.out.2; omega)).mono ?_
    rintro e w13 ⟨rfl, rfl⟩
    rw [HCM.out]
    go_wp2_with fail
    refine (cloneI _ _ _ _ _ T11.out.i HN.out.1).mono ?_
    rintro e w14 ⟨a14, c14, rfl, hi14, hb14⟩
    have T14 := Lib.hid (T11.out.later hb14)
    have I14 := Lib.hid hi14
    clear hi14 hb14 T11
    go_wp2_with fail
    refine (cloneI _ _ _ _ _ T14.out.j HN.out.2).mono ?_
    rintro e w15 ⟨a15, c15, rfl, hi15, hb15⟩
    have T15 := Lib.hid (T14.out.later hb15)
    have I15 := Lib.hid (And.intro (I14.out.below hb15) hi15)
    clear hi15 hb15 T14 I14
    go_wp2_with fail
    refine (Add_any a14 a15 _ _ c14 c15 _ _ _ I15.out.1 I15.out.2 (by have := HN.out.1; omega) (by have := HN.out.2; omega)).mono ?_
    rintro e w16 ⟨a16, N16, c16, rfl, hi16, hn16, -, -, hb16⟩
    rw [HF.out.2.2.1]
    have T16 := Lib.hid (T15.out.later hb16)
    have I16 := Lib.hid hi16
    clear hi16 hb16 T15 I15
    by_cases hsum : m + n ≤ 1000000000000
    · have HS := Lib.hid (show szE (m + n) = 0 by unfold szE; rw [if_neg (by omega)])
      have hL := HF.out.2.2.2 hsum
      rw [hL] at I16
      have HV := Lib.hid (vV_enc (isNum_mk (n := m + n) (by omega) hsum))
      rw [HS.out]
      clear hL
      go_wp2_with fail
      refine (Value_any a16 N16 c16 _ _ I16.out (by omega)).mono ?_
      rintro e w17 ⟨rfl, hb17⟩
      rw [HV.out.1, HV.out.2]
      have T17 := Lib.hid (T16.out.later hb17)
      clear hb17 T16 I16
      go_wp2_with fail
      refine (awake_any _).mono ?_
      rintro e w18 ⟨rfl, hb18⟩
      have T18 := Lib.hid (T17.out.later hb18)
      clear hb18 T17
      go_wp2
      go_ret
      exact ⟨rfl, T18.out.b⟩
    · have HS := Lib.hid (show szE (m + n) = 6 by unfold szE; rw [if_pos (by omega)])
      have hsum2 : 1000000000000 < m + n := by omega
      rw [HS.out]
      clear hsum
      go_wp2_with fail
      refine (awake_any _).mono ?_
      rintro e w18 ⟨rfl, hb18⟩
      have T18 := Lib.hid (T16.out.later hb18)
      clear hb18 T16
      go_wp2
      go_ret
      exact ⟨rfl, T18.out.b⟩
  · have T5 := T4
    rcases vE_vals xs with h | h | h
    · exact absurd h hv
    · rw [h]
      obtain ⟨V, hV⟩ : ∃ V, vV xs = V := ⟨_, rfl⟩
      rw [hV]
      clear h hv hV T4
      go_wp2_with fail
      refine (cloneI _ _ _ _ _ T5.out.i HN.out.1).mono ?_
      rintro e w6 ⟨a6, c6, rfl, hi6, hb6⟩
      have T6 := Lib.hid (T5.out.later hb6)
      have I6 := Lib.hid hi6
      clear hi6 hb6 T5
      go_wp2_with fail
      refine (Value_any a6 _ c6 _ _ I6.out (by have := HN.out.1; omega)).mono ?_
      rintro e w7 ⟨rfl, hb7⟩
      rw [HM.out.1, HM.out.2]
      have T7 := Lib.hid (T6.out.later hb7)
      clear hb7 T6 I6
      go_wp2_with fail
      refine (cloneI _ _ _ _ _ T7.out.j HN.out.2).mono ?_
      rintro e w8 ⟨a8, c8, rfl, hi8, hb8⟩
      have T8 := Lib.hid (T7.out.later hb8)
      have I8 := Lib.hid hi8
      clear hi8 hb8 T7
      go_wp2_with fail
      refine (Value_any a8 _ c8 _ _ I8.out (by have := HN.out.2; omega)).mono ?_
      rintro e w9 ⟨rfl, hb9⟩
      rw [HNN.out.1, HNN.out.2]
      have T9 := Lib.hid (T8.out.later hb9)
      clear hb9 T8 I8
      go_wp2_with fail
      refine (cloneI _ _ _ _ _ T9.out.i HN.out.1).mono ?_
      rintro e w10 ⟨a10, c10, rfl, hi10, hb10⟩
      have T10 := Lib.hid (T9.out.later hb10)
      have I10 := Lib.hid hi10
      clear hi10 hb10 T9
      go_wp2_with fail
      refine (cloneI _ _ _ _ _ T10.out.j HN.out.2).mono ?_
      rintro e w11 ⟨a11, c11, rfl, hi11, hb11⟩
      have T11 := Lib.hid (T10.out.later hb11)
      have I11 := Lib.hid (And.intro (I10.out.below hb11) hi11)
      clear hi11 hb11 T10 I10
      go_wp2_with fail
      refine (Less_any a10 a11 _ _ c10 c11 _ _ _ I11.out.1 I11.out.2 (by have := HN.out.1; omega) (by have := HN.out.2; omega)).mono ?_
      rintro e w12 ⟨rfl, rfl⟩
      rw [HF.out.1, HF.out.2.1]
      clear I11
      go_wp2_with fail
      refine (compare_any _ _ _ _ _ _ _ _ _ T11.out.i T11.out.j (by have := HN.out.1; omega) (by have := HN.out.2; omega)).mono ?_
      rintro e w13 ⟨rfl, rfl⟩
      rw [HCM.out]
      go_wp2_with fail
      refine (cloneI _ _ _ _ _ T11.out.i HN.out.1).mono ?_
      rintro e w14 ⟨a14, c14, rfl, hi14, hb14⟩
      have T14 := Lib.hid (T11.out.later hb14)
      have I14 := Lib.hid hi14
      clear hi14 hb14 T11
      go_wp2_with fail
      refine (cloneI _ _ _ _ _ T14.out.j HN.out.2).mono ?_
      rintro e w15 ⟨a15, c15, rfl, hi15, hb15⟩
      have T15 := Lib.hid (T14.out.later hb15)
      have I15 := Lib.hid (And.intro (I14.out.below hb15) hi15)
      clear hi15 hb15 T14 I14
      go_wp2_with fail
      refine (Add_any a14 a15 _ _ c14 c15 _ _ _ I15.out.1 I15.out.2 (by have := HN.out.1; omega) (by have := HN.out.2; omega)).mono ?_
      rintro e w16 ⟨a16, N16, c16, rfl, hi16, hn16, -, -, hb16⟩
      rw [HF.out.2.2.1]
      have T16 := Lib.hid (T15.out.later hb16)
      have I16 := Lib.hid hi16
      clear hi16 hb16 T15 I15
      by_cases hsum : m + n ≤ 1000000000000
      · have HS := Lib.hid (show szE (m + n) = 0 by unfold szE; rw [if_neg (by omega)])
        have hL := HF.out.2.2.2 hsum
        rw [hL] at I16
        have HV := Lib.hid (vV_enc (isNum_mk (n := m + n) (by omega) hsum))
        rw [HS.out]
        clear hL
        go_wp2_with fail
        refine (Value_any a16 N16 c16 _ _ I16.out (by omega)).mono ?_
        rintro e w17 ⟨rfl, hb17⟩
        rw [HV.out.1, HV.out.2]
        have T17 := Lib.hid (T16.out.later hb17)
        clear hb17 T16 I16
        go_wp2_with fail
        refine (awake_any _).mono ?_
        rintro e w18 ⟨rfl, hb18⟩
        have T18 := Lib.hid (T17.out.later hb18)
        clear hb18 T17
        go_wp2
        go_ret
        exact ⟨rfl, T18.out.b⟩
      · have HS := Lib.hid (show szE (m + n) = 6 by unfold szE; rw [if_pos (by omega)])
        have hsum2 : 1000000000000 < m + n := by omega
        rw [HS.out]
        clear hsum
        go_wp2_with fail
        refine (awake_any _).mono ?_
        rintro e w18 ⟨rfl, hb18⟩
        have T18 := Lib.hid (T16.out.later hb18)
        clear hb18 T16
        go_wp2
        go_ret
        exact ⟨rfl, T18.out.b⟩
    · rw [h]
      obtain ⟨V, hV⟩ : ∃ V, vV xs = V := ⟨_, rfl⟩
      rw [hV]
      clear h hv hV T4
      go_wp2_with fail
      refine (cloneI _ _ _ _ _ T5.out.i HN.out.1).mono ?_
      rintro e w6 ⟨a6, c6, rfl, hi6, hb6⟩
      have T6 := Lib.hid (T5.out.later hb6)
      have I6 := Lib.hid hi6
      clear hi6 hb6 T5
      go_wp2_with fail
      refine (Value_any a6 _ c6 _ _ I6.out (by have := HN.out.1; omega)).mono ?_
      rintro e w7 ⟨rfl, hb7⟩
      rw [HM.out.1, HM.out.2]
      have T7 := Lib.hid (T6.out.later hb7)
      clear hb7 T6 I6
      go_wp2_with fail
      refine (cloneI _ _ _ _ _ T7.out.j HN.out.2).mono ?_
      rintro e w8 ⟨a8, c8, rfl, hi8, hb8⟩
      have T8 := Lib.hid (T7.out.later hb8)
      have I8 := Lib.hid hi8
      clear hi8 hb8 T7
      go_wp2_with fail
      refine (Value_any a8 _ c8 _ _ I8.out (by have := HN.out.2; omega)).mono ?_
      rintro e w9 ⟨rfl, hb9⟩
      rw [HNN.out.1, HNN.out.2]
      have T9 := Lib.hid (T8.out.later hb9)
      clear hb9 T8 I8
      go_wp2_with fail
      refine (cloneI _ _ _ _ _ T9.out.i HN.out.1).mono ?_
      rintro e w10 ⟨a10, c10, rfl, hi10, hb10⟩
      have T10 := Lib.hid (T9.out.later hb10)
      have I10 := Lib.hid hi10
      clear hi10 hb10 T9
      go_wp2_with fail
      refine (cloneI _ _ _ _ _ T10.out.j HN.out.2).mono ?_
      rintro e w11 ⟨a11, c11, rfl, hi11, hb11⟩
      have T11 := Lib.hid (T10.out.later hb11)
      have I11 := Lib.hid (And.intro (I10.out.below hb11) hi11)
      clear hi11 hb11 T10 I10
      go_wp2_with fail
      refine (Less_any a10 a11 _ _ c10 c11 _ _ _ I11.out.1 I11.out.2 (by have := HN.out.1; omega) (by have := HN.out.2; omega)).mono ?_
      rintro e w12 ⟨rfl, rfl⟩
      rw [HF.out.1, HF.out.2.1]
      clear I11
      go_wp2_with fail
      refine (compare_any _ _ _ _ _ _ _ _ _ T11.out.i T11.out.j (by have := HN.out.1; omega) (by have := HN.out.2; omega)).mono ?_
      rintro e w13 ⟨rfl, rfl⟩
      rw [HCM.out]
      go_wp2_with fail
      refine (cloneI _ _ _ _ _ T11.out.i HN.out.1).mono ?_
      rintro e w14 ⟨a14, c14, rfl, hi14, hb14⟩
      have T14 := Lib.hid (T11.out.later hb14)
      have I14 := Lib.hid hi14
      clear hi14 hb14 T11
      go_wp2_with fail
      refine (cloneI _ _ _ _ _ T14.out.j HN.out.2).mono ?_
      rintro e w15 ⟨a15, c15, rfl, hi15, hb15⟩
      have T15 := Lib.hid (T14.out.later hb15)
      have I15 := Lib.hid (And.intro (I14.out.below hb15) hi15)
      clear hi15 hb15 T14 I14
      go_wp2_with fail
      refine (Add_any a14 a15 _ _ c14 c15 _ _ _ I15.out.1 I15.out.2 (by have := HN.out.1; omega) (by have := HN.out.2; omega)).mono ?_
      rintro e w16 ⟨a16, N16, c16, rfl, hi16, hn16, -, -, hb16⟩
      rw [HF.out.2.2.1]
      have T16 := Lib.hid (T15.out.later hb16)
      have I16 := Lib.hid hi16
      clear hi16 hb16 T15 I15
      by_cases hsum : m + n ≤ 1000000000000
      · have HS := Lib.hid (show szE (m + n) = 0 by unfold szE; rw [if_neg (by omega)])
        have hL := HF.out.2.2.2 hsum
        rw [hL] at I16
        have HV := Lib.hid (vV_enc (isNum_mk (n := m + n) (by omega) hsum))
        rw [HS.out]
        clear hL
        go_wp2_with fail
        refine (Value_any a16 N16 c16 _ _ I16.out (by omega)).mono ?_
        rintro e w17 ⟨rfl, hb17⟩
        rw [HV.out.1, HV.out.2]
        have T17 := Lib.hid (T16.out.later hb17)
        clear hb17 T16 I16
        go_wp2_with fail
        refine (awake_any _).mono ?_
        rintro e w18 ⟨rfl, hb18⟩
        have T18 := Lib.hid (T17.out.later hb18)
        clear hb18 T17
        go_wp2
        go_ret
        exact ⟨rfl, T18.out.b⟩
      · have HS := Lib.hid (show szE (m + n) = 6 by unfold szE; rw [if_pos (by omega)])
        have hsum2 : 1000000000000 < m + n := by omega
        rw [HS.out]
        clear hsum
        go_wp2_with fail
        refine (awake_any _).mono ?_
        rintro e w18 ⟨rfl, hb18⟩
        have T18 := Lib.hid (T16.out.later hb18)
        clear hb18 T16
        go_wp2
        go_ret
        exact ⟨rfl, T18.out.b⟩

set_option maxHeartbeats 8000000 in
set_option maxRecDepth 100000 in
theorem lawBack_no1 (m n : Int) (a : Option Addr) (p c : Nat) (xs : List Int) (w : World) (h : Ints w a p xs) (hc : p ≤ c) (hp : p ≤ 4611686018427387904) (hcm : c ≤ maxLen) (hm : isNum m = false) :
    Calls Try.prog 10 #[.int .i64 m, .int .i64 n, .slice a p c] w fun e w' => e = .returned (.bool true) ∧ Below w.heap.size w w' := by
  have H0 := Lib.hid h
  have HC := Lib.hid (And.intro hc hcm)
  have HVT := Lib.hid (And.intro (vV_take xs) (vE_take xs))
  have E1 := Lib.hid (show enE m = 2 by unfold enE; rw [hm]; rfl)
  have E2 := Lib.hid (rfl : enE n = enE n)
  clear h hc hcm hm
  go_enter Try.func10, Try.ntmps10
  go_wp2_with fail
  refine (EncodeA m _).mono ?_
  rintro e w1 ⟨a1, n1, c1, rfl, hi1, hn1, -, -, hb1⟩
  rw [E1.out]
  go_wp2_with fail
  refine (EncodeA n _).mono ?_
  rintro e w2 ⟨a2, n2, c2, rfl, hi2, hn2, -, -, hb2⟩
  obtain ⟨F2, hF2⟩ : ∃ F2, enE n = F2 := ⟨_, rfl⟩
  rw [hF2]
  clear hF2
  have T2 := Lib.hid (B3.mk (hb1.trans (hb2.mono hb1.size)) ((H0.out.below hb1).below hb2) (hi1.below hb2) hi2)
  clear hi1 hi2 hb1 hb2
  go_wp2_with fail
  refine (list_row a p c xs _ T2.out.x HC.out.1 hp HC.out.2).mono ?_
  rintro e w3 ⟨a3, n3, c3, rfl, hn3, hi3, -, -, hb3⟩
  have T3 := Lib.hid (T2.out.later hb3)
  have I3 := Lib.hid hi3
  clear hi3 hb3 T2
  go_wp2_with fail
  refine (Value_any a3 n3 c3 _ _ I3.out (by omega)).mono ?_
  rintro e w4 ⟨rfl, hb4⟩
  rw [HVT.out.1, HVT.out.2]
  have T4 := Lib.hid (T3.out.later hb4)
  clear hb4 T3 I3
  by_cases hv : vE xs = 0
  · obtain ⟨hN, hnum, hen⟩ := vE_zero hv
    have HNUM := Lib.hid hnum
    have HEN := Lib.hid hen
    rw [hv]
    obtain ⟨V, hV⟩ : ∃ V, vV xs = V := ⟨_, rfl⟩
    rw [hV] at HNUM HEN ⊢
    clear hN hnum hen hv hV
    go_wp2_with fail
    refine (EncodeI V HNUM.out _).mono ?_
    rintro e w5 ⟨a5, n5, c5, rfl, hi5, hn5, -, -, hb5⟩
    rw [HEN.out] at hi5
    have T4b := Lib.hid (T4.out.later hb5)
    have I5 := Lib.hid hi5
    clear hi5 hb5 T4
    go_wp2_with fail
    refine (equal_any a5 a n5 p c5 c xs xs _ I5.out T4b.out.x (by omega) hp).mono ?_
    rintro e w5b ⟨rfl, q, rfl⟩
    rw [beq_self_eq_true]
    have T5 := Lib.hid (T4b.out.later (below_drewN (Below.refl _ _) q))
    clear T4b I5
    go_wp2_with fail
    refine (awake_any _).mono ?_
    rintro e w9 ⟨rfl, hb9⟩
    have T9 := Lib.hid (T5.out.later hb9)
    clear hb9 T5
    go_wp2
    go_ret
    exact ⟨rfl, T9.out.b⟩
  · have T5 := T4
    rcases vE_vals xs with h | h | h
    · exact absurd h hv
    · rw [h]
      obtain ⟨V, hV⟩ : ∃ V, vV xs = V := ⟨_, rfl⟩
      rw [hV]
      clear h hv hV T4
      go_wp2_with fail
      refine (awake_any _).mono ?_
      rintro e w9 ⟨rfl, hb9⟩
      have T9 := Lib.hid (T5.out.later hb9)
      clear hb9 T5
      go_wp2
      go_ret
      exact ⟨rfl, T9.out.b⟩
    · rw [h]
      obtain ⟨V, hV⟩ : ∃ V, vV xs = V := ⟨_, rfl⟩
      rw [hV]
      clear h hv hV T4
      go_wp2_with fail
      refine (awake_any _).mono ?_
      rintro e w9 ⟨rfl, hb9⟩
      have T9 := Lib.hid (T5.out.later hb9)
      clear hb9 T5
      go_wp2
      go_ret
      exact ⟨rfl, T9.out.b⟩

set_option maxHeartbeats 8000000 in
set_option maxRecDepth 100000 in
theorem lawBack_no2 (m n : Int) (a : Option Addr) (p c : Nat) (xs : List Int) (w : World) (h : Ints w a p xs) (hc : p ≤ c) (hp : p ≤ 4611686018427387904) (hcm : c ≤ maxLen) (hm : isNum m = true) (hn : isNum n = false) :
    Calls Try.prog 10 #[.int .i64 m, .int .i64 n, .slice a p c] w fun e w' => e = .returned (.bool true) ∧ Below w.heap.size w w' := by
  have H0 := Lib.hid h
  have HC := Lib.hid (And.intro hc hcm)
  have HVT := Lib.hid (And.intro (vV_take xs) (vE_take xs))
  have E1 := Lib.hid (show enE m = 0 by unfold enE; rw [if_pos hm])
  have E2 := Lib.hid (show enE n = 2 by unfold enE; rw [hn]; rfl)
  clear h hc hcm hm hn
  go_enter Try.func10, Try.ntmps10
  go_wp2_with fail
  refine (EncodeA m _).mono ?_
  rintro e w1 ⟨a1, n1, c1, rfl, hi1, hn1, -, -, hb1⟩
  rw [E1.out]
  go_wp2_with fail
  refine (EncodeA n _).mono ?_
  rintro e w2 ⟨a2, n2, c2, rfl, hi2, hn2, -, -, hb2⟩
  rw [E2.out]
  have T2 := Lib.hid (B3.mk (hb1.trans (hb2.mono hb1.size)) ((H0.out.below hb1).below hb2) (hi1.below hb2) hi2)
  clear hi1 hi2 hb1 hb2
  go_wp2_with fail
  refine (list_row a p c xs _ T2.out.x HC.out.1 hp HC.out.2).mono ?_
  rintro e w3 ⟨a3, n3, c3, rfl, hn3, hi3, -, -, hb3⟩
  have T3 := Lib.hid (T2.out.later hb3)
  have I3 := Lib.hid hi3
  clear hi3 hb3 T2
  go_wp2_with fail
  refine (Value_any a3 n3 c3 _ _ I3.out (by omega)).mono ?_
  rintro e w4 ⟨rfl, hb4⟩
  rw [HVT.out.1, HVT.out.2]
  have T4 := Lib.hid (T3.out.later hb4)
  clear hb4 T3 I3
  by_cases hv : vE xs = 0
  · obtain ⟨hN, hnum, hen⟩ := vE_zero hv
    have HNUM := Lib.hid hnum
    have HEN := Lib.hid hen
    rw [hv]
    obtain ⟨V, hV⟩ : ∃ V, vV xs = V := ⟨_, rfl⟩
    rw [hV] at HNUM HEN ⊢
    clear hN hnum hen hv hV
    go_wp2_with fail
    refine (EncodeI V HNUM.out _).mono ?_
    rintro e w5 ⟨a5, n5, c5, rfl, hi5, hn5, -, -, hb5⟩
    rw [HEN.out] at hi5
    have T4b := Lib.hid (T4.out.later hb5)
    have I5 := Lib.hid hi5
    clear hi5 hb5 T4
    go_wp2_with fail
    refine (equal_any a5 a n5 p c5 c xs xs _ I5.out T4b.out.x (by omega) hp).mono ?_
    rintro e w5b ⟨rfl, q, rfl⟩
    rw [beq_self_eq_true]
    have T5 := Lib.hid (T4b.out.later (below_drewN (Below.refl _ _) q))
    clear T4b I5
    go_wp2_with fail
    refine (awake_any _).mono ?_
    rintro e w9 ⟨rfl, hb9⟩
    have T9 := Lib.hid (T5.out.later hb9)
    clear hb9 T5
    go_wp2
    go_ret
    exact ⟨rfl, T9.out.b⟩
  · have T5 := T4
    rcases vE_vals xs with h | h | h
    · exact absurd h hv
    · rw [h]
      obtain ⟨V, hV⟩ : ∃ V, vV xs = V := ⟨_, rfl⟩
      rw [hV]
      clear h hv hV T4
      go_wp2_with fail
      refine (awake_any _).mono ?_
      rintro e w9 ⟨rfl, hb9⟩
      have T9 := Lib.hid (T5.out.later hb9)
      clear hb9 T5
      go_wp2
      go_ret
      exact ⟨rfl, T9.out.b⟩
    · rw [h]
      obtain ⟨V, hV⟩ : ∃ V, vV xs = V := ⟨_, rfl⟩
      rw [hV]
      clear h hv hV T4
      go_wp2_with fail
      refine (awake_any _).mono ?_
      rintro e w9 ⟨rfl, hb9⟩
      have T9 := Lib.hid (T5.out.later hb9)
      clear hb9 T5
      go_wp2
      go_ret
      exact ⟨rfl, T9.out.b⟩

theorem lawBack_any (m n : Int) (a : Option Addr) (p c : Nat) (xs : List Int) (w : World) (h : Ints w a p xs) (hc : p ≤ c) (hp : p ≤ 4611686018427387904) (hcm : c ≤ maxLen) :
    Calls Try.prog 10 #[.int .i64 m, .int .i64 n, .slice a p c] w fun e w' => e = .returned (.bool true) ∧ Below w.heap.size w w' := by
  by_cases hm : isNum m = true
  · by_cases hn : isNum n = true
    · by_cases hlt : m < n
      · exact lawBack_lt m n a p c xs w h hc hp hcm hm hn hlt
      · exact lawBack_ge m n a p c xs w h hc hp hcm hm hn hlt
    · exact lawBack_no2 m n a p c xs w h hc hp hcm hm (by simpa using hn)
  · exact lawBack_no1 m n a p c xs w h hc hp hcm (by simpa using hm)
end Go.Proofs.Ytbdabpmpfciibaa
