/- The law NumeralDigits: its walk in every case (written by tools/lawdigits.py). Condition: the slices lie in memory. -/
import Derived.Test.YtbdabpmpfciibaaDigs
import Derived.Test.YtbdabpmpfciibaaLawAdds
namespace Go.Proofs.Ytbdabpmpfciibaa
open Go.RowKit
attribute [local go_sem] Oper.semAt_some

set_option maxHeartbeats 8000000 in
set_option maxRecDepth 100000 in
theorem lawDigits_any (a1 a2 : Option Addr) (x : Int) (n m c d : Nat) (q cs : List Int) (w : World) (h1 : Ints w a1 n q) (h2 : Ints w a2 m cs) (hc : n ≤ c) (hn : n ≤ 4611686018427387904) (hcm : c ≤ maxLen) (hd : m ≤ d) (hm : m ≤ 4611686018427387904) (hdm : d ≤ maxLen) :
    Calls Try.prog 8 #[.slice a1 n c, .int .i64 x, .slice a2 m d] w fun e w' => e = .returned (.bool true) ∧ Below w.heap.size w w' := by
  have T0 := Lib.hid (At2.mk (Below.refl _ w) h1 h2)
  have HC := Lib.hid (And.intro hc (And.intro hcm (And.intro hd hdm)))
  have HTL := Lib.hid (And.intro (dgL_take q x) (And.intro (dgE_take q x) (And.intro (alV_take q cs) (alE_take q cs))))
  obtain ⟨L, hL⟩ : ∃ L, dgL q x = L := ⟨_, rfl⟩
  obtain ⟨E, hE⟩ : ∃ E, dgE q x = E := ⟨_, rfl⟩
  obtain ⟨V, hV⟩ : ∃ B, alV q cs = B := ⟨_, rfl⟩
  obtain ⟨F, hF⟩ : ∃ F, alE q cs = F := ⟨_, rfl⟩
  rw [hL, hE, hV, hF] at HTL
  have HD := Lib.hid (And.intro hL (And.intro hE (And.intro hV hF)))
  have HLN := Lib.hid h1.1
  clear h1 h2 hc hcm hd hdm hL hE hV hF
  go_enter Try.func8, Try.ntmps8
  go_wp2_with fail
  refine (list_row a1 n c q _ T0.out.i HC.out.1 hn HC.out.2.1).mono ?_
  rintro e w1 ⟨b1, n1, c1, rfl, hn1, hi1, -, -, hb1⟩
  have T1 := Lib.hid (T0.out.later hb1)
  have I1 := Lib.hid hi1
  clear hi1 hb1 T0
  go_wp2_with fail
  refine (Digits_any b1 n1 c1 _ x _ I1.out (by omega)).mono ?_
  rintro e w3 ⟨b3, n3, c3, rfl, hi3, hn3, -, -, hb3⟩
  rw [HTL.out.1] at hi3
  rw [HTL.out.2.1]
  have T3 := Lib.hid (T1.out.later hb3)
  have R3 := Lib.hid hi3
  clear hi3 hb3 T1 I1
  go_wp2_with fail
  refine (list_row a1 n c q _ T3.out.i HC.out.1 hn HC.out.2.1).mono ?_
  rintro e w4 ⟨b4, n4, c4, rfl, hn4, hi4, -, -, hb4⟩
  have T4 := Lib.hid (T3.out.later hb4)
  have I4 := Lib.hid hi4
  have R4 := Lib.hid (R3.out.below hb4)
  clear hi4 hb4 T3 R3
  go_wp2_with fail
  refine (list_row a2 m d cs _ T4.out.j HC.out.2.2.1 hm HC.out.2.2.2).mono ?_
  rintro e w5 ⟨b5, n5, c5, rfl, hn5, hi5, -, -, hb5⟩
  have T5 := Lib.hid (T4.out.later hb5)
  have I5 := Lib.hid (And.intro (I4.out.below hb5) hi5)
  have R5 := Lib.hid (R4.out.below hb5)
  clear hi5 hb5 T4 I4 R4
  go_wp2_with fail
  refine (Along_any b4 b5 n4 c4 n5 c5 _ _ _ I5.out.1 I5.out.2 (by omega) (by omega)).mono ?_
  rintro e w6 ⟨rfl, hb6⟩
  rw [HTL.out.2.2.1, HTL.out.2.2.2]
  have T6 := Lib.hid (T5.out.later hb6)
  have R6 := Lib.hid (R5.out.below hb6)
  clear hb6 T5 R5 I5
  go_wp2_with fail
  refine (refFraction_any a1 n c q _ T6.out.i hn).mono ?_
  rintro e w' ⟨rfl, rfl⟩
  by_cases hq : isQ q = true
  · have HQ := Lib.hid hq
    have hqb := isQ_yes hq
    rw [HLN.out] at hqb
    have hn10 : n ≤ 10 := hqb.2.1
    rw [hq]
    have HDR := Lib.hid (den_ref a1 n c q _ T6.out.i hq)
    have hat := denL_at (q := q) (Nat.le_refl n)
    have hdl := dN_le hq (k := q.length) (Nat.le_refl _)
    rw [HLN.out] at hdl
    obtain ⟨D, hDD⟩ : ∃ D, dN q n = D := ⟨_, rfl⟩
    rw [hDD] at hat hdl
    have HAT := Lib.hid hat
    have HDD := Lib.hid hDD
    have n0 : (0 : Int) ≤ (n : Int) := by omega
    clear hq hqb hat hDD
    by_cases hx0 : x < 0
    · have hL : L = [] ∧ E = 2 := by
        have hno : isD q x = false := isD_no (fun h => by omega)
        rw [← HD.out.1, ← HD.out.2.1]
        unfold dgL dgE
        rw [hno]
        exact ⟨rfl, rfl⟩
      rw [hL.1] at R6
      have hn30 : n3 = 0 := R6.out.1.symm
      have hE2 := hL.2
      subst hE2 hn30
      clear hL
      go_wp2_with fail
      refine HDR.out.mono ?_
      rintro e w7 ⟨b7, c7, rfl, hi7, -, -, hb7⟩
      have T9 := Lib.hid (T6.out.later hb7)
      clear hi7 hb7 T6 R6 HDR
      go_wp2_with fail
      refine (refIsAlong_any a1 a2 n c m d q cs _ T9.out.i T9.out.j HQ.out hm).mono ?_
      rintro e w' ⟨rfl, rfl⟩
      by_cases hA : isA q cs = true
      · have e0 : isAL q cs = true := by unfold isAL; rw [HQ.out, hA]; rfl
        have hV : numA q cs q.length = V := by rw [← HD.out.2.2.1]; unfold alV; rw [if_pos e0]
        have hF : F = 0 := by rw [← HD.out.2.2.2]; unfold alE; rw [if_pos e0]
        have HN := Lib.hid (number_ref a1 a2 n c m d q cs _ T9.out.i T9.out.j HQ.out hA)
        rw [hV] at HN
        rw [hA]
        subst hF
        clear hA e0 hV HD HTL
        go_wp2_with fail
        refine HN.out.mono ?_
        rintro e w10 ⟨rfl, hb10⟩
        have T10 := Lib.hid (T9.out.later hb10)
        clear hb10 T9 HN
        go_wp2_with fail
        refine (awake_any _).mono ?_
        rintro e w11 ⟨rfl, hb11⟩
        have T11 := Lib.hid (T10.out.later hb11)
        clear hb11 T10
        go_wp2
        go_ret
        exact ⟨rfl, T11.out.b⟩
      · have hA' : isA q cs = false := by simpa using hA
        have e0 : isAL q cs = false := by unfold isAL; rw [hA', Bool.and_false]
        have hV : V = 0 := by rw [← HD.out.2.2.1]; unfold alV; rw [e0]; rfl
        have hF : F = 2 := by rw [← HD.out.2.2.2]; unfold alE; rw [e0]; rfl
        rw [hA']
        subst hV hF
        clear hA hA' e0 HD HTL
        go_wp2_with fail
        refine (awake_any _).mono ?_
        rintro e w11 ⟨rfl, hb11⟩
        have T11 := Lib.hid (T9.out.later hb11)
        clear hb11 T9
        go_wp2
        go_ret
        exact ⟨rfl, T11.out.b⟩
    · have DARM : True := trivial
      clear DARM
      by_cases hxD : D ≤ x
      · have hL : L = [] ∧ E = 2 := by
          have hno : isD q x = false := isD_no (fun h => by have := h.2.2; rw [HLN.out, HDD.out] at this; omega)
          rw [← HD.out.1, ← HD.out.2.1]
          unfold dgL dgE
          rw [hno]
          exact ⟨rfl, rfl⟩
        rw [hL.1] at R6
        have hn30 : n3 = 0 := R6.out.1.symm
        have hE2 := hL.2
        subst hE2 hn30
        clear hL
        go_wp2_with fail
        refine HDR.out.mono ?_
        rintro e w7 ⟨b7, c7, rfl, hi7, -, -, hb7⟩
        obtain ⟨p1, hp1⟩ : ∃ p1, n + 1 = p1 := ⟨_, rfl⟩
        rw [hp1] at hi7 ⊢
        obtain ⟨b', off', rfl, hbl, hc'⟩ := hi7.at (by omega)
        have hcn := hc' n (by omega)
        rw [HAT.out] at hcn
        have g1 : n < p1 := by omega
        have g2 : (n : Int) < (p1 : Int) := by omega
        have T9 := Lib.hid (T6.out.later hb7)
        clear hi7 hb7 T6 R6 HDR hc' hp1
        go_wp2_with fail
        refine (refIsAlong_any a1 a2 n c m d q cs _ T9.out.i T9.out.j HQ.out hm).mono ?_
        rintro e w' ⟨rfl, rfl⟩
        by_cases hA : isA q cs = true
        · have e0 : isAL q cs = true := by unfold isAL; rw [HQ.out, hA]; rfl
          have hV : numA q cs q.length = V := by rw [← HD.out.2.2.1]; unfold alV; rw [if_pos e0]
          have hF : F = 0 := by rw [← HD.out.2.2.2]; unfold alE; rw [if_pos e0]
          have HN := Lib.hid (number_ref a1 a2 n c m d q cs _ T9.out.i T9.out.j HQ.out hA)
          rw [hV] at HN
          rw [hA]
          subst hF
          clear hA e0 hV HD HTL
          go_wp2_with fail
          refine HN.out.mono ?_
          rintro e w10 ⟨rfl, hb10⟩
          have T10 := Lib.hid (T9.out.later hb10)
          clear hb10 T9 HN
          go_wp2_with fail
          refine (awake_any _).mono ?_
          rintro e w11 ⟨rfl, hb11⟩
          have T11 := Lib.hid (T10.out.later hb11)
          clear hb11 T10
          go_wp2
          go_ret
          exact ⟨rfl, T11.out.b⟩
        · have hA' : isA q cs = false := by simpa using hA
          have e0 : isAL q cs = false := by unfold isAL; rw [hA', Bool.and_false]
          have hV : V = 0 := by rw [← HD.out.2.2.1]; unfold alV; rw [e0]; rfl
          have hF : F = 2 := by rw [← HD.out.2.2.2]; unfold alE; rw [e0]; rfl
          rw [hA']
          subst hV hF
          clear hA hA' e0 HD HTL
          go_wp2_with fail
          refine (awake_any _).mono ?_
          rintro e w11 ⟨rfl, hb11⟩
          have T11 := Lib.hid (T9.out.later hb11)
          clear hb11 T9
          go_wp2
          go_ret
          exact ⟨rfl, T11.out.b⟩
      · have hyes : isD q x = true := isD_mk HQ.out (by omega) (by rw [HLN.out, HDD.out]; omega)
        have hL : digL q x = L ∧ E = 0 := by
          rw [← HD.out.1, ← HD.out.2.1]
          unfold dgL dgE
          rw [hyes]
          exact ⟨rfl, rfl⟩
        have hE2 := hL.2
        have HLL := Lib.hid hL.1
        subst hE2
        clear hL hyes
        go_wp2_with fail
        refine HDR.out.mono ?_
        rintro e w7 ⟨b7, c7, rfl, hi7, -, -, hb7⟩
        obtain ⟨p1, hp1⟩ : ∃ p1, n + 1 = p1 := ⟨_, rfl⟩
        rw [hp1] at hi7 ⊢
        obtain ⟨b', off', rfl, hbl, hc'⟩ := hi7.at (by omega)
        have hcn := hc' n (by omega)
        rw [HAT.out] at hcn
        have g1 : n < p1 := by omega
        have g2 : (n : Int) < (p1 : Int) := by omega
        have T7 := Lib.hid (T6.out.later hb7)
        have R7 := Lib.hid (R6.out.below hb7)
        clear hi7 hb7 T6 R6 HDR hc' hp1
        go_wp2_with fail
        refine (digits_ref a1 n c q x _ T7.out.i HQ.out (by omega) (by omega)).mono ?_
        rintro e w8 ⟨b8, c8, rfl, hi8, -, -, hb8⟩
        rw [HLL.out] at hi8
        have T8 := Lib.hid (T7.out.later hb8)
        have R8 := Lib.hid (And.intro (R7.out.below hb8) hi8)
        clear hi8 hb8 T7 R7 hcn
        go_wp2_with fail
        refine (equal_any _ _ _ _ _ _ L L _ R8.out.1 R8.out.2 (by omega) (by omega)).mono ?_
        rintro e w8b ⟨rfl, qq, rfl⟩
        rw [beq_self_eq_true]
        have T9 := Lib.hid (T8.out.later (below_drewN (Below.refl _ _) qq))
        clear T8 R8
        go_wp2_with fail
        refine (refIsAlong_any a1 a2 n c m d q cs _ T9.out.i T9.out.j HQ.out hm).mono ?_
        rintro e w' ⟨rfl, rfl⟩
        by_cases hA : isA q cs = true
        · have e0 : isAL q cs = true := by unfold isAL; rw [HQ.out, hA]; rfl
          have hV : numA q cs q.length = V := by rw [← HD.out.2.2.1]; unfold alV; rw [if_pos e0]
          have hF : F = 0 := by rw [← HD.out.2.2.2]; unfold alE; rw [if_pos e0]
          have HN := Lib.hid (number_ref a1 a2 n c m d q cs _ T9.out.i T9.out.j HQ.out hA)
          rw [hV] at HN
          rw [hA]
          subst hF
          clear hA e0 hV HD HTL
          go_wp2_with fail
          refine HN.out.mono ?_
          rintro e w10 ⟨rfl, hb10⟩
          have T10 := Lib.hid (T9.out.later hb10)
          clear hb10 T9 HN
          go_wp2_with fail
          refine (awake_any _).mono ?_
          rintro e w11 ⟨rfl, hb11⟩
          have T11 := Lib.hid (T10.out.later hb11)
          clear hb11 T10
          go_wp2
          go_ret
          exact ⟨rfl, T11.out.b⟩
        · have hA' : isA q cs = false := by simpa using hA
          have e0 : isAL q cs = false := by unfold isAL; rw [hA', Bool.and_false]
          have hV : V = 0 := by rw [← HD.out.2.2.1]; unfold alV; rw [e0]; rfl
          have hF : F = 2 := by rw [← HD.out.2.2.2]; unfold alE; rw [e0]; rfl
          rw [hA']
          subst hV hF
          clear hA hA' e0 HD HTL
          go_wp2_with fail
          refine (awake_any _).mono ?_
          rintro e w11 ⟨rfl, hb11⟩
          have T11 := Lib.hid (T9.out.later hb11)
          clear hb11 T9
          go_wp2
          go_ret
          exact ⟨rfl, T11.out.b⟩
  · have hq' : isQ q = false := by simpa using hq
    have hL : L = [] ∧ E = 2 ∧ V = 0 ∧ F = 2 := by
      have hno : isD q x = false := isD_no (fun h => hq h.1)
      have hno2 : isAL q cs = false := by unfold isAL; rw [hq', Bool.false_and]
      rw [← HD.out.1, ← HD.out.2.1, ← HD.out.2.2.1, ← HD.out.2.2.2]
      unfold dgL dgE alV alE
      rw [hno, hno2]
      exact ⟨rfl, rfl, rfl, rfl⟩
    rw [hL.1] at R6
    have hn30 : n3 = 0 := R6.out.1.symm
    obtain ⟨-, hE2, hV2, hF2⟩ := hL
    subst hE2 hV2 hF2 hn30
    rw [hq']
    clear hq hq' HD HTL
    go_wp2_with fail
    refine (awake_any _).mono ?_
    rintro e w11 ⟨rfl, hb11⟩
    have T11 := Lib.hid (T6.out.later hb11)
    clear hb11 T6
    go_wp2
    go_ret
    exact ⟨rfl, T11.out.b⟩
end Go.Proofs.Ytbdabpmpfciibaa
