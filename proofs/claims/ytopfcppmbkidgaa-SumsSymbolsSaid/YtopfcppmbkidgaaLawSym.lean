/- The law SumsSymbols: it returns true, whatever its arguments are. -/
import Derived.Test.YtopfcppmbkidgaaChkC
import Derived.Test.YtopfcppmbkidgaaRChn
import Derived.Test.YtopfcppmbkidgaaRJac
import Derived.Test.YtopfcppmbkidgaaBnd
namespace Go.Proofs.Ytopfcppmbkidgaa
open Go.RowKit
attribute [local go_sem] Oper.semAt_some

set_option maxRecDepth 100000 in
set_option maxHeartbeats 4000000 in
theorem sym_no (a n : Int) (h : ¬ isSym a n) (al : Option Addr) (nl cl : Nat) (S : List Stp) (w : World) (hS : Ag w al nl S) (hl : nl ≤ 4611686018427387904) :
    Calls Try.prog 6 #[.int .i64 a, .int .i64 n, .slice al nl cl] w fun e w' => e = .returned (.bool true) ∧ Below w.heap.size w w' := by
  have HJ := Lib.hid (fun W => Jacobi_no a n h W)
  have HC := Lib.hid (fun W => Chain_no a n h W)
  have HT := Lib.hid (fun W (h1 : Ag W al nl S) => steps_any al nl cl S W h1 hl)
  have HK := Lib.hid (fun W v => Check_no a n h v W)
  have HO := Lib.hid (fun W => odd_any a n W)
  rw [Bool.eq_false_iff.2 (fun e => h ((symB_iff a n).1 e))] at HO
  have HA := Lib.hid (fun W => awake_any W)
  have HL := Lib.hid hS
  clear h hS hl
  go_enter Try.func6, Try.ntmps6
  go_wp2_with fail
  refine (HJ.out _).mono ?_
  rintro e v1 ⟨rfl, hb⟩
  have KP := Lib.hid hb
  clear hb
  go_wp2_with fail
  refine (HC.out _).mono ?_
  rintro e v2 ⟨rfl, hb⟩
  have KQ := Lib.hid (KP.out.trans (hb.mono KP.out.size))
  clear hb KP
  have KP := KQ
  clear KQ
  go_wp2_with fail
  refine (HT.out _ (HL.out.later KP.out)).mono ?_
  rintro e v3 ⟨⟨v, rfl, -⟩, hb⟩
  have KQ := Lib.hid (KP.out.trans (hb.mono KP.out.size))
  clear hb KP
  have KP := KQ
  clear KQ
  go_wp2_with fail
  refine (HK.out _ _).mono ?_
  rintro e v4 ⟨rfl, hb⟩
  have KQ := Lib.hid (KP.out.trans (hb.mono KP.out.size))
  clear hb KP
  have KP := KQ
  clear KQ
  go_wp2_with fail
  refine (HO.out _).mono ?_
  rintro e v5 ⟨rfl, rfl⟩
  go_wp2_with fail
  refine (HA.out _).mono ?_
  rintro e v6 ⟨rfl, hb⟩
  have KQ := Lib.hid (KP.out.trans (hb.mono KP.out.size))
  clear hb KP
  have KP := KQ
  clear KQ
  go_wp2
  go_ret
  exact ⟨rfl, KP.out⟩

set_option maxRecDepth 100000 in
set_option maxHeartbeats 16000000 in
theorem sym_eq (a : Int) (n : Nat) (h : isSym a (n : Int)) (N : Nat) (hN : isLen a (n : Int) N) (hB : N ≤ 94) (hV : shV (shS a (n : Int) (cstp a (n : Int) N) N) = Jv a (n : Int)) (al : Option Addr) (cl : Nat) (w : World) (hS : Ag w al N (cstp a (n : Int) N)) :
    Calls Try.prog 6 #[.int .i64 a, .int .i64 (n : Int), .slice al N cl] w fun e w' => e = .returned (.bool true) ∧ Below w.heap.size w w' := by
  have hl : N ≤ 4611686018427387904 := by omega
  have hlen := cstp_len a (n : Int) N
  have hl2 : N ≤ 4611686018427387904 := by omega
  have HJ := Lib.hid (fun W => Jacobi_yes a (n : Int) h W)
  have HCh := Lib.hid (fun W => Chain_yes a (n : Int) h N hN W)
  have HT := Lib.hid (fun W (h1 : Ag W al N (cstp a (n : Int) N)) => steps_any al N cl (cstp a (n : Int) N) W h1 hl)
  have hlt : ((cstp a (n : Int) N).take 120).length ≤ 5000000000 := by rw [List.length_take]; omega
  have HK := Lib.hid (fun W B v (hr : Row4 B v ((cstp a (n : Int) N).take 120) W) => Check_yes a (n : Int) h N hN B v _ hlt ((take_eq (by rw [hlen]; exact hB)).2 rfl) W hr)
  have HO := Lib.hid (fun W => odd_any a (n : Int) W)
  rw [(symB_iff a (n : Int)).2 h] at HO
  have HRC := Lib.hid (fun W => chainR_any a (n : Int) N hN W)
  have HRJ := Lib.hid (fun W => jacobiR_any a n h W)
  have HOw := Lib.hid (fun W a1 c1 (h1 : Ag W a1 N (cstp a (n : Int) N)) => own_any a1 N c1 _ W h1 (by omega))
  have HE1 := Lib.hid (fun W a1 c1 a2 c2 (h1 : Ag W a1 N (cstp a (n : Int) N)) (h2 : Ag W a2 N (cstp a (n : Int) N)) => equal5_any a1 a2 N N c1 c2 _ _ W h1 h2 hl2 hl2 true (by simp))
  have HE2 := Lib.hid (fun W a2 c2 (h1 : Ag W al N (cstp a (n : Int) N)) (h2 : Ag W a2 N (cstp a (n : Int) N)) => equal5_any al a2 N N cl c2 _ _ W h1 h2 hl hl2 true (by simp))
  have HA := Lib.hid (fun W => awake_any W)
  have HSh := Lib.hid (fun W a2 c2 (h2 : Ag W a2 N (cstp a (n : Int) N)) => shown_any a (n : Int) a2 N c2 _ W h2 hl2)
  rw [hV] at HSh
  have HL := Lib.hid hS
  obtain ⟨j, hj⟩ : ∃ j, Jv a (n : Int) = j := ⟨_, rfl⟩
  obtain ⟨L, hL⟩ : ∃ L, cstp a (n : Int) N = L := ⟨_, rfl⟩
  rw [hj] at HJ HRJ HK HSh
  rw [hL] at HCh HRC HOw HE1 HE2 hlen HT HK HSh HL
  have HLN := Lib.hid hlen
  clear h hN hB hV hS hl hl2 hlt hj hL hlen
  go_enter Try.func6, Try.ntmps6
  go_wp2_with fail
  refine (HJ.out _).mono ?_
  rintro e v1 ⟨rfl, hb⟩
  have KP := Lib.hid hb
  clear hb
  go_wp2_with fail
  refine (HCh.out _).mono ?_
  rintro e v2 ⟨⟨v, rfl, hr⟩, hb⟩
  have KQ := Lib.hid (KP.out.trans (hb.mono KP.out.size))
  clear hb KP
  have KP := KQ
  clear KQ
  obtain ⟨av, cv, rfl, -, -, hag⟩ := Ag.of hr
  rw [HLN.out] at hag ⊢
  have R1 := Lib.hid hag
  clear hr hag
  go_wp2_with fail
  refine (HT.out _ (HL.out.later KP.out)).mono ?_
  rintro e v3 ⟨⟨u, rfl, hr⟩, hb⟩
  have HR3 := Lib.hid hr
  clear hr
  have KQ := Lib.hid (KP.out.trans (hb.mono KP.out.size))
  have HQ := Lib.hid (R1.out.later hb)
  clear R1
  have R1 := HQ
  clear HQ
  clear hb KP
  have KP := KQ
  clear KQ
  go_wp2_with fail
  refine (HK.out _ _ _ HR3.out).mono ?_
  rintro e v4 ⟨rfl, hb⟩
  clear HR3
  have KQ := Lib.hid (KP.out.trans (hb.mono KP.out.size))
  have HQ := Lib.hid (R1.out.later hb)
  clear R1
  have R1 := HQ
  clear HQ
  clear hb KP
  have KP := KQ
  clear KQ
  go_wp2_with fail
  refine (HO.out _).mono ?_
  rintro e v5 ⟨rfl, rfl⟩
  go_wp2_with fail
  refine (HRC.out _).mono ?_
  rintro e v6 ⟨⟨x, rfl, hr⟩, hb⟩
  have KQ := Lib.hid (KP.out.trans (hb.mono KP.out.size))
  have HQ := Lib.hid (R1.out.later hb)
  clear R1
  have R1 := HQ
  clear HQ
  clear hb KP
  have KP := KQ
  clear KQ
  obtain ⟨ax, cx, rfl, -, -, hag⟩ := Ag.of hr
  rw [HLN.out] at hag ⊢
  have R2 := Lib.hid hag
  clear hr hag
  go_wp2_with fail
  refine (HRJ.out _).mono ?_
  rintro e v7 ⟨rfl, hb⟩
  have KQ := Lib.hid (KP.out.trans (hb.mono KP.out.size))
  have HQ := Lib.hid (R1.out.later hb)
  clear R1
  have R1 := HQ
  clear HQ
  have HQ := Lib.hid (R2.out.later hb)
  clear R2
  have R2 := HQ
  clear HQ
  clear hb KP
  have KP := KQ
  clear KQ
  go_wp2_with fail
  refine (HOw.out _ _ _ R1.out).mono ?_
  rintro e v8 ⟨⟨o, rfl, hr⟩, hb⟩
  have KQ := Lib.hid (KP.out.trans (hb.mono KP.out.size))
  have HQ := Lib.hid (R1.out.later hb)
  clear R1
  have R1 := HQ
  clear HQ
  have HQ := Lib.hid (R2.out.later hb)
  clear R2
  have R2 := HQ
  clear HQ
  clear hb KP
  have KP := KQ
  clear KQ
  obtain ⟨ao, co, rfl, -, -, hag⟩ := Ag.of hr
  rw [HLN.out] at hag ⊢
  have R3 := Lib.hid hag
  clear hr hag
  go_wp2_with fail
  refine (HE1.out _ _ _ _ _ R3.out R2.out).mono ?_
  rintro e v9 ⟨rfl, hb⟩
  clear R3
  have KQ := Lib.hid (KP.out.trans (hb.mono KP.out.size))
  have HQ := Lib.hid (R1.out.later hb)
  clear R1
  have R1 := HQ
  clear HQ
  have HQ := Lib.hid (R2.out.later hb)
  clear R2
  have R2 := HQ
  clear HQ
  clear hb KP
  have KP := KQ
  clear KQ
  go_wp2_with fail
  refine (HA.out _).mono ?_
  rintro e v10 ⟨rfl, hb⟩
  have KQ := Lib.hid (KP.out.trans (hb.mono KP.out.size))
  have HQ := Lib.hid (R1.out.later hb)
  clear R1
  have R1 := HQ
  clear HQ
  have HQ := Lib.hid (R2.out.later hb)
  clear R2
  have R2 := HQ
  clear HQ
  clear hb KP
  have KP := KQ
  clear KQ
  go_wp2_with fail
  refine (HE2.out _ _ _ (HL.out.later KP.out) R2.out).mono ?_
  rintro e v11 ⟨rfl, hb⟩
  have KQ := Lib.hid (KP.out.trans (hb.mono KP.out.size))
  have HQ := Lib.hid (R1.out.later hb)
  clear R1
  have R1 := HQ
  clear HQ
  have HQ := Lib.hid (R2.out.later hb)
  clear R2
  have R2 := HQ
  clear HQ
  clear hb KP
  have KP := KQ
  clear KQ
  go_wp2_with fail
  refine (HSh.out _ _ _ R2.out).mono ?_
  rintro e v12 ⟨rfl, hb⟩
  have KQ := Lib.hid (KP.out.trans (hb.mono KP.out.size))
  clear hb KP
  have KP := KQ
  clear KQ
  go_wp2
  go_ret
  exact ⟨rfl, KP.out⟩

set_option maxRecDepth 100000 in
set_option maxHeartbeats 16000000 in
theorem sym_ne (a : Int) (n : Nat) (h : isSym a (n : Int)) (N : Nat) (hN : isLen a (n : Int) N) (hB : N ≤ 94) (hV : shV (shS a (n : Int) (cstp a (n : Int) N) N) = Jv a (n : Int)) (al : Option Addr) (nl cl : Nat) (S : List Stp) (w : World) (hS : Ag w al nl S) (hl : nl ≤ 4611686018427387904) (hne : S ≠ cstp a (n : Int) N) :
    Calls Try.prog 6 #[.int .i64 a, .int .i64 (n : Int), .slice al nl cl] w fun e w' => e = .returned (.bool true) ∧ Below w.heap.size w w' := by
  have hlen := cstp_len a (n : Int) N
  have hl2 : N ≤ 4611686018427387904 := by omega
  have HJ := Lib.hid (fun W => Jacobi_yes a (n : Int) h W)
  have HCh := Lib.hid (fun W => Chain_yes a (n : Int) h N hN W)
  have HT := Lib.hid (fun W (h1 : Ag W al nl S) => steps_any al nl cl S W h1 hl)
  have hlt : (S.take 120).length ≤ 5000000000 := by rw [List.length_take]; omega
  have HK := Lib.hid (fun W B v (hr : Row4 B v (S.take 120) W) => Check_not a (n : Int) h N hN B v _ hlt (fun e => hne ((take_eq (by rw [hlen]; exact hB)).1 e)) W hr)
  have HO := Lib.hid (fun W => odd_any a (n : Int) W)
  rw [(symB_iff a (n : Int)).2 h] at HO
  have HRC := Lib.hid (fun W => chainR_any a (n : Int) N hN W)
  have HRJ := Lib.hid (fun W => jacobiR_any a n h W)
  have HOw := Lib.hid (fun W a1 c1 (h1 : Ag W a1 N (cstp a (n : Int) N)) => own_any a1 N c1 _ W h1 (by omega))
  have HE1 := Lib.hid (fun W a1 c1 a2 c2 (h1 : Ag W a1 N (cstp a (n : Int) N)) (h2 : Ag W a2 N (cstp a (n : Int) N)) => equal5_any a1 a2 N N c1 c2 _ _ W h1 h2 hl2 hl2 true (by simp))
  have HE2 := Lib.hid (fun W a2 c2 (h1 : Ag W al nl S) (h2 : Ag W a2 N (cstp a (n : Int) N)) => equal5_any al a2 nl N cl c2 _ _ W h1 h2 hl hl2 false (by simp [hne]))
  have HA := Lib.hid (fun W => awake_any W)
  have HL := Lib.hid hS
  obtain ⟨j, hj⟩ : ∃ j, Jv a (n : Int) = j := ⟨_, rfl⟩
  obtain ⟨L, hL⟩ : ∃ L, cstp a (n : Int) N = L := ⟨_, rfl⟩
  rw [hj] at HJ HRJ
  rw [hL] at HCh HRC HOw HE1 HE2 hlen
  have HLN := Lib.hid hlen
  clear h hN hB hV hS hl hl2 hlt hj hL hlen hne
  go_enter Try.func6, Try.ntmps6
  go_wp2_with fail
  refine (HJ.out _).mono ?_
  rintro e v1 ⟨rfl, hb⟩
  have KP := Lib.hid hb
  clear hb
  go_wp2_with fail
  refine (HCh.out _).mono ?_
  rintro e v2 ⟨⟨v, rfl, hr⟩, hb⟩
  have KQ := Lib.hid (KP.out.trans (hb.mono KP.out.size))
  clear hb KP
  have KP := KQ
  clear KQ
  obtain ⟨av, cv, rfl, -, -, hag⟩ := Ag.of hr
  rw [HLN.out] at hag ⊢
  have R1 := Lib.hid hag
  clear hr hag
  go_wp2_with fail
  refine (HT.out _ (HL.out.later KP.out)).mono ?_
  rintro e v3 ⟨⟨u, rfl, hr⟩, hb⟩
  have HR3 := Lib.hid hr
  clear hr
  have KQ := Lib.hid (KP.out.trans (hb.mono KP.out.size))
  have HQ := Lib.hid (R1.out.later hb)
  clear R1
  have R1 := HQ
  clear HQ
  clear hb KP
  have KP := KQ
  clear KQ
  go_wp2_with fail
  refine (HK.out _ _ _ HR3.out).mono ?_
  rintro e v4 ⟨rfl, hb⟩
  clear HR3
  have KQ := Lib.hid (KP.out.trans (hb.mono KP.out.size))
  have HQ := Lib.hid (R1.out.later hb)
  clear R1
  have R1 := HQ
  clear HQ
  clear hb KP
  have KP := KQ
  clear KQ
  go_wp2_with fail
  refine (HO.out _).mono ?_
  rintro e v5 ⟨rfl, rfl⟩
  go_wp2_with fail
  refine (HRC.out _).mono ?_
  rintro e v6 ⟨⟨x, rfl, hr⟩, hb⟩
  have KQ := Lib.hid (KP.out.trans (hb.mono KP.out.size))
  have HQ := Lib.hid (R1.out.later hb)
  clear R1
  have R1 := HQ
  clear HQ
  clear hb KP
  have KP := KQ
  clear KQ
  obtain ⟨ax, cx, rfl, -, -, hag⟩ := Ag.of hr
  rw [HLN.out] at hag ⊢
  have R2 := Lib.hid hag
  clear hr hag
  go_wp2_with fail
  refine (HRJ.out _).mono ?_
  rintro e v7 ⟨rfl, hb⟩
  have KQ := Lib.hid (KP.out.trans (hb.mono KP.out.size))
  have HQ := Lib.hid (R1.out.later hb)
  clear R1
  have R1 := HQ
  clear HQ
  have HQ := Lib.hid (R2.out.later hb)
  clear R2
  have R2 := HQ
  clear HQ
  clear hb KP
  have KP := KQ
  clear KQ
  go_wp2_with fail
  refine (HOw.out _ _ _ R1.out).mono ?_
  rintro e v8 ⟨⟨o, rfl, hr⟩, hb⟩
  have KQ := Lib.hid (KP.out.trans (hb.mono KP.out.size))
  have HQ := Lib.hid (R1.out.later hb)
  clear R1
  have R1 := HQ
  clear HQ
  have HQ := Lib.hid (R2.out.later hb)
  clear R2
  have R2 := HQ
  clear HQ
  clear hb KP
  have KP := KQ
  clear KQ
  obtain ⟨ao, co, rfl, -, -, hag⟩ := Ag.of hr
  rw [HLN.out] at hag ⊢
  have R3 := Lib.hid hag
  clear hr hag
  go_wp2_with fail
  refine (HE1.out _ _ _ _ _ R3.out R2.out).mono ?_
  rintro e v9 ⟨rfl, hb⟩
  clear R3
  have KQ := Lib.hid (KP.out.trans (hb.mono KP.out.size))
  have HQ := Lib.hid (R1.out.later hb)
  clear R1
  have R1 := HQ
  clear HQ
  have HQ := Lib.hid (R2.out.later hb)
  clear R2
  have R2 := HQ
  clear HQ
  clear hb KP
  have KP := KQ
  clear KQ
  go_wp2_with fail
  refine (HA.out _).mono ?_
  rintro e v10 ⟨rfl, hb⟩
  have KQ := Lib.hid (KP.out.trans (hb.mono KP.out.size))
  have HQ := Lib.hid (R1.out.later hb)
  clear R1
  have R1 := HQ
  clear HQ
  have HQ := Lib.hid (R2.out.later hb)
  clear R2
  have R2 := HQ
  clear HQ
  clear hb KP
  have KP := KQ
  clear KQ
  go_wp2_with fail
  refine (HE2.out _ _ _ (HL.out.later KP.out) R2.out).mono ?_
  rintro e v11 ⟨rfl, hb⟩
  have KQ := Lib.hid (KP.out.trans (hb.mono KP.out.size))
  have HQ := Lib.hid (R1.out.later hb)
  clear R1
  have R1 := HQ
  clear HQ
  have HQ := Lib.hid (R2.out.later hb)
  clear R2
  have R2 := HQ
  clear HQ
  clear hb KP
  have KP := KQ
  clear KQ
  go_wp2
  go_ret
  exact ⟨rfl, KP.out⟩

theorem sym_any (a n : Int) (al : Option Addr) (nl cl : Nat) (S : List Stp) (w : World) (hS : Ag w al nl S) (hl : nl ≤ 4611686018427387904) :
    Calls Try.prog 6 #[.int .i64 a, .int .i64 n, .slice al nl cl] w fun e w' => e = .returned (.bool true) ∧ Below w.heap.size w w' := by
  by_cases h : isSym a n
  · obtain ⟨k, rfl⟩ := Int.eq_ofNat_of_zero_le (show 0 ≤ n by have := h.2.2.1; omega)
    obtain ⟨N, hN, hB, hV⟩ := len_shows h
    by_cases he : S = cstp a (k : Int) N
    · subst he
      obtain rfl : N = nl := by have := hS.1; rw [cstp_len] at this; exact this
      exact sym_eq a k h N hN hB hV al cl w hS
    · exact sym_ne a k h N hN hB hV al nl cl S w hS hl he
  · exact sym_no a n h al nl cl S w hS hl
end Go.Proofs.Ytopfcppmbkidgaa
