/- The walks of Points, On, awake, none, back, and of slices.Equal at the reference's points. Conditions as stated in each theorem. -/
import Derived.Test.YtoepghlkjbpkfaaDoorPts
namespace Go.Proofs.YtoepghlkjbpkfaaDoor
open Go.RowKit
attribute [local go_sem] Oper.semAt_some

theorem vB_nat {P A B : Int} (h : vB P A B = true) : ∃ N : Nat, P = N ∧ (5 ≤ N ∧ N ≤ 31) ∧ (0 ≤ A ∧ A ≤ 31) ∧ (0 ≤ B ∧ B ≤ 31) := by
  obtain ⟨h1, h2, h3⟩ := vB_le h
  exact ⟨P.toNat, by omega, by omega, h2, h3⟩

set_option maxHeartbeats 4000000 in
theorem Points_yes (P A B : Int) (hv : vB P A B = true) (w : World) (hF : Far w) :
    Calls Tryd.prog 17 #[.agg #[.int .i64 P, .int .i64 A, .int .i64 B]] w fun e w' => (∃ v', e = .returned (.tuple #[v', .int .i64 0]) ∧ RowP 34 w.heap.size v' (ptsL P A B) w') ∧ Below w.heap.size w w' := by
  obtain ⟨N, rfl, h1, h2, h3⟩ := vB_nat hv
  have HB := Lib.hid (below1 w (.cells #[.int .i64 (N : Int), .int .i64 A, .int .i64 B] 30))
  have HC := Lib.hid (C3.new w (.int .i64 (N : Int)) (.int .i64 A) (.int .i64 B) 30)
  have HV := Lib.hid (fun W hF => valid_any (N : Int) A B none 0 0 [] W (AgP.nil _ _) (by omega) hF)
  rw [hv] at HV
  have HP := Lib.hid (fun W hF => points_any N A B h1 h2 h3 W hF)
  have HF1 := Lib.hid (hF.below HB.out)
  clear hv hF h1 h2 h3
  go_enter Tryd.func17, Tryd.ntmps17
  go_wp2_with fail
  refine (HV.out _ HF1.out).mono ?_
  rintro e w1 ⟨rfl, hb⟩
  have HB1 := Lib.hid (HB.out.trans (hb.mono (by simp)))
  have HF2 := Lib.hid (HF1.out.below hb)
  obtain ⟨q0, q1, q2⟩ := HC.out.later hb
  clear hb
  go_wp2_with fail
  refine (HP.out _ HF2.out).mono ?_
  rintro e w2 ⟨⟨v', rfl, hr⟩, hb⟩
  have HB2 := Lib.hid (HB1.out.trans (hb.mono HB1.out.size))
  have HR := Lib.hid (hr.mono HB1.out.size)
  clear hb hr
  go_wp2
  go_ret2
  exact ⟨⟨_, rfl, HR.out⟩, HB2.out⟩

set_option maxHeartbeats 4000000 in
theorem Points_no (P A B : Int) (hv : vB P A B = false) (w : World) (hF : Far w) :
    Calls Tryd.prog 17 #[.agg #[.int .i64 P, .int .i64 A, .int .i64 B]] w fun e w' => e = .returned (.tuple #[.slice none 0 0, .int .i64 2]) ∧ Below w.heap.size w w' := by
  have HB := Lib.hid (below1 w (.cells #[.int .i64 P, .int .i64 A, .int .i64 B] 30))
  have HV := Lib.hid (fun W hF => valid_any P A B none 0 0 [] W (AgP.nil _ _) (by omega) hF)
  rw [hv] at HV
  have HF1 := Lib.hid (hF.below HB.out)
  clear hv hF
  go_enter Tryd.func17, Tryd.ntmps17
  go_wp2_with fail
  refine (HV.out _ HF1.out).mono ?_
  rintro e w1 ⟨rfl, hb⟩
  have HB1 := Lib.hid (HB.out.trans (hb.mono (by simp)))
  clear hb
  go_wp2
  go_ret2
  exact ⟨rfl, HB1.out⟩

set_option maxHeartbeats 4000000 in
theorem On_yes (P A B : Int) (q : Pt) (hv : vB P A B = true) (w : World) (hF : Far w) :
    Calls Tryd.prog 19 #[.agg #[.int .i64 P, .int .i64 A, .int .i64 B], .agg #[.int .i64 q.x, .int .i64 q.y, .bool q.f]] w fun e w' => e = .returned (.tuple #[.bool (onB P A B q), .int .i64 0]) ∧ Below w.heap.size w w' := by
  obtain ⟨h1, h2, h3⟩ := vB_le hv
  have HB := Lib.hid (below2 w (.cells #[.int .i64 P, .int .i64 A, .int .i64 B] 30) (.cells #[.int .i64 q.x, .int .i64 q.y, .bool q.f] 34))
  have hc := C3.new w (.int .i64 P) (.int .i64 A) (.int .i64 B) 30
  have HC := Lib.hid (hc.later (below1 (w.alloc (.cells #[.int .i64 P, .int .i64 A, .int .i64 B] 30)) (.cells #[.int .i64 q.x, .int .i64 q.y, .bool q.f] 34)))
  have hd := C3.new (w.alloc (.cells #[.int .i64 P, .int .i64 A, .int .i64 B] 30)) (.int .i64 q.x) (.int .i64 q.y) (.bool q.f) 34
  rw [show (w.alloc (.cells #[.int .i64 P, .int .i64 A, .int .i64 B] 30)).heap.size = w.heap.size + 1 by simp] at hd
  have HD := Lib.hid hd
  have HV := Lib.hid (fun W hF => valid_any P A B none 0 0 [] W (AgP.nil _ _) (by omega) hF)
  rw [hv] at HV
  have HP := Lib.hid (fun W hF => has_any P A B q h1 h2 h3 W hF)
  have HF1 := Lib.hid (hF.below HB.out)
  clear hv hF h1 h2 h3 hc hd
  go_enter Tryd.func19, Tryd.ntmps19
  go_wp2_with fail
  refine (HV.out _ HF1.out).mono ?_
  rintro e w1 ⟨rfl, hb⟩
  have HB1 := Lib.hid (HB.out.trans (hb.mono HB.out.size))
  have HF2 := Lib.hid (HF1.out.below hb)
  obtain ⟨q0, q1, q2⟩ := HC.out.later hb
  obtain ⟨r0, r1, r2⟩ := HD.out.later hb
  clear hb
  go_wp2_with fail
  refine (HP.out _ HF2.out).mono ?_
  rintro e w2 ⟨rfl, hb⟩
  have HB2 := Lib.hid (HB1.out.trans (hb.mono HB1.out.size))
  clear hb
  go_wp2
  go_ret2
  exact ⟨rfl, HB2.out⟩

set_option maxHeartbeats 4000000 in
theorem On_no (P A B : Int) (q : Pt) (hv : vB P A B = false) (w : World) (hF : Far w) :
    Calls Tryd.prog 19 #[.agg #[.int .i64 P, .int .i64 A, .int .i64 B], .agg #[.int .i64 q.x, .int .i64 q.y, .bool q.f]] w fun e w' => e = .returned (.tuple #[.bool false, .int .i64 2]) ∧ Below w.heap.size w w' := by
  have HB := Lib.hid (below2 w (.cells #[.int .i64 P, .int .i64 A, .int .i64 B] 30) (.cells #[.int .i64 q.x, .int .i64 q.y, .bool q.f] 34))
  have HV := Lib.hid (fun W hF => valid_any P A B none 0 0 [] W (AgP.nil _ _) (by omega) hF)
  rw [hv] at HV
  have HF1 := Lib.hid (hF.below HB.out)
  clear hv hF
  go_enter Tryd.func19, Tryd.ntmps19
  go_wp2_with fail
  refine (HV.out _ HF1.out).mono ?_
  rintro e w1 ⟨rfl, hb⟩
  have HB1 := Lib.hid (HB.out.trans (hb.mono HB.out.size))
  clear hb
  go_wp2
  go_ret2
  exact ⟨rfl, HB1.out⟩

theorem pts_five : (ptsL 5 1 1).length = 9 := by decide +kernel

set_option maxHeartbeats 4000000 in
theorem awake_any (w : World) (hF : Far w) : Calls Tryd.prog 22 #[] w fun e w' => e = .returned (.bool true) ∧ Below w.heap.size w w' := by
  have HP := Lib.hid (Points_yes 5 1 1 (by decide +kernel) w hF)
  clear hF
  go_enter Tryd.func22, Tryd.ntmps22
  go_wp2_with fail
  refine (HP.out).mono ?_
  rintro e w1 ⟨⟨v', rfl, hr⟩, hb⟩
  have HB := Lib.hid hb
  obtain ⟨a, c, rfl, h1, h2, -⟩ := AgP.of hr
  rw [pts_five] at h1 ⊢
  clear hb hr
  go_wp2
  go_ret
  exact ⟨rfl, HB.out⟩

set_option maxHeartbeats 4000000 in
theorem none_any (q : Pt) (w : World) : Calls Tryd.prog 31 #[.agg #[.int .i64 q.x, .int .i64 q.y, .bool q.f]] w fun e w' => e = .returned (.bool (decide (q = ⟨0, 0, false⟩))) ∧ Below w.heap.size w w' := by
  have HB := Lib.hid (below1 w (.cells #[.int .i64 q.x, .int .i64 q.y, .bool q.f] 34))
  have heq := fun W => eql34 W q ⟨0, 0, false⟩
  simp only at heq
  go_enter Tryd.func31, Tryd.ntmps31
  go_wp2
  go_ret
  exact ⟨rfl, HB.out⟩

set_option maxHeartbeats 8000000 in
set_option maxRecDepth 100000 in
theorem back_any (a : Option Addr) (n c : Nat) (S : List Pt) (w : World) (h : AgP w a n S) (hl : n ≤ 5000000000) :
    Calls Tryd.prog 24 #[.slice a n c] w fun e w' => (∃ v', e = .returned v' ∧ RowP 25 w.heap.size v' S w') ∧ Below w.heap.size w w' := by
  have HA := Lib.hid h
  have HSL := Lib.hid h.1
  obtain ⟨i0, hi, hz0, hz1, hz2⟩ := info_parts info25
  clear h
  go_enter Tryd.func24, Tryd.ntmps24
  go_wp2
  go_loopg [3, 5, 8] n (fun gk s3 s5 s8 wr => ∃ k : Nat, k + gk = n ∧ s8 = .int .i64 (k : Int) ∧ RowP 25 w.heap.size s3 (S.take k) wr ∧ Below w.heap.size w wr)
  case atStart => exact ⟨0, by omega, rfl, RowP.nil _ _ _, Below.refl _ _⟩
  case round =>
    obtain ⟨k, hk, rfl, hr, hb⟩ := hrel
    have HK := Lib.hid hk
    have HRR := Lib.hid hr
    have HBB := Lib.hid hb
    by_cases hlt : k < n
    · have l1 : (k : Int) < (n : Int) := by omega
      have l0 : (0 : Int) ≤ (k : Int) := by omega
      obtain ⟨b, o, rfl, -, hcc⟩ := (HA.out.later hb).pos (by omega)
      obtain ⟨t0, t1, t2⟩ := hcc k hlt
      have hst := take_succ3 (S := S) (k := k) (by rw [HSL.out]; exact hlt)
      obtain ⟨⟨x0, x1, x2⟩, hx⟩ : ∃ x, nth3 S k = x := ⟨_, rfl⟩
      rw [hx] at t0 t1 t2 hst
      simp only at t0 t1 t2
      have HST := Lib.hid hst
      have hb1 := below1 wr (.cells #[.int .i64 x0, .int .i64 x1, .bool x2] 34)
      have HR1 := Lib.hid (HRR.out.later hb1)
      have HB1 := Lib.hid (HBB.out.trans (hb1.mono HBB.out.size))
      have HO := Lib.hid (fun W => own_any ⟨x0, x1, x2⟩ W)
      have hln : (S.take k).length ≤ 5000000000 := by rw [List.length_take]; omega
      clear hst hx hk hr hb hcc hb1
      go_wp2_with fail
      refine (HO.out _).mono ?_
      rintro e w1 ⟨rfl, hb⟩
      have HR2 := Lib.hid (HR1.out.later hb)
      have HB2 := Lib.hid (HB1.out.trans (hb.mono HB1.out.size))
      have hr2 := HR2.out
      unfold RowP at hr2
      have hsz := HB2.out.size
      obtain ⟨Q, hQ⟩ : ∃ Q, (S.take k).length = Q := ⟨_, rfl⟩
      rw [hQ] at hr2 hln
      have HQ := Lib.hid hQ
      clear hQ hb
      go_wp2_with (at_builtin; refine wpList_append_own _ rfl _ _ 39 rfl (w.heap.size) 25 i0 (.agg #[.int .i64 0, .int .i64 0, .bool false]) 3 24 Tryd.underlying39 hi hz0 hz1 hz2 rfl (by decide) _ _ _ rfl (World.ownsRow.alloc (h := hr2) _) ⟨w1.heap.size, 0, none⟩ 1 1 (fl3 [⟨x0, x1, x2⟩]) rfl rfl (by have := cell3_new w1 ⟨x0, x1, x2⟩ 25; simpa using this) (fl3_one _) (by unfold maxLen; omega) (by omega) (by simp; omega) ?_; intro v' w3 hown' hgrow _)
      have hb3 : Below w.heap.size w w3 := (HB2.out.alloc hsz _).grown hgrow (by first | (simp; done) | (simp; omega)) (fun j e => (World.ownsRow.lt hr2 j e).1)
      have hrow : RowP 25 w.heap.size v' (S.take (k + 1)) w3 := by
        unfold RowP
        rw [HST.out, List.length_append, HQ.out, fl3_app]
        exact hown'
      have HF := Lib.hid (And.intro hrow hb3)
      clear hown' hgrow hrow hb3 hr2
      go_wp2
      go_roundg (gk - 1)
      case rel => exact ⟨k + 1, by have := HK.out; omega, by go_num, HF.out.1, HF.out.2⟩
      case measure => have := HK.out; omega
    · have l1 : ¬ (k : Int) < (n : Int) := by omega
      have hf : S.take k = S := List.take_of_length_le (by have := HSL.out; omega)
      have HF := Lib.hid (show RowP 25 w.heap.size u3 S wr by have := HRR.out; rwa [hf] at this)
      clear hk hr hb hf
      go_wp2
      go_ret
      exact ⟨⟨_, rfl, HF.out⟩, HBB.out⟩

theorem list_eq3 {S T : List Pt} (hl : S.length = T.length) (h : ∀ j, j < S.length → nth3 S j = nth3 T j) : S = T := by
  refine List.ext_getElem hl fun j h1 h2 => ?_
  have := h j h1
  simpa [nth3, List.getD, h1, h2] using this

set_option maxHeartbeats 8000000 in
set_option maxRecDepth 100000 in
theorem equalR_any (a1 a2 : Option Addr) (n1 n2 c1 c2 : Nat) (S T : List Pt) (w : World) (h1 : AgP w a1 n1 S) (h2 : AgP w a2 n2 T) (hl1 : n1 ≤ 4611686018427387904) (hl2 : n2 ≤ 4611686018427387904) (R : Bool) (hR : R = true ↔ S = T) :
    Calls Tryd.prog 23 #[.slice a1 n1 c1, .slice a2 n2 c2] w fun e w' => e = .returned (.bool R) ∧ Below w.heap.size w w' := by
  have HR := Lib.hid hR
  have HL := Lib.hid (And.intro h1.1 h2.1)
  have HB := Lib.hid (Below.refl w.heap.size w)
  by_cases hn : n1 = n2
  · subst hn
    have H1 := Lib.hid h1
    have H2 := Lib.hid h2
    clear h1 h2 hR
    go_enter Tryd.func23, Tryd.ntmps23
    go_wp2
    go_loopg [5, 13] n1 (fun gk s5 s13 wr => ∃ k q : Nat, k + gk = n1 ∧ s13 = .int .i64 (k : Int) ∧ RowKit.Hid (∀ j, j < k → nth3 S j = nth3 T j) ∧ wr = w.drewN q)
    case atStart => exact ⟨0, 0, by omega, rfl, Lib.hid (fun j hj => by omega), rfl⟩
    case round =>
      obtain ⟨k, q, hk, rfl, HP, rfl⟩ := hrel
      have HK := Lib.hid hk
      by_cases hlt : k < n1
      · have l1 : (k : Int) < (n1 : Int) := by omega
        have l0 : (0 : Int) ≤ (k : Int) := by omega
        obtain ⟨b1, o1, rfl, -, hc1⟩ := H1.out.pos (by omega)
        obtain ⟨b2, o2, rfl, -, hc2⟩ := H2.out.pos (by omega)
        obtain ⟨t0, t1, t2⟩ := hc1 k hlt
        obtain ⟨s0, s1, s2⟩ := hc2 k hlt
        obtain ⟨⟨x0, x1, x2⟩, hx⟩ : ∃ x, nth3 S k = x := ⟨_, rfl⟩
        obtain ⟨⟨y0, y1, y2⟩, hy⟩ : ∃ x, nth3 T k = x := ⟨_, rfl⟩
        rw [hx] at t0 t1 t2
        rw [hy] at s0 s1 s2
        simp only at t0 t1 t2 s0 s1 s2
        have hne := fun w => neq25 w ⟨x0, x1, x2⟩ ⟨y0, y1, y2⟩
        by_cases heq : (⟨x0, x1, x2⟩ : Pt) = ⟨y0, y1, y2⟩
        · rw [decide_eq_true heq] at hne
          simp only at hne
          have HP2 := Lib.hid (show ∀ j, j < k + 1 → nth3 S j = nth3 T j from fun j hj => by
            by_cases hjk : j = k
            · subst hjk; rw [hx, hy, heq]
            · exact HP.out j (by omega))
          clear hx hy hk heq hc1 hc2
          go_wp2
          go_quiet (fail)
          go_wp2
          go_roundg (gk - 1)
          case rel => exact ⟨k + 1, _, by have := HK.out; omega, by go_num, HP2, by first | rfl | rw [World.drewN_drewN]⟩
          case measure => have := HK.out; omega
        · rw [decide_eq_false heq] at hne
          simp only at hne
          have HF := Lib.hid (show R = false from Bool.eq_false_iff.2 fun e => heq (by rw [← hx, ← hy, HR.out.1 e]))
          clear hx hy hk heq hc1 hc2
          go_wp2
          go_quiet (fail)
          go_wp2
          go_ret
          exact ⟨ret_bool HF.out.symm, below_drewN (below_drewN HB.out _) _⟩
      · have l1 : decide ((k : Int) < (n1 : Int)) = false := decide_eq_false (by omega)
        have HF := Lib.hid (show R = true from HR.out.2 (list_eq3 (by rw [HL.out.1, HL.out.2]) fun j hj => HP.out j (by have := HL.out.1; omega)))
        clear hk
        go_wp2
        go_ret
        exact ⟨ret_bool HF.out.symm, below_drewN HB.out _⟩
  · have l1 : ((n1 : Int) == (n2 : Int)) = false := beq_eq_false_iff_ne.2 (by omega)
    have l2 : ¬ (n1 : Int) = (n2 : Int) := by omega
    have HF := Lib.hid (show R = false from Bool.eq_false_iff.2 fun e => hn (by rw [← HL.out.1, ← HL.out.2, HR.out.1 e]))
    clear h1 h2 hR
    go_enter Tryd.func23, Tryd.ntmps23
    go_wp2
    go_ret
    exact ⟨ret_bool HF.out.symm, HB.out⟩
end Go.Proofs.YtoepghlkjbpkfaaDoor
