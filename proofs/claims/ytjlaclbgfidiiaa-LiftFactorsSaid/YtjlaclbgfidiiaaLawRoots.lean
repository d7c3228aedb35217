/- The walk of the law LiftRoots. Condition: the slice lies in memory. -/
import Derived.Test.YtjlaclbgfidiiaaRefLift
namespace Go.Proofs.Ytjlaclbgfidiiaa
open Go.RowKit
attribute [local go_sem] Oper.semAt_some

theorem list_row (a : Option Addr) (n c : Nat) (xs : List Int) (w : World) (h : Ints w a n xs) (hc : n ≤ c) (hn : n ≤ 4611686018427387904) (hcm : c ≤ maxLen) :
    Calls Try.prog 17 #[.slice a n c] w fun e w' => ∃ v, e = .returned v ∧ Row w.heap.size v (xs.take 9) w' ∧ Below w.heap.size w w' := by
  refine (list_any a n c xs w h hc hn hcm).mono ?_
  rintro e w1 ⟨ao, co, m, rfl, -, ho, -, -, hb⟩
  exact ⟨_, rfl, (Row.of ho).1, hb⟩
theorem take9_len (xs : List Int) : (xs.take 9).length ≤ 4611686018427387904 := by rw [List.length_take]; omega
theorem RootsR_no {B : Nat} {v : Value} (p k : Int) (f : List Int) (w : World) (h : Row B v f w) (hl : f.length ≤ 4611686018427387904) (hno : (isPK p k && isPoly f) = false) :
    Calls Try.prog 16 #[v, .int .i64 p, .int .i64 k] w fun e w' => e = .returned (.tuple #[.slice none 0 0, .int .i64 2]) ∧ ∃ q, w' = w.drewN q := by
  obtain ⟨a, n, c, rfl, hi, hn⟩ := h.ints
  exact Roots_no p k a n c f w hi (by omega) hno
theorem RootsR_yes {B : Nat} {v : Value} (p k : Int) (f : List Int) (w : World) (h : Row B v f w) (hpk : isPK p k = true) (hf : isPoly f = true) :
    Calls Try.prog 16 #[v, .int .i64 p, .int .i64 k] w fun e w' => (∃ v, e = .returned (.tuple #[v, .int .i64 0]) ∧ Row w.heap.size v (rts f (pkN p k)) w') ∧ Below w.heap.size w w' := by
  obtain ⟨a, n, c, rfl, hi, hn⟩ := h.ints
  exact Roots_yes p k a n c f w hi hpk hf
theorem LiftR_no {B : Nat} {v : Value} (p k r : Int) (f : List Int) (w : World) (h : Row B v f w) (hl : f.length ≤ 4611686018427387904) (hno : liftOK f p k r = false) :
    Calls Try.prog 18 #[v, .int .i64 p, .int .i64 k, .int .i64 r] w fun e w' => e = .returned (.tuple #[.int .i64 0, .int .i64 2]) ∧ ∃ q, w' = w.drewN q := by
  obtain ⟨a, n, c, rfl, hi, hn⟩ := h.ints
  exact Lift_no p k r a n c f w hi (by omega) hno
theorem LiftR_yes {B : Nat} {v : Value} (q k : Nat) (r : Int) (f : List Int) (w : World) (h : Row B v f w) (hok : liftOK f (q : Int) (k : Int) r = true) :
    Calls Try.prog 18 #[v, .int .i64 (q : Int), .int .i64 (k : Int), .int .i64 r] w fun e w' => LAns f q k r e ∧ Below w.heap.size w w' := by
  obtain ⟨a, n, c, rfl, hi, hn⟩ := h.ints
  exact Lift_yes q k r a n c f w hi hok
theorem below_drew {B : Nat} {a w : World} (h : Below B a w) {w' : World} (hq : ∃ q, w' = w.drewN q) : Below B a w' := by
  obtain ⟨q, rfl⟩ := hq
  exact below_drewN h q
theorem Row.drewE {B : Nat} {v : Value} {xs : List Int} {W W' : World} (h : Row B v xs W) (hq : ∃ q, W' = W.drewN q) : Row B v xs W' := by
  obtain ⟨q, rfl⟩ := hq
  exact h.drew q

set_option maxHeartbeats 8000000 in
set_option maxRecDepth 100000 in
theorem lawRoots_no (a : Option Addr) (n c : Nat) (xs : List Int) (p k r : Int) (w : World) (h : Ints w a n xs) (hc : n ≤ c) (hn : n ≤ 4611686018427387904) (hcm : c ≤ maxLen) (hno : (isPK p k && isPoly xs) = false) :
    Calls Try.prog 3 #[.slice a n c, .int .i64 p, .int .i64 k, .int .i64 r] w fun e w' => e = .returned (.bool true) ∧ Below w.heap.size w w' := by
  have hno2 : (isPK p k && isPoly (xs.take 9)) = false := by rw [isPoly_take]; exact hno
  have HL := Lib.hid (fun w1 (hb : Below w.heap.size w w1) => list_row a n c xs w1 (h.below hb) hc hn hcm)
  have HRT := Lib.hid (fun B v w1 (hr : Row B v (xs.take 9) w1) => RootsR_no p k (xs.take 9) w1 hr (take9_len xs) hno2)
  have HLF := Lib.hid (fun B v w1 (hr : Row B v (xs.take 9) w1) => LiftR_no p k r (xs.take 9) w1 hr (take9_len xs) (by unfold liftOK; rw [hno2]; rfl))
  have hPW := fun w => powerR_any p k w
  have HPO := Lib.hid (fun w1 (hb : Below w.heap.size w w1) => polyR_any a n c xs w1 (h.below hb) hn)
  have hz : isPoly xs = true → pkN p k = 0 := fun hf => pkN_no (by rw [hf, Bool.and_true] at hno; exact hno)
  obtain ⟨B, hB⟩ : ∃ B, isPoly xs = B := ⟨_, rfl⟩
  obtain ⟨P, hP⟩ : ∃ P, pkN p k = P := ⟨_, rfl⟩
  simp only [hP] at hPW
  rw [hB] at HPO
  rw [hB, hP] at hz
  have HPW := Lib.hid hPW
  have HZ := Lib.hid hz
  clear h hno hno2 hPW hz hB hP
  go_enter Try.func3, Try.ntmps3
  go_wp2_with fail
  refine (HL.out w (Below.refl _ _)).mono ?_
  rintro e w1 ⟨v1, rfl, hr, hb⟩
  have HR1 := Lib.hid hr
  have HB1 := Lib.hid hb
  clear hr hb
  go_wp2_with fail
  refine (HRT.out _ _ _ HR1.out).mono ?_
  rintro e w2 ⟨rfl, hq⟩
  have HB2 := Lib.hid (below_drew HB1.out hq)
  clear hq HR1
  go_wp2_with fail
  refine (HL.out w2 HB2.out).mono ?_
  rintro e w3 ⟨v2, rfl, hr, hb⟩
  have HR3 := Lib.hid hr
  have HB3 := Lib.hid (HB2.out.trans (hb.mono HB2.out.size))
  clear hr hb
  go_wp2_with fail
  refine (HLF.out _ _ _ HR3.out).mono ?_
  rintro e w4 ⟨rfl, hq⟩
  have HB4 := Lib.hid (below_drew HB3.out hq)
  clear hq HR3
  go_wp2_with fail
  refine (HPW.out _).mono ?_
  rintro e w5 ⟨rfl, rfl⟩
  go_wp2_with fail
  refine (HPO.out _ HB4.out).mono ?_
  rintro e w5 ⟨rfl, rfl⟩
  cases B with
  | false =>
    go_wp2_with fail
    refine (awake_any _).mono ?_
    rintro e w5 ⟨rfl, hb⟩
    have HB5 := Lib.hid (HB4.out.trans (hb.mono HB4.out.size))
    clear hb
    go_wp2
    go_ret
    exact ⟨rfl, HB5.out⟩
  | true =>
    obtain rfl : P = 0 := HZ.out rfl
    go_wp2_with fail
    refine (awake_any _).mono ?_
    rintro e w5 ⟨rfl, hb⟩
    have HB5 := Lib.hid (HB4.out.trans (hb.mono HB4.out.size))
    clear hb
    go_wp2
    go_ret
    exact ⟨rfl, HB5.out⟩

set_option maxHeartbeats 8000000 in
set_option maxRecDepth 100000 in
theorem lawRoots_yes (a : Option Addr) (n c : Nat) (xs : List Int) (q k : Nat) (r : Int) (w : World) (h : Ints w a n xs) (hc : n ≤ c) (hn : n ≤ 4611686018427387904) (hcm : c ≤ maxLen) (hpk : isPK (q : Int) (k : Int) = true) (hf : isPoly xs = true) :
    Calls Try.prog 3 #[.slice a n c, .int .i64 (q : Int), .int .i64 (k : Int), .int .i64 r] w fun e w' => e = .returned (.bool true) ∧ Below w.heap.size w w' := by
  have e9 := isPoly_short hf
  obtain ⟨g1, g2, g3⟩ := poly_bounds h.1 hf
  obtain ⟨q', j, e1, e2, hq, hk1, -, hM⟩ := isPK_spec hpk
  obtain rfl : q = q' := by omega
  obtain rfl : k = j := by omega
  obtain ⟨q2, q13⟩ := pr_bounds hq
  have hL := fun w1 (hb : Below w.heap.size w w1) => list_row a n c xs w1 (h.below hb) hc hn hcm
  rw [e9] at hL
  have HL := Lib.hid hL
  have hRT := fun B v w1 (hr : Row B v xs w1) => RootsR_yes (q : Int) (k : Int) xs w1 hr hpk hf
  rw [pkN_yes hpk] at hRT
  have HRT := Lib.hid hRT
  have HLY := Lib.hid (fun B v w1 (hr : Row B v xs w1) hok => LiftR_yes q k r xs w1 hr hok)
  have HLN := Lib.hid (fun B v w1 (hr : Row B v xs w1) hok => LiftR_no (q : Int) (k : Int) r xs w1 hr (by rw [h.1]; exact hn) hok)
  have hPW := fun w => powerR_any (q : Int) (k : Int) w
  rw [pkN_yes hpk] at hPW
  have HPW := Lib.hid hPW
  have hPO := fun w1 (hb : Below w.heap.size w w1) => polyR_any a n c xs w1 (h.below hb) hn
  rw [hf] at hPO
  have HPO := Lib.hid hPO
  have HRR := Lib.hid (fun M (hM : M ≤ 20000) w1 (hb : Below w.heap.size w w1) => rootsR_any a n c xs M w1 (h.below hb) (by omega) (fun j hj => ⟨by have := (g3 j hj).1; omega, by have := (g3 j hj).2; omega⟩) hM)
  have HLR := Lib.hid (fun w1 (hb : Below w.heap.size w w1) hok => liftR_any q k r a n c xs w1 (h.below hb) hok)
  have HLEN := Lib.hid (fun M (h : M ≤ 20000) => show (rts xs M).length ≤ 1000000 from Nat.le_trans (rts_len xs M) (by omega))
  have HUQ := Lib.hid (fun X Y hd (h1 : LRes xs q k r X) (h2 : LRes xs q k r Y) => LRes.uniq hq hd h1 h2)
  have HOK : RowKit.Hid (liftOK xs (q : Int) (k : Int) r = (decide (0 ≤ r) && decide (r < (q : Int)) && decide (ev xs r % (q : Int) = 0))) := Lib.hid (by unfold liftOK; rw [hpk, hf]; rfl)
  have HCN : RowKit.Hid (0 ≤ r → r < (q : Int) → (rts xs q).contains r = decide (ev xs r % (q : Int) = 0)) := Lib.hid (fun r0 r1 => by
    rw [Bool.eq_iff_iff, List.contains_iff_mem, mem_rts, decide_eq_true_iff]
    exact ⟨fun h => h.2.2, fun h => ⟨r0, r1, h⟩⟩)
  have hMp := pow_pos_of q2 k
  obtain ⟨M, hMM⟩ : ∃ M, q ^ k = M := ⟨_, rfl⟩
  rw [hMM] at hM hMp HRT HPW HLR
  have mne : ¬ (M : Int) = 0 := by omega
  have hq20 : q ≤ 20000 := by omega
  clear h hpk hf g3 hq hL hRT hPW hPO hMM e1 e2 e9
  go_enter Try.func3, Try.ntmps3
  go_wp2_with fail
  refine (HL.out w (Below.refl _ _)).mono ?_
  rintro e w1 ⟨v1, rfl, hr, hb⟩
  have HR1 := Lib.hid hr
  have HB1 := Lib.hid hb
  clear hr hb
  go_wp2_with fail
  refine (HRT.out _ _ _ HR1.out).mono ?_
  rintro e w2 ⟨⟨l, rfl, hl⟩, hb⟩
  have HB2 := Lib.hid (HB1.out.trans (hb.mono HB1.out.size))
  have HL2 := Lib.hid hl
  clear hb hl HR1
  go_wp2_with fail
  refine (HL.out w2 HB2.out).mono ?_
  rintro e w3 ⟨v2, rfl, hr, hb⟩
  have HR3 := Lib.hid hr
  have HB3 := Lib.hid (HB2.out.trans (hb.mono HB2.out.size))
  have HL3 := Lib.hid (HL2.out.later hb)
  clear hr hb HL2
  by_cases r0 : r < 0
  · have HF := Lib.hid (show liftOK xs (q : Int) (k : Int) r = false by rw [HOK.out, decide_eq_false (show ¬ 0 ≤ r by omega)]; rfl)
    go_wp2_with fail
    refine (HLN.out _ _ _ HR3.out HF.out).mono ?_
    rintro e w4 ⟨rfl, hq⟩
    have HB4 := Lib.hid (below_drew HB3.out hq)
    have HL4 := Lib.hid (HL3.out.drewE hq)
    clear hq HR3 HL3
    go_wp2_with fail
    refine (HPW.out _).mono ?_
    rintro e w5 ⟨rfl, rfl⟩
    go_wp2_with fail
    refine (HPO.out _ HB4.out).mono ?_
    rintro e w5 ⟨rfl, rfl⟩
    go_wp2_with fail
    refine (HRR.out M hM _ HB4.out).mono ?_
    rintro e w5 ⟨⟨l2, rfl, hr⟩, hb⟩
    have HB5 := Lib.hid (HB4.out.trans (hb.mono HB4.out.size))
    have HL5 := Lib.hid (HL4.out.later hb)
    have HR5 := Lib.hid hr
    clear hr hb HL4
    go_wp2_with fail
    refine (equal_rows _ HL5.out HR5.out (HLEN.out M hM) (HLEN.out M hM)).mono ?_
    rintro e w6 ⟨rfl, hq⟩
    have HB6 := Lib.hid (below_drew HB5.out hq)
    have ht : (rts xs M == rts xs M) = true := by simp
    rw [ht]
    clear ht hq HL5 HR5
    go_wp2_with fail
    refine (awake_any _).mono ?_
    rintro e w7 ⟨rfl, hb⟩
    have HB7 := Lib.hid (HB6.out.trans (hb.mono HB6.out.size))
    clear hb
    go_wp2
    go_ret
    exact ⟨rfl, HB7.out⟩
  · by_cases r1 : (q : Int) ≤ r
    · have HF := Lib.hid (show liftOK xs (q : Int) (k : Int) r = false by rw [HOK.out, decide_eq_false (show ¬ r < (q : Int) by omega), Bool.and_false]; rfl)
      go_wp2_with fail
      refine (HLN.out _ _ _ HR3.out HF.out).mono ?_
      rintro e w4 ⟨rfl, hq⟩
      have HB4 := Lib.hid (below_drew HB3.out hq)
      have HL4 := Lib.hid (HL3.out.drewE hq)
      clear hq HR3 HL3
      go_wp2_with fail
      refine (HPW.out _).mono ?_
      rintro e w5 ⟨rfl, rfl⟩
      go_wp2_with fail
      refine (HPO.out _ HB4.out).mono ?_
      rintro e w5 ⟨rfl, rfl⟩
      go_wp2_with fail
      refine (HRR.out M hM _ HB4.out).mono ?_
      rintro e w5 ⟨⟨l2, rfl, hr⟩, hb⟩
      have HB5 := Lib.hid (HB4.out.trans (hb.mono HB4.out.size))
      have HL5 := Lib.hid (HL4.out.later hb)
      have HR5 := Lib.hid hr
      clear hr hb HL4
      go_wp2_with fail
      refine (equal_rows _ HL5.out HR5.out (HLEN.out M hM) (HLEN.out M hM)).mono ?_
      rintro e w6 ⟨rfl, hq⟩
      have HB6 := Lib.hid (below_drew HB5.out hq)
      have ht : (rts xs M == rts xs M) = true := by simp
      rw [ht]
      clear ht hq HL5 HR5
      go_wp2_with fail
      refine (awake_any _).mono ?_
      rintro e w7 ⟨rfl, hb⟩
      have HB7 := Lib.hid (HB6.out.trans (hb.mono HB6.out.size))
      clear hb
      go_wp2
      go_ret
      exact ⟨rfl, HB7.out⟩
    · have hcn := HCN.out (by omega) (by omega)
      have hok : liftOK xs (q : Int) (k : Int) r = decide (ev xs r % (q : Int) = 0) := by rw [HOK.out, decide_eq_true (show 0 ≤ r by omega), decide_eq_true (show r < (q : Int) by omega)]; rfl
      have HQL := Lib.hid (HLEN.out q hq20)
      cases hE : decide (ev xs r % (q : Int) = 0) with
      | false =>
        rw [hE] at hcn hok
        have HF := Lib.hid hok
        have HC := Lib.hid hcn
        clear hcn hok hE
        go_wp2_with fail
        refine (HLN.out _ _ _ HR3.out HF.out).mono ?_
        rintro e w4 ⟨rfl, hq⟩
        have HB4 := Lib.hid (below_drew HB3.out hq)
        have HL4 := Lib.hid (HL3.out.drewE hq)
        clear hq HR3 HL3
        go_wp2_with fail
        refine (HPW.out _).mono ?_
        rintro e w5 ⟨rfl, rfl⟩
        go_wp2_with fail
        refine (HPO.out _ HB4.out).mono ?_
        rintro e w5 ⟨rfl, rfl⟩
        go_wp2_with fail
        refine (HRR.out M hM _ HB4.out).mono ?_
        rintro e w5 ⟨⟨l2, rfl, hr⟩, hb⟩
        have HB5 := Lib.hid (HB4.out.trans (hb.mono HB4.out.size))
        have HL5 := Lib.hid (HL4.out.later hb)
        have HR5 := Lib.hid hr
        clear hr hb HL4
        go_wp2_with fail
        refine (equal_rows _ HL5.out HR5.out (HLEN.out M hM) (HLEN.out M hM)).mono ?_
        rintro e w6 ⟨rfl, hq⟩
        have HB6 := Lib.hid (below_drew HB5.out hq)
        have ht : (rts xs M == rts xs M) = true := by simp
        rw [ht]
        clear ht hq HL5 HR5
        go_wp2_with fail
        refine (awake_any _).mono ?_
        rintro e w7 ⟨rfl, hb⟩
        have HB7 := Lib.hid (HB6.out.trans (hb.mono HB6.out.size))
        clear hb
        go_wp2_with fail
        refine (HRR.out q hq20 _ HB7.out).mono ?_
        rintro e w8 ⟨⟨l3, rfl, hr⟩, hb⟩
        have HB8 := Lib.hid (HB7.out.trans (hb.mono HB7.out.size))
        have HR8 := Lib.hid hr
        clear hr hb
        go_wp2_with fail
        refine (contains_row r _ HR8.out HQL.out).mono ?_
        rintro e w9 ⟨rfl, rfl⟩
        rw [HC.out]
        go_wp2
        go_ret
        exact ⟨rfl, HB8.out⟩
      | true =>
        rw [hE] at hcn hok
        have HF := Lib.hid hok
        have HC := Lib.hid hcn
        clear hcn hok hE
        go_wp2_with fail
        refine (HLY.out _ _ _ HR3.out HF.out).mono ?_
        rintro e w4 ⟨hans, hb⟩
        have HB4 := Lib.hid (HB3.out.trans (hb.mono HB3.out.size))
        have HL4 := Lib.hid (HL3.out.later hb)
        clear hb HR3 HL3
        rcases hans with ⟨hd, rfl⟩ | ⟨hd, X, hX, rfl⟩
        · have HD := Lib.hid hd
          clear hd
          go_wp2_with fail
          refine (HPW.out _).mono ?_
          rintro e w5 ⟨rfl, rfl⟩
          go_wp2_with fail
          refine (HPO.out _ HB4.out).mono ?_
          rintro e w5 ⟨rfl, rfl⟩
          go_wp2_with fail
          refine (HRR.out M hM _ HB4.out).mono ?_
          rintro e w5 ⟨⟨l2, rfl, hr⟩, hb⟩
          have HB5 := Lib.hid (HB4.out.trans (hb.mono HB4.out.size))
          have HL5 := Lib.hid (HL4.out.later hb)
          have HR5 := Lib.hid hr
          clear hr hb HL4
          go_wp2_with fail
          refine (equal_rows _ HL5.out HR5.out (HLEN.out M hM) (HLEN.out M hM)).mono ?_
          rintro e w6 ⟨rfl, hq⟩
          have HB6 := Lib.hid (below_drew HB5.out hq)
          have ht : (rts xs M == rts xs M) = true := by simp
          rw [ht]
          clear ht hq HL5 HR5
          go_wp2_with fail
          refine (awake_any _).mono ?_
          rintro e w7 ⟨rfl, hb⟩
          have HB7 := Lib.hid (HB6.out.trans (hb.mono HB6.out.size))
          clear hb
          go_wp2_with fail
          refine (HRR.out q hq20 _ HB7.out).mono ?_
          rintro e w8 ⟨⟨l3, rfl, hr⟩, hb⟩
          have HB8 := Lib.hid (HB7.out.trans (hb.mono HB7.out.size))
          have HR8 := Lib.hid hr
          clear hr hb
          go_wp2_with fail
          refine (contains_row r _ HR8.out HQL.out).mono ?_
          rintro e w9 ⟨rfl, rfl⟩
          rw [HC.out]
          go_wp2_with fail
          refine (HLR.out _ HB8.out HF.out).mono ?_
          rintro e w10 ⟨hans, hb⟩
          have HB9 := Lib.hid (HB8.out.trans (hb.mono HB8.out.size))
          clear hb
          rcases hans with ⟨-, rfl⟩ | ⟨hd, -, -, -⟩
          · go_wp2
            go_ret
            exact ⟨rfl, HB9.out⟩
          · exact absurd HD.out hd
        · have HD := Lib.hid hd
          have HX := Lib.hid hX
          clear hd hX
          go_wp2_with fail
          refine (HPW.out _).mono ?_
          rintro e w5 ⟨rfl, rfl⟩
          go_wp2_with fail
          refine (HPO.out _ HB4.out).mono ?_
          rintro e w5 ⟨rfl, rfl⟩
          go_wp2_with fail
          refine (HRR.out M hM _ HB4.out).mono ?_
          rintro e w5 ⟨⟨l2, rfl, hr⟩, hb⟩
          have HB5 := Lib.hid (HB4.out.trans (hb.mono HB4.out.size))
          have HL5 := Lib.hid (HL4.out.later hb)
          have HR5 := Lib.hid hr
          clear hr hb HL4
          go_wp2_with fail
          refine (equal_rows _ HL5.out HR5.out (HLEN.out M hM) (HLEN.out M hM)).mono ?_
          rintro e w6 ⟨rfl, hq⟩
          have HB6 := Lib.hid (below_drew HB5.out hq)
          have ht : (rts xs M == rts xs M) = true := by simp
          rw [ht]
          clear ht hq HL5 HR5
          go_wp2_with fail
          refine (awake_any _).mono ?_
          rintro e w7 ⟨rfl, hb⟩
          have HB7 := Lib.hid (HB6.out.trans (hb.mono HB6.out.size))
          clear hb
          go_wp2_with fail
          refine (HRR.out q hq20 _ HB7.out).mono ?_
          rintro e w8 ⟨⟨l3, rfl, hr⟩, hb⟩
          have HB8 := Lib.hid (HB7.out.trans (hb.mono HB7.out.size))
          have HR8 := Lib.hid hr
          clear hr hb
          go_wp2_with fail
          refine (contains_row r _ HR8.out HQL.out).mono ?_
          rintro e w9 ⟨rfl, rfl⟩
          rw [HC.out]
          go_wp2_with fail
          refine (HLR.out _ HB8.out HF.out).mono ?_
          rintro e w10 ⟨hans, hb⟩
          have HB9 := Lib.hid (HB8.out.trans (hb.mono HB8.out.size))
          clear hb
          rcases hans with ⟨hd, -⟩ | ⟨-, Y, hY, rfl⟩
          · exact absurd hd HD.out
          · obtain rfl : X = Y := HUQ.out X Y HD.out HX.out hY
            clear hY
            go_wp2
            go_ret
            exact ⟨ret_bool (by simp), HB9.out⟩

theorem lawRoots_any (a : Option Addr) (n c : Nat) (xs : List Int) (p k r : Int) (w : World) (h : Ints w a n xs) (hc : n ≤ c) (hn : n ≤ 4611686018427387904) (hcm : c ≤ maxLen) :
    Calls Try.prog 3 #[.slice a n c, .int .i64 p, .int .i64 k, .int .i64 r] w fun e w' => e = .returned (.bool true) ∧ Below w.heap.size w w' := by
  cases hh : isPK p k && isPoly xs with
  | false => exact lawRoots_no a n c xs p k r w h hc hn hcm hh
  | true =>
    rw [Bool.and_eq_true] at hh
    obtain ⟨q, j, rfl, rfl, -⟩ := isPK_spec hh.1
    exact lawRoots_yes a n c xs q j r w h hc hn hcm hh.1 hh.2
end Go.Proofs.Ytjlaclbgfidiiaa
