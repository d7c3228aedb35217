/- The walks of Square, and of the reference's. Condition: the numbers are in range. -/
import Derived.Test.YtjlaclbgfidiiaaTeich
import Derived.Test.YtjlaclbgfidiiaaLawRoots
namespace Go.Proofs.Ytjlaclbgfidiiaa
open Go.RowKit
attribute [local go_sem] Oper.semAt_some

set_option maxHeartbeats 4000000 in
set_option maxRecDepth 100000 in
theorem atB_any (a : Option Addr) (n c : Nat) (xs : List Int) (x m : Int) (w : World) (h : Ints w a n xs) (hn : n ≤ 20) (hx : ∀ j, j < n → -1000000 ≤ xs.getD j 0 ∧ xs.getD j 0 ≤ 1000000)
    (x0 : 0 ≤ x) (x1 : x < m) (m1 : m ≤ 20000) :
    Calls Try.prog 57 #[.slice a n c, .int .i64 x, .int .i64 m] w fun e w' => e = .returned (.int .i64 (ev xs x % m)) ∧ w = w' := by
  obtain ⟨R, hR⟩ : ∃ R, ev xs x % m = R := ⟨_, rfl⟩
  rw [hR]
  have HR := Lib.hid hR
  have H := Lib.hid h
  have HL := Lib.hid h.1
  have HX := Lib.hid hx
  have m0 : 0 < m := by omega
  clear hR h hx
  go_enter Try.func57, Try.ntmps57
  go_wp2
  go_loopg [7, 8] n (fun gk s7 s8 wr => ∃ V : Int, s8 = .int .i64 ((gk : Int) - 1) ∧ s7 = .int .i64 V ∧ gk ≤ n ∧ RowKit.Hid (V = ev (xs.drop gk) x % m) ∧ 0 ≤ V ∧ V < m ∧ wr = w)
  case atStart => exact ⟨0, rfl, rfl, Nat.le_refl _, Lib.hid (by rw [List.drop_eq_nil_of_le (by rw [HL.out]; exact Nat.le_refl _)]; simp [ev]), by omega, by omega, rfl⟩
  case round =>
    obtain ⟨V, rfl, rfl, hgn, HV, v0, v1, rfl⟩ := hrel
    by_cases hg : gk = 0
    · subst hg
      have hf : V = R := by rw [HV.out, List.drop_zero]; exact HR.out
      have HF := Lib.hid hf
      have l1 : ¬ (0 : Int) ≤ ((0 : Nat) : Int) - 1 := by omega
      clear hf hgn
      go_wp2
      go_ret
      exact ⟨ret_int HF.out, rfl⟩
    · obtain ⟨j, rfl⟩ : ∃ j, gk = j + 1 := ⟨gk - 1, by omega⟩
      have e1 : ((j + 1 : Nat) : Int) - 1 = (j : Int) := by omega
      rw [e1]
      obtain ⟨b, off, hab, hbl, hcc⟩ := H.out.at (by omega)
      subst hab
      have hcj := hcc j (by omega)
      have hxj := HX.out j (by omega)
      have hev : ev (xs.drop j) x = xs.getD j 0 + x * ev (xs.drop (j + 1)) x := by
        rw [drop_cons (by have := HL.out; omega)]; rfl
      obtain ⟨y, hy⟩ : ∃ y, xs.getD j 0 = y := ⟨_, rfl⟩
      rw [hy] at hcj hxj hev
      obtain ⟨y0, y1⟩ := hxj
      have hres : (V * x + y) % m = ev (xs.drop j) x % m := by rw [hev, HV.out, horner]
      have HRES := Lib.hid hres
      have hr0 := Int.emod_nonneg (V * x + y) (show m ≠ 0 by omega)
      have hr1 := Int.emod_lt_of_pos (V * x + y) m0
      obtain ⟨p0, p1⟩ := prod_le v0 (show V ≤ 20000 by omega) x0 (show x ≤ 20000 by omega)
      have hC := fun w => residue_any (V * x + y) m w m0 (by omega) (by omega) (by omega)
      obtain ⟨Z, hZ⟩ : ∃ Z, (V * x + y) % m = Z := ⟨_, rfl⟩
      simp only [hZ] at hC
      rw [hZ] at HRES hr0 hr1
      have HC := Lib.hid hC
      have hjn : j < n := by omega
      clear hev hres hC hZ hcc hy e1 hg hgn HV
      go_wp2_with fail
      refine (HC.out _).mono ?_
      rintro e w1 ⟨rfl, rfl⟩
      go_wp2
      go_roundg j
      case rel => exact ⟨Z, by go_num, rfl, by omega, HRES, hr0, hr1, rfl⟩
      case measure => omega

set_option maxHeartbeats 4000000 in
set_option maxRecDepth 100000 in
theorem rootsB_any (a : Option Addr) (n c : Nat) (xs : List Int) (m : Nat) (w : World) (h : Ints w a n xs) (hn : n ≤ 20) (hx : ∀ j, j < n → -1000000 ≤ xs.getD j 0 ∧ xs.getD j 0 ≤ 1000000) (m1 : m ≤ 20000) :
    Calls Try.prog 55 #[.slice a n c, .int .i64 (m : Int)] w fun e w' => (∃ v, e = .returned v ∧ Row w.heap.size v (rts xs m) w') ∧ Below w.heap.size w w' := by
  have hA := fun (wr : World) (k : Nat) (hk : k < m) (hb : Below w.heap.size w wr) => atB_any a n c xs (k : Int) (m : Int) wr (h.below hb) hn hx (by omega) (by omega) (by omega)
  have HA := Lib.hid hA
  clear hA h hx
  go_enter Try.func55, Try.ntmps55
  go_wp2
  go_loopg [5, 8] m (fun gk v s8 wr => ∃ k : Nat, k + gk = m ∧ s8 = .int .i64 (k : Int) ∧ Row w.heap.size v (rtsP xs m k) wr ∧ Below w.heap.size w wr)
  case atStart => exact ⟨0, by omega, rfl, Row.nil _ _, Below.refl _ _⟩
  case round =>
    obtain ⟨k, hk, rfl, hr0, hb⟩ := hrel
    have HR := Lib.hid hr0
    have HB := Lib.hid hb
    have HK := Lib.hid hk
    clear hr0 hb
    by_cases hkm : k < m
    · have l1 : (k : Int) < (m : Int) := by omega
      have hC := HA.out wr k hkm HB.out
      obtain ⟨Z, hZ⟩ : ∃ Z, ev xs (k : Int) % (m : Int) = Z := ⟨_, rfl⟩
      rw [hZ] at hC
      have hlen := rtsP_len xs m k
      by_cases hz : Z = 0
      · subst hz
        have hst := rtsP_yes hZ
        have HST := Lib.hid hst
        have HC := Lib.hid hC
        clear hst hC hZ hk
        go_wp2_with fail
        refine HC.out.mono ?_
        rintro e w1 ⟨rfl, rfl⟩

        obtain ⟨i0, hi, hz0, hz1, hz2⟩ := info_parts info3
        have hr := HR.out
        unfold Row at hr
        have hsz := HB.out.size
        obtain ⟨L, hL⟩ : ∃ L, (rtsP xs m k).length = L := ⟨_, rfl⟩
        rw [hL] at hr hlen
        have HL := Lib.hid hL
        clear hL
        go_wp2_with (at_builtin; refine wpList_append_own _ rfl _ _ 22 rfl (w.heap.size) 3 i0 (.int .i64 0) 1 8 Try.underlying22 hi hz0 hz1 hz2 rfl (by decide) _ _ _ rfl (hr.alloc _) ⟨wr.heap.size, 0, none⟩ 1 1 [.int .i64 (k : Int)] rfl rfl (cell_one_new _ _ _) (by simp [Value.oneCell']) (by unfold maxLen; omega) (by omega) (by simp; omega) ?_; intro v' w3 hown' hgrow _; have hb3 : Below w.heap.size w w3 := (HB.out.alloc hsz _).grown hgrow (by simp; omega) (fun j e => (hr.lt j e).1))
        have hrow : Row w.heap.size v' (rtsP xs m (k + 1)) w3 := by
          unfold Row
          rw [HST.out, List.length_append, HL.out, List.map_append]
          exact hown'
        have HF := Lib.hid (And.intro hrow hb3)
        clear hown' hgrow hr hrow hb3
        go_wp2
        go_roundg (gk - 1)
        case rel => exact ⟨k + 1, by have := HK.out; omega, by go_num, HF.out.1, HF.out.2⟩
        case measure => have := HK.out; omega
      · have hst := rtsP_no (xs := xs) (m := m) (k := k) (by rw [hZ]; exact hz)
        have HST := Lib.hid hst
        have HC := Lib.hid hC
        clear hst hC hZ hk
        go_wp2_with fail
        refine HC.out.mono ?_
        rintro e w1 ⟨rfl, rfl⟩

        go_wp2
        go_roundg (gk - 1)
        case rel => exact ⟨k + 1, by have := HK.out; omega, by go_num, by rw [HST.out]; exact HR.out, HB.out⟩
        case measure => have := HK.out; omega
    · have l1 : ¬ (k : Int) < (m : Int) := by omega
      have hkm2 : k = m := by have := HK.out; omega
      have HF := Lib.hid (show Row w.heap.size u5 (rts xs m) wr by have := HR.out; rw [hkm2] at this; exact this)
      clear hk hkm2
      go_wp2
      go_ret
      exact ⟨⟨_, rfl, HF.out⟩, HB.out⟩


theorem sq_ev (a x : Int) : ev [-a, 0, 1] x = x * x - a := by simp only [ev]; grind
theorem Row.lit3 (w : World) (x y z : Int) : Ints (w.alloc (.cells #[.int .i64 x, .int .i64 y, .int .i64 z] 3)) (some ⟨w.heap.size, 0, none⟩) 3 [x, y, z] := by
  refine ⟨rfl, .inr ⟨w.heap.size, 0, rfl, by simp, fun j hj => ?_⟩⟩
  unfold World.cell?
  rw [heap_alloc_last]
  match j, hj with
  | 0, _ => rfl
  | 1, _ => rfl
  | 2, _ => rfl

theorem Square_no (a p k : Int) (w : World) (hno : (isPK p k && (decide (-1000000 ≤ a) && decide (a ≤ 1000000))) = false) :
    Calls Try.prog 42 #[.int .i64 a, .int .i64 p, .int .i64 k] w fun e w' => e = .returned (.tuple #[.slice none 0 0, .int .i64 2]) ∧ w = w' := by
  have hP := fun w => power_any p k w
  cases hpk : isPK p k with
  | false =>
    rw [hpk] at hP
    have HP := Lib.hid hP
    clear hP hno hpk
    go_enter Try.func42, Try.ntmps42
    go_wp2_with fail
    refine (HP.out _).mono ?_
    rintro e w1 ⟨rfl, rfl⟩
    go_wp2
    go_ret2
    exact ⟨rfl, rfl⟩
  | true =>
    rw [hpk] at hP
    rw [hpk, Bool.true_and] at hno
    have HP := Lib.hid hP
    by_cases h0 : a < -1000000
    · clear hP hno hpk
      go_enter Try.func42, Try.ntmps42
      go_wp2_with fail
      refine (HP.out _).mono ?_
      rintro e w1 ⟨rfl, rfl⟩
      go_wp2
      go_ret2
      exact ⟨rfl, rfl⟩
    · have h1 : 1000000 < a := by
        rw [decide_eq_true (show -1000000 ≤ a by omega), Bool.true_and, decide_eq_false_iff_not] at hno
        omega
      clear hP hno hpk
      go_enter Try.func42, Try.ntmps42
      go_wp2_with fail
      refine (HP.out _).mono ?_
      rintro e w1 ⟨rfl, rfl⟩
      go_wp2
      go_ret2
      exact ⟨rfl, rfl⟩
set_option maxHeartbeats 4000000 in
set_option maxRecDepth 100000 in
theorem Square_yes (a : Int) (q k : Nat) (w : World) (hpk : isPK (q : Int) (k : Int) = true) (a0 : -1000000 ≤ a) (a1 : a ≤ 1000000) :
    Calls Try.prog 42 #[.int .i64 a, .int .i64 (q : Int), .int .i64 (k : Int)] w fun e w' => (∃ v, e = .returned (.tuple #[v, .int .i64 0]) ∧ Row w.heap.size v (rts [-a, 0, 1] (q ^ k)) w') ∧ Below w.heap.size w w' := by
  have hP := fun w => power_any (q : Int) (k : Int) w
  rw [pkN_yes hpk, hpk] at hP
  obtain ⟨q', j, e1, e2, hq, hk1, -, hM⟩ := isPK_spec hpk
  obtain rfl : q = q' := by omega
  obtain rfl : k = j := by omega
  have hR := rootsB_any (some ⟨w.heap.size, 0, none⟩) 3 3 [-a, 0, 1] (q ^ k) _ (Row.lit3 w (-a) 0 1) (by omega) (fun j hj => by
    match j, hj with
    | 0, _ => show -1000000 ≤ -a ∧ -a ≤ 1000000; omega
    | 1, _ => show -1000000 ≤ (0 : Int) ∧ (0 : Int) ≤ 1000000; omega
    | 2, _ => show -1000000 ≤ (1 : Int) ∧ (1 : Int) ≤ 1000000; omega) hM
  have hb0 := (Below.refl w.heap.size w).alloc (Nat.le_refl _) (.cells #[.int .i64 (-a), .int .i64 0, .int .i64 1] 3)
  obtain ⟨M, hMM⟩ : ∃ M, q ^ k = M := ⟨_, rfl⟩
  rw [hMM] at hP hR ⊢
  have HP := Lib.hid hP
  have HR := Lib.hid hR
  have HB0 := Lib.hid hb0
  have g1 : ¬ a < -1000000 := by omega
  have g2 : ¬ 1000000 < a := by omega
  clear hP hR hb0 hpk hq hMM e1 e2
  go_enter Try.func42, Try.ntmps42
  go_wp2_with fail
  refine (HP.out _).mono ?_
  rintro e w1 ⟨rfl, rfl⟩
  go_wp2_with fail
  refine HR.out.mono ?_
  rintro e w1 ⟨⟨v, rfl, hr⟩, hb⟩
  have HF := Lib.hid (And.intro (hr.mono HB0.out.size) (HB0.out.trans (hb.mono HB0.out.size)))
  clear hr hb
  go_wp2
  go_ret2
  exact ⟨⟨v, rfl, HF.out.1⟩, HF.out.2⟩

set_option maxHeartbeats 4000000 in
set_option maxRecDepth 100000 in
theorem squareR_any (a : Int) (m : Nat) (w : World) (a0 : -1000000 ≤ a) (a1 : a ≤ 1000000) (m0 : 0 < m) (m1 : m ≤ 20000) :
    Calls Try.prog 44 #[.int .i64 a, .int .i64 (m : Int)] w fun e w' => (∃ v, e = .returned v ∧ Row w.heap.size v (rts [-a, 0, 1] m) w') ∧ Below w.heap.size w w' := by
  have HZ : RowKit.Hid (∀ x : Int, (x * x - a).tmod (m : Int) = 0 ↔ ev [-a, 0, 1] x % (m : Int) = 0) := Lib.hid (fun x => by
    rw [sq_ev]
    exact ⟨fun h => Int.emod_eq_zero_of_dvd (Int.dvd_of_tmod_eq_zero h), fun h => Int.tmod_eq_zero_of_dvd (Int.dvd_of_emod_eq_zero h)⟩)
  obtain ⟨xs, hxs⟩ : ∃ xs, [-a, 0, 1] = xs := ⟨_, rfl⟩
  rw [hxs] at HZ ⊢
  have mne : ¬ (m : Int) = 0 := by omega
  clear hxs
  go_enter Try.func44, Try.ntmps44
  go_wp2
  go_loopg [5, 8] m (fun gk v s8 wr => ∃ k : Nat, k + gk = m ∧ s8 = .int .i64 (k : Int) ∧ Row w.heap.size v (rtsP xs m k) wr ∧ Below w.heap.size w wr)
  case atStart => exact ⟨0, by omega, rfl, Row.nil _ _, Below.refl _ _⟩
  case round =>
    obtain ⟨k, hk, rfl, hr0, hb⟩ := hrel
    have HR := Lib.hid hr0
    have HB := Lib.hid hb
    have HK := Lib.hid hk
    clear hr0 hb
    by_cases hkm : k < m
    · have l1 : (k : Int) < (m : Int) := by omega
      have hlen := rtsP_len xs m k
      obtain ⟨p0, p1⟩ := prod_le (show (0 : Int) ≤ (k : Int) by omega) (show (k : Int) ≤ 20000 by omega) (show (0 : Int) ≤ (k : Int) by omega) (show (k : Int) ≤ 20000 by omega)
      have hz := HZ.out (k : Int)
      have hzt : ((k : Int) * (k : Int) - a).tmod (m : Int) < 20000 := by have := Int.tmod_lt_of_pos ((k : Int) * (k : Int) - a) (show (0 : Int) < (m : Int) by omega); omega
      have hzt2 : -20000 < ((k : Int) * (k : Int) - a).tmod (m : Int) := by have := Int.lt_tmod_of_pos ((k : Int) * (k : Int) - a) (show (0 : Int) < (m : Int) by omega); omega
      by_cases hz0 : ((k : Int) * (k : Int) - a).tmod (m : Int) = 0
      · have hst := rtsP_yes (xs := xs) (m := m) (k := k) (hz.1 hz0)
        have HST := Lib.hid hst
        have hzb : (((k : Int) * (k : Int) - a).tmod (m : Int) == 0) = true := by rw [beq_iff_eq]; exact hz0
        obtain ⟨i0, hi, hy0, hy1, hy2⟩ := info_parts info3
        have hr := HR.out
        unfold Row at hr
        have hsz := HB.out.size
        obtain ⟨L, hL⟩ : ∃ L, (rtsP xs m k).length = L := ⟨_, rfl⟩
        rw [hL] at hr hlen
        have HL := Lib.hid hL
        clear hL hst hk hz
        go_wp2_with (at_builtin; refine wpList_append_own _ rfl _ _ 22 rfl (w.heap.size) 3 i0 (.int .i64 0) 1 8 Try.underlying22 hi hy0 hy1 hy2 rfl (by decide) _ _ _ rfl (hr.alloc _) ⟨wr.heap.size, 0, none⟩ 1 1 [.int .i64 (k : Int)] rfl rfl (cell_one_new _ _ _) (by simp [Value.oneCell']) (by unfold maxLen; omega) (by omega) (by simp; omega) ?_; intro v' w3 hown' hgrow _; have hb3 : Below w.heap.size w w3 := (HB.out.alloc hsz _).grown hgrow (by simp; omega) (fun j e => (hr.lt j e).1))
        have hrow : Row w.heap.size v' (rtsP xs m (k + 1)) w3 := by
          unfold Row
          rw [HST.out, List.length_append, HL.out, List.map_append]
          exact hown'
        have HF := Lib.hid (And.intro hrow hb3)
        clear hown' hgrow hr hrow hb3
        go_wp2
        go_roundg (gk - 1)
        case rel => exact ⟨k + 1, by have := HK.out; omega, by go_num, HF.out.1, HF.out.2⟩
        case measure => have := HK.out; omega
      · have hst := rtsP_no (xs := xs) (m := m) (k := k) (fun h => hz0 (hz.2 h))
        have HST := Lib.hid hst
        have hzb : (((k : Int) * (k : Int) - a).tmod (m : Int) == 0) = false := by rw [beq_eq_false_iff_ne]; exact hz0
        clear hst hk hz
        go_wp2
        go_roundg (gk - 1)
        case rel => exact ⟨k + 1, by have := HK.out; omega, by go_num, by rw [HST.out]; exact HR.out, HB.out⟩
        case measure => have := HK.out; omega
    · have l1 : ¬ (k : Int) < (m : Int) := by omega
      have hkm2 : k = m := by have := HK.out; omega
      have HF := Lib.hid (show Row w.heap.size u5 (rts xs m) wr by have := HR.out; rw [hkm2] at this; exact this)
      clear hk hkm2
      go_wp2
      go_ret
      exact ⟨⟨_, rfl, HF.out⟩, HB.out⟩
end Go.Proofs.Ytjlaclbgfidiiaa
