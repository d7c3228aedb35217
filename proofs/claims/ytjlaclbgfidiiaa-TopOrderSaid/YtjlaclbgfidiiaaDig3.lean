/- The walks of Digits and Again, and of the reference's Again. Conditions: the numbers are in range. -/
import Derived.Test.YtjlaclbgfidiiaaDig2
namespace Go.Proofs.Ytjlaclbgfidiiaa
open Go.RowKit
attribute [local go_sem] Oper.semAt_some

/-- The first n rests. -/
def rsL (R : Nat → Int) (n : Nat) : List Int := (List.range n).map R
theorem rsL_len {R : Nat → Int} {n : Nat} : (rsL R n).length = n := by simp [rsL]
theorem rsL_at {R : Nat → Int} {n i : Nat} (h : i < n) : (rsL R n).getD i 0 = R i := by simp [rsL, List.getD, h]
theorem rsL_snoc {R : Nat → Int} {n : Nat} : rsL R (n + 1) = rsL R n ++ [R n] := by simp [rsL, List.range_succ]

set_option maxHeartbeats 8000000 in
set_option maxRecDepth 100000 in
theorem againR_any (q : Nat) (hq : q ∈ [2, 3, 5, 7, 11, 13]) (a b : Int) (w : World) (a0 : -1000 ≤ a) (a1 : a ≤ 1000) (b0 : 1 ≤ b) (b1 : b ≤ 1000) (hb : ¬ (q : Int) ∣ b) :
    Calls Try.prog 39 #[.int .i64 a, .int .i64 b, .int .i64 (q : Int)] w fun e w' => (∃ s t : Nat, e = .returned (.tuple #[.int .i64 (s : Int), .int .i64 (t : Int)]) ∧ IsAg q a b s t) ∧ Below w.heap.size w w' := by
  have HN := Lib.hid (fun i w => nextR_any q hq (rs q a b i) b w (rs_bound hq hb b0 b1 a0 a1 i).1 (rs_bound hq hb b0 b1 a0 a1 i).2 b0 b1 hb)
  have HR : RowKit.Hid (∀ i, nx q (rs q a b i) b = rs q a b (i + 1)) := Lib.hid (fun i => rfl)
  have HB0 := Lib.hid (fun i => rs_bound hq hb b0 b1 a0 a1 i)
  have HP := Lib.hid (fun n h => pigeon (f := rs q a b) (n := n) (fun i _ => rs_bound hq hb b0 b1 a0 a1 i) h)
  have HR0 : RowKit.Hid (rs q a b 0 = a) := Lib.hid rfl
  have HAG : RowKit.Hid (∀ s t : Nat, 1 ≤ t → rs q a b s = rs q a b (s + t) → (∀ i j, i < j → j < s + t → rs q a b i ≠ rs q a b j) → IsAg q a b s t) := Lib.hid (fun s t h1 h2 h3 => ⟨h1, h2, h3⟩)
  obtain ⟨R, hR⟩ : ∃ R, rs q a b = R := ⟨_, rfl⟩
  rw [hR] at HN HR HB0 HP HR0 HAG
  clear hq hb hR
  go_enter Try.func39, Try.ntmps39
  go_wp2
  go_loopg [0, 8, 9, 10, 13] 2001 (fun gk s0 v s9 s10 s13 wr => ∃ (i : Nat), i + gk = 2001 ∧ s0 = .int .i64 (R i) ∧ Row w.heap.size v (rsL R i) wr ∧ Below w.heap.size w wr ∧ (∀ u v, u < v → v < i → R u ≠ R v))
  case atStart => exact ⟨0, by omega, by rw [HR0.out], Row.nil _ _, Below.refl _ _, fun u v _ h => absurd h (by omega)⟩
  case round =>
    obtain ⟨i, hi, rfl, hr0, hb, hdis⟩ := hrel
    have HRW := Lib.hid hr0
    have HB := Lib.hid hb
    have HDIS := Lib.hid hdis
    have HI := Lib.hid hi
    have i2001 : i ≤ 2001 := by omega
    obtain ⟨r0, r1⟩ := HB0.out i
    obtain ⟨am, nm, cm, rfl, im, enm⟩ := hr0.ints
    have hnm : nm = i := by rw [enm, rsL_len]
    subst hnm
    have HIM := Lib.hid im
    obtain ⟨y, hy⟩ : ∃ y, R nm = y := ⟨_, rfl⟩
    rw [hy] at r0 r1 ⊢
    have HY := Lib.hid hy
    clear hr0 hb hdis im enm hy
    go_wp2
    obtain ⟨W0, hW0⟩ : ∃ W0, W0 = wr := ⟨_, rfl⟩
    rw [← hW0] at HRW HB HIM ⊢
    clear hW0
    go_loopg [9, 10, 13] nm (fun gk s9 s10 s13 wr => ∃ (k : Nat), k + gk = nm ∧ s13 = .int .i64 (k : Int) ∧ (∀ u, u < k → R u ≠ y) ∧ wr = W0)
    case atStart => exact ⟨0, by omega, rfl, fun u h => absurd h (by omega), rfl⟩
    case round =>
      obtain ⟨k, hk, rfl, hne, rfl⟩ := hrel
      have HNE := Lib.hid hne
      have HK := Lib.hid hk
      clear hne
      by_cases hki : k < nm
      · have l1 : (k : Int) < (nm : Int) := by omega
        have k0 : (0 : Int) ≤ (k : Int) := by omega
        obtain ⟨b', off, hab, hbl, hcc⟩ := HIM.out.at (by omega)
        subst hab
        have hck := hcc k hki
        rw [rsL_at hki] at hck
        obtain ⟨y0, y1⟩ := HB0.out k
        by_cases hky : R k = y
        · have HF := Lib.hid (HAG.out k (nm - k) (by omega) (by rw [show k + (nm - k) = nm by omega, HY.out]; exact hky) (fun x y h1 h2 => HDIS.out x y h1 (by omega)))
          obtain ⟨t, ht⟩ : ∃ t, nm - k = t := ⟨_, rfl⟩
          rw [ht] at HF
          have hut : (nm : Int) - (k : Int) = (t : Int) := by omega
          have hbe : (R k == y) = true := by rw [beq_iff_eq]; exact hky
          obtain ⟨x, hx⟩ : ∃ x, R k = x := ⟨_, rfl⟩
          rw [hx] at hck hbe y0 y1
          clear hcc hky hx ht hk
          go_wp2
          go_ret2
          exact ⟨⟨k, t, rfl, HF.out⟩, HB.out⟩
        · have hne2 : ∀ u, u < k + 1 → R u ≠ y := fun u hu => by
            by_cases h : u = k
            · subst h; exact hky
            · exact HNE.out u (by omega)
          have HNE2 := Lib.hid hne2
          have hbe : (R k == y) = false := by rw [beq_eq_false_iff_ne]; exact hky
          obtain ⟨x, hx⟩ : ∃ x, R k = x := ⟨_, rfl⟩
          rw [hx] at hck hbe y0 y1
          clear hcc hky hx hne2 hk
          go_wp2
          go_roundg (nm - k - 1)
          case rel => exact ⟨k + 1, by have := HK.out; omega, by go_num, HNE2.out, rfl⟩
          case measure => have := HK.out; omega
      · have l1 : ¬ (k : Int) < (nm : Int) := by omega
        have hdis2 : ∀ u v, u < v → v < nm + 1 → R u ≠ R v := fun u v h1 h2 => by
          by_cases h : v = nm
          · subst h
            exact fun e => HNE.out u (by omega) (e.trans HY.out)
          · exact HDIS.out u v h1 (by omega)
        have hlt := HP.out (nm + 1) hdis2
        have HDIS2 := Lib.hid hdis2
        have HC := Lib.hid (HN.out nm)
        simp only [HR.out] at HC
        have hst := rsL_snoc (R := R) (n := nm)
        have hr := HRW.out
        unfold Row at hr
        rw [rsL_len] at hr
        have hsz := HB.out.size
        simp only [HY.out] at HC
        rw [HY.out] at hst
        have HST := Lib.hid hst
        obtain ⟨i0, hi0, hz0, hz1, hz2⟩ := info_parts info3
        clear hdis2 hst hk hki
        go_wp2_with (at_builtin; refine wpList_append_own _ rfl _ _ 22 rfl (w.heap.size) 3 i0 (.int .i64 0) 1 8 Try.underlying22 hi0 hz0 hz1 hz2 rfl (by decide) _ _ _ rfl (hr.alloc _) ⟨wr.heap.size, 0, none⟩ 1 1 [.int .i64 y] rfl rfl (cell_one_new _ _ _) (by simp [Value.oneCell']) (by unfold maxLen; omega) (by omega) (by simp; omega) ?_; intro v' w3 hown' hgrow _; have hb3 : Below w.heap.size w w3 := (HB.out.alloc hsz _).grown hgrow (by simp; omega) (fun j e => (hr.lt j e).1))
        have hrow : Row w.heap.size v' (rsL R (nm + 1)) w3 := by
          unfold Row
          rw [HST.out, List.length_append, rsL_len, List.map_append]
          exact hown'
        have HF := Lib.hid (And.intro hrow hb3)
        clear hown' hgrow hr hrow hb3
        refine (HC.out _).mono ?_
        rintro e w4 ⟨rfl, rfl⟩
        go_wp2
        go_roundg (2000 - nm)
        case rel => exact ⟨nm + 1, by omega, rfl, HF.out.1, HF.out.2, HDIS2.out⟩
        case measure => have := HI.out; omega

theorem Digits_no (a b p n : Int) (w : World) (hno : (isFr a b p && (decide (0 ≤ n) && decide (n ≤ 40))) = false) :
    Calls Try.prog 36 #[.int .i64 a, .int .i64 b, .int .i64 p, .int .i64 n] w fun e w' => e = .returned (.tuple #[.slice none 0 0, .int .i64 2]) ∧ w = w' := by
  have hV := fun w => validF_any a b p w
  cases hf : isFr a b p with
  | false =>
    rw [hf] at hV
    have HV := Lib.hid hV
    clear hV hno hf
    go_enter Try.func36, Try.ntmps36
    go_wp2_with fail
    refine (HV.out _).mono ?_
    rintro e w1 ⟨rfl, rfl⟩
    go_wp2
    go_ret2
    exact ⟨rfl, rfl⟩
  | true =>
    rw [hf] at hV
    rw [hf, Bool.true_and] at hno
    have HV := Lib.hid hV
    by_cases h0 : n < 0
    · clear hV hno hf
      go_enter Try.func36, Try.ntmps36
      go_wp2_with fail
      refine (HV.out _).mono ?_
      rintro e w1 ⟨rfl, rfl⟩
      go_wp2
      go_ret2
      exact ⟨rfl, rfl⟩
    · have h1 : 40 < n := by
        rw [decide_eq_true (show 0 ≤ n by omega), Bool.true_and, decide_eq_false_iff_not] at hno
        omega
      clear hV hno hf
      go_enter Try.func36, Try.ntmps36
      go_wp2_with fail
      refine (HV.out _).mono ?_
      rintro e w1 ⟨rfl, rfl⟩
      go_wp2
      go_ret2
      exact ⟨rfl, rfl⟩
set_option maxRecDepth 100000 in
theorem Digits_yes (a b : Int) (q n : Nat) (w : World) (hf : isFr a b (q : Int) = true) (hn : n ≤ 40) :
    Calls Try.prog 36 #[.int .i64 a, .int .i64 b, .int .i64 (q : Int), .int .i64 (n : Int)] w fun e w' => (∃ v, e = .returned (.tuple #[v, .int .i64 0]) ∧ Row w.heap.size v (digL q a b n) w') ∧ Below w.heap.size w w' := by
  obtain ⟨q', e1, hq, a0, a1, b0, b1, hb⟩ := isFr_spec hf
  obtain rfl : q = q' := by omega
  have hV := fun w => validF_any a b (q : Int) w
  rw [hf] at hV
  have HV := Lib.hid hV
  have HD := Lib.hid (fun w => digits_any q hq a b n w a0 a1 b0 b1 hb hn)
  have n0 : ¬ (n : Int) < 0 := by omega
  have n1 : ¬ (40 : Int) < (n : Int) := by omega
  clear hV hf hq hb e1
  go_enter Try.func36, Try.ntmps36
  go_wp2_with fail
  refine (HV.out _).mono ?_
  rintro e w1 ⟨rfl, rfl⟩
  go_wp2_with fail
  refine (HD.out _).mono ?_
  rintro e w1 ⟨⟨v, rfl, hr⟩, hb⟩
  have HF := Lib.hid (And.intro hr hb)
  clear hr hb
  go_wp2
  go_ret2
  exact ⟨⟨v, rfl, HF.out.1⟩, HF.out.2⟩
theorem Again_no (a b p : Int) (w : World) (hf : isFr a b p = false) :
    Calls Try.prog 37 #[.int .i64 a, .int .i64 b, .int .i64 p] w fun e w' => e = .returned (.tuple #[.int .i64 0, .int .i64 0, .int .i64 2]) ∧ w = w' := by
  have hV := fun w => validF_any a b p w
  rw [hf] at hV
  have HV := Lib.hid hV
  clear hV hf
  go_enter Try.func37, Try.ntmps37
  go_wp2_with fail
  refine (HV.out _).mono ?_
  rintro e w1 ⟨rfl, rfl⟩
  go_wp2
  go_ret3
  exact ⟨rfl, rfl⟩
set_option maxRecDepth 100000 in
theorem Again_yes (a b : Int) (q : Nat) (w : World) (hf : isFr a b (q : Int) = true) :
    Calls Try.prog 37 #[.int .i64 a, .int .i64 b, .int .i64 (q : Int)] w fun e w' => (∃ s t : Nat, e = .returned (.tuple #[.int .i64 (s : Int), .int .i64 (t : Int), .int .i64 0]) ∧ IsAg q a b s t) ∧ Below w.heap.size w w' := by
  obtain ⟨q', e1, hq, a0, a1, b0, b1, hb⟩ := isFr_spec hf
  obtain rfl : q = q' := by omega
  have hV := fun w => validF_any a b (q : Int) w
  rw [hf] at hV
  have HV := Lib.hid hV
  have HD := Lib.hid (fun w => again_any q hq a b w a0 a1 b0 b1 hb)
  clear hV hf hq hb e1
  go_enter Try.func37, Try.ntmps37
  go_wp2_with fail
  refine (HV.out _).mono ?_
  rintro e w1 ⟨rfl, rfl⟩
  go_wp2_with fail
  refine (HD.out _).mono ?_
  rintro e w1 ⟨⟨s, t, rfl, hr⟩, hb⟩
  have HF := Lib.hid (And.intro hr hb)
  clear hr hb
  go_wp2
  go_ret3
  exact ⟨⟨s, t, rfl, HF.out.1⟩, HF.out.2⟩
end Go.Proofs.Ytjlaclbgfidiiaa
