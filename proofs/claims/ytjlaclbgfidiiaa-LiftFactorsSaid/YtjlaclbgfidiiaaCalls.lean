/- The walks of Roots, Lift, the reference's Power and Lift, and of awake. Condition: the slices lie in memory. -/
import Derived.Test.YtjlaclbgfidiiaaLift
import Derived.Test.YtjlaclbgfidiiaaClone
namespace Go.Proofs.Ytjlaclbgfidiiaa
open Go.RowKit
attribute [local go_sem] Oper.semAt_some

theorem equal_rows {B1 B2 : Nat} {v1 v2 : Value} {xs ys : List Int} (w : World) (h1 : Row B1 v1 xs w) (h2 : Row B2 v2 ys w) (hx : xs.length ≤ 1000000) (hy : ys.length ≤ 1000000) :
    Calls Try.prog 22 #[v1, v2] w fun e w' => e = .returned (.bool (xs == ys)) ∧ ∃ q, w' = w.drewN q := by
  obtain ⟨a1, n1, c1, rfl, i1, e1⟩ := h1.ints
  obtain ⟨a2, n2, c2, rfl, i2, e2⟩ := h2.ints
  exact equal_any a1 a2 n1 n2 c1 c2 xs ys w i1 i2 (by omega) (by omega)
theorem any_contains (x : Int) (l : List Int) : (l.any fun y => x == y) = l.contains x := by
  induction l with
  | nil => rfl
  | cons y t ih => rw [List.any_cons, ih, List.contains_cons]
theorem contains_row {B : Nat} {v : Value} {xs : List Int} (x : Int) (w : World) (h : Row B v xs w) (hx : xs.length ≤ 1000000) :
    Calls Try.prog 24 #[v, .int .i64 x] w fun e w' => e = .returned (.bool (xs.contains x)) ∧ w' = w := by
  obtain ⟨a, n, c, rfl, i, e⟩ := h.ints
  by_cases hn : n = 0
  · subst hn
    have hx0 : xs = [] := List.length_eq_zero_iff.1 e.symm
    subst hx0
    exact (Try.slices_Contains_empty (α := Int) a c _ w).mono fun e w' h => h
  · obtain ⟨b, off, rfl, hb, hc⟩ := i.at (by omega)
    refine (Try.slices_Contains (Value.int .i64) (fun x y => x == y) (EqlAt.int _ _ _) b off n c xs x w (by omega) (by omega) (fun j hj => ?_)).mono ?_
    · rw [hc j (by omega)]
      simp [List.getD, hj]
    · rintro e w' ⟨rfl, rfl⟩
      rw [List.take_of_length_le (by omega), any_contains]
      exact ⟨rfl, rfl⟩
theorem Row.lit (w : World) (x : Int) : Ints (w.alloc (.cells #[.int .i64 x] 3)) (some ⟨w.heap.size, 0, none⟩) 1 [x] := by
  refine ⟨rfl, .inr ⟨w.heap.size, 0, rfl, by simp, fun j hj => ?_⟩⟩
  have : j = 0 := by omega
  subst this
  exact cell_box w (.int .i64 x) 3
theorem Row.lit2 (w : World) (x y : Int) : Ints (w.alloc (.cells #[.int .i64 x, .int .i64 y] 3)) (some ⟨w.heap.size, 0, none⟩) 2 [x, y] := by
  refine ⟨rfl, .inr ⟨w.heap.size, 0, rfl, by simp, fun j hj => ?_⟩⟩
  obtain ⟨p0, p1⟩ := cell_pair w (.int .i64 x) (.int .i64 y) 3
  match j, hj with
  | 0, _ => exact p0
  | 1, _ => exact p1

set_option maxHeartbeats 2000000 in
set_option maxRecDepth 100000 in
theorem powerR_any (p k : Int) (w : World) : Calls Try.prog 19 #[.int .i64 p, .int .i64 k] w fun e w' => e = .returned (.int .i64 (pkN p k : Int)) ∧ w = w' := by
  have HV := Lib.hid (fun w => primeR_any p w)
  cases hp : isPr p with
  | false =>
    have h0 : isPK p k = false := by unfold isPK; rw [hp]; rfl
    rw [pkN_no h0]
    rw [hp] at HV
    clear hp h0
    go_enter Try.func19, Try.ntmps19
    go_wp2_with fail
    refine (HV.out _).mono ?_
    rintro e w1 ⟨rfl, rfl⟩
    go_wp2
    go_ret
    exact ⟨rfl, rfl⟩
  | true =>
    rw [hp] at HV
    by_cases hk : k < 1
    · have h0 : isPK p k = false := by unfold isPK; rw [decide_eq_false (show ¬ 1 ≤ k by omega)]; simp
      rw [pkN_no h0]
      clear hp h0
      go_enter Try.func19, Try.ntmps19
      go_wp2_with fail
      refine (HV.out _).mono ?_
      rintro e w1 ⟨rfl, rfl⟩
      go_wp2
      go_ret
      exact ⟨rfl, rfl⟩
    · obtain ⟨q, rfl, hq⟩ := isPr_mem hp
      obtain ⟨K, rfl⟩ : ∃ K : Nat, k = (K : Int) := ⟨k.toNat, by omega⟩
      obtain ⟨q1, q2⟩ := pr_bounds hq
      have HY := Lib.hid (fun h => pkN_yes (q := q) (j := K) h)
      have HN := Lib.hid (fun h => pkN_no (p := q) (k := K) h)
      have HO := Lib.hid (fun a b => isPK_of (j := K) hq a b)
      have HT := Lib.hid (fun j a b => isPK_not (q := q) (k := K) j a b q1)
      obtain ⟨P, hP⟩ : ∃ P, pkN (q : Int) (K : Int) = P := ⟨_, rfl⟩
      obtain ⟨B, hB⟩ : ∃ B, isPK (q : Int) (K : Int) = B := ⟨_, rfl⟩
      rw [hP] at HY HN ⊢
      rw [hB] at HY HN HO HT
      have HK1 := Lib.hid (show 1 ≤ K by omega)
      have HW := Lib.hid (fun j (h : q ^ j ≤ 20000) => pow_small q1 h)
      clear hP hB hp hq
      go_enter Try.func19, Try.ntmps19
      go_wp2_with fail
      refine (HV.out _).mono ?_
      rintro e w1 ⟨rfl, rfl⟩
      go_wp2
      obtain ⟨N, hN⟩ : ∃ N : Nat, min (K : Int) 15 = (N : Int) := ⟨min K 15, by omega⟩
      rw [hN]
      have HNK := Lib.hid (show N ≤ K by omega)
      have HN15 := Lib.hid (show N ≤ 14 → N = K by omega)
      have hN15 : N ≤ 15 := by omega
      clear hN
      go_loopg [5, 15] N (fun gk s6 s15 wr => ∃ j M : Nat, s15 = .int .i64 (j : Int) ∧ s6 = .int .i64 (M : Int) ∧ RowKit.Hid (M = q ^ j) ∧ j + gk = N ∧ M ≤ 20000 ∧ j ≤ 14 ∧ wr = w)
      case atStart => exact ⟨0, 1, rfl, rfl, Lib.hid (by simp), by omega, by omega, by omega, rfl⟩
      case round =>
        obtain ⟨j, M, rfl, rfl, HM, hj, hM, hj14, rfl⟩ := hrel
        have hmul : M * q ≤ 260000 := Nat.le_trans (Nat.mul_le_mul hM q2) (by decide)
        have HP : RowKit.Hid (M * q = q ^ (j + 1)) := Lib.hid (by rw [Nat.pow_succ, HM.out])
        obtain ⟨X, hX⟩ : ∃ X, M * q = X := ⟨_, rfl⟩
        have e0 : (M : Int) * (q : Int) = (X : Int) := by rw [← hX]; simp
        rw [hX] at hmul HP
        have HJ := Lib.hid hj
        clear hX
        by_cases hjk : j < N
        · have l1 : (j : Int) < (N : Int) := by omega
          by_cases hb : X ≤ 20000
          · have g1 : ¬ (20000 : Int) < (X : Int) := by omega
            clear hj
            go_wp2
            go_roundg (gk - 1)
            case rel => exact ⟨j + 1, X, by go_num, rfl, HP, by have := HJ.out; omega, hb, HW.out _ (by rw [← HP.out]; exact hb), rfl⟩
            case measure => have := HJ.out; omega
          · have g1 : (20000 : Int) < (X : Int) := by omega
            have hbf : B = false := HT.out (j + 1) (by have := HNK.out; omega) (by rw [← HP.out]; omega)
            have HF := Lib.hid (HN.out hbf)
            clear hbf hj
            go_wp2
            go_ret
            rw [HF.out]
            exact ⟨rfl, rfl⟩
        · have l1 : ¬ (j : Int) < (N : Int) := by omega
          have hjK : j = K := by have := HN15.out (by omega); omega
          have hbt : B = true := HO.out HK1.out (by rw [← hjK, ← HM.out]; exact hM)
          have HF := Lib.hid (show P = M by rw [HY.out hbt, HM.out, hjK])
          clear hbt hj hjK hjk
          go_wp2
          go_ret
          rw [HF.out]
          exact ⟨rfl, rfl⟩

theorem Roots_no (p k : Int) (a : Option Addr) (n c : Nat) (f : List Int) (w : World) (h : Ints w a n f) (hn : n ≤ 4611686018427387904) (hno : (isPK p k && isPoly f) = false) :
    Calls Try.prog 16 #[.slice a n c, .int .i64 p, .int .i64 k] w fun e w' => e = .returned (.tuple #[.slice none 0 0, .int .i64 2]) ∧ ∃ q, w' = w.drewN q := by
  have hP := fun w => power_any p k w
  have hV := valid_any a n c f w h hn
  cases hpk : isPK p k with
  | false =>
    rw [hpk] at hP
    have HP := Lib.hid hP
    clear hP hV hno h hpk
    go_enter Try.func16, Try.ntmps16
    go_wp2_with fail
    refine (HP.out _).mono ?_
    rintro e w1 ⟨rfl, rfl⟩
    go_wp2
    go_ret2
    exact ⟨rfl, 0, rfl⟩
  | true =>
    rw [hpk, Bool.true_and] at hno
    rw [hpk] at hP
    rw [hno] at hV
    have HP := Lib.hid hP
    have HV := Lib.hid hV
    clear hP hV hno h hpk
    go_enter Try.func16, Try.ntmps16
    go_wp2_with fail
    refine (HP.out _).mono ?_
    rintro e w1 ⟨rfl, rfl⟩
    go_wp2_with fail
    refine HV.out.mono ?_
    rintro e w1 ⟨rfl, q, rfl⟩
    go_wp2
    go_ret2
    exact ⟨rfl, q, rfl⟩

theorem poly_bounds {f : List Int} {n : Nat} (hl : f.length = n) (h : isPoly f = true) : 2 ≤ n ∧ n ≤ 7 ∧ (∀ j, j < n → -1000 ≤ f.getD j 0 ∧ f.getD j 0 ≤ 1000) := by
  obtain ⟨h1, h2, -, h4⟩ := isPoly_spec h
  rw [hl] at h1 h2 h4
  exact ⟨h1, h2, h4⟩
theorem Roots_yes (p k : Int) (a : Option Addr) (n c : Nat) (f : List Int) (w : World) (h : Ints w a n f) (hpk : isPK p k = true) (hf : isPoly f = true) :
    Calls Try.prog 16 #[.slice a n c, .int .i64 p, .int .i64 k] w fun e w' => (∃ v, e = .returned (.tuple #[v, .int .i64 0]) ∧ Row w.heap.size v (rts f (pkN p k)) w') ∧ Below w.heap.size w w' := by
  have hP := fun w => power_any p k w
  obtain ⟨g1, g2, g3⟩ := poly_bounds h.1 hf
  have hV := valid_any a n c f w h (by omega)
  rw [hpk] at hP
  rw [hf] at hV
  have hM : pkN p k ≤ 20000 := by
    obtain ⟨q, j, rfl, rfl, -, -, -, h4⟩ := isPK_spec hpk
    rw [pkN_yes hpk]; exact h4
  have hR := fun q => roots_any a n c f (pkN p k) (w.drewN q) (h.below (drew_below w q)) (by omega) (fun j hj => ⟨by have := (g3 j hj).1; omega, by have := (g3 j hj).2; omega⟩) hM
  obtain ⟨M, hMM⟩ : ∃ M, pkN p k = M := ⟨_, rfl⟩
  rw [hMM] at hP hR ⊢
  have HP := Lib.hid hP
  have HV := Lib.hid hV
  have HR := Lib.hid hR
  clear hP hV hR hf h hpk g3 hMM
  go_enter Try.func16, Try.ntmps16
  go_wp2_with fail
  refine (HP.out _).mono ?_
  rintro e w1 ⟨rfl, rfl⟩
  go_wp2_with fail
  refine HV.out.mono ?_
  rintro e w1 ⟨rfl, q, rfl⟩
  go_wp2_with fail
  refine (HR.out q).mono ?_
  rintro e w1 ⟨⟨v, rfl, hr⟩, hb⟩
  have HF := Lib.hid (And.intro hr hb)
  clear hr hb
  go_wp2
  go_ret2
  exact ⟨⟨v, rfl, HF.out.1⟩, (drew_below w q).trans HF.out.2⟩
theorem rts12 : rts [-2, 1] (pkN 3 2) = [2] := by decide +kernel

set_option maxHeartbeats 4000000 in
set_option maxRecDepth 100000 in
theorem awake_any (w : World) : Calls Try.prog 21 #[] w fun e w' => e = .returned (.bool true) ∧ Below w.heap.size w w' := by
  have hb0 := (Below.refl w.heap.size w).alloc (Nat.le_refl _) (.cells #[.int .i64 (-2), .int .i64 1] 3)
  have hR := Roots_yes 3 2 (some ⟨w.heap.size, 0, none⟩) 2 2 [-2, 1] _ (Row.lit2 w (-2) 1) (by decide +kernel) (by decide +kernel)
  rw [rts12] at hR
  have HR := Lib.hid hR
  have HB0 := Lib.hid hb0
  clear hR hb0
  go_enter Try.func21, Try.ntmps21
  go_wp2_with fail
  refine HR.out.mono ?_
  rintro e w1 ⟨⟨v, rfl, hr⟩, hb⟩
  obtain ⟨a, n, c, rfl, hi, hn⟩ := hr.ints
  have hn2 : n = 1 := hn
  subst hn2
  have HB := Lib.hid (HB0.out.trans (hb.mono HB0.out.size))
  have HI := Lib.hid hi
  have HL := Lib.hid (Row.lit w1 2)
  have HB2 := Lib.hid ((Below.refl w1.heap.size w1).alloc (Nat.le_refl _) (.cells #[.int .i64 2] 3))
  clear hr hb hn hi
  go_wp2_with fail
  refine (equal_any _ _ _ _ _ _ _ _ _ (HI.out.below HB2.out) HL.out (by omega) (by omega)).mono ?_
  rintro e w2 ⟨rfl, q, rfl⟩
  go_wp2
  go_ret
  exact ⟨ret_bool (by decide), below_drewN (HB.out.trans (HB2.out.mono HB.out.size)) q⟩
end Go.Proofs.Ytjlaclbgfidiiaa
