/- The walks of acceptable, equals and Check. Condition: the slice lies in memory. -/
import Derived.Test.YtbdiknlbmjdpeaaSum
import Derived.Test.YtbdiknlbmjdpeaaAwake
namespace Go.Proofs.Ytbdiknlbmjdpeaa
open Go.RowKit
attribute [local go_sem] Oper.semAt_some


theorem drop_cons {xs : List Int} {j : Nat} (h : j < xs.length) : xs.drop j = xs.getD j 0 :: xs.drop (j + 1) := by
  rw [List.drop_eq_getElem_cons h]; simp [List.getD, h]
theorem take_snocI {xs : List Int} {j : Nat} (h : j < xs.length) : xs.take (j + 1) = xs.take j ++ [xs.getD j 0] := by
  rw [List.take_succ_eq_append_getElem h]; simp [List.getD, h]

set_option maxHeartbeats 4000000 in
set_option maxRecDepth 100000 in
theorem acceptable_any (a : Option Addr) (n c : Nat) (xs : List Int) (w : World) (h : Ints w a n xs) (hn : n ≤ 4611686018427387904) :
    Calls Try.prog 44 #[.slice a n c] w fun e w' => e = .returned (.bool (accI xs)) ∧ w = w' := by
  have H := Lib.hid h
  have HL := Lib.hid h.1
  obtain ⟨B, hB⟩ : ∃ B, accI xs = B := ⟨_, rfl⟩
  rw [hB]
  unfold accI at hB
  rw [h.1] at hB
  by_cases h8 : n ≤ 8
  · have b8 : ¬ (8 : Int) < (n : Int) := by omega
    rw [decide_eq_true h8, Bool.true_and] at hB
    have HB := Lib.hid hB
    clear hB h
    go_enter Try.func44, Try.ntmps44
    go_wp2
    go_loopg [3, 11] n (fun gk s3 s11 wr => ∃ (j : Nat) (p : Int), s11 = .int .i64 (j : Int) ∧ s3 = .int .i64 p ∧ j + gk = n ∧ accF p (xs.drop j) = B ∧ wr = w)
    case atStart => exact ⟨0, 1, rfl, rfl, by omega, HB.out, rfl⟩
    case round =>
      obtain ⟨j, p, rfl, rfl, hj, hac, hww⟩ := hrel
      have hww2 := hww.symm
      subst hww2
      clear hww
      have HAC := Lib.hid hac
      have HJ := Lib.hid hj
      clear hac
      by_cases hjn : j < n
      · have l1 : (j : Int) < (n : Int) := by omega
        have j0 : (0 : Int) ≤ (j : Int) := by omega
        obtain ⟨b, off, hab, hbl, hcc⟩ := H.out.at (by omega)
        subst hab
        have hcj := hcc j hjn
        have hac := HAC.out
        rw [drop_cons (by have := HL.out; omega)] at hac
        obtain ⟨x, hx⟩ : ∃ x, xs.getD j 0 = x := ⟨_, rfl⟩
        rw [hx] at hcj hac
        simp only [accF] at hac
        have HA := Lib.hid hac
        clear hcc hac hx hj
        by_cases g1 : x ≤ p
        · have hB2 : B = false := by rw [← HA.out, decide_eq_false (by omega)]; rfl
          have HB2 := Lib.hid hB2
          have g1d : decide (x ≤ p) = true := by simpa using g1
          clear hB2
          go_wp2
          go_ret
          exact ⟨ret_bool HB2.out.symm, rfl⟩
        · have g1d : decide (x ≤ p) = false := by simpa using g1
          by_cases g2 : 1000000 < x
          · have hB2 : B = false := by rw [← HA.out, decide_eq_false (show ¬ x ≤ 1000000 by omega), Bool.and_false]; rfl
            have HB2 := Lib.hid hB2
            have g2d : decide (1000000 < x) = true := by simpa using g2
            clear hB2
            go_wp2
            go_ret
            exact ⟨ret_bool HB2.out.symm, rfl⟩
          · have g2d : decide (1000000 < x) = false := by simpa using g2
            have hnx : accF x (xs.drop (j + 1)) = B := by rw [← HA.out, decide_eq_true (show p < x by omega), decide_eq_true (show x ≤ 1000000 by omega)]; rfl
            have HN := Lib.hid hnx
            clear hnx
            go_wp2
            go_roundg (gk - 1)
            case rel => exact ⟨j + 1, x, by go_num, rfl, by have := HJ.out; omega, HN.out, rfl⟩
            case measure => have := HJ.out; omega
      · have l1 : ¬ (j : Int) < (n : Int) := by omega
        have hac := HAC.out
        rw [List.drop_eq_nil_of_le (by have := HL.out; omega)] at hac
        have HB2 := Lib.hid (show true = B from hac)
        clear hac hj hjn
        go_wp2
        go_ret
        exact ⟨ret_bool HB2.out, rfl⟩
  · have b8 : (8 : Int) < (n : Int) := by omega
    rw [decide_eq_false h8, Bool.false_and] at hB
    subst hB
    clear h h8
    go_enter Try.func44, Try.ntmps44
    go_wp2
    go_ret
    exact ⟨rfl, rfl⟩

theorem pa0 (w : World) : (Instr.index 68 (.agg #[.int .i64 1000000000039, .int .i64 1000000000061, .int .i64 1000000000063, .int .i64 1000000000091, .int .i64 1000000000121]) (.int .i64 0)).run Try.prog w = .ok (.int .i64 1000000000039) w := by kernel_rfl
theorem pa1 (w : World) : (Instr.index 68 (.agg #[.int .i64 1000000000039, .int .i64 1000000000061, .int .i64 1000000000063, .int .i64 1000000000091, .int .i64 1000000000121]) (.int .i64 1)).run Try.prog w = .ok (.int .i64 1000000000061) w := by kernel_rfl
theorem pa2 (w : World) : (Instr.index 68 (.agg #[.int .i64 1000000000039, .int .i64 1000000000061, .int .i64 1000000000063, .int .i64 1000000000091, .int .i64 1000000000121]) (.int .i64 2)).run Try.prog w = .ok (.int .i64 1000000000063) w := by kernel_rfl
theorem pa3 (w : World) : (Instr.index 68 (.agg #[.int .i64 1000000000039, .int .i64 1000000000061, .int .i64 1000000000063, .int .i64 1000000000091, .int .i64 1000000000121]) (.int .i64 3)).run Try.prog w = .ok (.int .i64 1000000000091) w := by kernel_rfl
theorem pa4 (w : World) : (Instr.index 68 (.agg #[.int .i64 1000000000039, .int .i64 1000000000061, .int .i64 1000000000063, .int .i64 1000000000091, .int .i64 1000000000121]) (.int .i64 4)).run Try.prog w = .ok (.int .i64 1000000000121) w := by kernel_rfl
theorem prim_at (k : Nat) (hk : k < 5) (w : World) : (Instr.index 68 (.agg #[.int .i64 1000000000039, .int .i64 1000000000061, .int .i64 1000000000063, .int .i64 1000000000091, .int .i64 1000000000121]) (.int .i64 (k : Int))).run Try.prog w = .ok (.int .i64 ((prim k : Nat) : Int)) w := by
  match k, hk with
  | 0, _ => exact pa0 w
  | 1, _ => exact pa1 w
  | 2, _ => exact pa2 w
  | 3, _ => exact pa3 w
  | 4, _ => exact pa4 w
theorem drew_below2 (w : World) (q : Nat) : Below w.heap.size w (w.drewN q) := below_drewN (Below.refl _ _) q
theorem tmod_abs {x p : Int} (hp : 0 < p) : -p < x.tmod p ∧ x.tmod p < p := by
  have h1 := Int.tmod_lt_of_pos x hp
  have h2 := Int.lt_tmod_of_pos x hp
  omega
set_option maxHeartbeats 8000000 in
set_option maxRecDepth 100000 in
theorem equals_any (num den : Int) (h1 : 0 ≤ num) (h2 : num ≤ 60) (h3 : 0 ≤ den) (h4 : den ≤ 60) (a : Option Addr) (n c : Nat) (xs : List Int) (w : World) (h : Ints w a n xs) (hac : accI xs = true) :
    Calls Try.prog 45 #[.agg #[.int .i64 num, .int .i64 den], .slice a n c] w fun e w' => e = .returned (.bool (decide (numF num den xs = 0))) ∧ Below w.heap.size w w' := by
  have hz := fun hp => num_zero (a := num) (b := den) hac ⟨h1, h2⟩ ⟨h3, h4⟩ hp
  have hac2 := hac
  unfold accI at hac2
  simp only [Bool.and_eq_true, decide_eq_true_eq] at hac2
  have hmem := accF_mem xs 1 hac2.2
  have hn8 : n ≤ 8 := by rw [← h.1]; exact hac2.1
  have hel : ∀ j, j < n → 1 < xs.getD j 0 ∧ xs.getD j 0 ≤ 1000000 := fun j hj => hmem _ (by
    have : j < xs.length := by rw [h.1]; exact hj
    simp [List.getD, this])
  have hb0 : Below w.heap.size w (w.alloc (.cells #[.int .i64 num, .int .i64 den] 49)) := (Below.refl _ _).alloc (Nat.le_refl _) _
  have hI := h.below hb0
  obtain ⟨p0, p1⟩ := cell_pair w (.int .i64 num) (.int .i64 den) 49
  obtain ⟨B, hB⟩ : ∃ B, decide (numF num den xs = 0) = B := ⟨_, rfl⟩
  rw [hB]
  obtain ⟨W1, hW1⟩ : ∃ W1, w.alloc (.cells #[.int .i64 num, .int .i64 den] 49) = W1 := ⟨_, rfl⟩
  rw [hW1] at hb0 hI p0 p1
  have HW1 := Lib.hid hW1
  have HBB := Lib.hid hB
  have HZ := Lib.hid hz
  have HEL := Lib.hid hel
  have HL := Lib.hid h.1
  have HI := Lib.hid hI
  have HB0 := Lib.hid hb0
  have P0 := Lib.hid p0
  have P1 := Lib.hid p1
  clear h hac hz hac2 hmem hel hb0 hI hB p0 p1
  go_enter Try.func45, Try.ntmps45
  go_wp2
  clear hW1
  go_loopg [12] 5 (fun gk s12 wr => ∃ k q : Nat, s12 = .int .i64 (k : Int) ∧ k + gk = 5 ∧ (∀ i, i < k → ((prim i : Nat) : Int) ∣ numF num den xs) ∧ wr = W1.drewN q)
  case atStart => exact ⟨0, 0, rfl, rfl, fun i hi => by omega, rfl⟩
  case round =>
    obtain ⟨k, q, rfl, hk, hall, rfl⟩ := hrel
    have HALL := Lib.hid hall
    have HK := Lib.hid hk
    clear hall
    by_cases hk5 : k < 5
    · have l1 : (k : Int) < 5 := by omega
      have hix := fun w => prim_at k hk5 w
      obtain ⟨pr1, pr2⟩ := prim_range hk5
      obtain ⟨p, hP⟩ : ∃ p : Int, ((prim k : Nat) : Int) = p := ⟨_, rfl⟩
      have pr3 : 1000000000000 < p := by omega
      have pr4 : p ≤ 1000000000121 := by omega
      simp only [hP] at hix
      have HP := Lib.hid hP
      have p0 := P0.out
      have p1 := P1.out
      clear hk hP pr1 pr2
      go_wp2_with (simp only [hix])
      go_quiet (fail)
      go_wp2
      clear hix p0 p1
      obtain ⟨Q, hQ⟩ : ∃ Q, q + nq = Q := ⟨_, rfl⟩
      go_loopg [7, 8, 21] n (fun gk2 s7 s8 s21 wr => ∃ (j q2 : Nat) (u v : Int), s21 = .int .i64 (j : Int) ∧ s7 = .int .i64 u ∧ s8 = .int .i64 v ∧ j + gk2 = n ∧ -p < u ∧ u < p ∧ 0 ≤ v ∧ v < p ∧ p ∣ u - numF num den (xs.take j) ∧ p ∣ v - denF den (xs.take j) ∧ wr = W1.drewN q2)
      case atStart => exact ⟨0, _, num, den, rfl, rfl, rfl, by omega, by omega, by omega, h3, by omega, by simp [numF], by simp [denF], by first | rfl | rw [World.drewN_drewN]⟩
      case round =>
        obtain ⟨j, q2, u, v, rfl, rfl, rfl, hj, u1, u2, v1, v2, hu, hv, rfl⟩ := hrel
        have HU := Lib.hid hu
        have HV := Lib.hid hv
        have HJ := Lib.hid hj
        clear hu hv
        by_cases hjn : j < n
        · have m1 : (j : Int) < (n : Int) := by omega
          have j0 : (0 : Int) ≤ (j : Int) := by omega
          obtain ⟨b, off, hab, hbl, hcc⟩ := (HI.out.below (drew_below2 W1 q2)).at (by omega)
          subst hab
          have hcj := hcc j hjn
          obtain ⟨d1, d2⟩ := HEL.out j hjn
          have hst := fun X Y hX hY => mod_step (p := p) (X := X) (Y := Y) (d := xs.getD j 0) HU.out HV.out hX hY
          have ht := take_snocI (xs := xs) (j := j) (by have := HL.out; omega)
          have hn1 := numF_snoc (xs.getD j 0) (xs.take j) num den
          have hn2 := denF_snoc (xs.getD j 0) (xs.take j) den
          rw [← ht] at hn1 hn2
          obtain ⟨d, hd⟩ : ∃ d, xs.getD j 0 = d := ⟨_, rfl⟩
          rw [hd] at hcj d1 d2 hn1 hn2
          simp only [hd] at hst
          rw [← hn1, ← hn2] at hst
          have ud1 : -1100000000000000000 ≤ u * d := by
            have g1 : -(1000000000121 * 1000000) ≤ u * d := by
              rcases Int.le_total 0 u with g | g
              · have := Int.mul_nonneg g (show 0 ≤ d by omega); omega
              · have g2 : -u * d ≤ 1000000000121 * 1000000 := Int.mul_le_mul (by omega) d2 (by omega) (by omega)
                have g3 : -u * d = -(u * d) := Int.neg_mul _ _
                omega
            omega
          have ud2 : u * d ≤ 1100000000000000000 := by
            have g1 : u * d ≤ 1000000000121 * 1000000 := by
              rcases Int.le_total 0 u with g | g
              · exact Int.mul_le_mul (by omega) d2 (by omega) (by omega)
              · have g2 : 0 ≤ -u * d := Int.mul_nonneg (by omega) (by omega)
                have g3 : -u * d = -(u * d) := Int.neg_mul _ _
                omega
            omega
          have vd1 : 0 ≤ v * d := Int.mul_nonneg v1 (by omega)
          have vd2 : v * d ≤ 1100000000000000000 := by
            have g1 : v * d ≤ 1000000000121 * 1000000 := Int.mul_le_mul (by omega) d2 (by omega) (by omega)
            omega
          obtain ⟨UD, hUD⟩ : ∃ UD, u * d = UD := ⟨_, rfl⟩
          obtain ⟨VD, hVD⟩ : ∃ VD, v * d = VD := ⟨_, rfl⟩
          have e1 : IntKind.i64.wrap (u * d) = UD := by rw [hUD]; rw [hUD] at ud1 ud2; exact IntWalk.i64_in _ (by omega)
          have e4 : IntKind.i64.wrap (v * d) = VD := by rw [hVD]; rw [hVD] at vd1 vd2; exact IntWalk.i64_in _ (by omega)
          rw [hUD] at ud1 ud2 hst
          rw [hVD] at vd1 vd2 hst
          obtain ⟨S, hS⟩ : ∃ S, UD - v = S := ⟨_, rfl⟩
          have e2 : IntKind.i64.wrap (UD - v) = S := by rw [hS]; exact IntWalk.i64_in _ (by omega)
          rw [hS] at hst
          obtain ⟨X, hX⟩ : ∃ X, S.tmod p = X := ⟨_, rfl⟩
          obtain ⟨Y, hY⟩ : ∃ Y, VD.tmod p = Y := ⟨_, rfl⟩
          have hXb := tmod_abs (x := S) (p := p) (by omega)
          have hYb := tmod_abs (x := VD) (p := p) (by omega)
          have hY0 : 0 ≤ Y := by rw [← hY]; exact Int.tmod_nonneg _ vd1
          rw [hX] at hXb
          rw [hY] at hYb
          have hst2 := hst X Y hX hY
          have HST := Lib.hid hst2
          have HXY := Lib.hid (And.intro hXb (And.intro hY0 hYb.2))
          have s1 : -1200000000000000000 ≤ S := by omega
          have s2 : S ≤ 1200000000000000000 := by omega
          have pne : ¬ p = 0 := by omega
          have x1 : -1000000000121 ≤ X := by omega
          have x2 : X ≤ 1000000000121 := by omega
          have y2 : Y ≤ 1000000000121 := by omega
          clear hst hst2 ht hn1 hn2 hd hcc hj hjn hUD hVD hS hXb hYb
          go_wp2
          go_quiet (fail)
          go_wp2
          go_roundg (gk - 1)
          case rel => exact ⟨j + 1, _, X, Y, by go_num, rfl, rfl, by have := HJ.out; omega, HXY.out.1.1, HXY.out.1.2, HXY.out.2.1, HXY.out.2.2, HST.out.1, HST.out.2, by first | rfl | rw [World.drewN_drewN]⟩
          case measure => have := HJ.out; omega
        · have m1 : ¬ (j : Int) < (n : Int) := by omega
          have hu := HU.out
          rw [List.take_of_length_le (by have := HL.out; omega)] at hu
          clear hj hjn
          by_cases hu0 : u = 0
          · subst hu0
            have hdv : p ∣ numF num den xs := by
              obtain ⟨c, hc⟩ := hu
              exact ⟨-c, by rw [Int.mul_neg]; omega⟩
            have hall2 : ∀ i, i < k + 1 → ((prim i : Nat) : Int) ∣ numF num den xs := by
              intro i hi
              by_cases e : i = k
              · rw [e, HP.out]; exact hdv
              · exact HALL.out i (by omega)
            have HA2 := Lib.hid hall2
            clear hu hdv hall2
            go_wp2
            go_roundg (4 - k)
            case rel => exact ⟨k + 1, _, by go_num, by omega, HA2.out, rfl⟩
            case measure => have := HK.out; omega
          · have hB2 : B = false := by
              rw [← HBB.out]
              refine decide_eq_false fun e => ?_
              rw [e, Int.sub_zero] at hu
              obtain ⟨c, hc⟩ := hu
              have : c = 0 := by
                apply Decidable.byContradiction
                intro hc0
                rcases Int.lt_or_gt_of_ne hc0 with g | g
                · have : p * c ≤ p * (-1) := Int.mul_le_mul_of_nonneg_left (by omega) (by omega)
                  omega
                · have : p * 1 ≤ p * c := Int.mul_le_mul_of_nonneg_left (by omega) (by omega)
                  omega
              rw [this, Int.mul_zero] at hc
              exact hu0 hc
            have HB2 := Lib.hid hB2
            have g1 : (u != 0) = true := by rw [bne_iff_ne]; exact hu0
            clear hu hB2
            go_wp2
            go_ret
            exact ⟨ret_bool HB2.out.symm, below_drewN HB0.out _⟩
    · have l1 : ¬ (k : Int) < 5 := by omega
      have hB2 : true = B := by
        rw [← HBB.out]
        exact (decide_eq_true (HZ.out (fun i hi => HALL.out i (by omega)))).symm
      have HB2 := Lib.hid hB2
      clear hB2 hk hk5
      go_wp2
      go_ret
      exact ⟨ret_bool HB2.out, below_drewN HB0.out q⟩
end Go.Proofs.Ytbdiknlbmjdpeaa
