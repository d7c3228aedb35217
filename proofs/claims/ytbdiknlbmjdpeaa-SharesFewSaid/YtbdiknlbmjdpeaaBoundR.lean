/- The walks of the reference's sum and Bound, and of the law SharesBounds. No condition. -/
import Derived.Test.YtbdiknlbmjdpeaaBound
namespace Go.Proofs.Ytbdiknlbmjdpeaa
open Go.RowKit
attribute [local go_sem] Oper.semAt_some


set_option maxHeartbeats 4000000 in
set_option maxRecDepth 100000 in
theorem sumR_0 (x y above : Nat) (w : World) :
    Calls Try.prog 53 #[.int .i64 (x : Int), .int .i64 (y : Int), .int .i64 0, .int .i64 (above : Int)] w fun e w' => e = .returned (.bool (decide (x = 0))) ∧ w = w' := by
  have e : decide (x = 0) = ((x : Int) == 0) := by rw [Bool.eq_iff_iff]; simp; try omega
  rw [e]
  clear e
  go_enter Try.func53, Try.ntmps53
  go_wp2
  go_ret
  exact ⟨rfl, rfl⟩
theorem sum1_eq {x y above : Nat} (h : y ≤ 3000000000000000000) : (fnd 1 maxI 0 x y (above + 1)).isSome = (decide (y % x = 0) && decide (above < y / x)) := by
  unfold fnd
  have h2 : y / x ≤ maxI := le_maxI (Nat.le_trans (Nat.div_le_self _ _) h)
  by_cases h1 : y % x = 0
  · by_cases h3 : above < y / x
    · rw [if_pos ⟨h1, h3, h2⟩]; simp [h1, h3]
    · rw [if_neg (fun h => h3 h.2.1)]; simp [h3]
  · rw [if_neg (fun h => h1 h.1)]; simp [h1]
set_option maxHeartbeats 4000000 in
set_option maxRecDepth 100000 in
theorem sumR_1 (x y above : Nat) (hx : 0 < x) (h1 : x ≤ 3000000000000000000) (h2 : y ≤ 3000000000000000000) (w : World) :
    Calls Try.prog 53 #[.int .i64 (x : Int), .int .i64 (y : Int), .int .i64 1, .int .i64 (above : Int)] w fun e w' => e = .returned (.bool (fnd 1 maxI 0 x y (above + 1)).isSome) ∧ w = w' := by
  rw [sum1_eq h2]
  have u1 : ((y : Int) / (x : Int)) = ((y / x : Nat) : Int) := by rw [Int.natCast_ediv]
  have u2 : ((y : Int) % (x : Int)) = ((y % x : Nat) : Int) := by rw [Int.natCast_emod]
  have hle := Nat.div_le_self y x
  have hle2 := Nat.mod_lt y hx
  obtain ⟨D, hD⟩ : ∃ D, y / x = D := ⟨_, rfl⟩
  obtain ⟨M, hM⟩ : ∃ M, y % x = M := ⟨_, rfl⟩
  rw [hD] at u1 hle ⊢
  rw [hM] at u2 hle2 ⊢
  have u3 : (D : Int) ≤ 3000000000000000000 := Int.ofNat_le.2 (Nat.le_trans hle h2)
  have u4 : (M : Int) ≤ 3000000000000000000 := Int.ofNat_le.2 (Nat.le_trans (Nat.le_of_lt hle2) h1)
  have n0 : (0 : Int) < (x : Int) := by omega
  have n1 : ¬ (x : Int) = 0 := by omega
  have n2 : ((x : Int) == 0) = false := by simp; omega
  clear hD hM hle hle2
  by_cases k1 : M = 0
  · have b1 : ((M : Int) == 0) = true := by simp; omega
    by_cases k2 : above < D
    · have b2 : (above : Int) < (D : Int) := by omega
      have e : (decide (M = 0) && decide (above < D)) = true := by simp [k1, k2]
      rw [e]
      clear k1 k2 e
      go_enter Try.func53, Try.ntmps53
      go_wp2
      go_ret
      exact ⟨rfl, rfl⟩
    · have b2 : ¬ (above : Int) < (D : Int) := by omega
      have e : (decide (M = 0) && decide (above < D)) = false := by simp [k2]
      rw [e]
      clear k1 k2 e
      go_enter Try.func53, Try.ntmps53
      go_wp2
      go_ret
      exact ⟨rfl, rfl⟩
  · have b1 : ((M : Int) == 0) = false := by simp; omega
    have e : (decide (M = 0) && decide (above < D)) = false := by simp [k1]
    rw [e]
    clear k1 e
    go_enter Try.func53, Try.ntmps53
    go_wp2
    go_ret
    exact ⟨rfl, rfl⟩

/-- A second term that is half of what is left leaves one that is the same. -/
theorem half_none {x y d : Nat} (hx : 0 < x) (hy : 0 < y) (hd : 0 < d) (h : 2 * y ≤ x * d) : fnR 1 maxI 0 x y d = none := by
  unfold fnR fnd
  rw [if_neg]
  · rfl
  · rintro ⟨-, h2, -⟩
    have h3 : 0 < x * d - y := by omega
    have h4 : (d + 1) * (x * d - y) ≤ y * d := (Nat.le_div_iff_mul_le h3).1 h2
    have h5 : (d + 1) * y ≤ (d + 1) * (x * d - y) := Nat.mul_le_mul_left _ (by omega)
    have h6 : (d + 1) * y = y * d + y := by rw [Nat.add_mul, Nat.one_mul, Nat.mul_comm]
    omega
set_option maxHeartbeats 8000000 in
set_option maxRecDepth 100000 in
theorem sumR_2 (x y above : Nat) (hx : 0 < x) (hy : 0 < y) (h1 : x ≤ 1000000) (h2 : y ≤ 1000000) (h3 : above ≤ 1000000) (w : World) :
    Calls Try.prog 53 #[.int .i64 (x : Int), .int .i64 (y : Int), .int .i64 2, .int .i64 (above : Int)] w fun e w' => e = .returned (.bool (fnd 1 maxI 1 x y (above + 1)).isSome) ∧ ∃ q, w' = w.drewN q := by
  obtain ⟨R, hR⟩ : ∃ R, fnd 1 maxI 1 x y (above + 1) = R := ⟨_, rfl⟩
  rw [hR]
  unfold fnd at hR
  have hlt := fun d => lt_div (num := x) (den := y) (d := d) hx
  have hles := fun d => le_divs (num := x) (x := 2 * y) (d := d) hx
  have c1 : ((y : Int) / (x : Int)) = ((y / x : Nat) : Int) := by rw [Int.natCast_ediv]
  have dl := Nat.div_le_self y x
  have dl2 := Nat.div_le_self (2 * y) x
  replace hR : fs (fnR 1 maxI 0 x y) (max (above + 1) (y / x + 1)) (min maxI (2 * y / x) + 1 - max (above + 1) (y / x + 1)) = R := hR
  obtain ⟨D, hD⟩ : ∃ D, y / x = D := ⟨_, rfl⟩
  rw [hD] at hR c1 dl
  simp only [hD] at hlt
  obtain ⟨H, hH⟩ : ∃ H, 2 * y / x = H := ⟨_, rfl⟩
  rw [hH] at hR dl2
  simp only [hH] at hles
  have hHm : min maxI H = H := Nat.min_eq_right (le_maxI (Nat.le_trans dl2 (Nat.le_trans (Nat.mul_le_mul_left 2 h2) (by decide))))
  rw [hHm] at hR
  obtain ⟨lo, hlo⟩ : ∃ lo, max (above + 1) (D + 1) = lo := ⟨_, rfl⟩
  rw [hlo] at hR
  have c4 : max ((above : Int) + 1) ((D : Int) + 1) = (lo : Int) := by omega
  have b1 : (D : Int) ≤ 1000000 := by omega
  have b5 : (lo : Int) ≤ 1000001 := by omega
  have hlod : ∀ d, lo ≤ d → D < d := fun d h => by omega
  have n0 : (0 : Int) < (x : Int) := by omega
  have n1 : ¬ (x : Int) = 0 := by omega
  have n2 : ((x : Int) == 0) = false := by simp; omega
  have hH2 : H ≤ 2000000 := by omega
  have HR := Lib.hid hR
  have HLT := Lib.hid hlt
  have HLE := Lib.hid hles
  have HD := Lib.hid hlod
  have hlo3 : lo ≤ 2000001 := by omega
  clear hR hlt hles hlod hD hH hlo dl dl2 hHm
  go_enter Try.func53, Try.ntmps53
  go_wp2
  go_loopg [9] (H + 1 - lo) (fun gk s9 wr => ∃ d q : Nat, s9 = .int .i64 (d : Int) ∧ gk = H + 1 - d ∧ lo ≤ d ∧ d ≤ 2000001 ∧ fs (fnR 1 maxI 0 x y) d gk = R ∧ wr = w.drewN q)
  case atStart => exact ⟨lo, 0, rfl, rfl, Nat.le_refl _, hlo3, HR.out, rfl⟩
  case round =>
    obtain ⟨d, q, rfl, hgk, hlo, hd3, hfs, rfl⟩ := hrel
    have HFS := Lib.hid hfs
    have HLO := Lib.hid hlo
    have HGK := Lib.hid hgk
    have hDd := HD.out d hlo
    have hx1 := (HLT.out d).1 hDd
    have hd0 : 0 < d := by omega
    have hxd : x * d ≤ 2000001000000 := Nat.le_trans (Nat.mul_le_mul h1 hd3) (by decide)
    have hyd : y * d ≤ 2000001000000 := Nat.le_trans (Nat.mul_le_mul h2 hd3) (by decide)
    have hles := HLE.out d
    have hhalf := fun h => half_none (x := x) (y := y) (d := d) hx hy hd0 h
    have hX0 : 0 < x * d - y := by omega
    have hLS := fun w (h : y ≤ x * d) => less_any x y d hy hd0 h (Nat.le_trans h2 (by decide)) (Nat.le_trans hd3 (by decide)) (Nat.le_trans (Nat.mul_le_mul_left x (Nat.div_le_self _ _)) (Nat.le_trans hxd (by decide))) (Nat.le_trans (Nat.mul_le_mul_left y (Nat.div_le_self _ _)) (Nat.le_trans hyd (by decide))) w
    have hfn : ∀ X Y, IsLess x y d X Y → 0 < X ∧ fnR 1 maxI 0 x y d = (fnd 1 maxI 0 X Y (d + 1)).map (d :: ·) := by
      intro X Y hl
      have hX : 0 < X := by
        rcases Nat.eq_zero_or_pos X with e | e
        · have := hl.2.1
          rw [e, Nat.zero_mul] at this
          have h2 := Nat.mul_pos hX0 hl.1
          omega
        · exact e
      refine ⟨hX, ?_⟩
      unfold fnR
      rw [fnd_scale 1 maxI 0 hX0 (Nat.mul_pos hy hd0) hX hl.1 hl.2.1.symm]
    have hxY : ∀ X Y, IsLess x y d X Y → X ≤ 2000001000000 ∧ Y ≤ 2000001000000 := fun X Y hl => ⟨Nat.le_trans hl.2.2.2.1 (Nat.le_trans (Nat.sub_le _ _) hxd), Nat.le_trans hl.2.2.1 hyd⟩
    have hyx := Nat.le_of_lt hx1
    obtain ⟨P, hP⟩ : ∃ P, x * d = P := ⟨_, rfl⟩
    rw [hP] at hxd hles hhalf
    simp only [hP] at hLS
    have W1 := Lib.hid (wrap_mul hP (Nat.le_trans hxd (by decide)))
    have HP := Lib.hid hP
    have p3 : (P : Int) ≤ 2000001000000 := Int.ofNat_le.2 hxd
    have d3 : (d : Int) ≤ 2000001 := Int.ofNat_le.2 hd3
    have hL2 := fun w => hLS w (by rw [← hP]; exact hyx)
    have HLS := Lib.hid hL2
    have HFN := Lib.hid hfn
    have HXY := Lib.hid hxY
    clear hfs hlo hgk hDd hx1 hxd hyd hX0 hLS hfn hxY hyx hP hL2
    by_cases hc : P < 2 * y
    · have hcc : (P : Int) < 2 * (y : Int) := by omega
      have hdH : d ≤ H := hles.2 (by omega)
      obtain ⟨k, rfl⟩ : ∃ k, gk = k + 1 := ⟨gk - 1, by have := HGK.out; omega⟩
      have hDH := Lib.hid hdH
      clear hles hhalf hc hdH
      have w1 := W1.out
      go_wp2_with fail
      refine (HLS.out _).mono ?_
      rintro e w2 ⟨⟨X, Y, hl, rfl⟩, q2, rfl⟩
      clear w1
      obtain ⟨hX0, hfn⟩ := HFN.out X Y hl
      obtain ⟨hX1, hY1⟩ := HXY.out X Y hl
      have hfs := HFS.out
      have hs1 := sum1_eq (x := X) (y := Y) (above := d) (Nat.le_trans hY1 (by decide))
      have u1 : ((Y : Int) / (X : Int)) = ((Y / X : Nat) : Int) := by rw [Int.natCast_ediv]
      have u2 : ((Y : Int) % (X : Int)) = ((Y % X : Nat) : Int) := by rw [Int.natCast_emod]
      have hle := Nat.div_le_self Y X
      have hle2 := Nat.mod_lt Y hX0
      obtain ⟨E, hE⟩ : ∃ E, Y / X = E := ⟨_, rfl⟩
      obtain ⟨M, hM⟩ : ∃ M, Y % X = M := ⟨_, rfl⟩
      rw [hE] at u1 hle hs1
      rw [hM] at u2 hle2 hs1
      have u3 : (E : Int) ≤ 3000000000000000000 := Int.ofNat_le.2 (Nat.le_trans hle (Nat.le_trans hY1 (by decide)))
      have u4 : (M : Int) ≤ 3000000000000000000 := Int.ofNat_le.2 (Nat.le_trans (Nat.le_of_lt hle2) (Nat.le_trans hX1 (by decide)))
      have u5 : (X : Int) ≤ 3000000000000000000 := Int.ofNat_le.2 (Nat.le_trans hX1 (by decide))
      have u6 : (Y : Int) ≤ 3000000000000000000 := Int.ofNat_le.2 (Nat.le_trans hY1 (by decide))
      have m0 : (0 : Int) < (X : Int) := by omega
      have m1 : ¬ (X : Int) = 0 := by omega
      have HS1 := Lib.hid hs1
      have HFN2 := Lib.hid hfn
      have HNX : fnd 1 maxI 0 X Y (d + 1) = none → fs (fnR 1 maxI 0 x y) (d + 1) k = R := fun h => by
        rw [← hfs, fs_no k (by rw [hfn, h]; rfl)]
      have HYX : ∀ L, fnd 1 maxI 0 X Y (d + 1) = some L → R = some (d :: L) := fun L h => by
        rw [← hfs, fs_yes k (by rw [hfn, h]; rfl)]
      have HN := Lib.hid HNX
      have HY := Lib.hid HYX
      clear hl hX1 hY1 hs1 hle hle2 hE hM hfn hfs HNX HYX
      by_cases k1 : M = 0
      · have g1 : ((M : Int) == 0) = true := by simp; omega
        by_cases k2 : d < E
        · have g2 : (d : Int) < (E : Int) := by omega
          have h := HS1.out
          rw [decide_eq_true k1, decide_eq_true k2] at h
          obtain ⟨L, hL⟩ := Option.isSome_iff_exists.1 h
          have hR3 := HY.out L hL
          subst hR3
          clear k1 k2 h hL
          go_wp2
          go_ret
          exact ⟨rfl, _, by first | rfl | rw [World.drewN_drewN]⟩
        · have g2 : ¬ (d : Int) < (E : Int) := by omega
          have hn : fnd 1 maxI 0 X Y (d + 1) = none := by
            have h := HS1.out
            rw [decide_eq_false k2, Bool.and_false] at h
            exact Option.isNone_iff_eq_none.1 (by simpa using h)
          have HFX := Lib.hid (HN.out hn)
          clear k1 k2 hn
          go_wp2
          go_roundg k
          case rel => exact ⟨d + 1, q + q2, by go_num, by have := HGK.out; omega, by have := HLO.out; omega, by have := hDH.out; omega, HFX.out, by first | rfl | rw [World.drewN_drewN]⟩
          case measure => omega
      · have g1 : ((M : Int) == 0) = false := by simp; omega
        have hn : fnd 1 maxI 0 X Y (d + 1) = none := by
          have h := HS1.out
          rw [decide_eq_false k1, Bool.false_and] at h
          exact Option.isNone_iff_eq_none.1 (by simpa using h)
        have HFX := Lib.hid (HN.out hn)
        clear k1 hn
        go_wp2
        go_roundg k
        case rel => exact ⟨d + 1, q + q2, by go_num, by have := HGK.out; omega, by have := HLO.out; omega, by have := hDH.out; omega, HFX.out, by first | rfl | rw [World.drewN_drewN]⟩
        case measure => omega
    · have hcc : ¬ (P : Int) < 2 * (y : Int) := by omega
      have hdn : fnR 1 maxI 0 x y d = none := hhalf (by omega)
      have hR2 : R = none := by
        rw [← HFS.out]
        rcases Nat.eq_zero_or_pos gk with e | e
        · rw [e]; rfl
        · obtain ⟨k, rfl⟩ : ∃ k, gk = k + 1 := ⟨gk - 1, by omega⟩
          rw [fs_no k hdn]
          have : ¬ d + 1 ≤ H := by
            intro hn
            have h4 := (HLE.out (d + 1)).1 hn
            rw [Nat.mul_add, Nat.mul_one, HP.out] at h4
            omega
          have : k = 0 := by have := HGK.out; omega
          rw [this]; rfl
      subst hR2
      clear hc hles hhalf hdn
      have w1 := W1.out
      go_wp2
      go_ret
      exact ⟨rfl, q, rfl⟩
end Go.Proofs.Ytbdiknlbmjdpeaa
