/- The walks of the reference's Three and Split. Conditions: the numbers are in range. -/
import Derived.Test.YtbdiknlbmjdpeaaThree
namespace Go.Proofs.Ytbdiknlbmjdpeaa
open Go.RowKit
attribute [local go_sem] Oper.semAt_some


/-- The last of three terms is none less than the second, by itself. -/
theorem thr_last {a b y : Nat} (hy : 0 < y) (h1 : b < a * y) (h2 : a * y ≤ 2 * b) (hb : b * y ≤ 3000000000000000000) : fnR 0 maxI 0 a b y = if (b * y) % (a * y - b) = 0 then some [y, (b * y) / (a * y - b)] else none := by
  unfold fnR fnd
  have h3 : 0 < a * y - b := by omega
  have h4 : y ≤ (b * y) / (a * y - b) := by
    rw [Nat.le_div_iff_mul_le h3, Nat.mul_comm b]
    exact Nat.mul_le_mul_left y (by omega)
  have h5 : (b * y) / (a * y - b) ≤ maxI := le_maxI (Nat.le_trans (Nat.div_le_self _ _) hb)
  by_cases h : (b * y) % (a * y - b) = 0
  · rw [if_pos ⟨h, h4, h5⟩, if_pos h]; rfl
  · rw [if_neg (fun g => h g.1), if_neg h]; rfl

set_option maxHeartbeats 16000000 in
set_option maxRecDepth 100000 in
theorem ThreeRef_any (n : Nat) (h1 : 2 ≤ n) (h2 : n ≤ 300) (w : World) :
    Calls Try.prog 33 #[.int .i64 (n : Int)] w fun e w' => TRes (thrF n) e ∧ Below w.heap.size w w' := by
  obtain ⟨R, hR⟩ : ∃ R, thrF n = R := ⟨_, rfl⟩
  rw [hR]
  have hR2 : fs (fnR 0 maxI 1 4 n) (n / 4 + 1) (3 * n / 4 + 1 - (n / 4 + 1)) = R := by
    rw [← hR]
    unfold thrF
    conv => rhs; unfold fnd
    rw [show max 1 (n / 4 + 1) = n / 4 + 1 by omega, show min maxI ((1 + 2) * n / 4) = 3 * n / 4 from Nat.min_eq_right (le_maxI (by omega))]
    rfl
  have HR := Lib.hid hR2
  have hb0 : Below w.heap.size w (w.alloc (.cells #[.int .i64 0, .int .i64 0, .int .i64 0] 38)) := (Below.refl _ _).alloc (Nat.le_refl _) _
  obtain ⟨p0, p1, p2⟩ := cell_tri w (.int .i64 0) (.int .i64 0) (.int .i64 0) 38
  have z0 := frozen_new w #[.int .i64 0, .int .i64 0, .int .i64 0] 0 (t := 38)
  have z1 := frozen_new w #[.int .i64 0, .int .i64 0, .int .i64 0] 1 (t := 38)
  have z2 := frozen_new w #[.int .i64 0, .int .i64 0, .int .i64 0] 2 (t := 38)
  obtain ⟨W1, hW1⟩ : ∃ W1, w.alloc (.cells #[.int .i64 0, .int .i64 0, .int .i64 0] 38) = W1 := ⟨_, rfl⟩
  rw [hW1] at hb0 p0 p1 p2 z0 z1 z2
  have HB0 := Lib.hid hb0
  have HW1 := Lib.hid hW1
  have c1 : ((n : Int) / 4) = ((n / 4 : Nat) : Int) := by omega
  obtain ⟨Q, hQ⟩ : ∃ Q, n / 4 = Q := ⟨_, rfl⟩
  rw [hQ] at HR c1
  have q3 : (Q : Int) ≤ 75 := by omega
  have hx0 : ∀ x, Q + 1 ≤ x → n < 4 * x := fun x h => by omega
  have HX0 := Lib.hid hx0
  clear hR hR2 hb0 hQ hx0
  go_enter Try.func33, Try.ntmps33
  go_wp2
  clear hW1
  go_loopg [4] (3 * n / 4 + 1 - (Q + 1)) (fun gk s4 wr => ∃ x : Nat, s4 = .int .i64 (x : Int) ∧ gk = 3 * n / 4 + 1 - x ∧ Q + 1 ≤ x ∧ x ≤ 302 ∧ fs (fnR 0 maxI 1 4 n) x gk = R ∧ wr = W1)
  case atStart => exact ⟨Q + 1, by go_num, rfl, Nat.le_refl _, by omega, HR.out, rfl⟩
  case round =>
    obtain ⟨x, rfl, hgk, hQx, hx3, hfs, hww⟩ := hrel
    have hww2 := hww.symm
    subst hww2
    clear hww
    have HFS := Lib.hid hfs
    have HGK := Lib.hid hgk
    have HQX := Lib.hid hQx
    have hnx := HX0.out x hQx
    clear hfs
    by_cases hx4 : 4 * x ≤ 3 * n
    · have l1 : 4 * (x : Int) ≤ 3 * (n : Int) := by omega
      obtain ⟨k, rfl⟩ : ∃ k, gk = k + 1 := ⟨gk - 1, by omega⟩
      have hx225 : x ≤ 225 := by omega
      have hfn : fnR 0 maxI 1 4 n x = (fnd 0 maxI 1 (4 * x - n) (n * x) (x + 0)).map (x :: ·) := rfl
      have hA0 : 0 < 4 * x - n := by omega
      have hB0 : 0 < n * x := Nat.mul_pos (by omega) (by omega)
      have hB3 : n * x ≤ 67500 := Nat.le_trans (Nat.mul_le_mul h2 hx225) (by decide)
      have e1 : 4 * (x : Int) - (n : Int) = ((4 * x - n : Nat) : Int) := by omega
      obtain ⟨A, hA⟩ : ∃ A, 4 * x - n = A := ⟨_, rfl⟩
      obtain ⟨B, hB⟩ : ∃ B, n * x = B := ⟨_, rfl⟩
      rw [hA] at hfn hA0 e1
      rw [hB] at hfn hB0 hB3
      have hBI : (n : Int) * (x : Int) = (B : Int) := by rw [← hB, Int.natCast_mul]
      have B3 : (n : Int) * (x : Int) ≤ 67500 := by rw [hBI]; exact Int.ofNat_le.2 hB3
      have B0 : (0 : Int) ≤ (n : Int) * (x : Int) := by rw [hBI]; exact Int.natCast_nonneg _
      have HBI := Lib.hid hBI
      clear hBI
      have hA3 : A ≤ 900 := by omega
      have hlt := fun d => lt_div (num := A) (den := B) (d := d) hA0
      have hles := fun d => le_divs (num := A) (x := 2 * B) (d := d) hA0
      have c2 : ((n : Int) * (x : Int)) / (A : Int) = ((B / A : Nat) : Int) := by rw [HBI.out, Int.natCast_ediv]
      have dl := Nat.div_le_self B A
      have dl2 := Nat.div_le_self (2 * B) A
      obtain ⟨R1, hR1⟩ : ∃ R1, fnd 0 maxI 1 A B (x + 0) = R1 := ⟨_, rfl⟩
      rw [hR1] at hfn
      have hR1' : fs (fnR 0 maxI 0 A B) (max x (B / A + 1)) (2 * B / A + 1 - max x (B / A + 1)) = R1 := by
        rw [← hR1]
        conv => rhs; unfold fnd
        rw [show min maxI ((0 + 2) * B / A) = 2 * B / A from by rw [Nat.zero_add]; exact Nat.min_eq_right (le_maxI (Nat.le_trans dl2 (Nat.le_trans (Nat.mul_le_mul_left 2 hB3) (by decide))))]
        rfl
      obtain ⟨D, hD⟩ : ∃ D, B / A = D := ⟨_, rfl⟩
      rw [hD] at hR1' c2 dl
      simp only [hD] at hlt
      obtain ⟨H, hH⟩ : ∃ H, 2 * B / A = H := ⟨_, rfl⟩
      rw [hH] at hR1' dl2
      simp only [hH] at hles
      obtain ⟨lo, hlo⟩ : ∃ lo, max x (D + 1) = lo := ⟨_, rfl⟩
      rw [hlo] at hR1'
      have c4 : max (x : Int) ((D : Int) + 1) = (lo : Int) := by omega
      have a3 : (A : Int) ≤ 900 := Int.ofNat_le.2 hA3
      have a0 : (0 : Int) < (A : Int) := by omega
      have a1 : ¬ (A : Int) = 0 := by omega
      have b3 : (B : Int) ≤ 67500 := Int.ofNat_le.2 hB3
      have d3 : (D : Int) ≤ 67500 := Int.ofNat_le.2 (Nat.le_trans dl hB3)
      have hH3 : H ≤ 135000 := Nat.le_trans dl2 (Nat.mul_le_mul_left 2 hB3)
      have hlod : ∀ d, lo ≤ d → D < d ∧ 0 < d := fun d h => by omega
      have hlo3 : lo ≤ 135001 := by omega
      have HR1 := Lib.hid hR1'
      have HFN := Lib.hid hfn
      have HLT := Lib.hid hlt
      have HLE := Lib.hid hles
      have HD := Lib.hid hlod
      clear hfn hR1 hR1' hlt hles hlod hD hH hlo dl dl2 hA hB hgk
      go_wp2
      rw [HBI.out]
      clear c2 c4 e1 B3 B0
      have HKK := Lib.hid (show k = k from rfl)
      go_loopg [7] (H + 1 - lo) (fun gk2 s7 wr2 => ∃ y : Nat, s7 = .int .i64 (y : Int) ∧ gk2 = H + 1 - y ∧ lo ≤ y ∧ y ≤ 135001 ∧ fs (fnR 0 maxI 0 A B) y gk2 = R1 ∧ wr2 = W1)
      case atStart => exact ⟨lo, rfl, rfl, Nat.le_refl _, hlo3, HR1.out, rfl⟩
      case round =>
        obtain ⟨y, rfl, hgk2, hly, hy3, hfs2, hww⟩ := hrel
        have hww2 := hww.symm
        subst hww2
        clear hww
        have HFS2 := Lib.hid hfs2
        have HGK2 := Lib.hid hgk2
        obtain ⟨hDy, hy0⟩ := HD.out y hly
        have hy1 := (HLT.out y).1 hDy
        have hles := HLE.out y
        have hBy : B * y ≤ 9200000000 := Nat.le_trans (Nat.mul_le_mul hB3 hy3) (by decide)
        have hAy : A * y ≤ 130000000 := Nat.le_trans (Nat.mul_le_mul hA3 hy3) (by decide)
        have hlast := fun h => thr_last (a := A) (b := B) (y := y) hy0 hy1 h (Nat.le_trans hBy (by decide))
        clear hfs2 hDy
        obtain ⟨P, hP⟩ : ∃ P, A * y = P := ⟨_, rfl⟩
        rw [hP] at hy1 hles hAy hlast
        obtain ⟨E, hE⟩ : ∃ E, B * y = E := ⟨_, rfl⟩
        rw [hE] at hBy hlast
        have hPI : (A : Int) * (y : Int) = (P : Int) := by rw [← hP, Int.natCast_mul]
        have hEI : (B : Int) * (y : Int) = (E : Int) := by rw [← hE, Int.natCast_mul]
        have y3 : (y : Int) ≤ 135001 := Int.ofNat_le.2 hy3
        have P3 : (A : Int) * (y : Int) ≤ 130000000 := by rw [hPI]; exact Int.ofNat_le.2 hAy
        have P0 : (0 : Int) ≤ (A : Int) * (y : Int) := by rw [hPI]; exact Int.natCast_nonneg _
        have E3 : (B : Int) * (y : Int) ≤ 9200000000 := by rw [hEI]; exact Int.ofNat_le.2 hBy
        have E0 : (0 : Int) ≤ (B : Int) * (y : Int) := by rw [hEI]; exact Int.natCast_nonneg _
        have HPI := Lib.hid hPI
        have HEI := Lib.hid hEI
        clear hPI hEI
        by_cases hy4 : P ≤ 2 * B
        · have m1 : (A : Int) * (y : Int) ≤ 2 * (B : Int) := by rw [HPI.out]; omega
          have hyH := hles.2 hy4
          obtain ⟨k2, rfl⟩ : ∃ k2, gk = k2 + 1 := ⟨gk - 1, by omega⟩
          have hlast := hlast hy4
          obtain ⟨C, hC⟩ : ∃ C, P - B = C := ⟨_, rfl⟩
          rw [hC] at hlast
          have hC0 : 0 < C := by omega
          have e2 : (A : Int) * (y : Int) - (B : Int) = (C : Int) := by rw [HPI.out]; omega
          have e3 : ((B : Int) * (y : Int)) % (C : Int) = ((E % C : Nat) : Int) := by rw [HEI.out, Int.natCast_emod]
          have e4 : ((B : Int) * (y : Int)) / (C : Int) = ((E / C : Nat) : Int) := by rw [HEI.out, Int.natCast_ediv]
          have ml := Nat.mod_lt E hC0
          have zl := Nat.div_le_self E C
          obtain ⟨M, hM⟩ : ∃ M, E % C = M := ⟨_, rfl⟩
          obtain ⟨Z, hZ⟩ : ∃ Z, E / C = Z := ⟨_, rfl⟩
          rw [hM] at hlast e3 ml
          rw [hZ] at hlast e4 zl
          have C3 : (C : Int) ≤ 130000000 := by omega
          have C0 : (0 : Int) < (C : Int) := by omega
          have C1 : ¬ (C : Int) = 0 := by omega
          have M3 : (M : Int) ≤ 130000000 := by omega
          have Z3 : (Z : Int) ≤ 9200000000 := Int.ofNat_le.2 (Nat.le_trans zl hBy)
          have HLAST := Lib.hid hlast
          clear hlast hM hZ hC ml zl hy4 hles hgk2 hy1 hP hE
          by_cases hM0 : M = 0
          · have g1 : ((M : Int) == 0) = true := by rw [beq_iff_eq]; omega
            have hfs2 := HFS2.out
            rw [fs_yes k2 (by rw [HLAST.out, if_pos hM0])] at hfs2
            have hfs := HFS.out
            rw [fs_yes k (by rw [HFN.out, ← hfs2]; rfl)] at hfs
            have HFX := Lib.hid hfs
            clear hM0 hfs2 hfs
            go_wp2
            refine bodyPost_ret (v := .tuple #[.agg #[.int .i64 (x : Int), .int .i64 (y : Int), .int .i64 (Z : Int)], .int .i64 0]) (by simp [results, Try.results33, go_sem, p0, p1, p2]) rfl ⟨?_, ?_⟩
            · rw [← HFX.out]; exact rfl
            · exact ((HB0.out.setCell (by simp) _).setCell (by simp) _).setCell (by simp) _
          · have g1 : ((M : Int) == 0) = false := by rw [beq_eq_false_iff_ne]; omega
            have hfs2 := HFS2.out
            rw [fs_no k2 (by rw [HLAST.out, if_neg hM0])] at hfs2
            have HFX := Lib.hid hfs2
            clear hM0 hfs2
            go_wp2
            go_roundg k2
            case rel => exact ⟨y + 1, by go_num, by have := HGK2.out; omega, by omega, by omega, HFX.out, rfl⟩
            case measure => omega
        · have m1 : ¬ (A : Int) * (y : Int) ≤ 2 * (B : Int) := by rw [HPI.out]; omega
          have hgk0 : gk = 0 := by
            have : ¬ y ≤ H := fun h => hy4 (hles.1 h)
            omega
          subst hgk0
          have hfs2 : none = R1 := HFS2.out
          have hfs := HFS.out
          rw [fs_no k (by rw [HFN.out, ← hfs2]; rfl)] at hfs
          have HFX := Lib.hid hfs
          clear hfs2 hfs hy4 hles hgk2 hy1 hP hE
          go_wp2
          go_roundg k
          case rel => exact ⟨x + 1, by go_num, by have := HGK.out; omega, by have := HQX.out; omega, by omega, HFX.out, rfl⟩
          case measure => omega
    · have l1 : ¬ 4 * (x : Int) ≤ 3 * (n : Int) := by omega
      obtain rfl : gk = 0 := by omega
      have hfs : none = R := HFS.out
      have HFX := Lib.hid hfs
      clear hfs hx4 hgk
      go_wp2
      refine bodyPost_ret (v := .tuple #[.agg #[.int .i64 0, .int .i64 0, .int .i64 0], .int .i64 4]) (by simp [results, Try.results33, go_sem, p0, p1, p2]) rfl ⟨?_, ?_⟩
      · rw [← HFX.out]; exact rfl
      · exact ((HB0.out.setCell (by simp) _).setCell (by simp) _).setCell (by simp) _

theorem spl_at {d k : Nat} (hk : 0 < k) (hkd : k < d) (hd : d ≤ 100000) : fnR 1 maxI 0 1 d (d + k) = if d * d % k = 0 then some [d + k, d + d * d / k] else none := by
  unfold fnR fnd
  have e1 : 1 * (d + k) - d = k := by omega
  have e2 : d * (d + k) = d * d + k * d := by rw [Nat.mul_add, Nat.mul_comm d k]
  have e3 : d * (d + k) % k = d * d % k := by rw [e2, Nat.add_mul_mod_self_left]
  have e4 : d * (d + k) / k = d + d * d / k := by rw [e2, Nat.add_mul_div_left _ _ hk, Nat.add_comm]
  rw [e1, e3, e4]
  have hdd : d * d ≤ 10000000000 := Nat.le_trans (Nat.mul_le_mul hd hd) (by decide)
  have hz := Nat.div_le_self (d * d) k
  by_cases h : d * d % k = 0
  · have h2 : k + 1 ≤ d * d / k := by
      rw [Nat.le_div_iff_mul_le hk]
      have h3 : (k + 1) * k ≤ d * d := Nat.mul_le_mul (by omega) (by omega)
      exact h3
    have h4 : d + d * d / k ≤ maxI := le_maxI (Nat.le_trans (Nat.add_le_add hd (Nat.le_trans hz hdd)) (by decide))
    rw [if_pos ⟨h, by omega, h4⟩, if_pos h]
    rfl
  · rw [if_neg (fun g => h g.1), if_neg h]
    rfl
theorem spl_eq {d : Nat} (hd0 : 0 < d) : splF d = fdn (fnR 1 maxI 0 1 d) d (d - 1) := by
  have e : splF d = fdn (fnR 1 maxI 0 1 d) (d / 1) (2 * d / 1 - d / 1) := rfl
  rw [e, Nat.div_one, Nat.div_one, show 2 * d - d = (d - 1) + 1 by omega]
  refine fdn_no ?_
  have e2 : d + (d - 1) + 1 = 2 * d := by omega
  rw [e2]
  exact half_none (by omega) hd0 (by omega) (by omega)

set_option maxHeartbeats 8000000 in
set_option maxRecDepth 100000 in
theorem SplitRef_any (n : Nat) (h1 : 2 ≤ n) (h2 : n ≤ 100000) (w : World) :
    Calls Try.prog 34 #[.int .i64 (n : Int)] w fun e w' => PRes (splF n) e ∧ Below w.heap.size w w' := by
  obtain ⟨R, hR⟩ : ∃ R, splF n = R := ⟨_, rfl⟩
  rw [hR]
  rw [spl_eq (by omega)] at hR
  have HR := Lib.hid hR
  have hb0 : Below w.heap.size w (w.alloc (.cells #[.int .i64 0, .int .i64 0] 41)) := (Below.refl _ _).alloc (Nat.le_refl _) _
  obtain ⟨p0, p1⟩ := cell_pair w (.int .i64 0) (.int .i64 0) 41
  have z0 := frozen_new w #[.int .i64 0, .int .i64 0] 0 (t := 41)
  have z1 := frozen_new w #[.int .i64 0, .int .i64 0] 1 (t := 41)
  obtain ⟨W1, hW1⟩ : ∃ W1, w.alloc (.cells #[.int .i64 0, .int .i64 0] 41) = W1 := ⟨_, rfl⟩
  rw [hW1] at hb0 p0 p1 z0 z1
  have HB0 := Lib.hid hb0
  have n3 : (n : Int) ≤ 100000 := Int.ofNat_le.2 h2
  have n2 : (2 : Int) ≤ (n : Int) := by omega
  have hnn : n * n ≤ 10000000000 := Nat.le_trans (Nat.mul_le_mul h2 h2) (by decide)
  obtain ⟨P, hP⟩ : ∃ P, n * n = P := ⟨_, rfl⟩
  rw [hP] at hnn
  have hPI : (n : Int) * (n : Int) = (P : Int) := by rw [← hP, Int.natCast_mul]
  have HPI := Lib.hid hPI
  have HP := Lib.hid hP
  have P3 : (n : Int) * (n : Int) ≤ 10000000000 := by rw [hPI]; exact Int.ofNat_le.2 hnn
  have P0 : (0 : Int) ≤ (n : Int) * (n : Int) := by rw [hPI]; exact Int.natCast_nonneg _
  clear hR hb0 hP hPI
  go_enter Try.func34, Try.ntmps34
  go_wp2
  clear hW1
  go_loopg [4] (n - 1) (fun gk s4 wr => s4 = .int .i64 (gk : Int) ∧ gk ≤ n - 1 ∧ fdn (fnR 1 maxI 0 1 n) n gk = R ∧ wr = W1)
  case atStart => exact ⟨by congr 1; omega, Nat.le_refl _, HR.out, rfl⟩
  case round =>
    obtain ⟨rfl, hgk, hfs, hww⟩ := hrel
    have hww2 := hww.symm
    subst hww2
    clear hww
    have HFS := Lib.hid hfs
    have HGK := Lib.hid hgk
    clear hfs
    cases gk with
    | zero =>
      have l1 : ¬ (1 : Int) ≤ ((0 : Nat) : Int) := by omega
      have hfs : none = R := HFS.out
      have HFX := Lib.hid hfs
      clear hfs hgk
      go_wp2
      refine bodyPost_ret (v := .tuple #[.agg #[.int .i64 0, .int .i64 0], .int .i64 4]) (by simp [results, Try.results34, go_sem, p0, p1]) rfl ⟨?_, ?_⟩
      · rw [← HFX.out]; exact rfl
      · exact (HB0.out.setCell (by simp) _).setCell (by simp) _
    | succ j =>
      have hat := spl_at (d := n) (k := j + 1) (by omega) (by omega) h2
      have eN : n + (j + 1) = n + j + 1 := by omega
      rw [eN] at hat
      have HAT0 := Lib.hid hat
      obtain ⟨k, hk⟩ : ∃ k, j + 1 = k := ⟨_, rfl⟩
      rw [hk, HP.out] at hat
      have l1 : (1 : Int) ≤ (k : Int) := by omega
      have k3 : (k : Int) ≤ 100000 := by omega
      have k1 : ¬ (k : Int) = 0 := by omega
      have hk0 : 0 < k := by omega
      have e3 : ((n : Int) * (n : Int)) % (k : Int) = ((P % k : Nat) : Int) := by rw [HPI.out, Int.natCast_emod]
      have e4 : ((n : Int) * (n : Int)) / (k : Int) = ((P / k : Nat) : Int) := by rw [HPI.out, Int.natCast_ediv]
      have ml := Nat.mod_lt P hk0
      have zl := Nat.div_le_self P k
      obtain ⟨M, hM⟩ : ∃ M, P % k = M := ⟨_, rfl⟩
      obtain ⟨Z, hZ⟩ : ∃ Z, P / k = Z := ⟨_, rfl⟩
      rw [hM] at hat e3 ml
      rw [hZ] at hat e4 zl
      have M3 : (M : Int) ≤ 100000 := by omega
      have Z3 : (Z : Int) ≤ 10000000000 := Int.ofNat_le.2 (Nat.le_trans zl hnn)
      have HAT := Lib.hid hat
      have hnk : n + j + 1 = n + k := by omega
      have ec : (((j + 1 : Nat)) : Int) = (k : Int) := by rw [hk]
      rw [ec]
      have HK := Lib.hid hk
      have HNK := Lib.hid hnk
      clear hat hM hZ ml zl hgk hk ec hnk eN
      by_cases hM0 : M = 0
      · have g1 : ((M : Int) == 0) = true := by rw [beq_iff_eq]; omega
        have hfs := HFS.out
        rw [fdn_yes (x := [n + k, n + Z]) (by rw [HAT.out, if_pos hM0, HNK.out])] at hfs
        have HFX := Lib.hid hfs
        clear hM0 hfs
        go_wp2
        refine bodyPost_ret (v := .tuple #[.agg #[.int .i64 ((n + k : Nat) : Int), .int .i64 ((n + Z : Nat) : Int)], .int .i64 0]) (by simp [results, Try.results34, go_sem, p0, p1]) rfl ⟨?_, ?_⟩
        · rw [← HFX.out]; exact rfl
        · exact (HB0.out.setCell (by simp) _).setCell (by simp) _
      · have g1 : ((M : Int) == 0) = false := by rw [beq_eq_false_iff_ne]; omega
        have hfs := HFS.out
        rw [fdn_no (by rw [HAT.out, if_neg hM0])] at hfs
        have HFX := Lib.hid hfs
        clear hM0 hfs
        go_wp2
        go_roundg j
        case rel => exact ⟨by have := HK.out; congr 1; omega, by have := HGK.out; omega, HFX.out, rfl⟩
        case measure => omega
end Go.Proofs.Ytbdiknlbmjdpeaa
