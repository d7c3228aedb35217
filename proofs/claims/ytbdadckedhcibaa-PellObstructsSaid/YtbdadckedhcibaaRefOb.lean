/- The walk of gherkinref01.Obstruct: three loops. Condition: a D and an n. -/
import Derived.Test.YtbdadckedhcibaaObMath
import Derived.Test.YtbdadckedhcibaaSame
namespace Go.Proofs.Ytbdadckedhcibaa
open Go.RowKit Go.Shelf
attribute [local go_sem] Oper.semAt_some

theorem tmod_zero (Z : Int) (m : Int) : (Z.tmod m == 0) = decide (Z % m = 0) := by
  rw [Bool.eq_iff_iff]
  simp only [beq_iff_eq, decide_eq_true_eq]
  rw [← Int.dvd_iff_tmod_eq_zero, ← Int.dvd_iff_emod_eq_zero]

set_option maxHeartbeats 4000000 in
set_option maxRecDepth 100000 in
theorem refObstruct_yes (d n : Int) (hd : isD d = true) (hn : isN n = true) (w : World) :
    Calls Try.prog 36 #[.int .i64 d, .int .i64 n] w fun e w' => e = .returned (.tuple #[.int .i64 (obs d n).1, .int .i64 (obs d n).2]) ∧ Below w.heap.size w w' := by
  obtain ⟨d1, d2⟩ := isD_bd hd
  obtain ⟨n1, n2, -⟩ := isN_bd hn
  clear hd hn
  obtain ⟨X, hX⟩ : ∃ X, obs d n = X := ⟨_, rfl⟩
  rw [hX]
  have HX := Lib.hid hX
  clear hX
  go_enter Try.func36, Try.ntmps36
  go_wp2
  go_loopg [6, 7, 8, 9] 99 (fun gk i u7 u8 u9 wr => ∃ (m : Nat), 2 ≤ m ∧ m + gk = 101 ∧ i = .int .i64 (m : Int) ∧ obsF d n gk m = X ∧ w = wr)
  case atStart => exact ⟨2, Nat.le_refl _, rfl, rfl, HX.out, rfl⟩
  case round =>
    obtain ⟨m, hm2, hm, rfl, ho, rfl⟩ := hrel
    cases gk with
    | zero =>
      have hgt : ¬ (m : Int) ≤ 100 := by omega
      have hgt2 : ¬ m ≤ 100 := by omega
      have HO := Lib.hid ho
      clear ho hm
      go_wp2
      refine bodyPost_ret (v := .tuple #[.int .i64 0, .int .i64 4]) (by simp [results, Try.results36, go_sem]) rfl ⟨?_, Below.refl _ _⟩
      rw [← HO.out]; rfl
    | succ f =>
      have hle : (m : Int) ≤ 100 := by omega
      have hle2 : m ≤ 100 := by omega
      have HO := Lib.hid ho
      have HM := Lib.hid hm
      clear ho hm
      go_wp2
      go_loopg [7, 8, 9, 15] m (fun gk2 s u8 u9 x wr => ∃ (k : Nat), k + gk2 = m ∧ x = .int .i64 (k : Int) ∧ s = .bool (allAny d n m k) ∧ w = wr)
      case atStart => exact ⟨0, by omega, rfl, rfl, rfl⟩
      case round =>
        obtain ⟨x, hx, rfl, rfl, rfl⟩ := hrel
        by_cases hxm : x = m
        · have hge : ¬ (x : Int) < (m : Int) := by omega
          have hge2 : ¬ x < m := by omega
          have hs : allAny d n m x = slv d n m := by rw [hxm]; rfl
          rw [hs]
          clear hxm hx hs
          cases hs : slv d n m with
          | true =>
            have HO2 := Lib.hid (HO.out.symm.trans (obsF_t hs))
            clear hs
            go_wp2
            go_roundg f
            case rel => exact ⟨m + 1, by omega, by have := HM.out; omega, by go_num, HO2.out.symm, rfl⟩
            case measure => omega
          | false =>
            have HO2 := Lib.hid (HO.out.symm.trans (obsF_f hs))
            clear hs
            go_wp2
            refine bodyPost_ret (v := .tuple #[.int .i64 (m : Int), .int .i64 0]) (by simp [results, Try.results36, go_sem]) rfl ⟨?_, Below.refl _ _⟩
            rw [HO2.out]
        · have hlt : (x : Int) < (m : Int) := by omega
          have hlt2 : x < m := by omega
          have HX2 := Lib.hid hx
          clear hxm hx
          go_wp2
          go_loopg [7, 9, 19] m (fun gk3 s u9 y wr => ∃ (k : Nat), k + gk3 = m ∧ y = .int .i64 (k : Int) ∧ s = .bool (allAny d n m x || rowAny d n m x k) ∧ w = wr)
          case atStart => exact ⟨0, by omega, rfl, by simp [rowAny], rfl⟩
          case round =>
            obtain ⟨y, hy, rfl, rfl, rfl⟩ := hrel
            by_cases hym : y = m
            · have hge : ¬ (y : Int) < (m : Int) := by omega
              have hge2 : ¬ y < m := by omega
              have HE := Lib.hid (show (allAny d n m x || rowAny d n m x y) = allAny d n m (x + 1) by rw [hym, allAny_succ])
              clear hym hy
              go_wp2
              go_roundg (m - x - 1)
              case rel => exact ⟨x + 1, by have := HX2.out; omega, by go_num, by rw [HE.out], rfl⟩
              case measure => have := HX2.out; omega
            · have hlty : (y : Int) < (m : Int) := by omega
              have hlty2 : y < m := by omega
              have x0 : (0 : Int) ≤ (x : Int) := by omega
              have y0 : (0 : Int) ≤ (y : Int) := by omega
              have a1 : 0 ≤ d * (y : Int) := Int.mul_nonneg (by omega) y0
              have a2 : d * (y : Int) ≤ 100 * 100 := Int.mul_le_mul d2 (by omega) y0 (by omega)
              have a3 : 0 ≤ d * (y : Int) * (y : Int) := Int.mul_nonneg a1 y0
              have a4 : d * (y : Int) * (y : Int) ≤ (100 * 100) * 100 := Int.mul_le_mul a2 (by omega) y0 (by omega)
              have a5 : 0 ≤ (x : Int) * (x : Int) := Int.mul_nonneg x0 x0
              have a6 : (x : Int) * (x : Int) ≤ 100 * 100 := Int.mul_le_mul (by omega) (by omega) x0 (by omega)
              have hc : chk d n m x y = decide (((x : Int) * x - d * y * y - n) % m = 0) := rfl
              obtain ⟨A, hA⟩ : ∃ A, d * (y : Int) = A := ⟨_, rfl⟩
              rw [hA] at a1 a2 a3 a4 hc
              obtain ⟨C, hC⟩ : ∃ C, A * (y : Int) = C := ⟨_, rfl⟩
              rw [hC] at a3 a4 hc
              obtain ⟨U, hU⟩ : ∃ U, (x : Int) * (x : Int) = U := ⟨_, rfl⟩
              rw [hU] at a5 a6 hc
              obtain ⟨Z, hZ⟩ : ∃ Z, U - C - n = Z := ⟨_, rfl⟩
              rw [hZ] at hc
              have z1 : -1000000000 ≤ Z := by omega
              have z2 : Z ≤ 1000000000 := by omega
              have hmz : ¬ (m : Int) = 0 := by omega
              have hmb : ((m : Int) == 0) = false := by rw [beq_eq_false_iff_ne]; exact hmz
              rw [← tmod_zero] at hc
              have HY := Lib.hid hy
              have HSU := Lib.hid (rowAny_succ d n m x y)
              obtain ⟨b, hb⟩ : ∃ b, (allAny d n m x || rowAny d n m x y) = b := ⟨_, rfl⟩
              rw [hb]
              have HSV := Lib.hid (show (allAny d n m x || rowAny d n m x (y + 1)) = (b || chk d n m x y) by rw [HSU.out, ← hb, Bool.or_assoc])
              rw [hc] at HSV
              clear hb hym hy hc
              have ht1 : -(m : Int) < Z.tmod m := by
                have := Int.lt_tmod_of_pos Z (b := (m : Int)) (by omega)
                exact this
              have ht2 : Z.tmod m < (m : Int) := Int.tmod_lt_of_pos Z (by omega)
              obtain ⟨T, hT⟩ : ∃ T, Z.tmod m = T := ⟨_, rfl⟩
              rw [hT] at ht1 ht2 HSV
              cases b with
              | true =>
                go_wp2
                go_roundg (m - y - 1)
                case rel => exact ⟨y + 1, by have := HY.out; omega, by go_num, by rw [HSV.out]; rfl, rfl⟩
                case measure => have := HY.out; omega
              | false =>
                go_wp2
                go_roundg (m - y - 1)
                case rel => exact ⟨y + 1, by have := HY.out; omega, by go_num, by rw [HSV.out]; simp, rfl⟩
                case measure => have := HY.out; omega
end Go.Proofs.Ytbdadckedhcibaa
