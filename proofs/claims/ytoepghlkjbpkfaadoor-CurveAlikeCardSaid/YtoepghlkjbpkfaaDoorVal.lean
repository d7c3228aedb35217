/- The walks of isModulus, valid and the reference's Prime, far, On and Valid; conversions. Conditions as stated in each theorem. -/
import Derived.Test.YtoepghlkjbpkfaaDoorHld
namespace Go.Proofs.YtoepghlkjbpkfaaDoor
open Go.RowKit
attribute [local go_sem] Oper.semAt_some

theorem isM_and (p : Int) : isM p = (decide (5 ≤ p) && (decide (p ≤ 31) && isP p)) := by
  by_cases h5 : 5 ≤ p
  · by_cases h31 : p ≤ 31
    · obtain ⟨n, rfl⟩ := Int.eq_ofNat_of_zero_le (show 0 ≤ p by omega)
      rw [isP_isM n (by omega), decide_eq_true h5, decide_eq_true h31, decide_eq_true (show 5 ≤ n by omega)]
      rfl
    · rw [decide_eq_false h31, Bool.eq_false_iff.2 fun e => h31 (isM_le e).2]
      simp
  · rw [decide_eq_false h5, Bool.eq_false_iff.2 fun e => h5 (isM_le e).1]
    simp

set_option maxHeartbeats 1000000 in
theorem isModulus_any (p : Int) (w : World) : Calls Tryd.prog 75 #[.int .i64 p] w fun e w' => e = .returned (.bool (isM p)) ∧ w' = w := by
  rw [isM_and]
  by_cases h5 : 5 ≤ p
  · by_cases h31 : p ≤ 31
    · have HX := Lib.hid (fun W => isPrime_any p (by omega) W)
      rw [decide_eq_true h5, decide_eq_true h31]
      obtain ⟨b, hb⟩ : ∃ b, isP p = b := ⟨_, rfl⟩
      rw [hb] at HX ⊢
      clear hb
      go_enter Tryd.func75, Tryd.ntmps75
      go_wp2_with fail
      refine (HX.out _).mono ?_
      rintro e w1 ⟨rfl, rfl⟩
      go_wp2
      go_ret
      exact ⟨ret_bool rfl, rfl⟩
    · rw [decide_eq_false h31]
      go_enter Tryd.func75, Tryd.ntmps75
      go_wp2
      go_ret
      exact ⟨ret_bool (by simp), rfl⟩
  · rw [decide_eq_false h5]
    go_enter Tryd.func75, Tryd.ntmps75
    go_wp2
    go_ret
    exact ⟨ret_bool rfl, rfl⟩

set_option maxHeartbeats 1000000 in
theorem primeR_any (p : Int) (w : World) : Calls Tryd.prog 49 #[.int .i64 p] w fun e w' => e = .returned (.bool (isM p)) ∧ w' = w := by
  have HR := Lib.hid (isM_iff p)
  obtain ⟨R, hR⟩ : ∃ R, isM p = R := ⟨_, rfl⟩
  rw [hR] at HR ⊢
  clear hR
  by_cases h31 : p ≤ 31
  · go_enter Tryd.func49, Tryd.ntmps49
    go_wp2
    go_loopg [3] 40 (fun gk s3 wr => ∃ d : Int, s3 = .int .i64 d ∧ 2 ≤ d ∧ (d ≤ p ∨ d = 2) ∧ d + gk = 42 ∧ RowKit.Hid (∀ e : Int, 2 ≤ e → e < d → p % e ≠ 0) ∧ wr = w)
    case atStart => exact ⟨2, rfl, by omega, by omega, by omega, Lib.hid (fun e h1 h2 => by omega), rfl⟩
    case round =>
      obtain ⟨d, rfl, hd2, hdp, hdg, HP, rfl⟩ := hrel
      have HJ := Lib.hid (And.intro hdg hdp)
      by_cases hlt : d < p
      · have hne : ¬ d = 0 := by omega
        have hp0 : 0 ≤ p := by omega
        by_cases hz : p % d = 0
        · have hf : R = false := Bool.eq_false_iff.2 fun e => (HR.out.1 e).2.2 d hd2 hlt hz
          subst hf
          clear HR hdg hdp
          go_wp2
          go_ret
          exact ⟨rfl, rfl⟩
        · have hzb : (p % d == 0) = false := by simpa using hz
          have HP2 : RowKit.Hid (∀ e : Int, 2 ≤ e → e < d + 1 → p % e ≠ 0) := Lib.hid (fun e h1 h2 => by
            by_cases he : e = d
            · subst he; exact hz
            · exact HP.out e h1 (by omega))
          clear hz hdg hdp
          go_wp2
          go_roundg (gk - 1)
          case rel => exact ⟨d + 1, rfl, by omega, by omega, by have := HJ.out; omega, HP2, rfl⟩
          case measure => have := HJ.out; omega
      · have l1 : decide (d < p) = false := decide_eq_false hlt
        have hf : R = (decide (5 ≤ p)) := by
          rw [Bool.eq_iff_iff, HR.out]
          simp only [decide_eq_true_iff]
          exact ⟨fun h => h.1, fun h => ⟨h, h31, fun e h1 h2 => HP.out e h1 (by omega)⟩⟩
        clear HR hdg hdp
        by_cases h5 : 5 ≤ p
        · rw [decide_eq_true h5] at hf
          subst hf
          go_wp2
          go_ret
          exact ⟨rfl, rfl⟩
        · rw [decide_eq_false h5] at hf
          subst hf
          go_wp2
          go_ret
          exact ⟨rfl, rfl⟩
  · have hf : R = false := Bool.eq_false_iff.2 fun e => h31 (HR.out.1 e).2.1
    subst hf
    clear HR
    have h5 : 5 ≤ p := by omega
    go_enter Tryd.func49, Tryd.ntmps49
    go_wp2
    go_loopg [3] 1 (fun gk s3 wr => s3 = .int .i64 2 ∧ wr = w)
    case atStart => exact ⟨rfl, rfl⟩
    case round =>
      obtain ⟨rfl, rfl⟩ := hrel
      go_wp2
      go_ret
      exact ⟨rfl, rfl⟩

set_option maxHeartbeats 1000000 in
theorem farR_any (w : World) : Calls Tryd.prog 61 #[] w fun e w' => e = .returned (.agg #[.int .i64 0, .int .i64 0, .bool true]) ∧ Below w.heap.size w w' := by
  go_enter Tryd.func61, Tryd.ntmps61
  go_wp2
  exact bodyPost_ret (v := .agg #[.int .i64 0, .int .i64 0, .bool true]) (by simp [results, Tryd.results61, go_sem]) rfl ⟨rfl, below1 w _⟩

set_option maxHeartbeats 1000000 in
theorem Of_any (P A B : Int) (w : World) : Calls Tryd.prog 18 #[.agg #[.int .i64 P, .int .i64 A, .int .i64 B]] w fun e w' => e = .returned (.agg #[.int .i64 P, .int .i64 A, .int .i64 B]) ∧ Below w.heap.size w w' := by
  go_enter Tryd.func18, Tryd.ntmps18
  go_wp2
  exact bodyPost_ret (v := .agg #[.int .i64 P, .int .i64 A, .int .i64 B]) (by simp [results, Tryd.results18, go_sem]) rfl ⟨rfl, below2 w _ _⟩
set_option maxHeartbeats 1000000 in
theorem at_any (q : Pt) (w : World) : Calls Tryd.prog 20 #[.agg #[.int .i64 q.x, .int .i64 q.y, .bool q.f]] w fun e w' => e = .returned (.agg #[.int .i64 q.x, .int .i64 q.y, .bool q.f]) ∧ Below w.heap.size w w' := by
  go_enter Tryd.func20, Tryd.ntmps20
  go_wp2
  exact bodyPost_ret (v := .agg #[.int .i64 q.x, .int .i64 q.y, .bool q.f]) (by simp [results, Tryd.results20, go_sem]) rfl ⟨rfl, below2 w _ _⟩
set_option maxHeartbeats 1000000 in
theorem own_any (q : Pt) (w : World) : Calls Tryd.prog 32 #[.agg #[.int .i64 q.x, .int .i64 q.y, .bool q.f]] w fun e w' => e = .returned (.agg #[.int .i64 q.x, .int .i64 q.y, .bool q.f]) ∧ Below w.heap.size w w' := by
  go_enter Tryd.func32, Tryd.ntmps32
  go_wp2
  exact bodyPost_ret (v := .agg #[.int .i64 q.x, .int .i64 q.y, .bool q.f]) (by simp [results, Tryd.results32, go_sem]) rfl ⟨rfl, below2 w _ _⟩

/-- a valid curve -/
def disc (P A B : Int) : Bool := decide ((4 * A * A * A + 27 * B * B) % P = 0)
def vB (P A B : Int) : Bool := isM P && (isR A P && (isR B P && !disc P A B))
theorem vB_iff {P A B : Int} : vB P A B = true ↔ isM P = true ∧ (0 ≤ A ∧ A < P) ∧ (0 ≤ B ∧ B < P) ∧ disc P A B = false := by
  simp [vB, isR]
theorem vB_le {P A B : Int} (h : vB P A B = true) : (5 ≤ P ∧ P ≤ 31) ∧ (0 ≤ A ∧ A ≤ 31) ∧ (0 ≤ B ∧ B ≤ 31) := by
  obtain ⟨h1, h2, h3, -⟩ := vB_iff.1 h
  have := isM_le h1
  omega

set_option maxHeartbeats 4000000 in
theorem onR_any (P A B : Int) (q : Pt) (hP : 5 ≤ P ∧ P ≤ 31) (hA : 0 ≤ A ∧ A ≤ 31) (hB : 0 ≤ B ∧ B ≤ 31) (w : World) :
    Calls Tryd.prog 26 #[.agg #[.int .i64 P, .int .i64 A, .int .i64 B], .agg #[.int .i64 q.x, .int .i64 q.y, .bool q.f]] w fun e w' => e = .returned (.bool (onB P A B q)) ∧ Below w.heap.size w w' := by
  obtain ⟨x, y, f⟩ := q
  obtain ⟨P0, P1⟩ := hP
  obtain ⟨A0, A1⟩ := hA
  obtain ⟨B0, B1⟩ := hB
  simp only
  have HB := Lib.hid (below2 w (.cells #[.int .i64 P, .int .i64 A, .int .i64 B] 23) (.cells #[.int .i64 x, .int .i64 y, .bool f] 25))
  cases f
  · have e0 : onB P A B ⟨x, y, false⟩ = (isR x P && (isR y P && eqn P A B x y)) := rfl
    rw [e0]
    clear e0
    unfold isR
    by_cases x0 : 0 ≤ x
    · by_cases x1 : x < P
      · by_cases y0 : 0 ≤ y
        · by_cases y1 : y < P
          · rw [decide_eq_true x0, decide_eq_true x1, decide_eq_true y0, decide_eq_true y1]
            obtain ⟨a0, a1⟩ := mul_in (a := x) (b := x) 31 31 x0 (by omega) x0 (by omega)
            obtain ⟨b0, b1⟩ := mul_in (a := x * x) (b := x) 961 31 a0 a1 x0 (by omega)
            obtain ⟨c0, c1⟩ := mul_in (a := A) (b := x) 31 31 A0 A1 x0 (by omega)
            obtain ⟨d0, d1⟩ := mul_in (a := y) (b := y) 31 31 y0 (by omega) y0 (by omega)
            have hne : ¬ P = 0 := by omega
            have ht : ((y * y - x * x * x - A * x - B).tmod P == 0) = eqn P A B x y := by
              rw [tmod_zero, eqn, Bool.eq_iff_iff]
              simp only [decide_eq_true_iff]
              rw [← Int.dvd_iff_emod_eq_zero, ← Int.dvd_iff_emod_eq_zero, ← Int.dvd_neg, show -(y * y - x * x * x - A * x - B) = x * x * x + A * x + B - y * y by omega]
            obtain ⟨b, hb⟩ : ∃ b, eqn P A B x y = b := ⟨_, rfl⟩
            rw [hb] at ht ⊢
            clear hb
            go_enter Tryd.func26, Tryd.ntmps26
            go_wp2
            go_ret
            exact ⟨ret_bool (by simp [ht]), HB.out⟩
          · rw [decide_eq_true x0, decide_eq_true x1, decide_eq_true y0, decide_eq_false y1]
            go_enter Tryd.func26, Tryd.ntmps26
            go_wp2
            go_ret
            exact ⟨ret_bool (by simp), HB.out⟩
        · rw [decide_eq_true x0, decide_eq_true x1, decide_eq_false y0]
          go_enter Tryd.func26, Tryd.ntmps26
          go_wp2
          go_ret
          exact ⟨ret_bool (by simp), HB.out⟩
      · rw [decide_eq_true x0, decide_eq_false x1]
        go_enter Tryd.func26, Tryd.ntmps26
        go_wp2
        go_ret
        exact ⟨ret_bool (by simp), HB.out⟩
    · rw [decide_eq_false x0]
      go_enter Tryd.func26, Tryd.ntmps26
      go_wp2
      go_ret
      exact ⟨ret_bool (by simp), HB.out⟩
  · have e0 : onB P A B ⟨x, y, true⟩ = decide ((⟨x, y, true⟩ : Pt) = ⟨0, 0, true⟩) := rfl
    have heq := fun W => eql25 W ⟨x, y, true⟩ ⟨0, 0, true⟩
    rw [e0]
    clear e0
    obtain ⟨b, hb⟩ : ∃ b, decide ((⟨x, y, true⟩ : Pt) = ⟨0, 0, true⟩) = b := ⟨_, rfl⟩
    rw [hb] at heq ⊢
    simp only at heq
    clear hb
    have hs1 : (w.alloc (.cells #[.int .i64 P, .int .i64 A, .int .i64 B] 23)).heap.size = w.heap.size + 1 := by simp
    have hc := C3.new (w.alloc (.cells #[.int .i64 P, .int .i64 A, .int .i64 B] 23)) (.int .i64 x) (.int .i64 y) (.bool true) 25
    rw [hs1] at hc
    have HS0 := Lib.hid (show _ ∧ _ ∧ _ ∧ BelF w.heap.size w _ from ⟨hc.1, hc.2.1, hc.2.2, BelF.of HB.out⟩)
    have HN := Lib.hid (fun (W1 W2 : World) (hb : Below W1.heap.size W1 W2) (h : W1.cell? ⟨w.heap.size + 1, 0, none⟩ = some (.int .i64 x) ∧ W1.cell? ⟨w.heap.size + 1, 1, none⟩ = some (.int .i64 y) ∧ W1.cell? ⟨w.heap.size + 1, 2, none⟩ = some (.bool true) ∧ BelF w.heap.size w W1) =>
      (show W2.cell? ⟨w.heap.size + 1, 0, none⟩ = some (.int .i64 x) ∧ W2.cell? ⟨w.heap.size + 1, 1, none⟩ = some (.int .i64 y) ∧ W2.cell? ⟨w.heap.size + 1, 2, none⟩ = some (.bool true) ∧ BelF w.heap.size w W2 from ⟨cell_later h.1 hb, cell_later h.2.1 hb, cell_later h.2.2.1 hb, h.2.2.2.next hb⟩))
    clear hs1 hc
    go_enter Tryd.func26, Tryd.ntmps26
    go_wp2
    go_region_held3 (fun W => W.cell? ⟨w.heap.size + 1, 0, none⟩ = some (.int .i64 x) ∧ W.cell? ⟨w.heap.size + 1, 1, none⟩ = some (.int .i64 y) ∧ W.cell? ⟨w.heap.size + 1, 2, none⟩ = some (.bool true) ∧ BelF w.heap.size w W)
      (first | exact HS0.out | exact HN.out _ _ hb (by assumption) | exact HN.out _ _ (drew_below _) (by assumption))
      ((go_at_call 61; refine (farR_any _).mono ?_; rintro e wx ⟨rfl, hb⟩))
    all_goals
      go_wp2
      go_ret
      exact ⟨ret_bool rfl, BelF.to (And.right (And.right (And.right (by assumption))))⟩
end Go.Proofs.YtoepghlkjbpkfaaDoor
