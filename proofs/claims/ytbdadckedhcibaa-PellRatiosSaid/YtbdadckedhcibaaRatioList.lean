/- The convergents that PellRatios lists, plainly, and what pell.Best hands back for any bound. No condition beyond those that each theorem names. -/
import Derived.Test.YtbdadckedhcibaaRatioMath
import Derived.Test.YtbdadckedhcibaaScanA
import Derived.Test.YtbdadckedhcibaaScanB
import Derived.Test.YtbdadckedhcibaaScanC
import Derived.Test.YtbdadckedhcibaaContains
namespace Go.Proofs.Ytbdadckedhcibaa
open Go.RowKit Go.Shelf

theorem scan_all {d : Int} (hd : isD d = true) : pScanD d.toNat = true := by
  have hb := isD_bd hd
  have part : ∀ lo n : Nat, scanCheck lo n = true → (lo : Int) ≤ d → d < (lo : Int) + n → pScanD d.toNat = true := by
    intro lo n h h1 h2
    have h := allBelow_at h (k := d.toNat - lo) (by omega)
    rw [show d.toNat - lo + lo = d.toNat by omega, Int.toNat_of_nonneg (by omega), hd] at h
    simpa using h
  by_cases c1 : d < 35
  · exact part 0 35 scanCheckA (by omega) (by omega)
  by_cases c2 : d < 68
  · exact part 35 33 scanCheckB (by omega) (by omega)
  exact part 68 33 scanCheckC (by omega) (by omega)

/-- The convergents that the law lists. -/
def rL (d : Int) : List (Int × Int) := (List.range (rN d)).map fun j => (cvP d (j + 1), cvQ d (j + 1))
theorem rL_len (d : Int) : (rL d).length = rN d := by simp [rL]
theorem rL_at (d : Int) {j : Nat} (h : j < rN d) : nth (rL d) j = (cvP d (j + 1), cvQ d (j + 1)) := by simp [nth, rL, List.getD, h]
theorem rL_mem {d x y : Int} (h : isConv d x y = true) : ∃ j, j < (rL d).length ∧ nth (rL d) j = (x, y) := by
  unfold isConv at h
  simp only [List.any_eq_true, List.mem_range, Bool.and_eq_true, beq_iff_eq] at h
  obtain ⟨j, hj, h1, h2⟩ := h
  exact ⟨j, by rw [rL_len]; exact hj, by rw [rL_at d hj, h1, h2]⟩
theorem rN_bd {d : Int} (hd : isD d = true) : 1 ≤ rN d ∧ rN d ≤ 21 := by
  obtain ⟨h1, -, h2, -⟩ := b_all hd (m := 1) (by omega) (by omega)
  unfold rN
  omega
theorem best_mem {d m : Int} (hd : isD d = true) (h1 : 1 ≤ m) (h2 : m ≤ 1000) : ∃ j, j < (rL d).length ∧ nth (rL d) j = (cvP d (bK d m), cvQ d (bK d m)) := by
  obtain ⟨g1, g2, g3, -⟩ := b_all hd h1 h2
  have hj : bK d m - 1 < rN d := by unfold rN; omega
  refine ⟨bK d m - 1, by rw [rL_len]; exact hj, ?_⟩
  rw [rL_at d hj, show bK d m - 1 + 1 = bK d m by omega]

set_option maxHeartbeats 1000000 in
theorem Best_no (d m : Int) (h : isD d = false ∨ m < 1 ∨ 1000 < m) (w : World) :
    Calls Try.prog 35 #[.int .i64 d, .int .i64 m] w fun e w' => e = .returned (.tuple #[.int .i64 0, .int .i64 0, .int .i64 2]) ∧ Below w.heap.size w w' := by
  have hB := (((Below.refl w.heap.size w).alloc (Nat.le_refl _) (.cells #[.int .i64 m] 3)).alloc (by simp) (.cells #[.int .i64 0] 3)).alloc (by simp; omega) (.cells #[.int .i64 0] 3)
  have HB := Lib.hid hB
  clear hB
  by_cases hd : isD d = true
  · have h' : m < 1 ∨ 1000 < m := by simpa [hd] using h
    have HD := Lib.hid hd
    clear hd h
    rcases h' with h' | h'
    · have h1 : decide (m < 1) = true := by simpa using h'
      go_enter Try.func35, Try.ntmps35
      go_wp2_with (first | (go_at_call 41; refine (validD_any _ _).mono ?_; rintro e w' ⟨rfl, rfl⟩; rw [HD.out]))
      refine bodyPost_ret (v := .tuple #[.int .i64 0, .int .i64 0, .int .i64 2]) (by simp [results, Try.results35, go_sem]) rfl ⟨rfl, HB.out⟩
    · have h1 : decide (1000 < m) = true := by simpa using h'
      have h2 : decide (m < 1) = false := by simp; omega
      go_enter Try.func35, Try.ntmps35
      go_wp2_with (first | (go_at_call 41; refine (validD_any _ _).mono ?_; rintro e w' ⟨rfl, rfl⟩; rw [HD.out]))
      refine bodyPost_ret (v := .tuple #[.int .i64 0, .int .i64 0, .int .i64 2]) (by simp [results, Try.results35, go_sem]) rfl ⟨rfl, HB.out⟩
  · have hd' : isD d = false := by simpa using hd
    have HD := Lib.hid hd'
    clear hd hd' h
    go_enter Try.func35, Try.ntmps35
    go_wp2_with (first | (go_at_call 41; refine (validD_any _ _).mono ?_; rintro e w' ⟨rfl, rfl⟩; rw [HD.out]))
    refine bodyPost_ret (v := .tuple #[.int .i64 0, .int .i64 0, .int .i64 2]) (by simp [results, Try.results35, go_sem]) rfl ⟨rfl, HB.out⟩

/-- Best, for any bound. -/
theorem Best_any (d m : Int) (hd : isD d = true) (w : World) :
    Calls Try.prog 35 #[.int .i64 d, .int .i64 m] w fun e w' => ∃ p q f : Int, e = .returned (.tuple #[.int .i64 p, .int .i64 q, .int .i64 f]) ∧ Below w.heap.size w w' ∧ ((f = 0 ∧ ∃ j, j < (rL d).length ∧ nth (rL d) j = (p, q)) ∨ f = 2) := by
  by_cases h : m < 1 ∨ 1000 < m
  · refine (Best_no d m (.inr h) w).mono ?_
    rintro e w' ⟨rfl, hb⟩
    exact ⟨_, _, _, rfl, hb, .inr rfl⟩
  · refine (Best_yes d m hd (by omega) (by omega) w).mono ?_
    rintro e w' ⟨rfl, hb⟩
    exact ⟨_, _, _, rfl, hb, .inl ⟨rfl, best_mem hd (by omega) (by omega)⟩⟩
end Go.Proofs.Ytbdadckedhcibaa
