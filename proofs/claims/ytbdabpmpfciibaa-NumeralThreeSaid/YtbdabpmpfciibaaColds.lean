/- The walks of numeral.heaps.valid, cold, Cold and Pair. No condition beyond those stated. -/
import Derived.Test.YtbdabpmpfciibaaCold
namespace Go.Proofs.Ytbdabpmpfciibaa
open Go.RowKit
attribute [local go_sem] Oper.semAt_some

theorem elem3 : (Try.prog.info? 3).isSome = true := by kernel_rfl
theorem cells3' : Try.prog.cellsOf 3 = 1 := by kernel_rfl
theorem part0 (x y : Int) (w : World) : (part 3 #[.int .i64 x, .int .i64 y] (0 * 1)).run Try.prog w = .ok (.int .i64 x) w := by kernel_rfl
theorem part1 (x y : Int) (w : World) : (part 3 #[.int .i64 x, .int .i64 y] (1 * 1)).run Try.prog w = .ok (.int .i64 y) w := by kernel_rfl
theorem equalP (t : TypeId) (ht : Try.prog.underlying t = some (.array 2 3)) (x y u v : Int) (w : World) : (Op.equalIn 10000 t (.agg #[.int .i64 x, .int .i64 y]) (.agg #[.int .i64 u, .int .i64 v])).run Try.prog w = .ok (x == u && y == v) w := by
  obtain ⟨i, hi⟩ := Option.isSome_iff_exists.1 elem3
  rw [run_equalIn_array w 9999 _ _ ht hi, cells3']
  have e3 : ∀ (a b : Int) (w : World), (Op.equalIn 9999 3 (.int .i64 a) (.int .i64 b)).run Try.prog w = .ok (a == b) w := fun a b w => run_equalIn_int w 9998 3 .i64 .i64 a b Try.underlying3
  rw [show List.range 2 = [0, 1] from rfl]
  simp only [Op.eqItems, Sem.run_bind, part0, part1, e3, Result.andThen_ok, Sem.run_ite, Sem.run_pure]
  cases h1 : (x == u) <;> cases h2 : (y == v) <;> simp
theorem eql72 (x y u v : Int) (w : World) : (binOp .eql 72 (.agg #[.int .i64 x, .int .i64 y]) (.agg #[.int .i64 u, .int .i64 v])).run Try.prog w = .ok (.bool (x == u && y == v)) w := by
  rw [run_eql_struct, equalP 72 Try.underlying72]; rfl
theorem eql46 (x y u v : Int) (w : World) : (binOp .eql 46 (.agg #[.int .i64 x, .int .i64 y]) (.agg #[.int .i64 u, .int .i64 v])).run Try.prog w = .ok (.bool (x == u && y == v)) w := by
  rw [run_eql_struct, equalP 46 Try.underlying46]; rfl
theorem neq46 (x y u v : Int) (w : World) : (binOp .neq 46 (.agg #[.int .i64 x, .int .i64 y]) (.agg #[.int .i64 u, .int .i64 v])).run Try.prog w = .ok (.bool (!(x == u && y == v))) w := by
  rw [run_neq_struct, equalP 46 Try.underlying46]; rfl
theorem guard72 : Try.prog.eqGuardType Try.prog.depth 72 = false := by kernel_rfl
theorem guard46 : Try.prog.eqGuardType Try.prog.depth 46 = false := by kernel_rfl

/-- Whether two numbers are heaps. -/
def isHp (a b : Int) : Bool := decide (0 ≤ a) && decide (a ≤ 1000000) && decide (0 ≤ b) && decide (b ≤ 1000000)
theorem isHp_yes {a b : Int} (h : isHp a b = true) : 0 ≤ a ∧ a ≤ 1000000 ∧ 0 ≤ b ∧ b ≤ 1000000 := by
  simp [isHp, Bool.and_eq_true] at h
  omega
theorem isHp_mk {a b : Int} (h : 0 ≤ a ∧ a ≤ 1000000 ∧ 0 ≤ b ∧ b ≤ 1000000) : isHp a b = true := by
  simp [isHp, Bool.and_eq_true]
  omega
theorem isHp_no {a b : Int} (h : ¬ (0 ≤ a ∧ a ≤ 1000000 ∧ 0 ≤ b ∧ b ≤ 1000000)) : isHp a b = false := by
  cases hh : isHp a b with
  | false => rfl
  | true => exact absurd (isHp_yes hh) h

set_option maxHeartbeats 2000000 in
theorem valid_any (a b : Int) (w : World) : Calls Try.prog 74 #[.agg #[.int .i64 a, .int .i64 b]] w fun e w' => e = .returned (.bool (isHp a b)) ∧ Below w.heap.size w w' := by
  have BB := (Below.refl w.heap.size w).alloc (Nat.le_refl _) (.cells #[.int .i64 a, .int .i64 b] 72)
  have HB := Lib.hid BB
  clear BB
  by_cases h1 : 0 ≤ a
  · by_cases h2 : a ≤ 1000000
    · by_cases h3 : 0 ≤ b
      · by_cases h4 : b ≤ 1000000
        · have hh := Lib.hid (isHp_mk ⟨h1, h2, h3, h4⟩)
          rw [hh.out]
          clear hh
          go_enter Try.func74, Try.ntmps74
          go_wp2
          go_ret
          exact ⟨rfl, HB.out⟩
        · have hh := Lib.hid (isHp_no (a := a) (b := b) (fun h => h4 h.2.2.2))
          rw [hh.out]
          clear hh
          go_enter Try.func74, Try.ntmps74
          go_wp2
          go_ret
          exact ⟨rfl, HB.out⟩
      · have hh := Lib.hid (isHp_no (a := a) (b := b) (fun h => h3 h.2.2.1))
        rw [hh.out]
        clear hh
        go_enter Try.func74, Try.ntmps74
        go_wp2
        go_ret
        exact ⟨rfl, HB.out⟩
    · have hh := Lib.hid (isHp_no (a := a) (b := b) (fun h => h2 h.2.1))
      rw [hh.out]
      clear hh
      go_enter Try.func74, Try.ntmps74
      go_wp2
      go_ret
      exact ⟨rfl, HB.out⟩
  · have hh := Lib.hid (isHp_no (a := a) (b := b) (fun h => h1 h.1))
    rw [hh.out]
    clear hh
    go_enter Try.func74, Try.ntmps74
    go_wp2
    go_ret
    exact ⟨rfl, HB.out⟩

/-- Whether a pair is cold. -/
def isCold (a b : Int) : Bool := a == cpA (b - a) && b == cpB (b - a)

set_option maxHeartbeats 4000000 in
set_option maxRecDepth 100000 in
theorem cold_any (a b : Int) (w : World) (h : isHp a b = true) : Calls Try.prog 75 #[.agg #[.int .i64 a, .int .i64 b]] w fun e w' => e = .returned (.bool (isCold a b)) ∧ Below w.heap.size w w' := by
  obtain ⟨a0, a1, b0, b1⟩ := isHp_yes h
  have hw : IntKind.i64.wrap (b - a) = b - a := by simp [IntKind.wrap, IntKind.bits, IntKind.signed]; omega
  have HCP := Lib.hid (fun w => coldPair_any (b - a) w (by omega) (by omega))
  have hcold : isCold a b = (a == cpA (b - a) && b == cpB (b - a)) := rfl
  rw [hcold]
  obtain ⟨A, hA⟩ : ∃ A, cpA (b - a) = A := ⟨_, rfl⟩
  obtain ⟨B, hB⟩ : ∃ B, cpB (b - a) = B := ⟨_, rfl⟩
  rw [hA, hB] at HCP ⊢
  obtain ⟨g, hg⟩ : ∃ g, w.heap.size = g := ⟨_, rfl⟩
  obtain ⟨W, hW⟩ : ∃ W, w.alloc (.cells #[.int .i64 a, .int .i64 b] 72) = W := ⟨_, rfl⟩
  have hc0 : W.cell? ⟨g, 0, none⟩ = some (.int .i64 a) := by rw [← hW, ← hg]; simp
  have hc1 : W.cell? ⟨g, 1, none⟩ = some (.int .i64 b) := by rw [← hW, ← hg]; simp
  have hBW : Below w.heap.size w W := hW ▸ (Below.refl w.heap.size w).alloc (Nat.le_refl _) _
  have hgl : g < W.heap.size := by rw [← hW, ← hg]; simp
  have HC := Lib.hid (And.intro hc0 (And.intro hc1 (And.intro hBW hgl)))
  have hq := eql72
  have hgd := guard72
  clear h hA hB hcold hc0 hc1 hBW hgl
  go_enter Try.func75, Try.ntmps75
  go_wp2_with fail
  clear hW hg
  go_region_held3 (fun w' => w'.cell? ⟨g, 0, none⟩ = some (.int .i64 a) ∧ w'.cell? ⟨g, 1, none⟩ = some (.int .i64 b)) (first | exact ⟨HC.out.1, HC.out.2.1⟩ | exact ⟨(hb.cell (p := ⟨g, 0, none⟩) HC.out.2.2.2).trans HC.out.1, (hb.cell (p := ⟨g, 1, none⟩) HC.out.2.2.2).trans HC.out.2.1⟩) ((go_at_call 77; refine (HCP.out _).mono ?_; rintro e w1 ⟨rfl, hb⟩))
  all_goals
    have HB := Lib.hid (HC.out.2.2.1.trans ((show Below W.heap.size W w1 from ⟨hb.os, hb.tape, hb.output, hb.size, hb.block⟩).mono HC.out.2.2.1.size))
    clear hb
    go_wp2
    go_ret
    exact ⟨rfl, HB.out⟩
end Go.Proofs.Ytbdabpmpfciibaa
