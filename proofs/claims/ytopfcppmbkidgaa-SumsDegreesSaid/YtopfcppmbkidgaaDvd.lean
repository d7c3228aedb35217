/- The walk of divided: a polynomial by one whose last coefficient is 1 or anything else; results are wrapped. Conditions: the slices lie in memory, the divisor has at least one coefficient and not more than the polynomial and one. -/
import Derived.Test.YtopfcppmbkidgaaSeq
import Derived.Laws.CopyOwn
import Derived.Deep.RegionHeld3
namespace Go.Proofs.Ytopfcppmbkidgaa
open Go.RowKit
attribute [local go_sem] Oper.semAt_some

/-- What is left behind j steps at place i, x being the quotient there. -/
def ins (F D : Nat → Int) (x : Int) (i j t : Nat) : Int := if i ≤ t ∧ t < i + j then wrap64 (F t - wrap64 (x * D (t - i))) else F t
/-- What is left behind r rounds: q places of the quotient, k the degree of D. -/
def rsF (P D : Nat → Int) (q k : Nat) : Nat → Nat → Int
  | 0 => P
  | r + 1 => ins (rsF P D q k r) D (rsF P D q k r (q - 1 - r + k)) (q - 1 - r) (k + 1)
/-- The quotient's place t. -/
def quF (P D : Nat → Int) (q k t : Nat) : Int := rsF P D q k (q - 1 - t) (t + k)
/-- The quotient while it is worked out: r places are. -/
def quR (P D : Nat → Int) (q k r t : Nat) : Int := if q ≤ t + r then quF P D q k t else 0
theorem ins_zero {F D : Nat → Int} {x : Int} {i t : Nat} : ins F D x i 0 t = F t := by unfold ins; rw [if_neg (by omega)]
theorem ins_step {F D : Nat → Int} {x : Int} {i j t : Nat} : ins F D x i (j + 1) t = if t = i + j then wrap64 (F (i + j) - wrap64 (x * D j)) else ins F D x i j t := by
  unfold ins
  by_cases h : t = i + j
  · subst h
    rw [if_pos (by omega), if_pos rfl, Nat.add_sub_cancel_left]
  · rw [if_neg h]
    by_cases h2 : i ≤ t ∧ t < i + j
    · rw [if_pos (by omega), if_pos h2]
    · rw [if_neg (by omega), if_neg h2]
theorem ins_at {F D : Nat → Int} {x : Int} {i j : Nat} : ins F D x i j (i + j) = F (i + j) := by unfold ins; rw [if_neg (by omega)]
theorem quR_step {P D : Nat → Int} {q k r t : Nat} (hr : r < q) : quR P D q k (r + 1) t = if t = q - 1 - r then rsF P D q k r (q - 1 - r + k) else quR P D q k r t := by
  unfold quR
  by_cases h : t = q - 1 - r
  · subst h
    rw [if_pos (by omega), if_pos rfl]
    unfold quF
    rw [show q - 1 - (q - 1 - r) = r by omega]
  · rw [if_neg h]
    by_cases h2 : q ≤ t + r
    · rw [if_pos (by omega), if_pos h2]
    · rw [if_neg (by omega), if_neg h2]

/-- Two rows of the call's own. -/
structure Two (g1 m1 : Nat) (f1 : Nat → Int) (g2 m2 : Nat) (f2 : Nat → Int) (w W : World) : Prop where
  a : CoState g1 m1 f1 w W
  c : CoState g2 m2 f2 w W
  ne : g1 ≠ g2
theorem CoState.other {g m : Nat} {f : Nat → Int} {w W : World} (h : CoState g m f w W) {g' : Nat} (hw : w.heap.size ≤ g') (hne : g ≠ g') (j : Nat) (v : Value) : CoState g m f w (W.setCell ⟨g', j, none⟩ v) := by
  refine ⟨h.b.setCell (p := ⟨g', j, none⟩) hw _, row_kept h.own fun b hb => ?_⟩
  obtain rfl : b = g := by simpa [Value.ownBlock] using hb.symm
  exact Below.heap_setCell _ _ _ _ hne
theorem Two.putA {g1 m1 g2 m2 : Nat} {f1 f2 : Nat → Int} {w W : World} (h : Two g1 m1 f1 g2 m2 f2 w W) (j : Nat) (v : Int) : Two g1 m1 (fun i => if i = j then v else f1 i) g2 m2 f2 w (W.setCell ⟨g1, j, none⟩ (.int .i64 v)) :=
  ⟨h.a.put j v, h.c.other h.a.le (fun e => h.ne e.symm) j _, h.ne⟩
theorem Two.putC {g1 m1 g2 m2 : Nat} {f1 f2 : Nat → Int} {w W : World} (h : Two g1 m1 f1 g2 m2 f2 w W) (j : Nat) (v : Int) : Two g1 m1 f1 g2 m2 (fun i => if i = j then v else f2 i) w (W.setCell ⟨g2, j, none⟩ (.int .i64 v)) :=
  ⟨h.a.other h.c.le h.ne j _, h.c.put j v, h.ne⟩
theorem Two.congr {g1 m1 g2 m2 : Nat} {f1 f2 f1' f2' : Nat → Int} {w W : World} (h : Two g1 m1 f1 g2 m2 f2 w W) (e1 : ∀ j, j < m1 → f1 j = f1' j) (e2 : ∀ j, j < m2 → f2 j = f2' j) : Two g1 m1 f1' g2 m2 f2' w W :=
  ⟨h.a.congr e1, h.c.congr e2, h.ne⟩
theorem Two.drewN {g1 m1 g2 m2 : Nat} {f1 f2 : Nat → Int} {w W : World} (h : Two g1 m1 f1 g2 m2 f2 w W) (n : Nat) : Two g1 m1 f1 g2 m2 f2 w (W.drewN n) :=
  ⟨⟨below_drewN h.a.b n, row_kept h.a.own fun _ _ => rfl⟩, ⟨below_drewN h.c.b n, row_kept h.c.own fun _ _ => rfl⟩, h.ne⟩
theorem Two.drew {g1 m1 g2 m2 : Nat} {f1 f2 : Nat → Int} {w W : World} (h : Two g1 m1 f1 g2 m2 f2 w W) : Two g1 m1 f1 g2 m2 f2 w W.drew :=
  ⟨⟨h.a.b.drew, row_kept h.a.own fun _ _ => rfl⟩, ⟨h.c.b.drew, row_kept h.c.own fun _ _ => rfl⟩, h.ne⟩

theorem degree_any (a : Option Addr) (n c k : Nat) (hk : n = k + 1) (hn : n ≤ 4611686018427387904) (w : World) : Calls Try.prog 83 #[.slice a n c] w fun e w' => e = .returned (.int .i64 (k : Int)) ∧ w = w' := by
  have e : (n : Int) - 1 = (k : Int) := by omega
  clear hk
  go_enter Try.func83, Try.ntmps83
  go_wp2
  go_ret
  exact ⟨ret_int (by first | rfl | omega), rfl⟩
end Go.Proofs.Ytopfcppmbkidgaa
