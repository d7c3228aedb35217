/- Slices of pairs and of whole numbers as they lie in memory; the walks of the greatest common factor. Condition: the slices lie in memory. -/
import Derived.Test.YtanhjgneaaenpaaProg
import Derived.Test.YtanhjgneaaenpaaMath
import Derived.Laws.OwnMore
import Derived.OwnWalk
import Derived.Deep.LoopGhost
import Derived.Deep.WholeRow
import Derived.WalkKit
import Derived.WalkSpells
import Derived.WalkLawsBesides
import Derived.Lib.Hide
import Derived.Lib.SmallJoins
import Derived.Maps.AppendAt
import Derived.Lib.OwnKind
import Derived.BigQuiet
import Derived.Deep.MidRow
import Derived.Deep.QuietTactic
namespace Go.Proofs.Ytanhjgneaaenpaa
open Go.RowKit
attribute [local go_sem] Oper.semAt_some

theorem ret_int {k : IntKind} {a b : Int} (h : a = b) : Ending.returned (.int k a) = .returned (.int k b) := by rw [h]
theorem ret_bool {a b : Bool} (h : a = b) : Ending.returned (.bool a) = .returned (.bool b) := by rw [h]
theorem below_drewN {B : Nat} {a w : World} (h : Below B a w) (n : Nat) : Below B a (w.drewN n) := ⟨h.os, h.tape, h.output, h.size, h.block⟩

/-- A slice of pairs as it lies. -/
def Prs (w : World) (a : Option Addr) (n : Nat) (xs : List (Int × Int)) : Prop :=
  xs.length = n ∧ (n = 0 ∨ ∃ b off, a = some ⟨b, off, none⟩ ∧ b < w.heap.size ∧ ∀ j, j < n → w.cell? ⟨b, off + j * 2, none⟩ = some (.int .i64 (nth xs j).1) ∧ w.cell? ⟨b, off + j * 2 + 1, none⟩ = some (.int .i64 (nth xs j).2))
theorem Prs.below {w w' : World} {a : Option Addr} {n : Nat} {xs : List (Int × Int)} (h : Prs w a n xs) (hb : Below w.heap.size w w') : Prs w' a n xs := by
  refine ⟨h.1, h.2.imp id ?_⟩
  rintro ⟨b, off, h1, h2, h3⟩
  exact ⟨b, off, h1, Nat.lt_of_lt_of_le h2 hb.size, fun j hj => ⟨(hb.cell (p := ⟨b, off + j * 2, none⟩) h2).trans (h3 j hj).1, (hb.cell (p := ⟨b, off + j * 2 + 1, none⟩) h2).trans (h3 j hj).2⟩⟩
theorem Prs.at {w : World} {a : Option Addr} {n : Nat} {xs : List (Int × Int)} (h : Prs w a n xs) (hn : 0 < n) : ∃ b off, a = some ⟨b, off, none⟩ ∧ b < w.heap.size ∧ ∀ j, j < n → w.cell? ⟨b, off + j * 2, none⟩ = some (.int .i64 (nth xs j).1) ∧ w.cell? ⟨b, off + j * 2 + 1, none⟩ = some (.int .i64 (nth xs j).2) :=
  h.2.resolve_left (by omega)
theorem Prs.nil (w : World) (a : Option Addr) : Prs w a 0 [] := ⟨rfl, .inl rfl⟩
theorem Prs.range {w : World} {b off n : Nat} {xs : List (Int × Int)} (h : ∀ j, j < n → w.cell? ⟨b, off + j * 2, none⟩ = some (.int .i64 (nth xs j).1) ∧ w.cell? ⟨b, off + j * 2 + 1, none⟩ = some (.int .i64 (nth xs j).2)) {j : Nat} (hj : j < n) : w.rangeAt b (off + j * 2) [.int .i64 (nth xs j).1, .int .i64 (nth xs j).2] := by
  obtain ⟨a, c⟩ := h j hj
  intro i v hv
  match i, hv with
  | 0, hv =>
    have : v = .int .i64 (nth xs j).1 := by simpa using hv.symm
    rw [Nat.add_zero, a, this]
  | 1, hv =>
    have : v = .int .i64 (nth xs j).2 := by simpa using hv.symm
    rw [c, this]
  | i + 2, hv => simp at hv

set_option maxHeartbeats 1000000 in
theorem gcd_any (a b : Nat) (ha : a ≤ 1000000000000000000) (hb : b ≤ 1000000000000000000) (w : World) :
    Calls Try.prog 68 #[.int .i64 (a : Int), .int .i64 (b : Int)] w fun e w' => e = .returned (.int .i64 ((Nat.gcd a b : Nat) : Int)) ∧ ∃ q, w' = w.drewN q := by
  obtain ⟨g, hg⟩ : ∃ g, Nat.gcd a b = g := ⟨_, rfl⟩
  rw [hg]
  have HG := Lib.hid hg
  clear hg
  go_enter Try.func68, Try.ntmps68
  go_wp2
  go_loopg [0, 1] b (fun gk s0 s1 wr => ∃ (x y q : Nat), x ≤ 1000000000000000000 ∧ y ≤ 1000000000000000000 ∧ y = gk ∧ Nat.gcd x y = g ∧ s0 = .int .i64 (x : Int) ∧ s1 = .int .i64 (y : Int) ∧ wr = w.drewN q)
  case atStart => exact ⟨a, b, 0, ha, hb, rfl, HG.out, rfl, rfl, rfl⟩
  case round =>
    obtain ⟨x, y, q, hx, hy, hyk, hxy, rfl, rfl, rfl⟩ := hrel
    have HXY := Lib.hid hxy
    have HYK := Lib.hid hyk
    clear hxy hyk
    by_cases h : y = 0
    · subst h
      have hle : ¬ (0 : Int) < ((0 : Nat) : Int) := by omega
      have e : x = g := by rw [← HXY.out, Nat.gcd_zero_right]
      subst e
      go_wp2
      go_ret
      exact ⟨rfl, q, rfl⟩
    · have hlt : (0 : Int) < (y : Int) := by omega
      have hne : ¬ (y : Int) = 0 := by omega
      have x0 : (0 : Int) ≤ (x : Int) := by omega
      clear h
      go_wp2
      go_quiet (fail)
      go_wp2
      go_roundg (x % y)
      case rel => exact ⟨y, x % y, q + nq, hy, by have := Nat.mod_lt x (show 0 < y by omega); omega, rfl, by rw [← HXY.out, Nat.gcd_comm x y, Nat.gcd_rec y x, Nat.gcd_comm], rfl, by go_num, by rw [World.drewN_drewN]⟩
      case measure => have := Nat.mod_lt x (show 0 < y by omega); have := HYK.out; omega
end Go.Proofs.Ytanhjgneaaenpaa
