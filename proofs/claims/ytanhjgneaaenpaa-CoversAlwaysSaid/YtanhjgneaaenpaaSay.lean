/- The answers of Left, Twice and Share of a system, and of what is none. Condition: the slice lies in memory. -/
import Derived.Test.YtanhjgneaaenpaaSumMath
import Derived.Test.YtanhjgneaaenpaaAsk
import Derived.Test.YtanhjgneaaenpaaFrac
namespace Go.Proofs.Ytanhjgneaaenpaa
open Go.RowKit
attribute [local go_sem] Oper.semAt_some

theorem leftR_no {xs : List (Int × Int)} (h : isS xs = false) : leftR xs = (0, 2) := by unfold leftR; rw [h]; rfl
theorem twiceR_no {xs : List (Int × Int)} (h : isS xs = false) : twiceR xs = (0, 2) := by unfold twiceR; rw [h]; rfl
theorem shareR_no {xs : List (Int × Int)} (h : isS xs = false) : shareR xs = (0, 0, 2) := by unfold shareR; rw [h]; rfl
theorem leftR_yes {xs : List (Int × Int)} (h : isS xs = true) : leftR xs = leftF xs := by unfold leftR; rw [h]; rfl
theorem twiceR_yes {xs : List (Int × Int)} (h : isS xs = true) : twiceR xs = twiceF xs := by unfold twiceR; rw [h]; rfl
theorem shareR_yes {xs : List (Int × Int)} (h : isS xs = true) : shareR xs = (numF xs, denF xs, 0) := by unfold shareR; rw [h]; rfl
theorem Left_no {xs : List (Int × Int)} (hs : isS xs = false) (a : Option Addr) (n c : Nat) (w : World) (h : Prs w a n xs) (hn : n ≤ 4611686018427387904) :
    Calls Try.prog 14 #[.slice a n c] w fun e w' => e = .returned (.tuple #[.int .i64 0, .int .i64 2]) ∧ Below w.heap.size w w' := by
  have := Left_any a n c xs w h hn
  rw [leftR_no hs] at this; exact this
theorem Twice_no {xs : List (Int × Int)} (hs : isS xs = false) (a : Option Addr) (n c : Nat) (w : World) (h : Prs w a n xs) (hn : n ≤ 4611686018427387904) :
    Calls Try.prog 16 #[.slice a n c] w fun e w' => e = .returned (.tuple #[.int .i64 0, .int .i64 2]) ∧ Below w.heap.size w w' := by
  have := Twice_any a n c xs w h hn
  rw [twiceR_no hs] at this; exact this
theorem Share_no {xs : List (Int × Int)} (hs : isS xs = false) (a : Option Addr) (n c : Nat) (w : World) (h : Prs w a n xs) (hn : n ≤ 4611686018427387904) :
    Calls Try.prog 17 #[.slice a n c] w fun e w' => e = .returned (.tuple #[.agg #[.int .i64 0, .int .i64 0], .int .i64 2]) ∧ Below w.heap.size w w' := by
  have := Share_any a n c xs w h hn
  rw [shareR_no hs] at this; exact this
theorem Left_yes {xs : List (Int × Int)} (hs : isS xs = true) (l1 l2 : Int) (hl : leftF xs = (l1, l2)) (a : Option Addr) (n c : Nat) (w : World) (h : Prs w a n xs) (hn : n ≤ 4611686018427387904) :
    Calls Try.prog 14 #[.slice a n c] w fun e w' => e = .returned (.tuple #[.int .i64 l1, .int .i64 l2]) ∧ Below w.heap.size w w' := by
  have := Left_any a n c xs w h hn
  rw [leftR_yes hs, hl] at this; exact this
theorem Twice_yes {xs : List (Int × Int)} (hs : isS xs = true) (l1 l2 : Int) (hl : twiceF xs = (l1, l2)) (a : Option Addr) (n c : Nat) (w : World) (h : Prs w a n xs) (hn : n ≤ 4611686018427387904) :
    Calls Try.prog 16 #[.slice a n c] w fun e w' => e = .returned (.tuple #[.int .i64 l1, .int .i64 l2]) ∧ Below w.heap.size w w' := by
  have := Twice_any a n c xs w h hn
  rw [twiceR_yes hs, hl] at this; exact this
theorem Share_yes {xs : List (Int × Int)} (hs : isS xs = true) (u v : Int) (hu : numF xs = u) (hv : denF xs = v) (a : Option Addr) (n c : Nat) (w : World) (h : Prs w a n xs) (hn : n ≤ 4611686018427387904) :
    Calls Try.prog 17 #[.slice a n c] w fun e w' => e = .returned (.tuple #[.agg #[.int .i64 u, .int .i64 v], .int .i64 0]) ∧ Below w.heap.size w w' := by
  have := Share_any a n c xs w h hn
  rw [shareR_yes hs, hu, hv] at this; exact this
end Go.Proofs.Ytanhjgneaaenpaa
