/- The law LiftFactors. Condition: the slices lie in memory. -/
import Derived.Test.YtjlaclbgfidiiaaLawFac3
namespace Go.Proofs.Ytjlaclbgfidiiaa
open Go.RowKit
theorem lawFac_any (a b : Option Addr) (n m c d : Nat) (xs ys : List Int) (p x : Int) (w : World) (h : Ints w a n xs) (hc : n ≤ c) (hn : n ≤ 4611686018427387904) (hcm : c ≤ maxLen) (h' : Ints w b m ys) (hc' : m ≤ d) (hn' : m ≤ 4611686018427387904) (hcm' : d ≤ maxLen) :
    Calls Try.prog 9 #[.slice a n c, .slice b m d, .int .i64 p, .int .i64 x] w fun e w' => e = .returned (.bool true) ∧ Below w.heap.size w w' := by
  cases hno : isPr p && isPoly xs with
  | false => exact lawFac_no1 a b n m c d xs ys p x w h hc hn hcm h' hc' hn' hcm' hno
  | true =>
    simp only [Bool.and_eq_true] at hno
    obtain ⟨q, rfl, hq⟩ := isPr_mem hno.1
    obtain ⟨q2, q13⟩ := pr_bounds hq
    cases hg : isPoly ys with
    | false => exact lawFac_no2 q a b n m c d xs ys x w h hc hn hcm h' hc' hn' hcm' hno.1 q2 q13 hno.2 hg
    | true =>
      cases hT : timesOK xs ys with
      | false => exact lawFac_f q a b n m c d xs ys x w h hc hn hcm h' hc' hn' hcm' hq hno.1 q2 q13 hno.2 hg hT
      | true => exact lawFac_t q a b n m c d xs ys x w h hc hn hcm h' hc' hn' hcm' hq hno.1 q2 q13 hno.2 hg hT
end Go.Proofs.Ytjlaclbgfidiiaa
