/- The law SumsSigns: its walk, part K. No condition beyond the cases that the names tell. -/
import Derived.Test.YtopfcppmbkidgaaExp
namespace Go.Proofs.Ytopfcppmbkidgaa
open Go.RowKit
attribute [local go_sem] Oper.semAt_some

theorem S_points {p q : Nat} (h : okP (p : Int) (q : Int)) : sm (fun x => sm (col p q x) (q / 2)) (p / 2) = S q p := by
  obtain ⟨h1, h2, h3, h4, h5⟩ := h
  have hp := PrI.nat.1 h4
  have hq := PrI.nat.1 h5
  have hc : Nat.Coprime q p := hp.cop (fun hd => by
    rcases hq.div hd with e | e
    · have := hp.1; omega
    · exact h3 (by rw [e]))
  rw [S_count hq.odd hp.odd hc]; rfl
theorem trB_no {a n : Nat} (h : ¬ Nat.gcd a n = 1) : trB (n : Int) (a : Int) = false := by
  unfold trB
  rw [Int.toNat_natCast, Int.toNat_natCast, beq_eq_false_iff_ne.2 h, Bool.and_false]
theorem trB_yes {a n : Nat} (h1 : 1 ≤ a) (h2 : a < n) (h : Nat.gcd a n = 1) : trB (n : Int) (a : Int) = true := by
  unfold trB
  rw [Int.toNat_natCast, Int.toNat_natCast, h, decide_eq_true (by omega), decide_eq_true (by omega)]; rfl

end Go.Proofs.Ytopfcppmbkidgaa
