/- How long a chain may be; a row of steps of which one sign is turned; facts about both symbols. No condition beyond those stated. -/
import Derived.Test.YtopfcppmbkidgaaSeq
namespace Go.Proofs.Ytopfcppmbkidgaa
open Go.RowKit Go.Shelf
attribute [local go_sem] Oper.semAt_some

theorem ms_down {a n : Int} {N : Nat} (hN : ∀ k, k < N → ¬ fin (st a n k)) (hG : ∀ k, k ≤ N → Good (st a n k)) : ∀ k, k ≤ N → ms (st a n k) + k ≤ ms (st a n 0)
  | 0, _ => by omega
  | k + 1, h => by
    have ih := ms_down hN hG k (by omega)
    have := (step (hG k (by omega)) (hN k (by omega))).2.1
    have e : st a n (k + 1) = nx (st a n k) := rfl
    rw [e]; omega
theorem len_ex {a n : Int} (h : isSym a n) : ∃ N, isLen a n N := by
  obtain ⟨N, h1, h2, h3, -⟩ := chain_shows h
  refine ⟨N, ?_, h1, h2, h3⟩
  have := ms_down h1 h3 N (Nat.le_refl _)
  obtain ⟨a0, a1, n0, n1, -⟩ := h
  have hm : ms (st a n 0) ≤ 4000000003 := by
    show (if a < 0 then (4 * n + 3).toNat else if a < n then (2 * (a + n) + 1).toNat else (2 * (a + n)).toNat) ≤ 4000000003
    split
    · omega
    · split <;> omega
  omega
theorem fl4_set : ∀ (S : List Stp) (j : Nat) (x : Int), j < S.length → (fl4 S).set (j * 4 + 3) (.int .i64 x) = fl4 (S.set j { nth4 S j with s := x })
  | [], j, _, h => absurd h (by simp)
  | p :: t, 0, x, _ => by simp [fl4, nth4]
  | p :: t, j + 1, x, h => by
    have ih := fl4_set t j x (by simpa using h)
    have e : ∀ (p : Stp) (t : List Stp), fl4 (p :: t) = .int .i64 p.k :: .int .i64 p.a :: .int .i64 p.n :: .int .i64 p.s :: fl4 t := fun p t => by simp [fl4]
    rw [e, show (j + 1) * 4 + 3 = (j * 4 + 3) + 1 + 1 + 1 + 1 by omega]
    simp only [List.set_cons_succ]
    rw [ih, e]
    rfl
theorem Row4.put {B g n c : Nat} {S : List Stp} {W : World} (h : Row4 B (.slice (some ⟨g, 0, none⟩) n c) S W) {j : Nat} (hj : j < S.length) (x : Int) :
    Row4 B (.slice (some ⟨g, 0, none⟩) n c) (S.set j { nth4 S j with s := x }) (W.setCell ⟨g, j * 4 + 3, none⟩ (.int .i64 x)) := by
  have hl : n = S.length := by
    rcases h.2 with ⟨h1, -⟩ | ⟨g', cap, cur, h1, -⟩
    · cases h1
    · cases h1; rfl
  subst hl
  have h' : W.ownsRow B 66 4 (.slice (some ⟨g, 0, none⟩) S.length c) S.length (fl4 S) := h
  unfold Row4
  rw [List.length_set, ← fl4_set S j x hj]
  exact (h'.stored (j * 4 + 3) (.int .i64 x)).1
theorem Row4.frozen {B g n c : Nat} {S : List Stp} {W : World} (h : Row4 B (.slice (some ⟨g, 0, none⟩) n c) S W) (j : Nat) : W.frozen? ⟨g, j, none⟩ = false := by
  have hl : n = S.length := by
    rcases h.2 with ⟨h1, -⟩ | ⟨g', cap, cur, h1, -⟩
    · cases h1
    · cases h1; rfl
  subst hl
  exact World.ownsRow.frozenAt (h := (h : W.ownsRow B 66 4 (.slice (some ⟨g, 0, none⟩) S.length c) S.length (fl4 S))) j
theorem set_ne {S : List Stp} {j : Nat} {x : Int} (hj : j < S.length) (hx : (nth4 S j).s ≠ x) : S.set j { nth4 S j with s := x } ≠ S := fun e => by
  have : (S.set j { nth4 S j with s := x }).getD j ⟨0, 0, 0, 0⟩ = nth4 S j := by rw [e]; rfl
  rw [List.getD, List.getElem?_set] at this
  simp only [hj, if_true, Option.getD_some] at this
  have h2 := congrArg Stp.s this
  exact hx h2.symm

/-! both symbols -/
theorem J_gcd {a n : Int} (hn : 1 ≤ n) : (Jv a n = 0) ↔ 1 < Nat.gcd a.natAbs n.natAbs := by
  rw [Jv_zero]
  have : Int.gcd a n = Nat.gcd a.natAbs n.natAbs := rfl
  rw [this]
  have hp : 1 ≤ Nat.gcd a.natAbs n.natAbs := Nat.gcd_pos_of_pos_right _ (by omega)
  omega
theorem J_sq {a n : Int} (h : Jv a n ≠ 0) : Jv a n * Jv a n = 1 := by
  rcases Jv_cases a n with e | e | e
  · exact absurd e h
  · rw [e]; rfl
  · rw [e]; rfl
theorem J_both {m n : Int} (hm : 1 ≤ m) (hn : 1 ≤ n) (om : m % 2 = 1) (on : n % 2 = 1) : (1 < Nat.gcd m.natAbs n.natAbs ∧ Jv m n = 0 ∧ Jv n m = 0) ∨ (Nat.gcd m.natAbs n.natAbs = 1 ∧ Jv m n * Jv n m = exch m n) := by
  have hp : 1 ≤ Nat.gcd m.natAbs n.natAbs := Nat.gcd_pos_of_pos_right _ (by omega)
  by_cases h : 1 < Nat.gcd m.natAbs n.natAbs
  · exact .inl ⟨h, (J_gcd hn).2 h, (J_gcd hm).2 (by rw [Nat.gcd_comm]; exact h)⟩
  · refine .inr ⟨by omega, ?_⟩
    have h0 : Jv n m ≠ 0 := fun e => h (by rw [Nat.gcd_comm]; exact (J_gcd hm).1 e)
    rw [J_rec (by omega) (by omega) om on, Int.mul_assoc, J_sq h0, Int.mul_one]
end Go.Proofs.Ytopfcppmbkidgaa
