/- How many points a curve has: counted for every curve by the kernel. No condition. -/
import Derived.Test.YtoepghlkjbpkfaaDoorTw
namespace Go.Proofs.YtoepghlkjbpkfaaDoor
open Go.RowKit

def nsqK (N r : Nat) : Nat → Nat
  | 0 => 0
  | k + 1 => nsqK N r k + (if k * k % N = r then 1 else 0)
def csum (T N a b : Nat) : Nat → Nat
  | 0 => 0
  | k + 1 => Nat.add (csum T N a b k) (Nat.mod (Nat.shiftRight T (Nat.mul 2 (Nat.mod (Nat.add (Nat.add (Nat.mul (Nat.mul k k) k) (Nat.mul a k)) b) N))) 4)
def tabOk (T N : Nat) : Bool := (List.range N).all fun r => Nat.beq (nsqK N r N) (Nat.mod (Nat.shiftRight T (Nat.mul 2 r)) 4)
def dsc (N a b : Nat) : Nat := (4 * a * a * a + 27 * b * b) % N
def hsOk (n m N : Nat) : Bool := Nat.beq (Nat.add n m) (2 * N + 2) && Nat.ble (Nat.add (Nat.mul n n) ((N + 1) * (N + 1))) (Nat.add (Nat.mul (2 * n) (N + 1)) (4 * N))
def chk (T N u : Nat) : Bool := (List.range N).all fun a => (List.range N).all fun b =>
  Nat.beq (dsc N a b) 0 || ((!Nat.beq (dsc N (a * u * u % N) (b * u * u * u % N)) 0) && hsOk (csum T N a b N + 1) (csum T N (a * u * u % N) (b * u * u * u % N) N + 1) N)
theorem tab5 : tabOk 521 5 = true := by decide +kernel
theorem chk5 : chk 521 5 2 = true := by decide +kernel
theorem tab7 : tabOk 553 7 = true := by decide +kernel
theorem chk7 : chk 553 7 3 = true := by decide +kernel
theorem tab11 : tabOk 526985 11 = true := by decide +kernel
theorem chk11 : chk 526985 11 2 = true := by decide +kernel
theorem tab13 : tabOk 36176521 13 = true := by decide +kernel
theorem chk13 : chk 36176521 13 2 = true := by decide +kernel
theorem tab17 : tabOk 10872291881 17 = true := by decide +kernel
theorem chk17 : chk 10872291881 17 3 = true := by decide +kernel
theorem tab19 : tabOk 42958629385 19 = true := by decide +kernel
theorem chk19 : chk 42958629385 19 2 = true := by decide +kernel
theorem tab23 : tabOk 146197324457 23 = true := by decide +kernel
theorem chk23 : chk 146197324457 23 5 = true := by decide +kernel
theorem tab29 : tabOk 147108067451382281 29 = true := by decide +kernel
theorem chk29 : chk 147108067451382281 29 2 = true := by decide +kernel
theorem tab31 : tabOk 146369883237157417 31 = true := by decide +kernel
theorem chk31 : chk 146369883237157417 31 3 = true := by decide +kernel
theorem chk_all (N : Nat) (h : isM (N : Int) = true) : ∃ T, tabOk T N = true ∧ chk T N (lnsF N) = true := by
  have h1 : N = 5 ∨ N = 7 ∨ N = 11 ∨ N = 13 ∨ N = 17 ∨ N = 19 ∨ N = 23 ∨ N = 29 ∨ N = 31 := by
    simp [isM] at h
    omega
  rcases h1 with rfl | rfl | rfl | rfl | rfl | rfl | rfl | rfl | rfl
  · exact ⟨_, tab5, chk5⟩
  · exact ⟨_, tab7, chk7⟩
  · exact ⟨_, tab11, chk11⟩
  · exact ⟨_, tab13, chk13⟩
  · exact ⟨_, tab17, chk17⟩
  · exact ⟨_, tab19, chk19⟩
  · exact ⟨_, tab23, chk23⟩
  · exact ⟨_, tab29, chk29⟩
  · exact ⟨_, tab31, chk31⟩
theorem eqn_nat (N a b x y : Nat) : eqn (N : Int) a b x y = decide (y * y % N = (x * x * x + a * x + b) % N) := by
  unfold eqn
  rw [Bool.eq_iff_iff]
  simp only [decide_eq_true_iff]
  have e1 : ((x : Int) * x * x + a * x + b) = ((x * x * x + a * x + b : Nat) : Int) := by push_cast; rfl
  have e2 : ((y : Int) * y) = ((y * y : Nat) : Int) := by push_cast; rfl
  rw [e1, e2, ← Int.emod_eq_emod_iff_emod_sub_eq_zero]
  omega
theorem onB_nat {N a b x y : Nat} (hx : x < N) (hy : y < N) : onB (N : Int) a b ⟨x, y, false⟩ = decide (y * y % N = (x * x * x + a * x + b) % N) := by
  rw [← eqn_nat]
  have h1 : isR (x : Int) (N : Int) = true := isR_iff.2 ⟨by omega, by omega⟩
  have h2 : isR (y : Int) (N : Int) = true := isR_iff.2 ⟨by omega, by omega⟩
  show (isR (x : Int) (N : Int) && (isR (y : Int) (N : Int) && eqn (N : Int) a b x y)) = _
  rw [h1, h2]
  rfl
theorem ptsY_count {N a b x : Nat} (hx : x < N) : ∀ j, j ≤ N → (ptsY (N : Int) a b x j).length = nsqK N ((x * x * x + a * x + b) % N) j
  | 0, _ => rfl
  | j + 1, h => by
    have ih := ptsY_count (a := a) (b := b) hx j (by omega)
    unfold ptsY nsqK
    rw [List.length_append, ih, onB_nat hx (by omega)]
    by_cases e : j * j % N = (x * x * x + a * x + b) % N
    · rw [if_pos e, decide_eq_true e]; rfl
    · rw [if_neg e, decide_eq_false e]; rfl
theorem ptsX_count {T N a b : Nat} (hT : tabOk T N = true) (h0 : 0 < N) : ∀ k, k ≤ N → (ptsX (N : Int) a b N k).length = csum T N a b k
  | 0, _ => rfl
  | k + 1, h => by
    have ih := ptsX_count (a := a) (b := b) hT h0 k (by omega)
    unfold ptsX csum
    rw [List.length_append, ih, ptsY_count (by omega) N (Nat.le_refl N)]
    have := List.all_eq_true.1 hT ((k * k * k + a * k + b) % N) (List.mem_range.2 (Nat.mod_lt _ h0))
    rw [Nat.eq_of_beq_eq_true this]
    rfl
theorem pts_count {T N a b : Nat} (hT : tabOk T N = true) (h0 : 0 < N) : (ptsL (N : Int) a b).length = csum T N a b N + 1 := by
  unfold ptsL
  rw [List.length_append, Int.toNat_natCast, ptsX_count hT h0 N (Nat.le_refl N)]
  rfl
theorem disc_nat (N a b : Nat) : disc (N : Int) a b = decide (dsc N a b = 0) := by
  unfold disc dsc
  rw [Bool.eq_iff_iff]
  simp only [decide_eq_true_iff]
  have e1 : (4 * (a : Int) * a * a + 27 * b * b) = ((4 * a * a * a + 27 * b * b : Nat) : Int) := by push_cast; rfl
  rw [e1]
  omega
theorem curve_nat {P A B : Int} (h : vB P A B = true) : ∃ N a b : Nat, P = N ∧ A = a ∧ B = b ∧ a < N ∧ b < N ∧ 5 ≤ N ∧ N ≤ 31 ∧ isM (N : Int) = true ∧ dsc N a b ≠ 0 := by
  obtain ⟨h1, h2, h3, h4⟩ := vB_iff.1 h
  have h5 := isM_le h1
  obtain ⟨N, rfl⟩ := Int.eq_ofNat_of_zero_le (show 0 ≤ P by omega)
  obtain ⟨a, rfl⟩ := Int.eq_ofNat_of_zero_le h2.1
  obtain ⟨b, rfl⟩ := Int.eq_ofNat_of_zero_le h3.1
  rw [disc_nat] at h4
  exact ⟨N, a, b, rfl, rfl, rfl, by omega, by omega, by omega, by omega, h1, of_decide_eq_false h4⟩
/-- Hasse's bound, and the points of a curve and its twist. -/
theorem hasse {N : Nat} {A B : Int} (h : vB N A B = true) : vB N (twA N A) (twB N B) = true ∧ (ptsL N A B).length + (ptsL N (twA N A) (twB N B)).length = 2 * N + 2 ∧
    ((ptsL N A B).length : Int) * (ptsL N A B).length + ((N : Int) + 1) * (N + 1) ≤ 2 * (ptsL N A B).length * (N + 1) + 4 * N := by
  obtain ⟨M, a, b, e, rfl, rfl, ha, hb, h5, h31, hm, hd⟩ := curve_nat h
  obtain rfl : N = M := by omega
  obtain ⟨T, hT, hC⟩ := chk_all N hm
  have hc := List.all_eq_true.1 (List.all_eq_true.1 hC a (List.mem_range.2 ha)) b (List.mem_range.2 hb)
  rw [Bool.or_eq_true] at hc
  rcases hc with hc | hc
  · exact absurd (Nat.eq_of_beq_eq_true hc) hd
  · have eA : twA N (a : Int) = ((a * lnsF N * lnsF N % N : Nat) : Int) := by unfold twA; push_cast; rfl
    have eB : twB N (b : Int) = ((b * lnsF N * lnsF N * lnsF N % N : Nat) : Int) := by unfold twB; push_cast; rfl
    rw [eA, eB, pts_count hT (by omega), pts_count hT (by omega)]
    rw [Bool.and_eq_true, hsOk, Bool.and_eq_true] at hc
    obtain ⟨c1, c2, c3⟩ := hc
    have c4 := Nat.eq_of_beq_eq_true c2
    have c5 := Nat.le_of_ble_eq_true c3
    have d0 : dsc N (a * lnsF N * lnsF N % N) (b * lnsF N * lnsF N * lnsF N % N) ≠ 0 := fun e => by rw [e] at c1; cases c1
    refine ⟨vB_iff.2 ⟨hm, ⟨by omega, ?_⟩, ⟨by omega, ?_⟩, by rw [disc_nat]; exact decide_eq_false d0⟩, c4, ?_⟩
    · exact Int.ofNat_lt.2 (Nat.mod_lt _ (by omega))
    · exact Int.ofNat_lt.2 (Nat.mod_lt _ (by omega))
    · have d5 : (csum T N a b N + 1) * (csum T N a b N + 1) + (N + 1) * (N + 1) ≤ 2 * (csum T N a b N + 1) * (N + 1) + 4 * N := c5
      have := Int.ofNat_le.2 d5
      push_cast at this ⊢
      exact this
end Go.Proofs.YtoepghlkjbpkfaaDoor
