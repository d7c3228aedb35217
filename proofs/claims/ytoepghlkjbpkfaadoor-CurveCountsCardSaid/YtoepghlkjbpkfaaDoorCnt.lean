/- How many curves have how many points; rows of pairs. Conditions as stated in each theorem. -/
import Derived.Test.YtoepghlkjbpkfaaDoorHsMath
namespace Go.Proofs.YtoepghlkjbpkfaaDoor
open Go.RowKit
attribute [local go_sem] Oper.semAt_some

def cnB (N a : Nat) : Nat → Nat → Nat
  | 0, _ => 0
  | k + 1, n => cnB N a k n + if (vB N a k && (ptsL N a k).length == n) then 1 else 0
def cnA (N : Nat) : Nat → Nat → Nat
  | 0, _ => 0
  | k + 1, n => cnA N k n + cnB N k N n
theorem cnB_le (N a : Nat) : ∀ k n, cnB N a k n ≤ k
  | 0, _ => Nat.le_refl _
  | k + 1, n => by
    have := cnB_le N a k n
    unfold cnB
    split <;> omega
theorem cnA_le (N : Nat) : ∀ k n, cnA N k n ≤ k * N
  | 0, _ => Nat.zero_le _
  | k + 1, n => by
    have := cnA_le N k n
    have := cnB_le N k N n
    unfold cnA
    rw [Nat.succ_mul]
    omega
theorem cn_le {N k b n : Nat} (hN : N ≤ 31) (hk : k < N) (hb : b ≤ N) : cnA N k n + cnB N k b n ≤ 961 := by
  have h1 := cnA_le N k n
  have h2 := cnB_le N k b n
  have h3 : (k + 1) * N ≤ 31 * 31 := Nat.mul_le_mul (by omega) hN
  rw [Nat.succ_mul] at h3
  omega
theorem len_lt {N : Nat} {A B : Int} (h : vB N A B = true) : (ptsL N A B).length < 2 * N + 2 := by
  have h1 := (hasse h).2.1
  have h2 : 1 ≤ (ptsL N (twA N A) (twB N B)).length := by unfold ptsL; rw [List.length_append]; simp
  omega
theorem cnB_zero {N a : Nat} : ∀ k n, 2 * N + 2 ≤ n → cnB N a k n = 0
  | 0, _, _ => rfl
  | k + 1, n, h => by
    unfold cnB
    rw [cnB_zero k n h]
    by_cases hv : vB N a k = true
    · have := len_lt hv
      rw [if_neg (by simp; omega)]
    · rw [if_neg (by simp [hv])]
theorem cnA_zero {N : Nat} : ∀ k n, 2 * N + 2 ≤ n → cnA N k n = 0
  | 0, _, _ => rfl
  | k + 1, n, h => by
    unfold cnA
    rw [cnA_zero k n h, cnB_zero N n h]
def outN (f : Nat → Nat) : Nat → List (Int × Int)
  | 0 => []
  | k + 1 => outN f k ++ if 0 < f k then [((k : Int), (f k : Int))] else []
theorem outN_len (f : Nat → Nat) : ∀ k, (outN f k).length ≤ k
  | 0 => Nat.le_refl _
  | k + 1 => by
    have := outN_len f k
    unfold outN
    rw [List.length_append]
    split <;> simp <;> omega
theorem outN_more (f : Nat → Nat) (m : Nat) (h : ∀ n, m ≤ n → f n = 0) : ∀ j, outN f (m + j) = outN f m
  | 0 => rfl
  | j + 1 => by
    have := outN_more f m h j
    rw [← Nat.add_assoc, outN, this, h (m + j) (by omega)]
    simp
/-- what Counts returns -/
def cntL (N : Nat) : List (Int × Int) := outN (cnA N N) (2 * N + 2)
theorem cntL_ref {N : Nat} (hN : N ≤ 31) : outN (cnA N N) 70 = cntL N := by
  have := outN_more (cnA N N) (2 * N + 2) (fun n h => cnA_zero N n h) (70 - (2 * N + 2))
  rw [show 2 * N + 2 + (70 - (2 * N + 2)) = 70 by omega] at this
  exact this
theorem cntL_len {N : Nat} (hN : N ≤ 31) : (cntL N).length ≤ 70 := by
  have := outN_len (cnA N N) (2 * N + 2)
  unfold cntL
  omega

def fl2 (S : List (Int × Int)) : List Value := S.flatMap fun t => [.int .i64 t.1, .int .i64 t.2]
theorem fl2_app (S T : List (Int × Int)) : fl2 (S ++ T) = fl2 S ++ fl2 T := by simp [fl2]
theorem fl2_one (S : List (Int × Int)) : ∀ u ∈ fl2 S, u.oneCell' = true := by
  intro u hu
  unfold fl2 at hu
  rw [List.mem_flatMap] at hu
  obtain ⟨p, -, hp⟩ := hu
  simp at hp
  rcases hp with rfl | rfl <;> rfl
theorem fl2_at : ∀ (S : List (Int × Int)) (j : Nat), j < S.length → (fl2 S)[j * 2]? = some (.int .i64 (S.getD j (0, 0)).1) ∧ (fl2 S)[j * 2 + 1]? = some (.int .i64 (S.getD j (0, 0)).2)
  | [], j, h => absurd h (by simp)
  | p :: t, 0, _ => by simp [fl2]
  | p :: t, j + 1, h => by
    have ih := fl2_at t j (by simpa using h)
    have e : fl2 (p :: t) = .int .i64 p.1 :: .int .i64 p.2 :: fl2 t := by simp [fl2]
    rw [e, show (j + 1) * 2 = j * 2 + 1 + 1 by omega]
    simpa [List.getD] using ih
/-- A row of pairs of the call's own. -/
def RowQ (B : Nat) (v : Value) (S : List (Int × Int)) (W : World) : Prop := W.ownsRow B 78 2 v S.length (fl2 S)
theorem RowQ.nil (B : Nat) (W : World) : RowQ B (.slice none 0 0) [] W := World.ownsRow_nil _ _ _ _
theorem RowQ.later {B : Nat} {v : Value} {S : List (Int × Int)} {W W' : World} (h : RowQ B v S W) (hb : Below W.heap.size W W') : RowQ B v S W' := own_later h hb
theorem RowQ.mono {B B' : Nat} {v : Value} {S : List (Int × Int)} {W : World} (h : RowQ B v S W) (hb : B' ≤ B) : RowQ B' v S W := Joins.ownsRow_le h hb
/-- Pairs as they lie. -/
def AgQ (w : World) (a : Option Addr) (n : Nat) (S : List (Int × Int)) : Prop :=
  S.length = n ∧ (n = 0 ∨ ∃ b off, a = some ⟨b, off, none⟩ ∧ b < w.heap.size ∧ ∀ j, j < n →
    w.cell? ⟨b, off + j * 2, none⟩ = some (.int .i64 (S.getD j (0, 0)).1) ∧ w.cell? ⟨b, off + j * 2 + 1, none⟩ = some (.int .i64 (S.getD j (0, 0)).2))
theorem AgQ.later {w w' : World} {a : Option Addr} {n : Nat} {S : List (Int × Int)} (h : AgQ w a n S) (hb : Below w.heap.size w w') : AgQ w' a n S := by
  refine ⟨h.1, h.2.imp id ?_⟩
  rintro ⟨b, off, h1, h2, h3⟩
  refine ⟨b, off, h1, Nat.lt_of_lt_of_le h2 hb.size, fun j hj => ?_⟩
  obtain ⟨c0, c1⟩ := h3 j hj
  exact ⟨(hb.cell (p := ⟨b, _, none⟩) h2).trans c0, (hb.cell (p := ⟨b, _, none⟩) h2).trans c1⟩
theorem AgQ.of {B : Nat} {v : Value} {S : List (Int × Int)} {W : World} (h : RowQ B v S W) : ∃ a c, v = .slice a S.length c ∧ S.length ≤ c ∧ c ≤ maxLen ∧ AgQ W a S.length S := by
  unfold RowQ at h
  rcases h.2 with ⟨h1, h2⟩ | ⟨g, cap, cur, h1, h2, h3, h4, h5, h6, h7⟩
  · have : S = [] := List.length_eq_zero_iff.1 h2
    subst this
    exact ⟨none, 0, h1, Nat.le_refl _, by unfold maxLen; omega, rfl, .inl rfl⟩
  · subst h1
    refine ⟨_, cap, rfl, h4, h5, rfl, .inr ⟨g, 0, rfl, (Array.getElem?_eq_some_iff.1 h3).1, fun j hj => ?_⟩⟩
    have h' : W.ownsRow B 78 2 (.slice (some ⟨g, 0, none⟩) S.length cap) S.length (fl2 S) := h
    obtain ⟨a, b⟩ := fl2_at S j hj
    rw [Nat.zero_add]
    refine ⟨?_, ?_⟩
    · rw [h'.cellAt (j * 2) (by omega)]; exact a
    · rw [h'.cellAt (j * 2 + 1) (by omega)]; exact b
theorem cell2_new (W : World) (p : Int × Int) (t : TypeId) : ∀ (j : Nat) (u : Value), (fl2 [p])[j]? = some u → (W.alloc (.cells #[.int .i64 p.1, .int .i64 p.2] t)).cell? ((⟨W.heap.size, 0, none⟩ : Addr).add j) = some u := by
  intro j u h
  have hn : (W.alloc (.cells #[.int .i64 p.1, .int .i64 p.2] t)).heap[W.heap.size]? = some (.cells #[.int .i64 p.1, .int .i64 p.2] t (0, 0)) := heap_alloc_last W _
  unfold World.cell?
  rw [show ((⟨W.heap.size, 0, none⟩ : Addr).add j).block = W.heap.size by unfold Addr.add; split <;> rfl, hn]
  simp only [fl2, List.flatMap_cons, List.flatMap_nil, List.append_nil] at h
  match j, h with
  | 0, h => simpa [Addr.add] using h
  | 1, h => simpa [Addr.add] using h
  | j + 2, h => simp at h
theorem info78 : (Tryd.prog.info? 78).map (fun i => (i.zero, i.size, i.bytes)) = some (some (.agg #[.int .i64 0, .int .i64 0]), 2, 16) := by kernel_rfl
theorem CoState.later {g m : Nat} {f : Nat → Int} {w W W' : World} (h : CoState g m f w W) (hb : Below W.heap.size W W') : CoState g m f w W' := ⟨h.b.trans (hb.mono h.b.size), own_later h.own hb⟩
end Go.Proofs.YtoepghlkjbpkfaaDoor
