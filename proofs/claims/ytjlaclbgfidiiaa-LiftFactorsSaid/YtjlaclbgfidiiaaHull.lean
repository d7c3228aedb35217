/- The lower boundary of points, as a function; rows of sides; a step of append. No condition beyond those stated. -/
import Derived.Test.YtjlaclbgfidiiaaPt4
import Derived.Laws.AppendOwn
namespace Go.Proofs.Ytjlaclbgfidiiaa
open Go.RowKit
attribute [local go_sem] Oper.semAt_some

/-- From, to, and the slope's two numbers. -/
abbrev Sd := Int × Int × Int × Int
def fl4 (S : List Sd) : List Value := S.flatMap fun p => [.int .i64 p.1, .int .i64 p.2.1, .int .i64 p.2.2.1, .int .i64 p.2.2.2]
theorem fl4_len (S : List Sd) : (fl4 S).length = S.length * 4 := by
  induction S with
  | nil => rfl
  | cons a t ih => simp [fl4] at ih ⊢; omega
theorem fl4_app (S T : List Sd) : fl4 (S ++ T) = fl4 S ++ fl4 T := by simp [fl4]
theorem fl4_one (S : List Sd) : ∀ u ∈ fl4 S, u.oneCell' = true := by
  intro u hu
  unfold fl4 at hu
  rw [List.mem_flatMap] at hu
  obtain ⟨p, -, hp⟩ := hu
  simp at hp
  rcases hp with rfl | rfl | rfl | rfl <;> rfl
def nth4 (L : List Sd) (j : Nat) : Sd := L.getD j (0, 0, 0, 0)
theorem fl4_at : ∀ (S : List Sd) (j : Nat), j < S.length → (fl4 S)[j * 4]? = some (.int .i64 (nth4 S j).1) ∧ (fl4 S)[j * 4 + 1]? = some (.int .i64 (nth4 S j).2.1) ∧ (fl4 S)[j * 4 + 2]? = some (.int .i64 (nth4 S j).2.2.1) ∧ (fl4 S)[j * 4 + 3]? = some (.int .i64 (nth4 S j).2.2.2)
  | [], j, h => absurd h (by simp)
  | p :: t, 0, _ => by simp [fl4, nth4]
  | p :: t, j + 1, h => by
    have ih := fl4_at t j (by simpa using h)
    have e : fl4 (p :: t) = .int .i64 p.1 :: .int .i64 p.2.1 :: .int .i64 p.2.2.1 :: .int .i64 p.2.2.2 :: fl4 t := by simp [fl4]
    rw [e, show (j + 1) * 4 = j * 4 + 1 + 1 + 1 + 1 by omega]
    simpa [nth4, List.getD] using ih
/-- A row of sides of the call's own. -/
def Row4 (B : Nat) (v : Value) (S : List Sd) (W : World) : Prop := W.ownsRow B 69 4 v S.length (fl4 S)
theorem Row4.nil (B : Nat) (W : World) : Row4 B (.slice none 0 0) [] W := World.ownsRow_nil _ _ _ _
theorem Row4.later {B : Nat} {v : Value} {S : List Sd} {W W' : World} (h : Row4 B v S W) (hb : Below W.heap.size W W') : Row4 B v S W' := own_later h hb
theorem Row4.cell {B g n c : Nat} {S : List Sd} {W : World} (h : Row4 B (.slice (some ⟨g, 0, none⟩) n c) S W) {j : Nat} (hj : j < S.length) :
    W.cell? ⟨g, j * 4, none⟩ = some (.int .i64 (nth4 S j).1) ∧ W.cell? ⟨g, j * 4 + 1, none⟩ = some (.int .i64 (nth4 S j).2.1) ∧ W.cell? ⟨g, j * 4 + 2, none⟩ = some (.int .i64 (nth4 S j).2.2.1) ∧ W.cell? ⟨g, j * 4 + 3, none⟩ = some (.int .i64 (nth4 S j).2.2.2) := by
  have hl : n = S.length := by
    rcases h.2 with ⟨h1, -⟩ | ⟨g', cap, cur, h1, -⟩
    · cases h1
    · cases h1; rfl
  subst hl
  obtain ⟨a, b, c, d⟩ := fl4_at S j hj
  refine ⟨?_, ?_, ?_, ?_⟩
  · rw [h.cellAt (j * 4) (by omega)]; exact a
  · rw [h.cellAt (j * 4 + 1) (by omega)]; exact b
  · rw [h.cellAt (j * 4 + 2) (by omega)]; exact c
  · rw [h.cellAt (j * 4 + 3) (by omega)]; exact d
theorem Row4.form {B : Nat} {v : Value} {S : List Sd} {W : World} (h : Row4 B v S W) : ∃ a c, v = .slice a S.length c ∧ S.length ≤ c ∧ c ≤ maxLen ∧ ((a = none ∧ S = [] ∧ c = 0) ∨ ∃ g, a = some ⟨g, 0, none⟩ ∧ B ≤ g ∧ g < W.heap.size) := by
  rcases h.2 with ⟨h1, h2⟩ | ⟨g, cap, cur, h1, h2, h3, h4, h5, h6, h7⟩
  · have : S = [] := List.length_eq_zero_iff.1 h2
    subst this
    exact ⟨none, 0, h1, Nat.le_refl _, by unfold maxLen; omega, .inl ⟨rfl, rfl, rfl⟩⟩
  · exact ⟨_, cap, h1, h4, h5, .inr ⟨g, rfl, h2, (Array.getElem?_eq_some_iff.1 h3).1⟩⟩
theorem info69 : (Try.prog.info? 69).map (fun i => (i.zero, i.size, i.bytes)) = some (some (.agg #[.int .i64 0, .int .i64 0, .int .i64 0, .int .i64 0]), 4, 32) := by kernel_rfl
theorem cell4_new (W : World) (p : Sd) (t : TypeId) : ∀ (j : Nat) (u : Value), (fl4 [p])[j]? = some u → (W.alloc (.cells #[.int .i64 p.1, .int .i64 p.2.1, .int .i64 p.2.2.1, .int .i64 p.2.2.2] t)).cell? ((⟨W.heap.size, 0, none⟩ : Addr).add j) = some u := by
  intro j u h
  have hn : (W.alloc (.cells #[.int .i64 p.1, .int .i64 p.2.1, .int .i64 p.2.2.1, .int .i64 p.2.2.2] t)).heap[W.heap.size]? = some (.cells #[.int .i64 p.1, .int .i64 p.2.1, .int .i64 p.2.2.1, .int .i64 p.2.2.2] t (0, 0)) := heap_alloc_last W _
  unfold World.cell?
  rw [show ((⟨W.heap.size, 0, none⟩ : Addr).add j).block = W.heap.size by unfold Addr.add; split <;> rfl, hn]
  simp only [fl4, List.flatMap_cons, List.flatMap_nil, List.append_nil] at h
  match j, h with
  | 0, h => simpa [Addr.add] using h
  | 1, h => simpa [Addr.add] using h
  | 2, h => simpa [Addr.add] using h
  | 3, h => simpa [Addr.add] using h
  | j + 4, h => simp at h
set_option maxRecDepth 100000 in
/-- append of one side, inside a region. -/
theorem step_app4 {ops : Array Oper} {o : Oper} {a : Act} {w : World} {K : Act → World → Prop} {Q : Exit → Act → World → Prop} {E : Prop} (hgd : o.guard = none) (s x : Operand)
    (ho : o.op = .call { callee := .builtin .append, args := #[s, x], argTypes := #[36, 36] })
    (B : Nat) (v : Value) (S : List Sd) (hs : a.eval s = v) (hown : Row4 B v S w) (ad : Addr) (c : Nat) (y : Sd) (hx : a.eval x = .slice (some ad) 1 c) (hy : ∀ j u, (fl4 [y])[j]? = some u → w.cell? (ad.add j) = some u)
    (hlen : S.length ≤ 100000) (hB : B ≤ w.heap.size)
    (h : ∀ v' w', Row4 B v' (S ++ [y]) w' → Below B w w' → K (a.put o.dst v') w') :
    if Region.wanted o (yielded ops a.tmps) = true then Oper.wp Try.prog o a w K Q else E := by
  have hw : Region.wanted o (yielded ops a.tmps) = true := by simp [Region.wanted, hgd]
  rw [if_pos hw]
  obtain ⟨i3, j1, j2, j3, j4⟩ := info_parts info69
  refine wp_append_own (P := Try.prog) w s x 36 ho B 69 i3 (.agg #[.int .i64 0, .int .i64 0, .int .i64 0, .int .i64 0]) 4 32 Try.underlying36 j1 j2 j3 j4 rfl (by decide) v _ _ hs hown ad 1 c (fl4 [y]) hx (by rw [fl4_len]; rfl) hy (fl4_one _) (by unfold maxLen; omega) (by omega) hB fun v' w' h1 h2 _ => h v' w' ?_ ?_
  · unfold Row4
    rw [List.length_append, fl4_app]
    exact h1
  · exact (Below.refl B w).grown h2 hB fun k hk => (World.ownsRow.lt hown k hk).1

/-- The end of the side that starts at the first point, when i points have been looked at. -/
def endE (L : List (Int × Int)) : Nat → Nat
  | 0 => 1
  | i + 1 => if endE L i < i ∧ seesF (nth L 0) (nth L (endE L i)) (nth L i) = true then i else endE L i
theorem endE_le (L : List (Int × Int)) : ∀ i, 1 ≤ endE L i ∧ (endE L i = 1 ∨ endE L i < i)
  | 0 => ⟨Nat.le_refl _, .inl rfl⟩
  | i + 1 => by
    have ih := endE_le L i
    simp only [endE]
    split <;> omega
def sideF (a b : Int × Int) : Sd := (a.1, b.1, frN (b.2 - a.2) (b.1 - a.1), frD (b.2 - a.2) (b.1 - a.1))
/-- The sides from left to right. -/
def hullF : Nat → List (Int × Int) → List Sd
  | 0, _ => []
  | k + 1, L => if L.length ≤ 1 then [] else sideF (nth L 0) (nth L (endE L L.length)) :: hullF k (L.drop (endE L L.length))
theorem hullF_small {k : Nat} {L : List (Int × Int)} (h : L.length ≤ 1) : hullF k L = [] := by
  cases k with
  | zero => rfl
  | succ k => simp only [hullF]; rw [if_pos h]
theorem hullF_step {k : Nat} {L : List (Int × Int)} (h : ¬ L.length ≤ 1) : hullF (k + 1) L = sideF (nth L 0) (nth L (endE L L.length)) :: hullF k (L.drop (endE L L.length)) := by
  simp only [hullF]; rw [if_neg h]
/-- Points from left to right, of small numbers. -/
def okL (L : List (Int × Int)) : Prop := (∀ j, j < L.length → okP (nth L j)) ∧ ∀ i j, i < j → j < L.length → (nth L i).1 < (nth L j).1
theorem nth_drop (L : List (Int × Int)) (e j : Nat) : nth (L.drop e) j = nth L (e + j) := by
  unfold nth
  simp [List.getD, List.getElem?_drop]
theorem okL.drop {L : List (Int × Int)} (h : okL L) (e : Nat) : okL (L.drop e) := by
  refine ⟨fun j hj => ?_, fun i j hi hj => ?_⟩
  · rw [nth_drop]; rw [List.length_drop] at hj; exact h.1 _ (by omega)
  · rw [nth_drop, nth_drop]; rw [List.length_drop] at hj; exact h.2 _ _ (by omega) (by omega)
theorem Prs.drop {w : World} {b off n e : Nat} {xs : List (Int × Int)} (hl : xs.length = n) (hb : b < w.heap.size) (h : ∀ j, j < n → w.cell? ⟨b, off + j * 2, none⟩ = some (.int .i64 (nth xs j).1) ∧ w.cell? ⟨b, off + j * 2 + 1, none⟩ = some (.int .i64 (nth xs j).2)) :
    Prs w (some ⟨b, off + e * 2, none⟩) (n - e) (xs.drop e) := by
  refine ⟨by rw [List.length_drop, hl], .inr ⟨b, _, rfl, hb, fun j hj => ?_⟩⟩
  rw [nth_drop, show off + e * 2 + j * 2 = off + (e + j) * 2 by omega]
  exact h _ (by omega)
end Go.Proofs.Ytjlaclbgfidiiaa
