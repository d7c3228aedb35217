/- slices.Equal at whole numbers that are the same; a row of pairs as a copy of an argument; a store into it. Condition: the rows lie in memory. -/
import Derived.Test.YtanhjgneaaenpaaNeed
import Derived.Test.YtanhjgneaaenpaaMoves
namespace Go.Proofs.Ytanhjgneaaenpaa
open Go.RowKit
attribute [local go_sem] Oper.semAt_some

theorem RowI.form {B : Nat} {v : Value} {l : List Int} {W : World} (h : RowI B v l W) : ∃ a c, v = .slice a l.length c ∧ l.length ≤ c ∧ c ≤ maxLen ∧ ((a = none ∧ l = []) ∨ ∃ g, a = some ⟨g, 0, none⟩ ∧ B ≤ g ∧ ∀ j, j < l.length → W.cell? ⟨g, 0 + j, none⟩ = some (.int .i64 (l.getD j 0))) := by
  rcases h.2 with ⟨h1, h2⟩ | ⟨g, cap, cur, h1, h2, h3, h4, h5, h6, h7⟩
  · have : l = [] := List.length_eq_zero_iff.1 h2
    subst this
    exact ⟨none, 0, h1, Nat.le_refl _, by unfold maxLen; omega, .inl ⟨rfl, rfl⟩⟩
  · subst h1
    refine ⟨_, cap, rfl, h4, h5, .inr ⟨g, rfl, h2, fun j hj => ?_⟩⟩
    have h' := h
    unfold RowI at h'
    rw [Nat.zero_add, h'.cellAt j (by omega)]
    simp [List.getD, hj]
theorem equalI_any (l : List Int) (hl : l.length ≤ 1000000) (v1 v2 : Value) (B1 B2 : Nat) (w : World) (h1 : RowI B1 v1 l w) (h2 : RowI B2 v2 l w) :
    Calls Try.prog 24 #[v1, v2] w fun e w' => e = .returned (.bool true) ∧ ∃ q, w' = w.drewN q := by
  obtain ⟨a1, c1, rfl, -, -, k1⟩ := h1.form
  obtain ⟨a2, c2, rfl, -, -, k2⟩ := h2.form
  by_cases h0 : l.length = 0
  · rw [h0]
    refine (Try.slices_Equal_int_empty a1 a2 c1 0 c2 w (by omega)).mono ?_
    rintro e w' ⟨rfl, rfl⟩
    exact ⟨rfl, 0, rfl⟩
  · rcases k1 with ⟨-, rfl⟩ | ⟨g1, rfl, -, k1⟩
    · exact absurd rfl h0
    · rcases k2 with ⟨-, rfl⟩ | ⟨g2, rfl, -, k2⟩
      · exact absurd rfl h0
      · refine (Try.slices_Equal_int g1 0 l.length c1 g2 0 l.length c2 l l w (Nat.le_refl _) (Nat.le_refl _) (by omega) (by omega) k1 k2).mono ?_
        rintro e w' ⟨rfl, q, rfl⟩
        exact ⟨ret_bool (by simp), q, rfl⟩

set_option maxHeartbeats 1000000 in
theorem pairs_row (a : Option Addr) (n c : Nat) (xs : List (Int × Int)) (w : World) (h : Prs w a n xs) (hc : n ≤ c) (hn : n ≤ 12) (hcm : c ≤ maxLen) (h1 : 1 ≤ n) :
    Calls Try.prog 15 #[.slice a n c] w fun e w' => ∃ g co, e = .returned (.slice (some ⟨g, 0, none⟩) n co) ∧ Row2 w.heap.size (.slice (some ⟨g, 0, none⟩) n co) xs w' ∧ w.heap.size ≤ g ∧ n ≤ co ∧ co ≤ maxLen ∧ Below w.heap.size w w' := by
  have H := Lib.hid h
  have HL := Lib.hid h.1
  clear h
  have e : (min (n : Int) 12).toNat = n := by omega
  have HE := Lib.hid e
  clear e
  go_enter Try.func15, Try.ntmps15
  go_wp2_with fail
  rw [HE.out]
  refine (clone2_any a n c xs w H.out (by omega)).mono ?_
  rintro e w1 ⟨v', rfl, ho, hb⟩
  obtain ⟨ao, co, rfl, h2, h3, h4⟩ := ho.form
  rw [HL.out] at h2 ho ⊢
  rcases h4 with ⟨rfl, h5, -⟩ | ⟨g, rfl, h6, h7⟩
  · have := HL.out; rw [h5] at this; simp at this; omega
  · have HO := Lib.hid (And.intro ho (And.intro h6 (And.intro h2 (And.intro h3 hb))))
    clear ho h2 h3 h6 h7 hb
    go_wp2
    go_ret
    exact ⟨g, co, rfl, HO.out⟩

theorem fl_set1 : ∀ (S : List (Int × Int)) (j : Nat) (x : Int), j < S.length → (fl S).set (j * 2) (.int .i64 x) = fl (S.set j (x, (nth S j).2))
  | [], j, _, h => absurd h (by simp)
  | p :: t, 0, x, _ => by simp [fl, nth]
  | p :: t, j + 1, x, h => by
    have ih := fl_set1 t j x (by simpa using h)
    have e : ∀ (q : Int × Int) (S : List (Int × Int)), fl (q :: S) = .int .i64 q.1 :: .int .i64 q.2 :: fl S := fun q S => by simp [fl]
    rw [e, show (j + 1) * 2 = j * 2 + 1 + 1 by omega, show (p :: t).set (j + 1) (x, (nth (p :: t) (j + 1)).2) = p :: t.set j (x, (nth t j).2) from rfl, e, ← ih]
    rfl
theorem Row2.put {B g n c : Nat} {S : List (Int × Int)} {W : World} (h : Row2 B (.slice (some ⟨g, 0, none⟩) n c) S W) {j : Nat} (hj : j < S.length) (x : Int) :
    Row2 B (.slice (some ⟨g, 0, none⟩) n c) (S.set j (x, (nth S j).2)) (W.setCell ⟨g, j * 2, none⟩ (.int .i64 x)) := by
  have hl : n = S.length := by
    rcases h.2 with ⟨h1, -⟩ | ⟨g', cap, cur, h1, -⟩
    · cases h1
    · cases h1; rfl
  subst hl
  unfold Row2
  rw [List.length_set, ← fl_set1 S j x hj]
  exact (World.ownsRow.stored (h := h) (j * 2) (.int .i64 x)).1
theorem Row2.frozen {B g n c : Nat} {S : List (Int × Int)} {W : World} (h : Row2 B (.slice (some ⟨g, 0, none⟩) n c) S W) (j : Nat) : W.frozen? ⟨g, j, none⟩ = false := by
  have hl : n = S.length := by
    rcases h.2 with ⟨h1, -⟩ | ⟨g', cap, cur, h1, -⟩
    · cases h1
    · cases h1; rfl
  subst hl
  exact World.ownsRow.frozenAt h j
theorem Row2.later {B : Nat} {v : Value} {S : List (Int × Int)} {W W' : World} (h : Row2 B v S W) (hb : Below W.heap.size W W') : Row2 B v S W' := own_later h hb
theorem Row2.drew {B : Nat} {v : Value} {S : List (Int × Int)} {W : World} (h : Row2 B v S W) (q : Nat) : Row2 B v S (W.drewN q) := own_same h fun _ _ _ => rfl
/-- The pairs of which the first j are moved. -/
def mvl (b : Int) (L : List (Int × Int)) (j : Nat) : List (Int × Int) := (L.take j).map (movP b) ++ L.drop j
theorem mvl_len (b : Int) (L : List (Int × Int)) (j : Nat) : (mvl b L j).length = L.length := by simp [mvl]; omega
theorem mvl_nth {b : Int} {L : List (Int × Int)} {j : Nat} (hj : j < L.length) : nth (mvl b L j) j = nth L j := by
  unfold nth mvl
  rw [List.getD_eq_getElem?_getD, List.getD_eq_getElem?_getD, List.getElem?_append_right (by simp; omega)]
  simp
  congr 2
  omega
theorem mvl_succ {b : Int} {L : List (Int × Int)} {j : Nat} (hj : j < L.length) : (mvl b L j).set j (movP b (nth L j)) = mvl b L (j + 1) := by
  unfold mvl
  have hl : ((L.take j).map (movP b)).length = j := by simp; omega
  rw [List.set_append_right _ _ (by omega), hl, Nat.sub_self, List.drop_eq_getElem_cons hj, List.set_cons_zero, take_succ2 hj, List.map_append, List.append_assoc]
  rfl
theorem mvl_all (b : Int) (L : List (Int × Int)) : mvl b L L.length = mov b L := by unfold mvl mov; simp
end Go.Proofs.Ytanhjgneaaenpaa
