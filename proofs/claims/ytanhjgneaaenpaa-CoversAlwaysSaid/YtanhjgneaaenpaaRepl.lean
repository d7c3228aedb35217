/- The walks of system.replaced and refined. Condition: the slices lie in memory. -/
import Derived.Test.YtanhjgneaaenpaaAsk
import Derived.Deep.RegionLaw
namespace Go.Proofs.Ytanhjgneaaenpaa
open Go.RowKit
attribute [local go_sem] Oper.semAt_some

theorem own_base {B B' n : Nat} {e : TypeId} {s : Nat} {v : Value} {xs : List Value} {W : World} (h : W.ownsRow B' e s v n xs) (hB : B ≤ B') : W.ownsRow B e s v n xs := by
  refine ⟨h.1, h.2.imp id ?_⟩
  rintro ⟨g, cap, cur, h1, h2, h3⟩
  exact ⟨g, cap, cur, h1, Nat.le_trans hB h2, h3⟩
/-- A slice to which pairs are appended: a row of the call's own, or one that is full. -/
def Bas (B : Nat) (v : Value) (xs : List (Int × Int)) (W : World) : Prop :=
  Row2 B v xs W ∨ ∃ b off, v = .slice (some ⟨b, off, none⟩) xs.length xs.length ∧ b < W.heap.size ∧ ∀ j u, (fl xs)[j]? = some u → W.cell? ⟨b, off + j, none⟩ = some u
/-- The pairs that are appended. -/
def Src (ao : Option Addr) (m : Nat) (ys : List (Int × Int)) (W : World) : Prop :=
  ys.length = m ∧ ((ao = none ∧ m = 0) ∨ ∃ ad, ao = some ad ∧ ∀ j u, (fl ys)[j]? = some u → W.cell? (ad.add j) = some u)
theorem Prs.src {w : World} {a : Option Addr} {n : Nat} {xs : List (Int × Int)} (h : Prs w a n xs) : Src a n xs w := by
  refine ⟨h.1, ?_⟩
  by_cases h0 : n = 0
  · subst h0
    have : xs = [] := List.length_eq_zero_iff.1 h.1
    subst this
    cases a with
    | none => exact .inl ⟨rfl, rfl⟩
    | some ad => exact .inr ⟨ad, rfl, fun j u hj => by simp [fl] at hj⟩
  · obtain ⟨b, off, rfl, hb, hc⟩ := h.at (by omega)
    exact .inr ⟨_, rfl, fun j u hj => by rw [Addr.add_lit]; exact Prs.cells h.1 hc j u hj⟩
theorem Bas.prs {B : Nat} {v : Value} {xs : List (Int × Int)} {W : World} (h : Bas B v xs W) (hl : xs.length ≤ 1000000) : ∃ a c, v = .slice a xs.length c ∧ xs.length ≤ c ∧ c ≤ maxLen ∧ Prs W a xs.length xs := by
  rcases h with h | ⟨b, off, rfl, hb, hc⟩
  · exact h.prs
  · refine ⟨_, _, rfl, Nat.le_refl _, by unfold maxLen; omega, rfl, .inr ⟨b, off, rfl, hb, fun j hj => ?_⟩⟩
    obtain ⟨f0, f1⟩ := fl_at xs j hj
    exact ⟨hc _ _ f0, by rw [Nat.add_assoc]; exact hc _ _ f1⟩

theorem step_app2 {ops : Array Oper} {o : Oper} {a : Act} {w : World} {K : Act → World → Prop} {Q : Exit → Act → World → Prop} {E : Prop} (hgd : o.guard = none) (s x : Operand)
    (ho : o.op = .call { callee := .builtin .append, args := #[s, x], argTypes := #[58, 58] })
    (B : Nat) (v : Value) (xs : List (Int × Int)) (hs : a.eval s = v) (hown : Bas B v xs w) (ao : Option Addr) (m c : Nat) (ys : List (Int × Int)) (hx : a.eval x = .slice ao m c) (hy : Src ao m ys w)
    (hlen : xs.length + ys.length ≤ 100000) (hB : B ≤ w.heap.size)
    (h : ∀ v' w', Bas B v' (xs ++ ys) w' → Below B w w' → K (a.put o.dst v') w') :
    if Region.wanted o (yielded ops a.tmps) = true then Oper.wp Try.prog o a w K Q else E := by
  have hw : Region.wanted o (yielded ops a.tmps) = true := by simp [Region.wanted, hgd]
  rw [if_pos hw]
  obtain ⟨i3, j1, j2, j3, j4⟩ := info_parts info44
  have j0 := Try.underlying58
  obtain ⟨hl, hy⟩ := hy
  rcases hown with hown | ⟨b, off, rfl, hb, hcell⟩
  · rcases hy with ⟨rfl, rfl⟩ | ⟨ad, rfl, hc⟩
    · have e : ys = [] := List.length_eq_zero_iff.1 hl
      have hr : ∀ ty, (Builtin.append_ #[58, 58] ty #[v, .slice none 0 c]).run Try.prog w = .ok v w := by
        intro ty
        rcases hown.2 with ⟨rfl, -⟩ | ⟨g, cap, cur, rfl, _, _, hnc, _⟩
        · simp [Builtin.append_, run_underlying j0, sizeOf, typeInfo, j1, Builtin.lenOf, Builtin.firstCells]
        · simp [Builtin.append_, run_underlying j0, sizeOf, typeInfo, j1, Builtin.lenOf, Builtin.firstCells, hnc, storeCells]
      unfold Oper.wp execOp
      simp only [ho, resolve, invoke, builtin, Sem.run_bind, Sem.run_pure, Result.andThen_ok, List.map_toArray, List.map_cons, List.map_nil, hs, hx, hr]
      exact h v w (by rw [e, List.append_nil]; exact .inl hown) (Below.refl _ _)
    · refine wp_append_own (P := Try.prog) w s x 58 ho B 44 i3 (.agg #[.int .i64 0, .int .i64 0]) 2 16 j0 j1 j2 j3 j4 rfl (by decide) v _ _ hs hown ad m c (fl ys) hx (by rw [fl_len, hl]) hc (fl_one ys) (by unfold maxLen; omega) (by omega) hB fun v' w' h1 h2 _ => h v' w' (.inl ?_) ?_
      · unfold Row2
        rw [List.length_append, hl, fl_app]
        exact h1
      · refine (Below.refl B w).grown h2 hB fun k hk => ?_
        exact (World.ownsRow.lt hown k hk).1
  · rcases hy with ⟨rfl, rfl⟩ | ⟨ad, rfl, hc⟩
    · have e : ys = [] := List.length_eq_zero_iff.1 hl
      have hr : ∀ ty, (Builtin.append_ #[58, 58] ty #[.slice (some ⟨b, off, none⟩) xs.length xs.length, .slice none 0 c]).run Try.prog w = .ok (.slice (some ⟨b, off, none⟩) xs.length xs.length) w := by
        intro ty
        simp [Builtin.append_, run_underlying j0, sizeOf, typeInfo, j1, Builtin.lenOf, Builtin.firstCells, storeCells]
      unfold Oper.wp execOp
      simp only [ho, resolve, invoke, builtin, Sem.run_bind, Sem.run_pure, Result.andThen_ok, List.map_toArray, List.map_cons, List.map_nil, hs, hx, hr]
      exact h _ w (by rw [e, List.append_nil]; exact .inr ⟨b, off, rfl, hb, hcell⟩) (Below.refl _ _)
    · by_cases h0 : m = 0
      · subst h0
        have e : ys = [] := List.length_eq_zero_iff.1 hl
        subst e
        have hr : ∀ ty, (Builtin.append_ #[58, 58] ty #[.slice (some ⟨b, off, none⟩) xs.length xs.length, .slice (some ad) 0 c]).run Try.prog w = .ok (.slice (some ⟨b, off, none⟩) xs.length xs.length) w := by
          intro ty
          have := run_append_room_cells (P := Try.prog) w 58 ty 44 i3 j0 j1 b off xs.length xs.length ad 0 c [] (by simp) (fun j u hj => by simp at hj) (fun u hu => by cases hu) (by omega) (fun j hj => by simp at hj) (fun j hj => by simp at hj)
          exact this
        unfold Oper.wp execOp
        simp only [ho, resolve, invoke, builtin, Sem.run_bind, Sem.run_pure, Result.andThen_ok, List.map_toArray, List.map_cons, List.map_nil, hs, hx, hr]
        exact h _ w (by rw [List.append_nil]; exact .inr ⟨b, off, rfl, hb, hcell⟩) (Below.refl _ _)
      · obtain ⟨v', w', hrun, r1, r2⟩ := run_append_arg_grows (P := Try.prog) w 58 o.type 44 i3 (.agg #[.int .i64 0, .int .i64 0]) 2 16 j0 j1 j2 j3 j4 rfl (by decide) ⟨b, off, none⟩ xs.length xs.length (fl xs) (fl_len xs) (fun j u hj => by rw [Addr.add_lit]; exact hcell j u hj) ad m c (fl ys) (by rw [fl_len, hl]) hc (by omega) (by unfold maxLen; omega) (by omega)
        unfold Oper.wp execOp
        simp only [ho, resolve, invoke, builtin, Sem.run_bind, Sem.run_pure, Result.andThen_ok, List.map_toArray, List.map_cons, List.map_nil, hs, hx, hrun]
        refine h v' w' (.inl ?_) ((Below.refl B w).grown r2 hB fun k hk => by cases hk)
        unfold Row2
        rw [List.length_append, hl, fl_app]
        exact own_base r1 hB

theorem repl_facts {b off n i : Nat} {xs : List (Int × Int)} {w : World} (hl : xs.length = n) (hi : i < n) (hb : b < w.heap.size) (hcell : ∀ j, j < n → w.cell? ⟨b, off + j * 2, none⟩ = some (.int .i64 (nth xs j).1) ∧ w.cell? ⟨b, off + j * 2 + 1, none⟩ = some (.int .i64 (nth xs j).2)) :
    (∀ W, Below w.heap.size w W → Bas w.heap.size (.slice (some ⟨b, off, none⟩) i i) (xs.take i) W) ∧
    (∀ W, Below w.heap.size w W → ∀ (ad : Addr) (m : Nat), m = n - (i + 1) → (m = 0 ∨ ad = ⟨b, off + (i + 1) * 2, none⟩) → Src (some ad) m (xs.drop (i + 1)) W) := by
  have hl1 : (xs.take i).length = i := by rw [List.length_take, hl]; omega
  have hl2 : (xs.drop (i + 1)).length = n - (i + 1) := by rw [List.length_drop, hl]
  have hB1 : ∀ W, Below w.heap.size w W → Bas w.heap.size (.slice (some ⟨b, off, none⟩) i i) (xs.take i) W := by
    intro W hW
    refine .inr ⟨b, off, by rw [hl1], Nat.lt_of_lt_of_le hb hW.size, ?_⟩
    exact Prs.cells hl1 fun j hj => by
      have e : nth (xs.take i) j = nth xs j := by simp [nth, List.getD, hj]
      rw [e]
      exact ⟨(hW.cell (p := ⟨b, off + j * 2, none⟩) hb).trans (hcell j (by omega)).1, (hW.cell (p := ⟨b, off + j * 2 + 1, none⟩) hb).trans (hcell j (by omega)).2⟩
  have hT : ∀ W, Below w.heap.size w W → ∀ (ad : Addr) (m : Nat), m = n - (i + 1) → (m = 0 ∨ ad = ⟨b, off + (i + 1) * 2, none⟩) → Src (some ad) m (xs.drop (i + 1)) W := by
    intro W hW ad m hm had
    subst hm
    refine ⟨hl2, .inr ⟨ad, rfl, fun j u hj => ?_⟩⟩
    have hjl := (List.getElem?_eq_some_iff.1 hj).1
    rw [fl_len, hl2] at hjl
    rcases had with h0 | rfl
    · omega
    · rw [Addr.add_lit]
      refine (hW.cell (p := ⟨b, off + (i + 1) * 2 + j, none⟩) hb).trans ?_
      have := Prs.cells (w := w) (b := b) (off := off + (i + 1) * 2) (xs := xs.drop (i + 1)) hl2 (fun t ht => by
        have e : nth (xs.drop (i + 1)) t = nth xs (i + 1 + t) := by simp [nth, List.getD]
        rw [e, show off + (i + 1) * 2 + t * 2 = off + (i + 1 + t) * 2 by omega]
        exact hcell (i + 1 + t) (by omega))
      exact this j u hj
  exact ⟨hB1, hT⟩

attribute [local irreducible] Bas Src
set_option maxRecDepth 100000 in
set_option maxHeartbeats 4000000 in
theorem replaced_any (a : Option Addr) (n c i : Nat) (xs : List (Int × Int)) (ao : Option Addr) (m c' : Nat) (ys : List (Int × Int)) (w : World) (h : Prs w a n xs) (hi : i < n) (hc : n ≤ c) (hn : n ≤ 1000) (hcm : c ≤ maxLen) (hy : Prs w ao m ys) (hm : m ≤ 1000) :
    Calls Try.prog 53 #[.slice a n c, .int .i64 (i : Int), .slice ao m c'] w fun e w' => ∃ v', e = .returned v' ∧ Bas w.heap.size v' (xs.take i ++ ys ++ xs.drop (i + 1)) w' ∧ Below w.heap.size w w' := by
  unfold maxLen at hcm
  obtain ⟨b, off, rfl, hb, hcell⟩ := h.at (by omega)
  have HL := Lib.hid h.1
  have hl1 : (xs.take i).length = i := by rw [List.length_take, h.1]; omega
  have hl2 : (xs.drop (i + 1)).length = n - (i + 1) := by rw [List.length_drop, h.1]
  obtain ⟨hB1, hT⟩ := repl_facts h.1 hi hb hcell
  have hS : ∀ W, Below w.heap.size w W → Src ao m ys W := fun W hb => (hy.below hb).src
  have HB1 := Lib.hid hB1
  have HS := Lib.hid hS
  have HT := Lib.hid hT
  have HL1 := Lib.hid hl1
  have HL2 := Lib.hid hl2
  have HYL := Lib.hid hy.1
  have hlen1 : (xs.take i).length + ys.length ≤ 100000 := by rw [HL1.out, HYL.out]; omega
  have hlen2 : (xs.take i ++ ys).length + (xs.drop (i + 1)).length ≤ 100000 := by rw [List.length_append, HL1.out, HYL.out, HL2.out]; omega
  have HN1 := Lib.hid hlen1
  have HN2 := Lib.hid hlen2
  have i0 : (0 : Int) ≤ (i : Int) := by omega
  have i1 : (i : Int) < (n : Int) := by omega
  have i2 : (i : Int) ≤ (c : Int) := by omega
  have i3 : (i : Int) + 1 ≤ (n : Int) := by omega
  have i4 : (i : Int) + 1 ≤ (c : Int) := by omega
  have i5 : (0 : Int) ≤ (i : Int) + 1 := by omega
  have i6 : (i : Int) ≤ (i : Int) + 1 := by omega
  have i7 : (i : Int) < (i : Int) + 1 := by omega
  have i8 : (i : Int) + 1 ≤ (i : Int) + 1 := by omega
  have w1 : IntKind.i64.wrap ((i : Int) + 1) = (i : Int) + 1 := IntWalk.i64_in _ (by omega)
  have w2 : ((i : Int) + 1).toNat = i + 1 := by omega
  have HD := Lib.hid (below_drewN (Below.refl w.heap.size w) 1)
  clear h hy hB1 hS hT hl1 hl2 hcell hlen1 hlen2
  by_cases hcap : c = i + 1
  · have hn1 : n = i + 1 := by omega
    subst hcap hn1
    go_enter Try.func53, Try.ntmps53
    go_wp2
    go_region_law (first
      | (refine step_app2 rfl (.tmp 10) (.tmp 11) rfl w.heap.size (.slice (some ⟨b, off, none⟩) i i) (xs.take i) (by simp [Act.eval, Act.put]) (HB1.out _ HD.out) ao m c' ys (by simp [Act.eval, Act.put]) (HS.out _ HD.out) HN1.out (Nat.le_refl _) ?_; intro v1 w1 hb1 hbl1; have HV1 := Lib.hid hb1; have HW1 := Lib.hid (HD.out.trans hbl1); clear hb1 hbl1)
      | (refine step_app2 rfl (.tmp 12) (.tmp 16) rfl w.heap.size v1 (xs.take i ++ ys) (by simp [Act.eval, Act.put]) HV1.out (some ⟨b, off, none⟩) 0 0 (xs.drop (i + 1)) (by simp [Act.eval, Act.put]) (HT.out _ HW1.out _ _ (by omega) (.inl (by omega))) HN2.out HW1.out.size ?_; intro v2 w2 hb2 hbl2; have HV2 := Lib.hid hb2; have HW2 := Lib.hid (HW1.out.trans hbl2); clear hb2 hbl2))
    all_goals
      go_wp2
      go_ret
      exact ⟨_, rfl, HV2.out, HW2.out⟩
  · have hcap2 : i + 1 < c := by omega
    have hcap3 : (i : Int) + 1 < (c : Int) := by omega
    have hcap4 : ¬ i + 1 = c := by omega
    go_enter Try.func53, Try.ntmps53
    go_wp2
    go_region_law (first
      | (refine step_app2 rfl (.tmp 10) (.tmp 11) rfl w.heap.size (.slice (some ⟨b, off, none⟩) i i) (xs.take i) (by simp [Act.eval, Act.put]) (HB1.out _ HD.out) ao m c' ys (by simp [Act.eval, Act.put]) (HS.out _ HD.out) HN1.out (Nat.le_refl _) ?_; intro v1 w1 hb1 hbl1; have HV1 := Lib.hid hb1; have HW1 := Lib.hid (HD.out.trans hbl1); clear hb1 hbl1)
      | (refine step_app2 rfl (.tmp 12) (.tmp 16) rfl w.heap.size v1 (xs.take i ++ ys) (by simp [Act.eval, Act.put]) HV1.out (some ⟨b, off + (i + 1) * 2, none⟩) (n - (i + 1)) (c - (i + 1)) (xs.drop (i + 1)) (by simp [Act.eval, Act.put]) (HT.out _ HW1.out _ _ rfl (.inr rfl)) HN2.out HW1.out.size ?_; intro v2 w2 hb2 hbl2; have HV2 := Lib.hid hb2; have HW2 := Lib.hid (HW1.out.trans hbl2); clear hb2 hbl2))
    all_goals
      go_wp2
      go_ret
      exact ⟨_, rfl, HV2.out, HW2.out⟩
end Go.Proofs.Ytanhjgneaaenpaa
