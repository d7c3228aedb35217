/- Appends of rows of fractions; the walks of less, of slices.Clone at fractions and slices.Equal at sides. Condition: the slices lie in memory. -/
import Derived.Test.YtjlaclbgfidiiaaOwnEq
import Derived.Test.YtjlaclbgfidiiaaFacMath3
namespace Go.Proofs.Ytjlaclbgfidiiaa
open Go.RowKit
attribute [local go_sem] Oper.semAt_some

def Src (ao : Option Addr) (m : Nat) (ys : List (Int × Int)) (W : World) : Prop :=
  ys.length = m ∧ ((ao = none ∧ m = 0) ∨ ∃ ad, ao = some ad ∧ ∀ j u, (fl ys)[j]? = some u → W.cell? (ad.add j) = some u)
theorem fl_one (S : List (Int × Int)) : ∀ u ∈ fl S, u.oneCell' = true := by
  intro u hu
  unfold fl at hu
  rw [List.mem_flatMap] at hu
  obtain ⟨p, -, hp⟩ := hu
  simp at hp
  rcases hp with rfl | rfl <;> rfl
theorem add0 (g j : Nat) : (⟨g, 0, none⟩ : Addr).add j = ⟨g, j, none⟩ := by
  by_cases h : j = 0 <;> simp [Addr.add, h]; try omega
theorem RowF.src {B : Nat} {v : Value} {S : List (Int × Int)} {W : World} (h : RowF B v S W) : ∃ a c, v = .slice a S.length c ∧ (a = none → c = 0) ∧ Src a S.length S W := by
  obtain ⟨a, c, rfl, h1, h2, ⟨rfl, rfl, rfl⟩ | ⟨g, rfl, h3, h4⟩⟩ := h.form
  · exact ⟨_, _, rfl, fun _ => rfl, rfl, .inl ⟨rfl, rfl⟩⟩
  · refine ⟨_, _, rfl, fun h => by (cases h), rfl, .inr ⟨_, rfl, fun j u hj => ?_⟩⟩
    have hlt := (List.getElem?_eq_some_iff.1 hj).1
    have := World.ownsRow.cellAt h j (by rw [fl_len] at hlt; omega)
    rw [add0 g j, this, hj]
theorem Src.later {a : Option Addr} {m : Nat} {S : List (Int × Int)} {W W' : World} (h : Src a m S W) (hk : ∀ ad, a = some ad → ∀ j, W'.cell? (ad.add j) = W.cell? (ad.add j)) : Src a m S W' := by
  refine ⟨h.1, h.2.imp id ?_⟩
  rintro ⟨ad, rfl, hc⟩
  exact ⟨ad, rfl, fun j u hj => (hk ad rfl j).trans (hc j u hj)⟩

/-- An append of fractions onto a row of the call's own. -/
theorem wpList_appF {ops : Array Oper} {rest : List Oper} {o : Oper} {a : Act} {w : World} {Q : Exit → Act → World → Prop} (hgd : o.guard = none) (s x : Operand)
    (ho : o.op = .call { callee := .builtin .append, args := #[s, x], argTypes := #[39, 39] })
    (B : Nat) (v : Value) (xs : List (Int × Int)) (hs : a.eval s = v) (hown : RowF B v xs w) (ao : Option Addr) (m c : Nat) (ys : List (Int × Int)) (hx : a.eval x = .slice ao m c) (hy : Src ao m ys w)
    (hlen : xs.length + ys.length ≤ 100000) (hB : B ≤ w.heap.size)
    (h : ∀ v' w', RowF B v' (xs ++ ys) w' → Below B w w' → wpList Try.prog ops Q rest (a.put o.dst v') w') :
    wpList Try.prog ops Q (o :: rest) a w := by
  obtain ⟨i3, j1, j2, j3, j4⟩ := info_parts info48
  have j0 := Try.underlying39
  obtain ⟨hl, hy⟩ := hy
  rcases hy with ⟨rfl, rfl⟩ | ⟨ad, rfl, hc⟩
  · have e : ys = [] := List.length_eq_zero_iff.1 hl
    have hr : ∀ ty, (Builtin.append_ #[39, 39] ty #[v, .slice none 0 c]).run Try.prog w = .ok v w := by
      intro ty
      rcases hown.2 with ⟨rfl, -⟩ | ⟨g, cap, cur, rfl, _, _, hnc, _⟩
      · simp [Builtin.append_, run_underlying j0, sizeOf, typeInfo, j1, Builtin.lenOf, Builtin.firstCells]
      · simp [Builtin.append_, run_underlying j0, sizeOf, typeInfo, j1, Builtin.lenOf, Builtin.firstCells, hnc, storeCells]
    refine wpList_plain hgd fun K hK => ?_
    unfold Oper.wp execOp
    simp only [ho, resolve, invoke, builtin, Sem.run_bind, Sem.run_pure, Result.andThen_ok, List.map_toArray, List.map_cons, List.map_nil, hs, hx, hr]
    exact hK _ _ (h v w (by rw [e, List.append_nil]; exact hown) (Below.refl _ _))
  · refine wpList_append_own w hgd s x 39 ho B 48 i3 (.agg #[.int .i64 0, .int .i64 0]) 2 16 j0 j1 j2 j3 j4 rfl (by decide) v _ _ hs hown ad m c (fl ys) hx (by rw [fl_len, hl]) hc (fl_one ys) (by unfold maxLen; omega) (by omega) hB fun v' w' h1 h2 _ => h v' w' ?_ ?_
    · unfold RowF
      rw [List.length_append, hl, fl_app]
      exact h1
    · exact (Below.refl B w).grown h2 hB fun k hk => (World.ownsRow.lt hown k hk).1

set_option maxHeartbeats 4000000 in
set_option maxRecDepth 100000 in
theorem less_any (x y : Int × Int) (hx : good x) (hy : good y) (w : World) :
    Calls Try.prog 47 #[.agg #[.int .i64 x.1, .int .i64 x.2], .agg #[.int .i64 y.1, .int .i64 y.2]] w fun e w' => e = .returned (.bool (decide (x.1 * y.2 < y.1 * x.2))) ∧ Below w.heap.size w w' := by
  obtain ⟨x1, x2⟩ := x
  obtain ⟨y1, y2⟩ := y
  obtain ⟨a1, a2, a3, a4, -⟩ := hx
  obtain ⟨b1, b2, b3, b4, -⟩ := hy
  simp only at a1 a2 a3 a4 b1 b2 b3 b4 ⊢
  obtain ⟨p0, p1⟩ := mul_small (x := x1) (y := y2) (by omega) (by omega) (by omega) (by omega)
  obtain ⟨p2, p3⟩ := mul_small (x := y1) (y := x2) (by omega) (by omega) (by omega) (by omega)
  have HB := Lib.hid (((Below.refl w.heap.size w).alloc (Nat.le_refl _) (.cells #[.int .i64 x1, .int .i64 x2] 48)).alloc (by simp) (.cells #[.int .i64 y1, .int .i64 y2] 48))
  go_enter Try.func47, Try.ntmps47
  go_wp2
  go_ret
  exact ⟨rfl, HB.out⟩

set_option maxHeartbeats 4000000 in
set_option maxRecDepth 100000 in
theorem cloneF_any {B : Nat} {v : Value} {S : List (Int × Int)} (w : World) (h : RowF B v S w) (hl : S.length ≤ 10000) :
    Calls Try.prog 48 #[v] w fun e w' => (∃ v', e = .returned v' ∧ RowF w.heap.size v' S w') ∧ Below w.heap.size w w' := by
  have q39 : ∀ (w : World) (a : Option Addr) (n c n' c' : Nat), (binOp .eql 39 (.slice a n c) (.slice none n' c')).run Try.prog w = .ok (.bool a.isNone) w := fun w a n c n' c' => Lib.run_eql_slice_nil w _ _ a n c n' c' Try.underlying39
  obtain ⟨a, c, rfl, -, -, ⟨rfl, rfl, rfl⟩ | ⟨g, rfl, h3, h4⟩⟩ := h.form
  · go_enter Try.func48, Try.ntmps48
    go_wp2
    go_ret
    exact ⟨⟨_, rfl, RowF.nil _ _⟩, Below.refl _ _⟩
  · obtain ⟨a', c', he, -, hs⟩ := h.src
    simp only [Value.slice.injEq, true_and] at he
    obtain ⟨rfl, rfl⟩ := he
    have hs2 : Src (some ⟨g, 0, none⟩) S.length S (w.alloc (.cells #[] 48)) := hs.later fun ad e j => by
      cases e
      exact ((Below.refl w.heap.size w).alloc (Nat.le_refl _) (.cells #[] 48)).cell (by rw [add0 g j]; exact h4)
    have HS := Lib.hid hs2
    have hemp : RowF w.heap.size (.slice (some ⟨w.heap.size, 0, none⟩) 0 0) [] (w.alloc (.cells #[] 48)) := World.ownsRow_made w #[] 0 (Nat.le_refl _) (Nat.zero_le _) rfl
    have HE := Lib.hid hemp
    have HB := Lib.hid ((Below.refl w.heap.size w).alloc (Nat.le_refl _) (.cells #[] 48))
    have hln : ([] : List (Int × Int)).length + S.length ≤ 100000 := by simp; omega
    clear h h3 h4 hs hs2 hemp
    go_enter Try.func48, Try.ntmps48
    go_wp2_with (at_builtin; refine wpList_appF rfl (.tmp 5) (.tmp 6) rfl w.heap.size _ [] rfl HE.out (some ⟨g, 0, none⟩) S.length c S rfl HS.out hln HB.out.size ?_; intro v' w3 hown' hgrow)
    have HF := Lib.hid (And.intro hown' (HB.out.trans hgrow))
    clear hown' hgrow
    go_wp2
    go_ret
    exact ⟨⟨_, rfl, HF.out.1⟩, HF.out.2⟩

theorem und69 : Try.prog.underlying 69 = some (.struct (Try.prog.fieldsOf 69)) := by kernel_rfl
theorem held69 : Try.prog.stoodInHeld 69 = false := by kernel_rfl
theorem fl69 : (Try.prog.fieldsOf 69).toList.map (fun f => (f.name, f.type, f.offset)) = [("From", 3, 0), ("To", 3, 1), ("Slope", 48, 2)] := by kernel_rfl
theorem neq69 (w : World) (a b c d : Int) : (binOp .neq 69 (.agg #[.int .i64 a, .int .i64 b, .int .i64 c, .int .i64 d]) (.agg #[.int .i64 a, .int .i64 b, .int .i64 c, .int .i64 d])).run Try.prog w = .ok (.bool false) w := by
  rw [run_neq_struct, run_equalIn_struct w 9999 69 _ _ und69 held69]
  have h := fl69
  obtain ⟨f, g, k, hf⟩ : ∃ f g k, (Try.prog.fieldsOf 69).toList = [f, g, k] := by
    generalize (Try.prog.fieldsOf 69).toList = l at h
    match l, h with
    | [f, g, k], _ => exact ⟨f, g, k, rfl⟩
    | [], h => simp at h
    | [_], h => simp at h
    | [_, _], h => simp at h
    | _ :: _ :: _ :: _ :: _, h => simp at h
  rw [hf] at h ⊢
  simp only [List.map_cons, List.map_nil, List.cons.injEq, Prod.mk.injEq, and_true] at h
  obtain ⟨⟨f1, f2, f3⟩, ⟨g1, g2, g3⟩, ⟨k1, k2, k3⟩⟩ := h
  have hu := Try.underlying3
  simp [go_sem, Op.eqFields, f1, f2, f3, g1, g2, g3, k1, k2, k3, part, hu, run_equalIn_int, cells3, agg48, siz48, eqi48]
set_option maxHeartbeats 8000000 in
set_option maxRecDepth 100000 in
theorem equal4_any {B1 B2 : Nat} {v1 v2 : Value} {S : List Sd} (w : World) (h1 : Row4 B1 v1 S w) (h2 : Row4 B2 v2 S w) (hl : S.length ≤ 1000) :
    Calls Try.prog 49 #[v1, v2] w fun e w' => e = .returned (.bool true) ∧ ∃ q, w' = w.drewN q := by
  obtain ⟨a1, c1, rfl, -, -, f1⟩ := h1.form
  obtain ⟨a2, c2, rfl, -, -, f2⟩ := h2.form
  have HR1 := Lib.hid h1
  have HR2 := Lib.hid h2
  have HF1 := Lib.hid f1
  have HF2 := Lib.hid f2
  have HN := Lib.hid (fun w (x : Sd) => neq69 w x.1 x.2.1 x.2.2.1 x.2.2.2)
  clear h1 h2 f1 f2
  go_enter Try.func49, Try.ntmps49
  go_wp2
  go_loopg [5, 13] S.length (fun gk s5 s13 wr => ∃ k q : Nat, k + gk = S.length ∧ s13 = .int .i64 (k : Int) ∧ wr = w.drewN q)
  case atStart => exact ⟨0, 0, by omega, rfl, rfl⟩
  case round =>
    obtain ⟨k, q, hk, rfl, rfl⟩ := hrel
    have HK := Lib.hid hk
    by_cases hlt : k < S.length
    · have l1 : (k : Int) < (S.length : Int) := by omega
      have l0 : (0 : Int) ≤ (k : Int) := by omega
      rcases HF1.out with ⟨-, h3, -⟩ | ⟨g1, e1, -, -⟩
      · rw [h3] at hlt; exact absurd hlt (by simp)
      · subst e1
        rcases HF2.out with ⟨-, h3, -⟩ | ⟨g2, e2, -, -⟩
        · rw [h3] at hlt; exact absurd hlt (by simp)
        · subst e2
          obtain ⟨t0, t1, t2, t3⟩ := HR1.out.cell hlt
          obtain ⟨s0, s1, s2, s3⟩ := HR2.out.cell hlt
          have hne := fun w => HN.out w (nth4 S k)
          obtain ⟨⟨x0, x1, x2, x3⟩, hx⟩ : ∃ x, nth4 S k = x := ⟨_, rfl⟩
          rw [hx] at t0 t1 t2 t3 s0 s1 s2 s3 hne
          simp only at t0 t1 t2 t3 s0 s1 s2 s3 hne
          clear hx hk
          go_wp2
          go_quiet (fail)
          go_wp2
          go_roundg (gk - 1)
          case rel => exact ⟨k + 1, _, by have := HK.out; omega, by go_num, by first | rfl | rw [World.drewN_drewN]⟩
          case measure => have := HK.out; omega
    · have l1 : ¬ (k : Int) < (S.length : Int) := by omega
      clear hk
      go_wp2
      go_ret
      exact ⟨rfl, q, rfl⟩

end Go.Proofs.Ytjlaclbgfidiiaa
