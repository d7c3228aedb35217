/- The walks of isChain and CheckChain. Conditions as stated in each theorem. -/
import Derived.Test.YtopfcppmbkidgaaSeq
import Derived.Test.YtopfcppmbkidgaaIter2
import Derived.Sort.QuietIn
import Derived.ChangeKeysEq
namespace Go.Proofs.Ytopfcppmbkidgaa
open Go.RowKit Go.Shelf
attribute [local go_sem] Oper.semAt_some

theorem und66 : Try.prog.underlying 66 = some (.struct (Try.prog.fieldsOf 66)) := by kernel_rfl
theorem held66 : Try.prog.stoodInHeld 66 = false := by kernel_rfl
theorem fl66 : (Try.prog.fieldsOf 66).toList.map (fun f => (f.name, f.type, f.offset)) = [("Kind", 3, 0), ("A", 3, 1), ("N", 3, 2), ("Sign", 3, 3)] := by kernel_rfl
theorem cells3' : Try.prog.cellsOf 3 = 1 := by kernel_rfl
def eqS (x y : Stp) : Bool := x.k == y.k && (x.a == y.a && (x.n == y.n && x.s == y.s))
theorem eqS_iff (x y : Stp) : eqS x y = true ↔ x = y := by
  obtain ⟨a, b, c, d⟩ := x
  obtain ⟨a', b', c', d'⟩ := y
  unfold eqS
  simp only [Bool.and_eq_true, beq_iff_eq, Stp.mk.injEq]
theorem neq66 (w : World) (a b c d a' b' c' d' : Int) : (binOp .neq 66 (.agg #[.int .i64 a, .int .i64 b, .int .i64 c, .int .i64 d]) (.agg #[.int .i64 a', .int .i64 b', .int .i64 c', .int .i64 d'])).run Try.prog w = .ok (.bool (!eqS ⟨a, b, c, d⟩ ⟨a', b', c', d'⟩)) w := by
  rw [run_neq_struct, run_equalIn_struct w 9999 66 _ _ und66 held66]
  have h := fl66
  obtain ⟨f, g, k, l, hf⟩ : ∃ f g k l, (Try.prog.fieldsOf 66).toList = [f, g, k, l] := by
    generalize (Try.prog.fieldsOf 66).toList = l at h
    match l, h with
    | [f, g, k, l], _ => exact ⟨f, g, k, l, rfl⟩
    | [], h => simp at h
    | [_], h => simp at h
    | [_, _], h => simp at h
    | [_, _, _], h => simp at h
    | _ :: _ :: _ :: _ :: _ :: _, h => simp at h
  rw [hf] at h ⊢
  simp only [List.map_cons, List.map_nil, List.cons.injEq, Prod.mk.injEq, and_true] at h
  obtain ⟨⟨f1, f2, f3⟩, ⟨g1, g2, g3⟩, ⟨k1, k2, k3⟩, ⟨l1, l2, l3⟩⟩ := h
  have hu := Try.underlying3
  unfold eqS
  by_cases e1 : a = a' <;> by_cases e2 : b = b' <;> by_cases e3 : c = c' <;> by_cases e4 : d = d' <;>
    simp [go_sem, Op.eqFields, f1, f2, f3, g1, g2, g3, k1, k2, k3, l1, l2, l3, part, hu, run_equalIn_int, cells3', e1, e2, e3, e4]

/-- The variables of isChain: the slice, the result, and the place, from block B on. -/
structure CS (B : Nat) (v : Value) (r : Bool) (k : Int) (w W : World) : Prop where
  l : Boxed W B 45 v
  r : Boxed W (B + 1) 4 (.bool r)
  k : Boxed W (B + 1 + 1) 3 (.int .i64 k)
  b : Below B w W
theorem CS.below {B : Nat} {v : Value} {r : Bool} {k : Int} {w W W' : World} (h : CS B v r k w W) {n : Nat} (hn : B + 3 ≤ n) (hB : Below n W W') : CS B v r k w W' :=
  ⟨boxed_below h.l hB (by omega), boxed_below h.r hB (by omega), boxed_below h.k hB (by omega), h.b.trans (hB.mono (by omega))⟩
theorem CS.setK {B : Nat} {v : Value} {r : Bool} {k : Int} {w W : World} (h : CS B v r k w W) (k' : Int) : CS B v r k' w (W.setCell ⟨B + 1 + 1, 0, none⟩ (.int .i64 k')) :=
  ⟨boxed_setCell _ h.l (by omega), boxed_setCell _ h.r (by omega), h.k.set _, h.b.setCell (p := ⟨B + 1 + 1, 0, none⟩) (by show B ≤ B + 1 + 1; omega) _⟩
theorem CS.setR {B : Nat} {v : Value} {r : Bool} {k : Int} {w W : World} (h : CS B v r k w W) (r' : Bool) : CS B v r' k w (W.setCell ⟨B + 1, 0, none⟩ (.bool r')) :=
  ⟨boxed_setCell _ h.l (by omega), h.r.set _, boxed_setCell _ h.k (by omega), h.b.setCell (p := ⟨B + 1, 0, none⟩) (by show B ≤ B + 1; omega) _⟩

theorem cstp_at (a n : Int) {N k : Nat} (h : k < N) : nth4 (cstp a n N) k = st a n (k + 1) := by
  simp [nth4, cstp, List.getD, h]
theorem list_eq {L M : List Stp} (h : L.length = M.length) (he : ∀ j, j < L.length → nth4 L j = nth4 M j) : L = M := by
  apply List.ext_getElem h
  intro i h1 h2
  have := he i h1
  simpa [nth4, List.getD, h1, h2] using this

set_option maxRecDepth 100000 in
set_option maxHeartbeats 4000000 in
theorem isChain_any (a n : Int) (N : Nat) (hN : isLen a n N) (B0 : Nat) (v : Value) (L : List Stp) (hL : L.length ≤ 5000000000) (R : Bool) (hR : R = true ↔ L = cstp a n N) (w : World) (hr : Row4 B0 v L w) :
    Calls Try.prog 77 #[.int .i64 a, .int .i64 n, v] w fun e w' => e = .returned (.bool R) ∧ Below w.heap.size w w' := by
  obtain ⟨av, cv, rfl, hv1, hv2, hv3⟩ := hr.form
  obtain ⟨hN1, hN2, hN3, hN4⟩ := hN
  have HR := Lib.hid hR
  have HRW := Lib.hid hr
  have HV := Lib.hid hv3
  clear hR hr hv3
  refine (callsIn_wide (n := 5)).1 ?_
  refine callsIn_of_wp_marks Try.func77 rfl trivial ?_ rfl
  simp only [Try.ntmps77, List.size_toArray, List.length_cons, List.length_nil, Nat.reduceAdd, Nat.reduceSub, Array.replicate_succ, Array.replicate_zero, List.push_toArray, List.append_toArray, List.nil_append, List.cons_append]
  gi_wp2_with (refine ⟨trivial, ?_⟩; gi_at_call 76; refine (callsIn_wide.2 (chain_any _ _ _)).mono ?_; rintro e w' ⟨rfl, rfl⟩)
  obtain ⟨B, hB⟩ : ∃ B, w.heap.size = B := ⟨_, rfl⟩
  obtain ⟨W2, hW2⟩ : ∃ W2, ((((w.alloc (.cells #[.slice av L.length cv] 45)).alloc (.cells #[.bool false] 4)).alloc (.cells #[.int .i64 0] 3)).alloc (.cells #[.int .i64 a] 3)).alloc (.cells #[.int .i64 n] 3) = W2 := ⟨_, rfl⟩
  have hsz : W2.heap.size = B + 5 := by rw [← hW2]; simp [hB]
  have y0 := Boxed.new w 45 (.slice av L.length cv)
  have y1 := Boxed.new (w.alloc (.cells #[.slice av L.length cv] 45)) 4 (.bool false)
  have y2 := Boxed.new ((w.alloc (.cells #[.slice av L.length cv] 45)).alloc (.cells #[.bool false] 4)) 3 (.int .i64 0)
  have y3 := Boxed.new (((w.alloc (.cells #[.slice av L.length cv] 45)).alloc (.cells #[.bool false] 4)).alloc (.cells #[.int .i64 0] 3)) 3 (.int .i64 a)
  have y4 := Boxed.new ((((w.alloc (.cells #[.slice av L.length cv] 45)).alloc (.cells #[.bool false] 4)).alloc (.cells #[.int .i64 0] 3)).alloc (.cells #[.int .i64 a] 3)) 3 (.int .i64 n)
  simp only [World.size_alloc, hB] at y0 y1 y2 y3 y4
  have hs0 : CS B (.slice av L.length cv) false 0 w W2 := by
    rw [← hW2]
    exact ⟨(((y0.alloc _).alloc _).alloc _).alloc _, ((y1.alloc _).alloc _).alloc _, (y2.alloc _).alloc _,
      (((((Below.refl B w).alloc (by omega) _).alloc (by simp; omega) _).alloc (by simp; omega) _).alloc (by simp; omega) _).alloc (by simp; omega) _⟩
  have z1 : Boxed W2 (B + 1 + 1 + 1) 3 (.int .i64 a) := by rw [← hW2]; exact y3.alloc _
  have z2 : Boxed W2 (B + 1 + 1 + 1 + 1) 3 (.int .i64 n) := by rw [← hW2]; exact y4
  rw [hB, hW2]
  clear hW2 y0 y1 y2 y3 y4
  refine wpIn_range_iy (gf := 89) (lb := #[.pointer (some ⟨B + 1 + 1 + 1, 0, none⟩), .pointer (some ⟨B + 1 + 1 + 1 + 1, 0, none⟩)]) rfl (enters_of Try.func89 (by kernel_rfl) rfl)
    (chain_iter a n (B + 1 + 1 + 1) W2 (by omega) z1 z2 N hN2 hN3 hN4) (Below.refl _ _) (fun _ => rfl)
    turnBelow_keeps keepAbove_rec
    (fun k A => (∀ j, j < k → j < L.length ∧ nth4 L j = st a n (j + 1)) ∧ CS B (.slice av L.length cv) false (k : Int) w A)
    (fun c k A => c = .ret ∧ R = false ∧ ∃ k', CS B (.slice av L.length cv) false k' w A)
    (fun k A A' h e => ⟨h.1, h.2.below (by omega) e⟩) (fun c k A A' h e => ⟨h.1, h.2.1, h.2.2.imp fun _ h => h.below (by omega) e⟩)
    (fun k A r r' h _ => ⟨h.1, h.2.below (n := B + 5) (by omega) (below_putObj A (by omega) _)⟩)
    (fun c k A r r' h _ => ⟨h.1, h.2.1, h.2.2.imp fun _ h => h.below (n := B + 5) (by omega) (below_putObj A (by omega) _)⟩)
    (fun r => ⟨fun j hj => by omega, hs0.below (n := B + 5) (by omega) (((Below.refl _ W2).alloc (by omega) _).alloc (by simp; omega) _)⟩)
    (fun A h => trivial)
    (fun k a1 A => ∃ S : Nat, B + 7 ≤ S ∧ Sx A S (st a n (k + 1)) ∧ (∀ j, j < k → j < L.length ∧ nth4 L j = st a n (j + 1)) ∧ CS B (.slice av L.length cv) false (k : Int) w A ∧ a1 = { tmps := #[.int .i64 a, .int .i64 n, .slice av L.length cv, undef, undef, .pointer (some ⟨B, 0, none⟩), .pointer (some ⟨B + 1, 0, none⟩), .pointer (some ⟨B + 1 + 1, 0, none⟩), .pointer (some ⟨S, 0, none⟩), .int .i64 a, .int .i64 n, .func (.func 89) #[] #[.pointer (some ⟨B + 1 + 1 + 1, 0, none⟩), .pointer (some ⟨B + 1 + 1 + 1 + 1, 0, none⟩)], stV (st a n (k + 1)), undef, undef, undef, undef, undef, undef, undef, undef, undef, undef, undef, undef, undef, undef, undef, undef, undef, undef], defers := [] })
    (fun k a1 A r r' h _ => by
      obtain ⟨S, h1, h2, h3, h4, h5⟩ := h
      exact ⟨S, h1, h2.putObj _ (by omega), h3, h4.below (n := B + 5) (by omega) (below_putObj A (by omega) _), h5⟩)
    (fun A B C h1 h2 => h1.trans h2) ?assign ?body ?done ?stop
  case assign =>
    intro l k W K hI hk hlt hK
    obtain ⟨⟨k1, a1, n1, s1⟩, e1⟩ : ∃ t, st a n (k + 1) = t := ⟨_, rfl⟩
    have hn := Sx.new W ⟨k1, a1, n1, s1⟩
    simp only at hn
    have hA : Above (W2.heap.size + 2) W (W.alloc (.cells #[.int .i64 k1, .int .i64 a1, .int .i64 n1, .int .i64 s1] 66)) := Above.alloc _ _ _
    have hBW : Below W.heap.size W (W.alloc (.cells #[.int .i64 k1, .int .i64 a1, .int .i64 n1, .int .i64 s1] 66)) := (Below.refl _ _).alloc (Nat.le_refl _) _
    have HK := Lib.hid (hK { tmps := #[.int .i64 a, .int .i64 n, .slice av L.length cv, undef, undef, .pointer (some ⟨B, 0, none⟩), .pointer (some ⟨B + 1, 0, none⟩), .pointer (some ⟨B + 1 + 1, 0, none⟩), .pointer (some ⟨W.heap.size, 0, none⟩), .int .i64 a, .int .i64 n, .func (.func 89) #[] #[.pointer (some ⟨B + 1 + 1 + 1, 0, none⟩), .pointer (some ⟨B + 1 + 1 + 1 + 1, 0, none⟩)], .agg #[.int .i64 k1, .int .i64 a1, .int .i64 n1, .int .i64 s1], undef, undef, undef, undef, undef, undef, undef, undef, undef, undef, undef, undef, undef, undef, undef, undef, undef, undef], defers := [] }
      (W.alloc (.cells #[.int .i64 k1, .int .i64 a1, .int .i64 n1, .int .i64 s1] 66))
      ⟨W.heap.size, by omega, by rw [e1]; exact hn, hI.1, hI.2.below (by omega) hBW, by rw [e1]; rfl⟩
      (hBW.block _ (by omega)) (hBW.block _ (by omega)) hA)
    rw [e1, stV_eq]
    simp only
    clear hK hI hn hA hBW z1 z2 hs0 hN2 hN3 hN4
    gi_wp2
    exact HK.out
  case done =>
    intro A _ hi hKK
    obtain ⟨hpre, hcs⟩ := hi
    have HRB : RowKit.Hid (R = decide (N = L.length)) := Lib.hid (by
      rw [Bool.eq_iff_iff, HR.out, decide_eq_true_iff]
      constructor
      · intro e; rw [e, cstp_len]
      · intro e
        exact list_eq (by rw [cstp_len, e]) fun j hj => by rw [cstp_at a n (by omega), (hpre j (by omega)).2])
    have c1 := hcs.l.cell
    have c2 := hcs.k.cell
    have c3 := hcs.r.cell
    have f3 := hcs.r.frozen
    have hput := hcs.setR R
    have HK1 := Lib.hid (show (A.setCell ⟨B + 1, 0, none⟩ (.bool R)).heap[B + 5]? = some (.deferred (some [])) from (Below.heap_setCell _ _ _ _ (by show B + 5 ≠ B + 1; omega)).trans (by rw [← hsz]; exact hKK))
    have k1 := (boxed_putObj (.deferred none) hput.r (l := B + 5) (by omega)).cell
    have HBB := Lib.hid (show Below B w ((A.setCell ⟨B + 1, 0, none⟩ (.bool R)).putObj (B + 5) (.deferred none)) from hput.b.trans (below_putObj _ (by omega) _))
    have hbq : ((N : Int) == (L.length : Int)) = R := by rw [HRB.out, Bool.eq_iff_iff, beq_iff_eq, decide_eq_true_iff]; omega
    have hbq2 : (N == L.length) = R := by rw [HRB.out, Bool.eq_iff_iff, beq_iff_eq, decide_eq_true_iff]
    clear hKK hcs hpre z1 z2 hs0 hN2 hN3 hN4 hput
    gi_wp2
    rw [hsz]
    refine ⟨by simp, .inl ⟨_, _, rfl, run_takeDeferred HK1.out, ?_⟩⟩
    exact ⟨.bool R, by simp [results, Try.f77, go_sem, k1], rfl, by rw [hB]; exact HBB.out⟩
  case stop =>
    rintro c k A hk ⟨rfl, hRf, k', hcs⟩ hKK
    have HK1 := Lib.hid (show A.heap[B + 5]? = some (.deferred (some [])) by rw [← hsz]; exact hKK)
    have k1 := (boxed_putObj (.deferred none) hcs.r (l := B + 5) (by omega)).cell
    have HBB := Lib.hid (show Below B w (A.putObj (B + 5) (.deferred none)) from hcs.b.trans (below_putObj _ (by omega) _))
    clear hKK hcs z1 z2 hs0 hN2 hN3 hN4
    gi_wp2
    rw [hsz]
    refine ⟨by simp, .inl ⟨_, _, rfl, run_takeDeferred HK1.out, ?_⟩⟩
    exact ⟨.bool false, by simp [results, Try.f77, go_sem, k1], by rw [hRf], by rw [hB]; exact HBB.out⟩
  case body =>
    rintro l' k a1 A ⟨S, hS, hx, hpre, hcs, rfl⟩ hkN hlt _
    obtain ⟨⟨k1, a1, n1, s1⟩, e1⟩ : ∃ t, st a n (k + 1) = t := ⟨_, rfl⟩
    have hrow : Row4 B0 (.slice av L.length cv) L A := HRW.out.later (by rw [hB]; exact hcs.b)
    rw [e1] at hx
    obtain ⟨c0, c1, c2, c3, -⟩ := hx.cells
    simp only at c0 c1 c2 c3
    have d1 := hcs.l.cell
    have d2 := hcs.k.cell
    have d3 := hcs.r.cell
    have f2 := hcs.k.frozen
    have f3 := hcs.r.frozen
    have hsr := (hcs.setR false).below (n := B + 3) (Nat.le_refl _) (Below.refl _ _).drew
    have hsk : CS B (.slice av L.length cv) false ((k + 1 : Nat) : Int) w (A.setCell ⟨B + 1 + 1, 0, none⟩ (.int .i64 ((k : Int) + 1))).drew := (hcs.setK ((k : Int) + 1)).below (n := B + 3) (Nat.le_refl _) (Below.refl _ _).drew
    have hD : ∀ (v : Value) (c : Nat) (j : Nat), c < B + 3 → B + 5 ≤ j → (A.setCell ⟨c, 0, none⟩ v).heap[j]? = A.heap[j]? := fun v c j h1 h2 => Below.heap_setCell _ _ _ _ (by show j ≠ c; omega)
    have hAb : ∀ (v : Value) (c : Nat), c < B + 3 → Above (W2.heap.size + 2) A (A.setCell ⟨c, 0, none⟩ v).drew := fun v c h1 => (Above.setCell A (p := ⟨c, 0, none⟩) (by show c < _; omega) v).trans (Above.drew _ _)
    have mixed : Try.prog.follows .mixedOrders = true := by kernel_rfl
    have HRET : R = false → RowKit.Hid (∀ a', roundEnd W2.heap.size keepAbove (fun k A => (∀ j, j < k → j < L.length ∧ nth4 L j = st a n (j + 1)) ∧ CS B (.slice av L.length cv) false (k : Int) w A)
        (fun c k A => c = Code.ret ∧ R = false ∧ ∃ k', CS B (.slice av L.length cv) false k' w A) k A Exit.ret a' (A.setCell ⟨B + 1, 0, none⟩ (.bool false)).drew) := fun hRf =>
      Lib.hid (fun a' => ⟨⟨hD _ _ _ (by omega) (by omega), hD _ _ _ (by omega) (by omega)⟩, hAb _ _ (by omega), rfl, hRf, _, hsr⟩)
    simp only [stV_eq]
    by_cases hkL : k < L.length
    · rcases HV.out with ⟨-, h3, -⟩ | ⟨g, hg, -, -⟩
      · rw [h3] at hkL; exact absurd hkL (by simp)
      · subst hg
        obtain ⟨t0, t1, t2, t3⟩ := hrow.cell hkL
        obtain ⟨⟨x0, x1, x2, x3⟩, hxx⟩ : ∃ t, nth4 L k = t := ⟨_, rfl⟩
        rw [hxx] at t0 t1 t2 t3
        simp only at t0 t1 t2 t3
        have hne := fun w => neq66 w x0 x1 x2 x3 k1 a1 n1 s1
        have l1 : (k : Int) < (L.length : Int) := by omega
        have l0 : (0 : Int) ≤ (k : Int) := by omega
        have lb : ((k : Int) == (L.length : Int)) = false := beq_eq_false_iff_ne.2 (by omega)
        have lb2 : (k == L.length) = false := beq_eq_false_iff_ne.2 (by omega)
        have kb : (k : Int) ≤ 5000000000 := by omega
        obtain ⟨D, hDD⟩ : ∃ D, (!eqS ⟨x0, x1, x2, x3⟩ ⟨k1, a1, n1, s1⟩) = D := ⟨_, rfl⟩
        rw [hDD] at hne
        have HP : D = false → RowKit.Hid (∀ j, j < k + 1 → j < L.length ∧ nth4 L j = st a n (j + 1)) := fun hd => Lib.hid (fun j hj => by
          have heq : (⟨x0, x1, x2, x3⟩ : Stp) = ⟨k1, a1, n1, s1⟩ := (eqS_iff _ _).1 (by rw [hd] at hDD; simpa using hDD)
          by_cases hjk : j = k
          · subst hjk; exact ⟨hkL, by rw [hxx, e1, heq]⟩
          · exact hpre j (by omega))
        have HRF : D = true → R = false := fun hd => Bool.eq_false_iff.2 fun hr => by
          have hl := HR.out.1 hr
          have heq : nth4 L k = st a n (k + 1) := by rw [hl, cstp_at a n hkN]
          rw [hxx, e1] at heq
          rw [(eqS_iff _ _).2 heq] at hDD
          rw [← hDD] at hd
          cases hd
        have HE := Lib.hid (And.intro (And.intro (hD (.int .i64 ((k : Int) + 1)) (B + 1 + 1) W2.heap.size (by omega) (by omega)) (hD (.int .i64 ((k : Int) + 1)) (B + 1 + 1) (W2.heap.size + 1) (by omega) (by omega))) (And.intro (hAb (.int .i64 ((k : Int) + 1)) (B + 1 + 1) (by omega)) hsk))
        clear hsk hsr hD hAb hpre hxx hrow hx hcs z1 z2 hs0 hN2 hN3 hN4 hDD
        gi_wp2
        refine wpIn_mono (Q := fun e a' w' => e = .normal ∧ a' = { tmps := #[.int .i64 a, .int .i64 n, .slice (some ⟨g, 0, none⟩) L.length cv, undef, undef, .pointer (some ⟨B, 0, none⟩), .pointer (some ⟨B + 1, 0, none⟩), .pointer (some ⟨B + 1 + 1, 0, none⟩), .pointer (some ⟨S, 0, none⟩), .int .i64 a, .int .i64 n, .func (.func 89) #[] #[.pointer (some ⟨B + 1 + 1 + 1, 0, none⟩), .pointer (some ⟨B + 1 + 1 + 1 + 1, 0, none⟩)], .agg #[.int .i64 k1, .int .i64 a1, .int .i64 n1, .int .i64 s1], .int .i64 (k : Int), .slice (some ⟨g, 0, none⟩) L.length cv, .int .i64 (L.length : Int), .bool false, .bool false, .slice (some ⟨g, 0, none⟩) L.length cv, .int .i64 (k : Int), .pointer (some ⟨g, k * 4, none⟩), .agg #[.int .i64 x0, .int .i64 x1, .int .i64 x2, .int .i64 x3], .agg #[.int .i64 k1, .int .i64 a1, .int .i64 n1, .int .i64 s1], .bool D, .bool D, undef, undef, undef, undef, undef, undef], defers := [] } ∧ w' = A.drew) ?_ ?_
        · clear HE HP HRF HRET HR HRW HV d3 f2 f3
          gi_region_with_o (fail)
          all_goals exact ⟨rfl, rfl, rfl⟩
        rintro e a' w' ⟨rfl, rfl, rfl⟩
        cases D with
        | false =>
          have HPP := HP rfl
          clear HP HRF HRET
          gi_wp2
          exact ⟨HE.out.1, HE.out.2.1, HPP.out, HE.out.2.2⟩
        | true =>
          have HRR := HRET (HRF rfl)
          clear HP HRF HRET HE
          gi_wp2
          exact HRR.out _
    · have hkL2 : k = L.length := by
        rcases Nat.eq_zero_or_pos k with h | h
        · omega
        · have := (hpre (k - 1) (by omega)).1; omega
      have hRf : R = false := Bool.eq_false_iff.2 fun hr => by
        have hl := HR.out.1 hr
        rw [hl, cstp_len] at hkL2
        omega
      have HRR := HRET hRf
      have lb : ((k : Int) == (L.length : Int)) = true := beq_iff_eq.2 (by omega)
      have lb2 : (k == L.length) = true := beq_iff_eq.2 hkL2
      clear hsk hsr hD hAb hpre hrow hx hcs z1 z2 hs0 hN2 hN3 hN4 hkL2 HRET
      gi_wp2
      refine wpIn_mono (Q := fun e a' w' => e = .normal ∧ a' = { tmps := #[.int .i64 a, .int .i64 n, .slice av L.length cv, undef, undef, .pointer (some ⟨B, 0, none⟩), .pointer (some ⟨B + 1, 0, none⟩), .pointer (some ⟨B + 1 + 1, 0, none⟩), .pointer (some ⟨S, 0, none⟩), .int .i64 a, .int .i64 n, .func (.func 89) #[] #[.pointer (some ⟨B + 1 + 1 + 1, 0, none⟩), .pointer (some ⟨B + 1 + 1 + 1 + 1, 0, none⟩)], .agg #[.int .i64 k1, .int .i64 a1, .int .i64 n1, .int .i64 s1], .int .i64 (k : Int), .slice av L.length cv, .int .i64 (L.length : Int), .bool true, .bool true, undef, undef, undef, undef, undef, undef, .bool true, undef, undef, undef, undef, undef, undef], defers := [] } ∧ w' = A.drew) ?_ ?_
      · clear HRR HR HRW HV d3 f2 f3
        gi_region_with_o (fail)
        all_goals exact ⟨rfl, rfl, rfl⟩
      rintro e a' w' ⟨rfl, rfl, rfl⟩
      gi_wp2
      exact HRR.out _
end Go.Proofs.Ytopfcppmbkidgaa
