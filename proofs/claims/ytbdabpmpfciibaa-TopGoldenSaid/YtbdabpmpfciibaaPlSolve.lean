/- The walks of pell.Solve and gherkinref01.Solve: a slice of their own that holds all solutions up to a bound. Conditions as stated in each theorem. -/
import Derived.Test.YtbdabpmpfciibaaPlSol
namespace Go.Proofs.Ytbdabpmpfciibaa.pl
open Go.RowKit Go.Shelf
attribute [local go_sem] Oper.semAt_some

theorem info46 : (Try.prog.info? 46).map (fun i => (i.zero, i.size, i.bytes)) = some (some (.agg #[.int .i64 0, .int .i64 0]), 2, 16) := by kernel_rfl

/-- The first k solutions of a list, as the cells of a slice. -/
def flat (S : List (Int × Int)) (k : Nat) : List Value := (S.take k).flatMap fun p => [.int .i64 p.1, .int .i64 p.2]
theorem flat_succ {S : List (Int × Int)} {k : Nat} (h : k < S.length) : flat S (k + 1) = flat S k ++ [.int .i64 (nth S k).1, .int .i64 (nth S k).2] := by
  unfold flat
  rw [List.take_succ_eq_append_getElem h, List.flatMap_append]
  congr 1
  simp [nth, List.getD, h]
theorem flat_zero (S : List (Int × Int)) : flat S 0 = [] := rfl
theorem flat_all (S : List (Int × Int)) : flat S S.length = S.flatMap fun p => [.int .i64 p.1, .int .i64 p.2] := by simp [flat]

theorem cell_two_new (W : World) (x y : Value) (t : TypeId) : ∀ (j : Nat) (u : Value), [x, y][j]? = some u → (W.alloc (.cells #[x, y] t)).cell? ((⟨W.heap.size, 0, none⟩ : Addr).add j) = some u := by
  intro j u h
  have hn : (W.alloc (.cells #[x, y] t)).heap[W.heap.size]? = some (.cells #[x, y] t (0, 0)) := World.alloc_heap_new W _
  unfold World.cell?
  rw [show ((⟨W.heap.size, 0, none⟩ : Addr).add j).block = W.heap.size by unfold Addr.add; split <;> rfl, hn]
  match j, h with
  | 0, h => simpa [Addr.add] using h
  | 1, h => simpa [Addr.add] using h
  | j + 2, h => simp at h

/-- The variables of Solve behind k rounds. -/
structure SState (S : List (Int × Int)) (B k : Nat) (w W : World) : Prop where
  l : ∃ v, Boxed W B 57 v ∧ W.ownsRow (B + 4) 46 2 v k (flat S k)
  b : Below B w W
theorem SState.putObj {S : List (Int × Int)} {B k : Nat} {w W : World} (h : SState S B k w W) {l : Nat} (hl : B + 4 ≤ l) {o : Obj} (ho : W.heap[l]? = some o) (hc : o.isCells = false) (o' : Obj) : SState S B k w (W.putObj l o') := by
  obtain ⟨v, h1, h2⟩ := h.l
  exact ⟨⟨v, boxed_putObj _ h1 (by omega), ownsRow_putObj h2 o' ho hc⟩, h.b.trans (below_putObj W (by omega) o')⟩
theorem SState.alloc {S : List (Int × Int)} {B k : Nat} {w W : World} (h : SState S B k w W) (hs : B ≤ W.heap.size) (o : Obj) : SState S B k w (W.alloc o) := by
  obtain ⟨v, h1, h2⟩ := h.l
  exact ⟨⟨v, h1.alloc o, h2.alloc o⟩, h.b.alloc hs o⟩

set_option maxRecDepth 100000 in
set_option maxHeartbeats 2000000 in
theorem Solve_yes (d n : Int) (hd : isD d = true) (hn : isN n = true) (M : Nat) (hM : M ≤ 5000) (w : World) :
    Calls Try.prog 58 #[.int .i64 d, .int .i64 n, .int .i64 (M : Int)] w fun e w' => ∃ v, e = .returned (.tuple #[v, .int .i64 0]) ∧ w'.ownsRow w.heap.size 46 2 v (solL d n (M + 1)).length (flat (solL d n (M + 1)) (solL d n (M + 1)).length) ∧ Below w.heap.size w w' := by
  obtain ⟨i0, hi, hz0, hz1, hz2⟩ := info_parts info46
  have HI := Lib.hid (And.intro hi (And.intro hz0 (And.intro hz1 hz2)))
  clear hi hz0 hz1 hz2
  obtain ⟨S, hS⟩ : ∃ S, solL d n (M + 1) = S := ⟨_, rfl⟩
  have hlen : S.length ≤ 5001 := by rw [← hS]; have := solL_len d n (M + 1); omega
  have hsol := fun b w hb hbox => sol_iter d n hd hn M (by omega) b w hb hbox
  rw [hS] at hsol ⊢
  have HSOL := Lib.hid hsol
  have HD := Lib.hid hd
  have HN := Lib.hid hn
  have k1 : decide ((M : Int) < 0) = false := by simp
  have k2 : decide (5000 < (M : Int)) = false := by simp; omega
  clear hS hsol hn
  refine (callsIn_wide (n := 5)).1 ?_
  refine callsIn_of_wp_marks Try.func58 rfl trivial ?_ rfl
  simp only [Try.ntmps58, List.size_toArray, List.length_cons, List.length_nil, Nat.reduceAdd, Nat.reduceSub, Array.replicate_succ, Array.replicate_zero, List.push_toArray, List.append_toArray, List.nil_append, List.cons_append]
  gi_wp2_with (first | (refine ⟨trivial, ?_⟩; gi_at_call 88; refine (callsIn_wide.2 (validD_any _ _)).mono ?_; rintro e w' ⟨rfl, rfl⟩) | (refine ⟨trivial, ?_⟩; gi_at_call 89; refine (callsIn_wide.2 (validN_yes _ _ HN.out)).mono ?_; rintro e w' ⟨rfl, rfl⟩) | (refine ⟨trivial, ?_⟩; gi_at_call 90; refine (callsIn_wide.2 (solutions_any _ _ _ _)).mono ?_; rintro e w' ⟨rfl, rfl⟩))
  clear k1 k2
  obtain ⟨B, hB⟩ : ∃ B, w.heap.size = B := ⟨_, rfl⟩
  have hs0 : SState S B 0 w ((((w.alloc (.cells #[.slice none 0 0] 57)).alloc (.cells #[.int .i64 d] 3)).alloc (.cells #[.int .i64 n] 3)).alloc (.cells #[.int .i64 (M : Int)] 3)) := by
    have y0 := Boxed.new w 57 (.slice none 0 0)
    rw [hB] at y0
    exact ⟨⟨_, ((y0.alloc _).alloc _).alloc _, World.ownsRow_nil _ _ _ _⟩, ((((Below.refl B w).alloc (by omega) _).alloc (by simp; omega) _).alloc (by simp; omega) _).alloc (by simp; omega) _⟩
  have hd0 : Box3 (B + 1) d n (M : Int) ((((w.alloc (.cells #[.slice none 0 0] 57)).alloc (.cells #[.int .i64 d] 3)).alloc (.cells #[.int .i64 n] 3)).alloc (.cells #[.int .i64 (M : Int)] 3)) := by
    have y1 := Boxed.new (w.alloc (.cells #[.slice none 0 0] 57)) 3 (.int .i64 d)
    have y2 := Boxed.new ((w.alloc (.cells #[.slice none 0 0] 57)).alloc (.cells #[.int .i64 d] 3)) 3 (.int .i64 n)
    have y3 := Boxed.new (((w.alloc (.cells #[.slice none 0 0] 57)).alloc (.cells #[.int .i64 d] 3)).alloc (.cells #[.int .i64 n] 3)) 3 (.int .i64 (M : Int))
    simp only [World.size_alloc, hB] at y1 y2 y3
    exact ⟨(y1.alloc _).alloc _, y2.alloc _, y3⟩
  have hsz : ((((w.alloc (.cells #[.slice none 0 0] 57)).alloc (.cells #[.int .i64 d] 3)).alloc (.cells #[.int .i64 n] 3)).alloc (.cells #[.int .i64 (M : Int)] 3)).heap.size = B + 4 := by simp [hB]
  simp only [hB]
  generalize ((((w.alloc (.cells #[.slice none 0 0] 57)).alloc (.cells #[.int .i64 d] 3)).alloc (.cells #[.int .i64 n] 3)).alloc (.cells #[.int .i64 (M : Int)] 3)) = Wc at hs0 hd0 hsz ⊢
  refine wpIn_range_ix (gf := 109) (lb := #[.pointer (some ⟨B + 1 + 1 + 1, 0, none⟩), .pointer (some ⟨B + 1, 0, none⟩), .pointer (some ⟨B + 1 + 1, 0, none⟩)]) rfl (enters_of Try.func109 (by kernel_rfl) rfl)
    (HSOL.out (B + 1) Wc (by omega) hd0) (Below.refl _ _) (fun _ => rfl)
    (fun A A' h => by cases h; exact ⟨rfl, rfl⟩)
    (fun A A' r r1 r2 _ h => by
      unfold keep3 at h ⊢
      simp only [World.putObj_heap_other (show B + 1 ≠ Wc.heap.size + 1 by omega), World.putObj_heap_other (show B + 1 + 1 ≠ Wc.heap.size + 1 by omega), World.putObj_heap_other (show B + 1 + 1 + 1 ≠ Wc.heap.size + 1 by omega)] at h ⊢
      exact h)
    (fun k A => SState S B k w A)
    (fun c k A => False)
    (fun k A A' h e => by cases e; exact h) (fun c k A A' h e => by cases e; exact h)
    (fun k A r r' h ho => h.putObj (by omega) ho rfl _)
    (fun c k A r r' h ho => h)
    (fun r => (hs0.alloc (by omega) _).alloc (by simp; omega) _)
    (fun A h => trivial)
    (fun k => { tmps := #[.int .i64 d, .int .i64 n, .int .i64 (M : Int), undef, undef, undef, .slice none 0 0, .int .i64 0, .pointer (some ⟨B, 0, none⟩), .int .i64 (nth S k).1, .int .i64 (nth S k).2, .int .i64 d, .bool true, .bool false, .bool false, .int .i64 n, .bool true, .bool false, .bool false, .bool false, .int .i64 (M : Int), .bool false, .bool false, .bool false, .int .i64 (M : Int), .bool false, .bool false, .int .i64 d, .int .i64 n, .int .i64 (M : Int), .func (.func 109) #[] #[.pointer (some ⟨B + 1 + 1 + 1, 0, none⟩), .pointer (some ⟨B + 1, 0, none⟩), .pointer (some ⟨B + 1 + 1, 0, none⟩)], .int .i64 (nth S k).1, .int .i64 (nth S k).2, undef, undef, undef, undef, undef, undef, undef], defers := [] }) ?assign ?body ?done ?stop
  case assign =>
    intro l x A K hK
    gi_wp2
    exact hK
  case stop =>
    intro c k A hk h
    exact h.elim
  case done =>
    intro A hF hs hK
    obtain ⟨v, hv, hrow⟩ := hs.l
    have hc := hv.cell
    have HK := Lib.hid hK
    have HR := Lib.hid hrow
    have HB := Lib.hid hs.b
    clear hs0 hd0 hK hrow
    gi_wp2
    have hD := HK.out
    refine ⟨by simp, .inl ⟨_, _, rfl, run_takeDeferred hD, ?_⟩⟩
    refine ⟨.tuple #[v, .int .i64 0], by simp [results, Try.f58, go_sem], v, rfl, ?_, ?_⟩
    · exact ownsRow_putObj (Joins.ownsRow_le HR.out (by omega)) _ hD rfl
    · rw [hB]
      exact HB.out.trans (below_putObj A (j := Wc.heap.size) (by omega) _)
  case body =>
    rintro l' k A hs hkN hlt ⟨hr0, r, hr1⟩
    obtain ⟨v, hv, hrow⟩ := hs.l
    obtain ⟨hi, hz0, hz1, hz2⟩ := HI.out
    have hc := hv.cell
    have hf := hv.frozen
    have hfs := flat_succ hkN
    have HFS := Lib.hid hfs
    have R0 := Lib.hid hr0
    have R1 := Lib.hid hr1
    clear hs0 hd0 hr0 hr1 hfs
    gi_wp2_with (gi_at_builtin; refine wpListIn_append_own _ rfl _ _ 57 rfl (B + 4) 46 i0 (.agg #[.int .i64 0, .int .i64 0]) 2 16 Try.underlying57 hi hz0 hz1 hz2 rfl (by decide) _ _ _ rfl (hrow.alloc _) ⟨A.heap.size, 0, none⟩ 1 1 [.int .i64 (nth S k).1, .int .i64 (nth S k).2] rfl rfl (cell_two_new _ _ _ _) (by simp [Value.oneCell']) (by unfold maxLen; omega) (by omega) (by simp; omega) ?_; intro v' w1 hown' hgrow _; obtain ⟨g', cap', rfl⟩ := ownsRow_succ hown'; obtain ⟨hv1, hv2, hr2, hk2, hj2, hb2⟩ := appended_below hv (by omega) hrow (by omega) hown' hgrow; have hc1 := hv1.cell; have hf1 := hv1.frozen)
    rw [← HFS.out] at hr2
    exact ⟨⟨(hk2.same _ _ R0.out rfl).trans R0.out.symm, (hk2.same _ _ R1.out rfl).trans R1.out.symm⟩, ⟨hj2 _ (by omega) (by omega), hj2 _ (by omega) (by omega), hj2 _ (by omega) (by omega)⟩, ⟨⟨_, hv2, hr2⟩, hs.b.trans hb2⟩⟩

set_option maxHeartbeats 1000000 in
theorem Solve_no (d n m : Int) (h : isD d = false ∨ isN n = false ∨ m < 0 ∨ 5000 < m) (w : World) :
    Calls Try.prog 58 #[.int .i64 d, .int .i64 n, .int .i64 m] w fun e w' => e = .returned (.tuple #[.slice none 0 0, .int .i64 2]) ∧ w = w' := by
  by_cases hd : isD d = true
  · by_cases hn : isN n = true
    · have h' : m < 0 ∨ 5000 < m := by simpa [hd, hn] using h
      have HD := Lib.hid hd
      have HN := Lib.hid hn
      clear hd hn h
      rcases h' with h' | h'
      · have k1 : decide (m < 0) = true := by simpa using h'
        go_enter Try.func58, Try.ntmps58
        go_wp2_with fail
        refine (validD_any _ _).mono ?_
        rintro e w' ⟨rfl, rfl⟩
        rw [HD.out]
        go_wp2_with fail
        refine (validN_yes _ _ HN.out).mono ?_
        rintro e w' ⟨rfl, rfl⟩
        go_wp2
        go_ret2
        exact ⟨rfl, rfl⟩
      · have k1 : decide (m < 0) = false := by simp; omega
        have k2 : decide (5000 < m) = true := by simpa using h'
        go_enter Try.func58, Try.ntmps58
        go_wp2_with fail
        refine (validD_any _ _).mono ?_
        rintro e w' ⟨rfl, rfl⟩
        rw [HD.out]
        go_wp2_with fail
        refine (validN_yes _ _ HN.out).mono ?_
        rintro e w' ⟨rfl, rfl⟩
        go_wp2
        go_ret2
        exact ⟨rfl, rfl⟩
    · have hn' : isN n = false := by simpa using hn
      have HD := Lib.hid hd
      have HN := Lib.hid hn'
      clear hd hn hn' h
      go_enter Try.func58, Try.ntmps58
      go_wp2_with fail
      refine (validD_any _ _).mono ?_
      rintro e w' ⟨rfl, rfl⟩
      rw [HD.out]
      go_wp2_with fail
      refine (validN_no _ _ HN.out).mono ?_
      rintro e w' ⟨rfl, rfl⟩
      go_wp2
      go_ret2
      exact ⟨rfl, rfl⟩
  · have hd' : isD d = false := by simpa using hd
    have HD := Lib.hid hd'
    clear hd hd' h
    go_enter Try.func58, Try.ntmps58
    go_wp2_with fail
    refine (validD_any _ _).mono ?_
    rintro e w' ⟨rfl, rfl⟩
    rw [HD.out]
    go_wp2
    go_ret2
    exact ⟨rfl, rfl⟩
end Go.Proofs.Ytbdabpmpfciibaa.pl
