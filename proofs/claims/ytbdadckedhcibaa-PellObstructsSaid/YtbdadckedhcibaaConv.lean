/- The walks of pell.convergents and of the iterator that it makes: it yields p and q of the convergents in turn, as long as p is at most 10^18. Conditions as stated in each theorem (d is a D). -/
import Derived.Test.YtbdadckedhcibaaTerms
import Derived.Sort.QuietIn
import Derived.BigQuiet
import Derived.Deep.QuietTactic
namespace Go.Proofs.Ytbdadckedhcibaa
open Go.RowKit Go.Shelf
attribute [local go_sem] Oper.semAt_some

theorem RoundIn.inRound {n : Nat} {P : Program} {l l' : Nat} {f : FuncId} {tmps : Array Value} {assign body : Code} {w : World} {R : Ending → World → Prop}
    (h : RoundIn Fence.wide n P l f tmps assign body w R) : RoundIn (Fence.wide.inRound l') n P l f tmps assign body w R := h

set_option maxHeartbeats 400000 in
theorem convergents_any (d : Int) (w : World) :
    Calls Try.prog 43 #[.int .i64 d] w fun e w' => e = .returned (.func (.func 65) #[] #[.pointer (some ⟨w.heap.size, 0, none⟩)]) ∧ w.alloc (.cells #[.int .i64 d] 3) = w' := by
  go_enter Try.func43, Try.ntmps43
  go_wp2
  go_ret
  exact ⟨rfl, rfl⟩

theorem cv_facts {d : Int} (hd : isD d = true) {k : Nat} (hk : k ≤ cvStop d) :
    0 ≤ cvP d k ∧ cvP d k ≤ 1000000000000000000 ∧ 0 ≤ cvQ d k ∧ cvQ d k ≤ 1000000000000000000 ∧ 0 ≤ cvLP d k ∧ cvLP d k ≤ 1000000000000000000 ∧ 0 ≤ cvLQ d k ∧ cvLQ d k ≤ 1000000000000000000 := by
  have hb := isD_bd hd
  have h := allBelow_at cfCheck_ok (k := d.toNat) (by omega)
  rw [Int.toNat_of_nonneg (by omega), hd] at h
  simp at h
  have g := allBelow_at h.2 (k := k) (by omega)
  simp only [cvGood, Bool.and_eq_true, decide_eq_true_eq] at g
  omega

theorem cvStop_lt {d : Int} (hd : isD d = true) : cvStop d < 88 := by
  have hb := isD_bd hd
  have h := allBelow_at cfCheck_ok (k := d.toNat) (by omega)
  rw [Int.toNat_of_nonneg (by omega), hd] at h
  simp at h
  exact h.1.2

theorem cvStopAux_spec (d : Int) : ∀ (f k : Nat), cvStopAux d f k < k + f →
    (∀ j, k ≤ j → j < cvStopAux d f k → cvP d j ≤ (1000000000000000000 - cvLP d j) / cfA d j) ∧ (1000000000000000000 - cvLP d (cvStopAux d f k)) / cfA d (cvStopAux d f k) < cvP d (cvStopAux d f k)
  | 0, k, h => by simp [cvStopAux] at h
  | f + 1, k, h => by
    unfold cvStopAux at h ⊢
    split
    · rename_i hc
      exact ⟨fun j h1 h2 => by omega, hc⟩
    · rename_i hc
      rw [if_neg hc] at h
      obtain ⟨h1, h2⟩ := cvStopAux_spec d f (k + 1) (by omega)
      refine ⟨fun j hj hj' => ?_, h2⟩
      by_cases e : j = k
      · subst e; omega
      · exact h1 j (by omega) hj'

theorem cvStop_before {d : Int} (hd : isD d = true) {k : Nat} (hk : k < cvStop d) : cvP d k ≤ (1000000000000000000 - cvLP d k) / cfA d k :=
  (cvStopAux_spec d 90 0 (by have := cvStop_lt hd; unfold cvStop at this; omega)).1 k (by omega) hk
theorem cvStop_at {d : Int} (hd : isD d = true) : (1000000000000000000 - cvLP d (cvStop d)) / cfA d (cvStop d) < cvP d (cvStop d) :=
  (cvStopAux_spec d 90 0 (by have := cvStop_lt hd; unfold cvStop at this; omega)).2

theorem cell_alloc_k {w : World} {a : Addr} {v : Value} (o : Obj) (h : w.cell? a = some v) : (w.alloc o).cell? a = some v := by
  have hlt : a.block < w.heap.size := by
    unfold World.cell? at h
    cases ho : w.heap[a.block]? with
    | none => simp [ho] at h
    | some o => exact (Array.getElem?_eq_some_iff.1 ho).1
  exact (World.cell?_of_block (Below.heap_alloc w o a.block hlt)).trans h
theorem below_putObj {B : Nat} (W : World) {j : Nat} (hj : B ≤ j) (o : Obj) : Below B W (W.putObj j o) :=
  ⟨rfl, rfl, rfl, by simp, fun k hk => World.putObj_heap_other (by omega)⟩

def keepAbove (n : Nat) (A B : World) : Prop := Above n A B
def turnBelow (n : Nat) (A B : World) : Prop := Below n A B

/-- The iterator's own variables: the boxes from B on hold what they hold after k rounds. -/
structure CvState (d : Int) (l B k : Nat) (W : World) : Prop where
  y : Boxed W B 32 (.func (.yield l) #[] #[])
  p : Boxed W (B + 1) 3 (.int .i64 (cvP d k))
  q : Boxed W (B + 1 + 1) 3 (.int .i64 (cvQ d k))
  lp : Boxed W (B + 1 + 1 + 1) 3 (.int .i64 (cvLP d k))
  lq : Boxed W (B + 1 + 1 + 1 + 1) 3 (.int .i64 (cvLQ d k))

theorem CvState.above {d : Int} {l B k : Nat} {W W' : World} (h : CvState d l B k W) (hA : Above B W W') : CvState d l B k W' :=
  ⟨boxed_above h.y hA (by omega), boxed_above h.p hA (by omega), boxed_above h.q hA (by omega), boxed_above h.lp hA (by omega), boxed_above h.lq hA (by omega)⟩
theorem CvState.putObj {d : Int} {l B k : Nat} {W : World} (h : CvState d l B k W) (j : Nat) (hj : B + 5 ≤ j) (o : Obj) : CvState d l B k (W.putObj j o) :=
  ⟨boxed_putObj o h.y (by omega), boxed_putObj o h.p (by omega), boxed_putObj o h.q (by omega), boxed_putObj o h.lp (by omega), boxed_putObj o h.lq (by omega)⟩

/-- What a round stores into the iterator's own variables. -/
theorem cv_step {d : Int} {l B k : Nat} {A : World} (hs : CvState d l B k A) :
    ∃ W1, W1 = ((((A.setCell ⟨B + 1, 0, none⟩ (.int .i64 (cvP d (k + 1)))).setCell ⟨B + 1 + 1 + 1, 0, none⟩ (.int .i64 (cvP d k))).setCell ⟨B + 1 + 1, 0, none⟩ (.int .i64 (cvQ d (k + 1)))).setCell ⟨B + 1 + 1 + 1 + 1, 0, none⟩ (.int .i64 (cvQ d k))).drew ∧
      Below B A W1 ∧ (∀ j, B + 5 ≤ j → W1.heap[j]? = A.heap[j]?) ∧ CvState d l B (k + 1) W1 ∧ W1.heap.size = A.heap.size := by
  have n1 : B ≤ B + 1 := by omega
  have n2 : B ≤ B + 1 + 1 := by omega
  have n3 : B ≤ B + 1 + 1 + 1 := by omega
  have n4 : B ≤ B + 1 + 1 + 1 + 1 := by omega
  refine ⟨_, rfl, ?_, ?_, ⟨?_, ?_, ?_, ?_, ?_⟩, ?_⟩
  · exact (((((Below.refl B A).setCell (p := ⟨B + 1, 0, none⟩) n1 _).setCell (p := ⟨B + 1 + 1 + 1, 0, none⟩) n3 _).setCell (p := ⟨B + 1 + 1, 0, none⟩) n2 _).setCell (p := ⟨B + 1 + 1 + 1 + 1, 0, none⟩) n4 _).drew
  · intro j hj
    have m1 : j ≠ B + 1 := by omega
    have m2 : j ≠ B + 1 + 1 := by omega
    have m3 : j ≠ B + 1 + 1 + 1 := by omega
    have m4 : j ≠ B + 1 + 1 + 1 + 1 := by omega
    exact (Below.heap_setCell _ _ _ j m4).trans ((Below.heap_setCell _ _ _ j m2).trans ((Below.heap_setCell _ _ _ j m3).trans (Below.heap_setCell _ _ _ j m1)))
  · refine boxed_drew ?_
    exact boxed_setCell _ (boxed_setCell _ (boxed_setCell _ (boxed_setCell _ hs.y (by omega)) (by omega)) (by omega)) (by omega)
  · refine boxed_drew ?_
    exact boxed_setCell _ (boxed_setCell _ (boxed_setCell _ (hs.p.set _) (by omega)) (by omega)) (by omega)
  · refine boxed_drew ?_
    exact boxed_setCell _ ((boxed_setCell _ (boxed_setCell _ hs.q (by omega)) (by omega)).set _) (by omega)
  · refine boxed_drew ?_
    rw [cvLP_succ]
    exact boxed_setCell _ (boxed_setCell _ ((boxed_setCell _ hs.lp (by omega)).set _) (by omega)) (by omega)
  · refine boxed_drew ?_
    rw [cvLQ_succ]
    exact (boxed_setCell _ (boxed_setCell _ (boxed_setCell _ hs.lq (by omega)) (by omega)) (by omega)).set _
  · simp [World.setCell, World.drew]

set_option maxHeartbeats 2000000 in
theorem conv_iter (d : Int) (hd : isD d = true) (b : Nat) (w : World) (hb : b < w.heap.size) (hbox : Boxed w b 3 (.int .i64 d)) (Fin : Prop) (N : Nat) (hN : N ≤ cvStop d) (hNF : N < cvStop d → ¬ Fin) :
    IterC Try.prog 65 #[.pointer (some ⟨b, 0, none⟩)] (fun k => #[.int .i64 (cvP d (k + 1)), .int .i64 (cvQ d (k + 1))]) turnBelow keepAbove Fin N w := by
  intro l J Jx W hW hJ hJx hY hF h0
  have hstop := cvStop_lt hd
  have hboxW : Boxed W b 3 (.int .i64 d) := boxed_below hbox hW hb
  have hbW : b < W.heap.size := hboxW.lt
  clear hbox
  have hc := hboxW.cell
  refine (callsIn_wide (n := 5)).1 ?_
  refine callsIn_of_wp_marks Try.func65 rfl trivial ?_ rfl
  simp only [Try.ntmps65, List.size_toArray, List.length_cons, List.length_nil, Nat.reduceAdd, Nat.reduceSub, Array.replicate_succ, Array.replicate_zero, List.push_toArray, List.append_toArray, List.nil_append, List.cons_append]
  have hYY := Lib.hid hY
  clear hY
  have hcA : ∀ o1 o2 o3 o4 o5, (((((W.alloc o1).alloc o2).alloc o3).alloc o4).alloc o5).cell? ⟨b, 0, none⟩ = some (.int .i64 d) := fun o1 o2 o3 o4 o5 =>
    Go.Proofs.Ytbdadckedhcibaa.cell_alloc_k _ (Go.Proofs.Ytbdadckedhcibaa.cell_alloc_k _ (Go.Proofs.Ytbdadckedhcibaa.cell_alloc_k _ (Go.Proofs.Ytbdadckedhcibaa.cell_alloc_k _ (Go.Proofs.Ytbdadckedhcibaa.cell_alloc_k _ hc))))
  gi_wp2_with (refine ⟨trivial, ?_⟩; gi_at_call 42; refine (callsIn_wide.2 (terms_any _ _)).mono ?_; rintro e w' ⟨rfl, rfl⟩)
  obtain ⟨B, hB⟩ : ∃ B, W.heap.size = B := ⟨_, rfl⟩
  have hs0 : CvState d l B 0 ((((((W.alloc (.cells #[.func (.yield l) #[] #[]] 32)).alloc (.cells #[.int .i64 1] 3)).alloc (.cells #[.int .i64 0] 3)).alloc (.cells #[.int .i64 0] 3)).alloc (.cells #[.int .i64 1] 3)).alloc (.cells #[.int .i64 d] 3)) := by
    have y0 := Boxed.new W 32 (.func (.yield l) #[] #[])
    have y1 := Boxed.new (W.alloc (.cells #[.func (.yield l) #[] #[]] 32)) 3 (.int .i64 1)
    have y2 := Boxed.new ((W.alloc (.cells #[.func (.yield l) #[] #[]] 32)).alloc (.cells #[.int .i64 1] 3)) 3 (.int .i64 0)
    have y3 := Boxed.new (((W.alloc (.cells #[.func (.yield l) #[] #[]] 32)).alloc (.cells #[.int .i64 1] 3)).alloc (.cells #[.int .i64 0] 3)) 3 (.int .i64 0)
    have y4 := Boxed.new ((((W.alloc (.cells #[.func (.yield l) #[] #[]] 32)).alloc (.cells #[.int .i64 1] 3)).alloc (.cells #[.int .i64 0] 3)).alloc (.cells #[.int .i64 0] 3)) 3 (.int .i64 1)
    simp only [World.size_alloc, hB] at y0 y1 y2 y3 y4
    exact ⟨((((y0.alloc _).alloc _).alloc _).alloc _).alloc _, (((y1.alloc _).alloc _).alloc _).alloc _, ((y2.alloc _).alloc _).alloc _, (y3.alloc _).alloc _, y4.alloc _⟩
  have hd0 : Boxed ((((((W.alloc (.cells #[.func (.yield l) #[] #[]] 32)).alloc (.cells #[.int .i64 1] 3)).alloc (.cells #[.int .i64 0] 3)).alloc (.cells #[.int .i64 0] 3)).alloc (.cells #[.int .i64 1] 3)).alloc (.cells #[.int .i64 d] 3)) (B + 1 + 1 + 1 + 1 + 1) 3 (.int .i64 d) := by
    have y5 := Boxed.new (((((W.alloc (.cells #[.func (.yield l) #[] #[]] 32)).alloc (.cells #[.int .i64 1] 3)).alloc (.cells #[.int .i64 0] 3)).alloc (.cells #[.int .i64 0] 3)).alloc (.cells #[.int .i64 1] 3)) 3 (.int .i64 d)
    simp only [World.size_alloc, hB] at y5
    exact y5
  have hbel : Below B W ((((((W.alloc (.cells #[.func (.yield l) #[] #[]] 32)).alloc (.cells #[.int .i64 1] 3)).alloc (.cells #[.int .i64 0] 3)).alloc (.cells #[.int .i64 0] 3)).alloc (.cells #[.int .i64 1] 3)).alloc (.cells #[.int .i64 d] 3)) :=
    ((((((Below.refl B W).alloc (by omega) _).alloc (by simp; omega) _).alloc (by simp; omega) _).alloc (by simp; omega) _).alloc (by simp; omega) _).alloc (by simp; omega) _
  have hsz : ((((((W.alloc (.cells #[.func (.yield l) #[] #[]] 32)).alloc (.cells #[.int .i64 1] 3)).alloc (.cells #[.int .i64 0] 3)).alloc (.cells #[.int .i64 0] 3)).alloc (.cells #[.int .i64 1] 3)).alloc (.cells #[.int .i64 d] 3)).heap.size = B + 6 := by simp [hB]
  rw [hB] at hJ hJx hYY
  simp only [hB]
  generalize ((((((W.alloc (.cells #[.func (.yield l) #[] #[]] 32)).alloc (.cells #[.int .i64 1] 3)).alloc (.cells #[.int .i64 0] 3)).alloc (.cells #[.int .i64 0] 3)).alloc (.cells #[.int .i64 1] 3)).alloc (.cells #[.int .i64 d] 3)) = Wc at hs0 hd0 hbel hsz ⊢
  have hj0 : J 0 Wc := hJ 0 W Wc h0 hbel
  clear hcA hc hboxW h0
  refine wpIn_range_ix (gf := 64) (lb := #[.pointer (some ⟨B + 1 + 1 + 1 + 1 + 1, 0, none⟩)]) rfl (enters_of Try.func64 (by kernel_rfl) rfl)
    (terms_iter d hd (B + 1 + 1 + 1 + 1 + 1) Wc (by omega) hd0 (N + 1) (by omega)) (Below.refl _ _) (fun _ => rfl)
    (fun A A' h => by cases h; exact ⟨rfl, rfl⟩)
    (fun A A' r r1 r2 _ h => by
      unfold keepBox at h ⊢
      rw [World.putObj_heap_other (by omega)] at h ⊢
      exact h)
    (fun k A => k ≤ N ∧ J k A ∧ CvState d l B k A)
    (fun c k A => c = .ret ∧ ((k = N ∧ J N A ∧ N = cvStop d) ∨ (k < N ∧ Jx k A)))
    (fun k A A' h e => by cases e; exact h) (fun c k A A' h e => by cases e; exact h)
    (fun k A r r' h _ => ⟨h.1, hJ k _ _ h.2.1 (below_putObj A (by omega) _), h.2.2.putObj _ (by omega) _⟩)
    (fun c k A r r' h _ => ⟨h.1, h.2.imp (fun h => ⟨h.1, hJ N _ _ h.2.1 (below_putObj A (by omega) _), h.2.2⟩) (fun h => ⟨h.1, hJx k _ _ h.2 (below_putObj A (by omega) _)⟩)⟩)
    (fun r => ⟨by omega, hJ 0 _ _ hj0 (((Below.refl B Wc).alloc (by omega) _).alloc (by simp; omega) _), hs0.above ((Above.alloc B Wc _).trans (Above.alloc B _ _))⟩)
    (fun A h => by have := h.1; omega)
    (fun k => { tmps := #[.func (.yield l) #[] #[], .pointer (some ⟨b, 0, none⟩), .pointer (some ⟨B, 0, none⟩), .pointer (some ⟨B + 1, 0, none⟩), .pointer (some ⟨B + 1 + 1, 0, none⟩), .pointer (some ⟨B + 1 + 1 + 1, 0, none⟩), .pointer (some ⟨B + 1 + 1 + 1 + 1, 0, none⟩), .int .i64 (cfA d k), .int .i64 d, .func (.func 64) #[] #[.pointer (some ⟨B + 1 + 1 + 1 + 1 + 1, 0, none⟩)], .int .i64 (cfA d k), undef, undef, undef, undef, undef, undef, undef, undef, undef, undef, undef, undef, undef, undef, undef, undef, undef, undef, undef, undef, undef, undef, undef], defers := [] }) ?assign ?body ?done ?stop
  case assign =>
    intro l x A K hK
    gi_wp2
    exact hK
  case done =>
    intro A h
    exact h.elim
  case stop =>
    rintro c k A hk ⟨rfl, h⟩ hK
    gi_wp2
    refine ⟨by simp, .inl ⟨_, _, rfl, run_takeDeferred hK, ?_⟩⟩
    refine ⟨_, results_none rfl _ _ _, ⟨_, rfl⟩, ?_⟩
    rcases h with ⟨_, h, _⟩ | ⟨hkN, h⟩
    · exact .inl ⟨hF _ h, hJ N _ _ h (below_putObj A (by omega) _)⟩
    · exact .inr ⟨k, hkN, hJx k _ _ h (below_putObj A (by omega) _)⟩
  case body =>
    rintro l' k A ⟨hk, hj, hs⟩ hkN1 hlt _
    clear hs0 hd0 hj0
    obtain ⟨g1, g2, g3, g4, g5, g6, g7⟩ := cf_facts hd (k := k) (by omega)
    obtain ⟨v1, v2, v3, v4, v5, v6, v7, v8⟩ := cv_facts hd (k := k) (by omega)
    have c1 := hs.p.cell
    have c2 := hs.q.cell
    have c3 := hs.lp.cell
    have c4 := hs.lq.cell
    have c0 := hs.y.cell
    have z1 := hs.p.frozen
    have z2 := hs.q.frozen
    have z3 := hs.lp.frozen
    have z4 := hs.lq.frozen
    have mixed : Try.prog.follows .mixedOrders = true := by kernel_rfl
    have hdiff : 0 ≤ 1000000000000000000 - cvLP d k := by omega
    gi_wp2
    refine wpIn_mono (Q := fun e a' w' => e = .normal ∧ a' = { tmps := #[.func (.yield l) #[] #[], .pointer (some ⟨b, 0, none⟩), .pointer (some ⟨B, 0, none⟩), .pointer (some ⟨B + 1, 0, none⟩), .pointer (some ⟨B + 1 + 1, 0, none⟩), .pointer (some ⟨B + 1 + 1 + 1, 0, none⟩), .pointer (some ⟨B + 1 + 1 + 1 + 1, 0, none⟩), .int .i64 (cfA d k), .int .i64 d, .func (.func 64) #[] #[.pointer (some ⟨B + 1 + 1 + 1 + 1 + 1, 0, none⟩)], .int .i64 (cfA d k), .int .i64 (cvP d k), .int .i64 (cvLP d k), .int .i64 (1000000000000000000 - cvLP d k), .int .i64 (cfA d k), .int .i64 ((1000000000000000000 - cvLP d k) / cfA d k), .bool (decide ((1000000000000000000 - cvLP d k) / cfA d k < cvP d k)), undef, undef, undef, undef, undef, undef, undef, undef, undef, undef, undef, undef, undef, undef, undef, undef, undef], defers := [] } ∧ w' = A.drew) ?_ ?_
    · clear hYY hJ hJx hF hNF c2 c4 c0 z1 z2 z3 z4 hs hj hbel hW hd hbW hB hsz hlt hb hk hkN1 hN hstop g1 g2 g3 g4 g7 v3 v4 v7 v8
      gi_region_with_o (fail)
      all_goals exact ⟨rfl, rfl, rfl⟩
    rintro e a' w' ⟨rfl, rfl, rfl⟩
    by_cases hkN : k = N
    · have hst : N = cvStop d := by
        by_cases e : N = cvStop d
        · exact e
        · subst hkN; exact (hNF (by omega) (hF _ hj)).elim
      have hcmp : (1000000000000000000 - cvLP d k) / cfA d k < cvP d k := by rw [hkN, hst]; exact cvStop_at hd
      have hfin : ∀ a', roundEnd Wc.heap.size (keepBox (B + 1 + 1 + 1 + 1 + 1)) (fun k A => k ≤ N ∧ J k A ∧ CvState d l B k A)
          (fun c k A => c = Code.ret ∧ (k = N ∧ J N A ∧ N = cvStop d ∨ k < N ∧ Jx k A)) k A Exit.ret a' A.drew := fun a' =>
        ⟨⟨rfl, rfl⟩, rfl, rfl, .inl ⟨hkN, hJ N _ _ (hkN ▸ hj) (Below.refl _ _).drew, hst⟩⟩
      have HE := Lib.hid hfin
      clear hkN hst hfin
      gi_wp2
      exact HE.out _
    · have hkN' : k < N := by omega
      have hcmp : cvP d k ≤ (1000000000000000000 - cvLP d k) / cfA d k := cvStop_before hd (by omega)
      obtain ⟨x1, x2, x3, x4, -, -, -, -⟩ := cv_facts hd (k := k + 1) (by omega)
      have e1 := cvP_succ d k
      have e2 := cvQ_succ d k
      have p0 : 0 ≤ cfA d k * cvP d k := Int.mul_nonneg (by omega) (by omega)
      have p1 : cfA d k * cvP d k ≤ 1000000000000000000 := by omega
      have q0 : 0 ≤ cfA d k * cvQ d k := Int.mul_nonneg (by omega) (by omega)
      have q1 : cfA d k * cvQ d k ≤ 1000000000000000000 := by omega
      have e1' := e1.symm
      have e2' := e2.symm
      clear e1 e2
      obtain ⟨W1, hW1, hB1, hsame, hst1, hz1⟩ := cv_step hs
      have hyy := hYY.out k W1 (hJ k _ _ hj hB1) hkN'
      rw [hW1] at hyy
      obtain ⟨fn, tmps, assign, body, hy, hR⟩ := hyy
      rw [← hW1] at hR
      have HR := Lib.hid hR
      have HB1 := Lib.hid hB1
      have HS := Lib.hid hsame
      have HT := Lib.hid hst1
      have HZ := Lib.hid hz1
      have HW := Lib.hid hW1
      clear hR hB1 hsame hst1 hz1 hW1 hYY
      gi_wp2
      rw [← HW.out]
      refine (RoundIn.inRound (roundIn_wide HR.out)).mono ?_
      clear c0 c1 c2 c3 c4 z1 z2 z3 z4 hy hcmp e1' e2' p0 p1 q0 q1 x1 x2 x3 x4 hdiff v1 v2 v3 v4 v5 v6 v7 v8 g1 g2 g3 g4 g5 g6 g7 hJ hJx
      have keepj : ∀ (A3 : World), keepAbove B W1 A3 → ∀ j, B + 5 ≤ j → j < A.heap.size → A3.heap[j]? = A.heap[j]? := fun A3 h j h1 h2 =>
        (h.block j (by omega) (by rw [HZ.out]; exact h2)).trans (HS.out j h1)
      have HK := Lib.hid keepj
      clear keepj
      rintro e A3 (⟨rfl, hJ3, hk3⟩ | ⟨rfl, hJx3, hk3⟩)
      · gi_wp2
        exact ⟨⟨HK.out A3 hk3 _ (by omega) (by omega), HK.out A3 hk3 _ (by omega) (by omega)⟩, HK.out A3 hk3 _ (by omega) (by omega), by omega, hJ3, HT.out.above hk3⟩
      · gi_wp2
        exact ⟨⟨HK.out A3 hk3 _ (by omega) (by omega), HK.out A3 hk3 _ (by omega) (by omega)⟩, HK.out A3 hk3 _ (by omega) (by omega), rfl, .inr ⟨hkN', hJx3⟩⟩
end Go.Proofs.Ytbdadckedhcibaa
