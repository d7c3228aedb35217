/- The contract of an iterator that keeps its state in one block at a time, and what a caller's loop over it owes. No condition beyond those stated. -/
import Derived.Test.YtopfcppmbkidgaaIter
namespace Go.Proofs.Ytopfcppmbkidgaa
open Go.RowKit Go.Shelf

/-- All blocks but G lie as they lay. -/
def OwnG (G : Nat) (A B : World) : Prop := B.os = A.os ∧ B.tape = A.tape ∧ B.output = A.output ∧ A.heap.size ≤ B.heap.size ∧ ∀ j, j < A.heap.size → j ≠ G → B.heap[j]? = A.heap[j]?
theorem OwnG.of {G : Nat} {A B : World} (h : Below A.heap.size A B) : OwnG G A B := ⟨h.os, h.tape, h.output, h.size, fun j hj _ => h.block j hj⟩
theorem OwnG.below {G n : Nat} {A B : World} (h : OwnG G A B) (hn : n ≤ A.heap.size) (hG : n ≤ G) : Below n A B := ⟨h.1, h.2.1, h.2.2.1, h.2.2.2.1, fun j hj => h.2.2.2.2 j (by omega) (by omega)⟩

/-- The contract: G is the block in which the iterator keeps its state. -/
def IterG (P : Program) (g : Nat) (lb : Array Value) (encs : Nat → Array Value) (N : Nat) (w : World) : Prop :=
  ∀ (l : Nat) (J : Nat → Nat → World → Prop) (W : World), Below w.heap.size w W →
    (∀ k G A B, J k G A → W.heap.size ≤ G → OwnG G A B → J k G B) →
    (∀ k G A o, J k G A → W.heap.size ≤ A.heap.size → J k A.heap.size (A.alloc o)) →
    (∀ k G W1, J k G W1 → W.heap.size ≤ G → G < W1.heap.size → k < N → YieldAt Fence.wide 0 P l (encs k) W1 fun e W' =>
      e = .returned (.bool true) ∧ J (k + 1) G W' ∧ W'.heap[G]? = W1.heap[G]? ∧ W1.heap.size ≤ W'.heap.size) →
    J 0 W.heap.size W →
    Calls P g (#[.func (.yield l) #[] #[]] ++ lb) W fun e W' => (∃ v, e = .returned v) ∧ ∃ G, J N G W'

theorem wpIn_range_ig {n : Nat} {P : Program} {g : Operand} {ps : Array Tmp} {assign body : Code} {Q : Exit → Act → World → Prop} {a : Act} {w : World}
    {gf : Nat} {lb : Array Value} (hg : a.eval g = .func (.func gf) #[] lb) (eg : ∀ args w, (callFunc gf args).run P w = .ok (.enter gf args) w)
    {encs : Nat → Array Value} {N : Nat} {w0 : World} (hseq : IterG P gf lb encs N w0) (hb0 : Below w0.heap.size w0 w) (hps : ∀ k, (encs k).size = ps.size)
    (I : Nat → Nat → World → Prop)
    (hI : ∀ k G A B, I k G A → w.heap.size + 2 ≤ G → OwnG G A B → I k G B)
    (hIa : ∀ k G A o, I k G A → w.heap.size + 2 ≤ A.heap.size → I k A.heap.size (A.alloc o))
    (hIr : ∀ k G A (r r' : Loop), I k G A → A.heap[w.heap.size + 1]? = some (.loop r) → I k G (A.putObj (w.heap.size + 1) (.loop r')))
    (h0 : ∀ r : Loop, I 0 (w.heap.size + 2) ((w.alloc (.deferred (some []))).alloc (.loop r)))
    (I1 : Nat → Nat → Act → World → Prop)
    (hI1r : ∀ k G a1 A (r r' : Loop), I1 k G a1 A → A.heap[w.heap.size + 1]? = some (.loop r) → I1 k G a1 (A.putObj (w.heap.size + 1) (.loop r')))
    (hassign : ∀ (l : Nat) (k G : Nat) (W : World) (K : Act → World → Prop), I k G W → k < N → w.heap.size + 2 ≤ G → G < W.heap.size →
      (∀ a1 W1, I1 k G a1 W1 → W1.heap[w.heap.size]? = W.heap[w.heap.size]? → W1.heap[w.heap.size + 1]? = W.heap[w.heap.size + 1]? → W1.heap[G]? = W.heap[G]? → W.heap.size ≤ W1.heap.size → K a1 W1) →
      assign.wpIn (Fence.wide.inRound l) n P (Exit.then K (fun _ _ _ => False)) { tmps := (ps.zip (encs k)).foldl (fun t (p, v) => t.setIfInBounds p v) a.tmps, defers := [] } W)
    (hbody : ∀ (l : Nat) (k G : Nat) (a1 : Act) (W : World), I1 k G a1 W → k < N → w.heap.size + 2 ≤ G → G < W.heap.size → (W.heap[w.heap.size]? = some (.deferred (some [])) ∧ ∃ r, W.heap[w.heap.size + 1]? = some (.loop r)) →
      body.wpIn (Fence.wide.inRound l) n P (fun ex _ W' => ex = .normal ∧ (W'.heap[w.heap.size]? = W.heap[w.heap.size]? ∧ W'.heap[w.heap.size + 1]? = W.heap[w.heap.size + 1]?) ∧ W'.heap[G]? = W.heap[G]? ∧ W.heap.size ≤ W'.heap.size ∧ I (k + 1) G W') a1 W)
    (hdone : ∀ (G : Nat) (W : World), I N G W → W.heap[w.heap.size]? = some (.deferred (some [])) → Q .normal { a with defers := { target := .collected w.heap.size, args := #[] } :: a.defers } W) :
    (Code.rangeFunc g ps assign body).wpIn Fence.wide n P Q a w := by
  refine wpIn_rangeFunc ?_
  intro fn hfn
  obtain ⟨rec, hrec⟩ : ∃ rec : LoopState → Option Code → Loop, rec = fun st pe => { state := st, pending := pe, fn, tmps := a.tmps, params := ps, assign, body, defers := w.heap.size } := ⟨_, rfl⟩
  obtain ⟨W1, hW1⟩ : ∃ W1, (w.alloc (.deferred (some []))).alloc (.loop (rec .ready none)) = W1 := ⟨_, rfl⟩
  have hL1 : W1.heap[w.heap.size + 1]? = some (.loop (rec .ready none)) := by
    rw [← hW1]; have := World.alloc_heap_new (w.alloc (.deferred (some []))) (.loop (rec .ready none)); rwa [World.size_alloc] at this
  have hK1 : W1.heap[w.heap.size]? = some (.deferred (some [])) := by
    rw [← hW1]; exact (Below.heap_alloc _ _ _ (by simp)).trans (World.alloc_heap_new w _)
  have hs1 : W1.heap.size = w.heap.size + 2 := by rw [← hW1]; simp
  have hI1 : I 0 W1.heap.size W1 := by rw [hs1, ← hW1]; exact h0 _
  have hb1 : Below w0.heap.size w0 W1 := by
    rw [← hW1]; exact hb0.trans ((((Below.refl _ w).alloc (Nat.le_refl _) _).alloc (by simp) _).mono hb0.size)
  refine ⟨w.heap.size + 1, [{ target := .collected w.heap.size, args := #[] }], W1, { target := .fn (.func gf) lb, args := #[.func (.yield (w.heap.size + 1)) #[] #[]] }, W1, gf,
    #[.func (.yield (w.heap.size + 1)) #[] #[]] ++ lb, W1, ?_, ?_, ?_, ?_, fun h => by simp [Fence.wide] at h, ?_⟩
  · rw [← hW1, hrec]; exact run_enterLoop_outer _ _ _ _ _
  · simp only [resolve, hg]
    simp [go_sem]
  · intro f' _; trivial
  · simp [invoke, go_sem, eg]
  · refine callsIn_wide.2 ?_
    refine (hseq (w.heap.size + 1)
      (fun k G W => I k G W ∧ W.heap[w.heap.size + 1]? = some (.loop (rec .ready none)) ∧ W.heap[w.heap.size]? = some (.deferred (some [])))
      W1 hb1
      (fun k G A B hs hG ho => by
        rw [hs1] at hG
        have l1 := (Array.getElem?_eq_some_iff.1 hs.2.1).1
        exact ⟨hI k G A B hs.1 hG ho, (ho.2.2.2.2 _ l1 (by omega)).trans hs.2.1, (ho.2.2.2.2 _ (by omega) (by omega)).trans hs.2.2⟩)
      (fun k G A o hs hsz => by
        rw [hs1] at hsz
        have l1 := (Array.getElem?_eq_some_iff.1 hs.2.1).1
        exact ⟨hIa k G A o hs.1 hsz, (Below.heap_alloc _ _ _ l1).trans hs.2.1, (Below.heap_alloc _ _ _ (by omega)).trans hs.2.2⟩)
      ?_ ⟨hI1, hL1, hK1⟩).mono ?_
    · -- ONE ROUND
      rintro k G W ⟨hi, hl, hk⟩ hG hGl hlen
      rw [hs1] at hG
      have hlt : w.heap.size + 1 < W.heap.size := (Array.getElem?_eq_some_iff.1 hl).1
      have hy := run_yield (P := P) (args := encs k) hl (by rw [hrec]; exact hps k)
      rw [hrec] at hy
      refine ⟨fn, _, assign, body, hy, roundIn_wide (roundIn_of_wpIn (n := n) hfn (hassign _ k G W _ hi hlen hG hGl (fun a1 W1 hi1 hD0 hD1 hG1 hsz1 => ⟨_, run_beginRound (hD1.trans hl) (by rw [hrec]), ?_⟩)))⟩
      replace hl : W1.heap[w.heap.size + 1]? = some (.loop (rec .ready none)) := hD1.trans hl
      replace hk := hD0.trans hk
      replace hlt : w.heap.size + 1 < W1.heap.size := (Array.getElem?_eq_some_iff.1 hl).1
      have hl2 : (W1.putObj (w.heap.size + 1) (.loop { rec .ready none with state := .busy })).heap[w.heap.size + 1]? = some (.loop { rec .ready none with state := .busy }) := World.putObj_heap_same hlt
      have hk2 : (W1.putObj (w.heap.size + 1) (.loop { rec .ready none with state := .busy })).heap[w.heap.size]? = some (.deferred (some [])) := (World.putObj_heap_other (by omega)).trans hk
      refine wpIn_mono (hbody _ k G a1 _ (hI1r k G a1 _ _ _ hi1 hl) hlen hG (by simp; omega) ⟨hk2, _, hl2⟩) ?_
      have fin : ∀ (jump : Option Code) (W3 : World), (W3.heap[w.heap.size]? = (W1.putObj (w.heap.size + 1) (.loop { rec .ready none with state := .busy })).heap[w.heap.size]? ∧ W3.heap[w.heap.size + 1]? = (W1.putObj (w.heap.size + 1) (.loop { rec .ready none with state := .busy })).heap[w.heap.size + 1]?) →
          (Instr.endRound (w.heap.size + 1) jump).run P W3 = .ok (.bool jump.isNone) (W3.putObj (w.heap.size + 1) (.loop (rec (if jump.isNone then .ready else .done) jump))) ∧
          W3.heap[w.heap.size + 1]? = some (.loop { rec .ready none with state := .busy }) ∧
          (W3.putObj (w.heap.size + 1) (.loop (rec (if jump.isNone then .ready else .done) jump))).heap[w.heap.size + 1]? = some (.loop (rec (if jump.isNone then .ready else .done) jump)) ∧
          (W3.putObj (w.heap.size + 1) (.loop (rec (if jump.isNone then .ready else .done) jump))).heap[w.heap.size]? = some (.deferred (some [])) := fun jump W3 hk3 => by
        have hl3 := hk3.2.trans hl2
        have := run_endRound (P := P) jump hl3
        rw [hrec] at this ⊢
        exact ⟨this, by rw [hrec] at hl3; exact hl3, World.putObj_heap_same (Array.getElem?_eq_some_iff.1 hl3).1, (World.putObj_heap_other (by omega)).trans (hk3.1.trans hk2)⟩
      rintro e a3 W3 ⟨rfl, hk3, hg3, hz3, hi3⟩
      obtain ⟨hr, hl3, hl4, hk4⟩ := fin none W3 hk3
      refine ⟨_, _, hr, rfl, ⟨hIr _ _ _ _ _ hi3 hl3, hl4, hk4⟩, ?_, ?_⟩
      · rw [World.putObj_heap_other (by omega), hg3, World.putObj_heap_other (by omega), hG1]
      · simp at hz3 ⊢; omega
    · -- BEHIND THE ITERATOR
      rintro e W2 ⟨⟨v, rfl⟩, G, hi, hl, hk⟩
      exact ⟨none, _, by have := run_endLoop (P := P) hl (by rw [hrec]; simp); rw [hrec] at this; exact this, hdone G _ (hIr _ _ _ _ _ hi hl) ((World.putObj_heap_other (by omega)).trans hk)⟩

end Go.Proofs.Ytopfcppmbkidgaa
