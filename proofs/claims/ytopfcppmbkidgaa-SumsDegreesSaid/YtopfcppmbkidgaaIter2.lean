/- A law like that of Iter on a caller's loop over a function, where a round's assignment may make memory. No condition beyond those stated. -/
import Derived.Test.YtopfcppmbkidgaaIter
namespace Go.Proofs.Ytopfcppmbkidgaa
open Go.RowKit Go.Shelf

theorem wpIn_range_iy {n : Nat} {P : Program} {g : Operand} {ps : Array Tmp} {assign body : Code} {Q : Exit → Act → World → Prop} {a : Act} {w : World}
    {gf : Nat} {lb : Array Value} (hg : a.eval g = .func (.func gf) #[] lb) (eg : ∀ args w, (callFunc gf args).run P w = .ok (.enter gf args) w)
    {encs : Nat → Array Value} {Own Kp : Nat → World → World → Prop} {Fin : Prop} {N : Nat} {w0 : World} (hseq : IterC P gf lb encs Own Kp Fin N w0) (hb0 : Below w0.heap.size w0 w) (hps : ∀ k, (encs k).size = ps.size)
    (hOwn : ∀ A B, Own (w.heap.size + 2) A B → B.heap[w.heap.size]? = A.heap[w.heap.size]? ∧ B.heap[w.heap.size + 1]? = A.heap[w.heap.size + 1]?)
    (hKp : ∀ (A B : World) (r r1 r2 : Loop), A.heap[w.heap.size + 1]? = some (.loop r) → Kp (w.heap.size + 2) (A.putObj (w.heap.size + 1) (.loop r1)) B → Kp (w.heap.size + 2) A (B.putObj (w.heap.size + 1) (.loop r2)))
    (I : Nat → World → Prop) (Ix : Code → Nat → World → Prop)
    (hI : ∀ k A B, I k A → Own (w.heap.size + 2) A B → I k B) (hIx : ∀ c k A B, Ix c k A → Own (w.heap.size + 2) A B → Ix c k B)
    (hIr : ∀ k A (r r' : Loop), I k A → A.heap[w.heap.size + 1]? = some (.loop r) → I k (A.putObj (w.heap.size + 1) (.loop r')))
    (hIxr : ∀ c k A (r r' : Loop), Ix c k A → A.heap[w.heap.size + 1]? = some (.loop r) → Ix c k (A.putObj (w.heap.size + 1) (.loop r')))
    (h0 : ∀ r : Loop, I 0 ((w.alloc (.deferred (some []))).alloc (.loop r)))
    (hinf : ∀ W, I N W → Fin) (I1 : Nat → Act → World → Prop)
    (hI1r : ∀ k a1 A (r r' : Loop), I1 k a1 A → A.heap[w.heap.size + 1]? = some (.loop r) → I1 k a1 (A.putObj (w.heap.size + 1) (.loop r')))
    (hKpT : ∀ A B C, Kp (w.heap.size + 2) A B → Kp (w.heap.size + 2) B C → Kp (w.heap.size + 2) A C)
    (hassign : ∀ (l : Nat) (k : Nat) (W : World) (K : Act → World → Prop), I k W → k < N → w.heap.size + 1 < W.heap.size →
      (∀ a1 W1, I1 k a1 W1 → W1.heap[w.heap.size]? = W.heap[w.heap.size]? → W1.heap[w.heap.size + 1]? = W.heap[w.heap.size + 1]? → Kp (w.heap.size + 2) W W1 → K a1 W1) →
      assign.wpIn (Fence.wide.inRound l) n P (Exit.then K (fun _ _ _ => False)) { tmps := (ps.zip (encs k)).foldl (fun t (p, v) => t.setIfInBounds p v) a.tmps, defers := [] } W)
    (hbody : ∀ (l : Nat) (k : Nat) (a1 : Act) (W : World), I1 k a1 W → k < N → w.heap.size + 1 < W.heap.size → (W.heap[w.heap.size]? = some (.deferred (some [])) ∧ ∃ r, W.heap[w.heap.size + 1]? = some (.loop r)) → body.wpIn (Fence.wide.inRound l) n P (roundEnd w.heap.size Kp I Ix k W) a1 W)
    (hdone : ∀ (W : World), Fin → I N W → W.heap[w.heap.size]? = some (.deferred (some [])) → Q .normal { a with defers := { target := .collected w.heap.size, args := #[] } :: a.defers } W)
    (hstop : ∀ (c : Code) (k : Nat) (W : World), k < N → Ix c k W → W.heap[w.heap.size]? = some (.deferred (some [])) → c.wpIn Fence.wide n P Q { a with defers := { target := .collected w.heap.size, args := #[] } :: a.defers } W) :
    (Code.rangeFunc g ps assign body).wpIn Fence.wide n P Q a w := by
  refine wpIn_rangeFunc ?_
  intro fn hfn
  obtain ⟨rec, hrec⟩ : ∃ rec : LoopState → Option Code → Loop, rec = fun st pe => { state := st, pending := pe, fn, tmps := a.tmps, params := ps, assign, body, defers := w.heap.size } := ⟨_, rfl⟩
  obtain ⟨W1, hW1⟩ : ∃ W1, (w.alloc (.deferred (some []))).alloc (.loop (rec .ready none)) = W1 := ⟨_, rfl⟩
  have hL1 : W1.heap[w.heap.size + 1]? = some (.loop (rec .ready none)) := by
    rw [← hW1]; have := World.alloc_heap_new (w.alloc (.deferred (some []))) (.loop (rec .ready none)); rwa [World.size_alloc] at this
  have hK1 : W1.heap[w.heap.size]? = some (.deferred (some [])) := by
    rw [← hW1]; exact (Below.heap_alloc _ _ _ (by simp)).trans (World.alloc_heap_new w _)
  have hI1 : I 0 W1 := by rw [← hW1]; exact h0 _
  have hs1 : W1.heap.size = w.heap.size + 2 := by rw [← hW1]; simp
  have hb1 : Below w0.heap.size w0 W1 := by
    rw [← hW1]; exact hb0.trans ((((Below.refl _ w).alloc (Nat.le_refl _) _).alloc (by simp) _).mono hb0.size)
  refine ⟨w.heap.size + 1, [{ target := .collected w.heap.size, args := #[] }], W1, { target := .fn (.func gf) lb, args := #[.func (.yield (w.heap.size + 1)) #[] #[]] }, W1, gf,
    #[.func (.yield (w.heap.size + 1)) #[] #[]] ++ lb, W1, ?_, ?_, ?_, ?_, fun h => by simp [Fence.wide] at h, ?_⟩
  · rw [← hW1, hrec]; exact run_enterLoop_outer _ _ _ _ _
  · simp only [resolve, hg]
    simp [go_sem]
  · intro f' _; trivial
  · simp [invoke, go_sem, eg]
  · refine callsIn_wide.2 ?_
    refine (hseq (w.heap.size + 1)
      (fun k W => I k W ∧ W.heap[w.heap.size + 1]? = some (.loop (rec .ready none)) ∧ W.heap[w.heap.size]? = some (.deferred (some [])))
      (fun k W => ∃ c, Ix c k W ∧ W.heap[w.heap.size + 1]? = some (.loop (rec .done (some c))) ∧ W.heap[w.heap.size]? = some (.deferred (some [])))
      W1 hb1
      (fun k A B hs ho => by rw [hs1] at ho; exact ⟨hI k A B hs.1 ho, (hOwn A B ho).2.trans hs.2.1, (hOwn A B ho).1.trans hs.2.2⟩)
      (fun k A B hs ho => by
        rw [hs1] at ho
        obtain ⟨c, hc, hl, hk⟩ := hs
        exact ⟨c, hIx c k A B hc ho, (hOwn A B ho).2.trans hl, (hOwn A B ho).1.trans hk⟩)
      ?_ (fun W h => hinf W h.1) ⟨hI1, hL1, hK1⟩).mono ?_
    · -- ONE ROUND
      rintro k W ⟨hi, hl, hk⟩ hlen
      have hlt : w.heap.size + 1 < W.heap.size := (Array.getElem?_eq_some_iff.1 hl).1
      have hy := run_yield (P := P) (args := encs k) hl (by rw [hrec]; exact hps k)
      rw [hrec] at hy
      refine ⟨fn, _, assign, body, hy, roundIn_wide (roundIn_of_wpIn (n := n) hfn (hassign _ k W _ hi hlen hlt (fun a1 W1 hi1 hD0 hD1 hkp1 => ⟨_, run_beginRound (hD1.trans hl) (by rw [hrec]), ?_⟩)))⟩
      have hl0 := hl
      replace hl : W1.heap[w.heap.size + 1]? = some (.loop (rec .ready none)) := hD1.trans hl
      replace hk := hD0.trans hk
      have hlt0 := hlt
      replace hlt : w.heap.size + 1 < W1.heap.size := (Array.getElem?_eq_some_iff.1 hl).1
      have hl2 : (W1.putObj (w.heap.size + 1) (.loop { rec .ready none with state := .busy })).heap[w.heap.size + 1]? = some (.loop { rec .ready none with state := .busy }) := World.putObj_heap_same hlt
      have hk2 : (W1.putObj (w.heap.size + 1) (.loop { rec .ready none with state := .busy })).heap[w.heap.size]? = some (.deferred (some [])) := (World.putObj_heap_other (by omega)).trans hk
      refine wpIn_mono (hbody _ k a1 _ (hI1r k a1 _ _ _ hi1 hl) hlen (by simpa using hlt) ⟨hk2, _, hl2⟩) ?_
      have fin : ∀ (jump : Option Code) (W3 : World), (W3.heap[w.heap.size]? = (W1.putObj (w.heap.size + 1) (.loop { rec .ready none with state := .busy })).heap[w.heap.size]? ∧ W3.heap[w.heap.size + 1]? = (W1.putObj (w.heap.size + 1) (.loop { rec .ready none with state := .busy })).heap[w.heap.size + 1]?) →
          (Instr.endRound (w.heap.size + 1) jump).run P W3 = .ok (.bool jump.isNone) (W3.putObj (w.heap.size + 1) (.loop (rec (if jump.isNone then .ready else .done) jump))) ∧
          W3.heap[w.heap.size + 1]? = some (.loop { rec .ready none with state := .busy }) ∧
          (W3.putObj (w.heap.size + 1) (.loop (rec (if jump.isNone then .ready else .done) jump))).heap[w.heap.size + 1]? = some (.loop (rec (if jump.isNone then .ready else .done) jump)) ∧
          (W3.putObj (w.heap.size + 1) (.loop (rec (if jump.isNone then .ready else .done) jump))).heap[w.heap.size]? = some (.deferred (some [])) := fun jump W3 hk3 => by
        have hl3 := hk3.2.trans hl2
        have := run_endRound (P := P) jump hl3
        rw [hrec] at this ⊢
        exact ⟨this, by rw [hrec] at hl3; exact hl3, World.putObj_heap_same (Array.getElem?_eq_some_iff.1 hl3).1, (World.putObj_heap_other (by omega)).trans (hk3.1.trans hk2)⟩
      rintro e a3 W3 hp
      cases e with
      | normal =>
        obtain ⟨hk3, hkp3, hi3⟩ := hp
        obtain ⟨hr, hl3, hl4, hk4⟩ := fin none W3 hk3
        exact ⟨_, _, hr, .inl ⟨rfl, ⟨hIr _ _ _ _ hi3 hl3, hl4, hk4⟩, by rw [hs1]; exact hKpT _ _ _ hkp1 (hKp _ _ _ _ _ hl hkp3)⟩⟩
      | ret =>
        obtain ⟨hk3, hkp3, hi3⟩ := hp
        obtain ⟨hr, hl3, hl4, hk4⟩ := fin (some .ret) W3 hk3
        exact ⟨_, _, hr, .inr ⟨rfl, ⟨.ret, hIxr _ _ _ _ _ hi3 hl3, hl4, hk4⟩, by rw [hs1]; exact hKpT _ _ _ hkp1 (hKp _ _ _ _ _ hl hkp3)⟩⟩
      | exit id =>
        obtain ⟨hk3, hkp3, hi3⟩ := hp
        obtain ⟨hr, hl3, hl4, hk4⟩ := fin (some (.exit id)) W3 hk3
        exact ⟨_, _, hr, .inr ⟨rfl, ⟨.exit id, hIxr _ _ _ _ _ hi3 hl3, hl4, hk4⟩, by rw [hs1]; exact hKpT _ _ _ hkp1 (hKp _ _ _ _ _ hl hkp3)⟩⟩
      | goto t =>
        obtain ⟨hk3, hkp3, hi3⟩ := hp
        obtain ⟨hr, hl3, hl4, hk4⟩ := fin (some (.goto t)) W3 hk3
        exact ⟨_, _, hr, .inr ⟨rfl, ⟨.goto t, hIxr _ _ _ _ _ hi3 hl3, hl4, hk4⟩, by rw [hs1]; exact hKpT _ _ _ hkp1 (hKp _ _ _ _ _ hl hkp3)⟩⟩
      | panic ch => exact hp.elim
      | outgrown => exact hp.elim
    · -- BEHIND THE ITERATOR
      rintro e W2 ⟨⟨v, rfl⟩, (⟨hF, hi, hl, hk⟩ | ⟨k, hk', c, hi, hl, hk⟩)⟩
      · exact ⟨none, _, by have := run_endLoop (P := P) hl (by rw [hrec]; simp); rw [hrec] at this; exact this, hdone _ hF (hIr _ _ _ _ hi hl) ((World.putObj_heap_other (by omega)).trans hk)⟩
      · exact ⟨some c, _, by have := run_endLoop (P := P) hl (by rw [hrec]; simp); rw [hrec] at this; exact this, hstop c k _ hk' (hIxr c _ _ _ _ hi hl) ((World.putObj_heap_other (by omega)).trans hk)⟩

end Go.Proofs.Ytopfcppmbkidgaa
