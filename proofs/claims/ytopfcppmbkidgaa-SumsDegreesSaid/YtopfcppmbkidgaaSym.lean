/- The walk of symbol: it returns what the chain shows. Conditions as stated in each theorem. -/
import Derived.Test.YtopfcppmbkidgaaChn
import Derived.Test.YtopfcppmbkidgaaIter2
namespace Go.Proofs.Ytopfcppmbkidgaa
open Go.RowKit Go.Shelf
attribute [local go_sem] Oper.semAt_some

theorem turnBelow_keeps {n : Nat} (A B : World) (h : turnBelow (n + 2) A B) : B.heap[n]? = A.heap[n]? ∧ B.heap[n + 1]? = A.heap[n + 1]? :=
  ⟨h.block n (by omega), h.block (n + 1) (by omega)⟩
theorem keepAbove_rec {n : Nat} (A B : World) (r r1 r2 : Loop) (_ : A.heap[n + 1]? = some (.loop r)) (h : keepAbove (n + 2) (A.putObj (n + 1) (.loop r1)) B) : keepAbove (n + 2) A (B.putObj (n + 1) (.loop r2)) :=
  ⟨by have := h.size; simp at this ⊢; exact this, fun k h1 h2 => by
    rw [World.putObj_heap_other (by omega), h.block k h1 (by simpa using h2), World.putObj_heap_other (by omega)]⟩
theorem below_putObj {B : Nat} (W : World) {j : Nat} (hj : B ≤ j) (o : Obj) : Below B W (W.putObj j o) :=
  ⟨rfl, rfl, rfl, by simp, fun k hk => World.putObj_heap_other (by omega)⟩

def isSym (a n : Int) : Prop := -1000000000 ≤ a ∧ a ≤ 1000000000 ∧ 1 ≤ n ∧ n ≤ 1000000000 ∧ n % 2 = 1

set_option maxRecDepth 100000 in
set_option maxHeartbeats 2000000 in
theorem symbol_any (a n : Int) (hv : isSym a n) (w : World) :
    Calls Try.prog 74 #[.int .i64 a, .int .i64 n] w fun e w' => e = .returned (.int .i64 (Jv a n)) ∧ Below w.heap.size w w' := by
  obtain ⟨N, hN, hF, hG, hJ⟩ := chain_shows hv
  have HBF := Lib.hid (before_any a n)
  simp only [stV_eq, st] at HBF
  have HJ := Lib.hid hJ
  clear hv hJ
  refine (callsIn_wide (n := 5)).1 ?_
  refine callsIn_of_wp_marks Try.func74 rfl trivial ?_ rfl
  simp only [Try.ntmps74, List.size_toArray, List.length_cons, List.length_nil, Nat.reduceAdd, Nat.reduceSub, Array.replicate_succ, Array.replicate_zero, List.push_toArray, List.append_toArray, List.nil_append, List.cons_append]
  gi_wp2_with fail
  refine ⟨trivial, ?_⟩
  gi_at_call 87
  refine (callsIn_wide.2 (HBF.out _)).mono ?_
  rintro e w1 ⟨rfl, hb1⟩
  gi_wp2_with (refine ⟨trivial, ?_⟩; gi_at_call 76; refine (callsIn_wide.2 (chain_any _ _ _)).mono ?_; rintro e w' ⟨rfl, rfl⟩)
  obtain ⟨L, hL⟩ : ∃ L, w1.heap.size = L := ⟨_, rfl⟩
  obtain ⟨B, hB⟩ : ∃ B, w.heap.size = B := ⟨_, rfl⟩
  rw [hB] at hb1
  have hBL : B ≤ L := by have := hb1.size; omega
  obtain ⟨W2, hW2⟩ : ∃ W2, ((w1.alloc (.cells #[.int .i64 0, .int .i64 a, .int .i64 n, .int .i64 1] 66)).alloc (.cells #[.int .i64 a] 3)).alloc (.cells #[.int .i64 n] 3) = W2 := ⟨_, rfl⟩
  have hsz : W2.heap.size = L + 3 := by rw [← hW2]; simp [hL]
  have hx0 : Sx W2 L (st a n 0) := by
    have := ((Sx.new w1 (st a n 0)).keep ((Below.refl _ _).alloc (Nat.le_refl _) (.cells #[.int .i64 a] 3))).keep ((Below.refl _ _).alloc (Nat.le_refl _) (.cells #[.int .i64 n] 3))
    rw [← hW2, ← hL]; exact this
  have y1 : Boxed W2 (L + 1) 3 (.int .i64 a) := by
    have := (Boxed.new (w1.alloc (.cells #[.int .i64 0, .int .i64 a, .int .i64 n, .int .i64 1] 66)) 3 (.int .i64 a)).alloc (.cells #[.int .i64 n] 3)
    rw [World.size_alloc, hL] at this
    rw [← hW2]; exact this
  have y2 : Boxed W2 (L + 1 + 1) 3 (.int .i64 n) := by
    have := Boxed.new ((w1.alloc (.cells #[.int .i64 0, .int .i64 a, .int .i64 n, .int .i64 1] 66)).alloc (.cells #[.int .i64 a] 3)) 3 (.int .i64 n)
    rw [World.size_alloc, World.size_alloc, hL] at this
    rw [← hW2]; exact this
  have hb2 : Below B w W2 := by
    rw [← hW2]
    exact ((hb1.alloc (by omega) _).alloc (by simp; omega) _).alloc (by simp; omega) _
  rw [hL]
  rw [hW2]
  clear hW2
  refine wpIn_range_iy (gf := 89) (lb := #[.pointer (some ⟨L + 1, 0, none⟩), .pointer (some ⟨L + 1 + 1, 0, none⟩)]) rfl (enters_of Try.func89 (by kernel_rfl) rfl)
    (chain_iter a n (L + 1) W2 (by omega) y1 y2 N hN hF hG) (Below.refl _ _) (fun _ => rfl)
    turnBelow_keeps keepAbove_rec
    (fun k A => Sx A L (st a n k) ∧ Below B w A)
    (fun c k A => False)
    (fun k A A' h e => ⟨h.1.under e (by omega), h.2.trans (e.mono (by omega))⟩) (fun c k A A' h e => h)
    (fun k A r r' h _ => ⟨h.1.putObj _ (by omega), h.2.trans (below_putObj A (by omega) _)⟩)
    (fun c k A r r' h _ => h)
    (fun r => ⟨hx0.under (((Below.refl _ W2).alloc (Nat.le_refl _) _).alloc (by simp) _) (by omega), hb2.trans (((Below.refl _ W2).alloc (by omega) _).alloc (by simp; omega) _)⟩)
    (fun A h => trivial)
    (fun k a1 A => ∃ S : Nat, L + 5 ≤ S ∧ Sx A S (st a n (k + 1)) ∧ Sx A L (st a n k) ∧ Below B w A ∧ a1 = { tmps := #[.int .i64 a, .int .i64 n, undef, undef, .int .i64 0, .pointer (some ⟨L, 0, none⟩), .pointer (some ⟨S, 0, none⟩), .int .i64 a, .int .i64 n, .agg #[.int .i64 0, .int .i64 a, .int .i64 n, .int .i64 1], .int .i64 a, .int .i64 n, .func (.func 89) #[] #[.pointer (some ⟨L + 1, 0, none⟩), .pointer (some ⟨L + 1 + 1, 0, none⟩)], stV (st a n (k + 1)), undef, undef, undef, undef, undef, undef], defers := [] })
    (fun k a1 A r r' h _ => by
      obtain ⟨S, h1, h2, h3, h4, h5⟩ := h
      exact ⟨S, h1, h2.putObj _ (by omega), h3.putObj _ (by omega), h4.trans (below_putObj A (by omega) _), h5⟩)
    (fun A B C h1 h2 => h1.trans h2) ?assign ?body ?done ?stop
  case assign =>
    intro l k W K hI hk hlt hK
    obtain ⟨⟨k1, a1, n1, s1⟩, e1⟩ : ∃ t, st a n (k + 1) = t := ⟨_, rfl⟩
    have hn := Sx.new W ⟨k1, a1, n1, s1⟩
    simp only at hn
    have hA : Above (W2.heap.size + 2) W (W.alloc (.cells #[.int .i64 k1, .int .i64 a1, .int .i64 n1, .int .i64 s1] 66)) := Above.alloc _ _ _
    have hBW : Below W.heap.size W (W.alloc (.cells #[.int .i64 k1, .int .i64 a1, .int .i64 n1, .int .i64 s1] 66)) := (Below.refl _ _).alloc (Nat.le_refl _) _
    have HK := Lib.hid (hK { tmps := #[.int .i64 a, .int .i64 n, undef, undef, .int .i64 0, .pointer (some ⟨L, 0, none⟩), .pointer (some ⟨W.heap.size, 0, none⟩), .int .i64 a, .int .i64 n, .agg #[.int .i64 0, .int .i64 a, .int .i64 n, .int .i64 1], .int .i64 a, .int .i64 n, .func (.func 89) #[] #[.pointer (some ⟨L + 1, 0, none⟩), .pointer (some ⟨L + 1 + 1, 0, none⟩)], .agg #[.int .i64 k1, .int .i64 a1, .int .i64 n1, .int .i64 s1], undef, undef, undef, undef, undef, undef], defers := [] }
      (W.alloc (.cells #[.int .i64 k1, .int .i64 a1, .int .i64 n1, .int .i64 s1] 66))
      ⟨W.heap.size, by omega, by rw [e1]; exact hn, hI.1.keep hBW, hI.2.trans (hBW.mono (by omega)), by rw [e1]; rfl⟩
      (hBW.block _ (by omega)) (hBW.block _ (by omega)) hA)
    rw [e1, stV_eq]
    simp only
    clear hK hI hn hA hBW y1 y2 hx0 hN hF hG
    gi_wp2
    exact HK.out
  case done =>
    intro A _ hi hKK
    obtain ⟨hx, hbA⟩ := hi
    have hs := HJ.out
    obtain ⟨⟨k1, a1, n1, s1⟩, e1⟩ : ∃ t, st a n N = t := ⟨_, rfl⟩
    rw [e1] at hx hs
    simp only at hs
    obtain ⟨c0, c1, c2, c3, -⟩ := hx.cells
    simp only at c0 c1 c2 c3
    have HK1 := Lib.hid (show A.heap[L + 3]? = some (.deferred (some [])) by rw [← hsz]; exact hKK)
    have HK2 := Lib.hid hKK
    have HB1 := Lib.hid (show Below B w (A.putObj (L + 3) (.deferred none)) from hbA.trans (below_putObj A (by omega) _))
    have HB2 := Lib.hid (show Below w.heap.size w (A.putObj W2.heap.size (.deferred none)) by rw [hB]; exact hbA.trans (below_putObj A (by omega) _))
    clear hKK hbA hx y1 y2 hx0 hN hF hG e1
    by_cases h : 1 < n1
    · rw [if_pos h] at hs
      have HS := Lib.hid hs
      clear hs
      gi_wp2
      refine ⟨by simp, .inl ⟨_, _, rfl, run_takeDeferred (by first | exact HK1.out | exact HK2.out), ?_⟩⟩
      exact ⟨.int .i64 0, by simp [results, Try.f74, go_sem], by rw [HS.out], by first | exact HB1.out | exact HB2.out⟩
    · rw [if_neg h] at hs
      have HS := Lib.hid hs
      clear hs
      gi_wp2
      refine ⟨by simp, .inl ⟨_, _, rfl, run_takeDeferred (by first | exact HK1.out | exact HK2.out), ?_⟩⟩
      exact ⟨.int .i64 s1, by simp [results, Try.f74, go_sem], by rw [HS.out], by first | exact HB1.out | exact HB2.out⟩
  case stop =>
    intro c k A hk h
    exact h.elim
  case body =>
    rintro l' k a1 A ⟨S, hS, hx1, hx, hbA, rfl⟩ hkN hlt _
    obtain ⟨⟨k1, a1, n1, s1⟩, e1⟩ : ∃ t, st a n (k + 1) = t := ⟨_, rfl⟩
    obtain ⟨⟨k0, a0, n0, s0⟩, e0⟩ : ∃ t, st a n k = t := ⟨_, rfl⟩
    rw [e1] at hx1
    rw [e0] at hx
    obtain ⟨c0, c1, c2, c3, -⟩ := hx1.cells
    obtain ⟨d0, d1, d2, d3, f0, f1, f2, f3⟩ := hx.cells
    simp only at c0 c1 c2 c3 d0 d1 d2 d3
    have hp := hx.put ⟨k1, a1, n1, s1⟩
    simp only at hp
    have hst := sx_stores (W := A) hBL (.int .i64 k1) (.int .i64 a1) (.int .i64 n1) (.int .i64 s1)
    have hab : Above (W2.heap.size + 2) A ((((A.setCell ⟨L, 0, none⟩ (.int .i64 k1)).setCell ⟨L, 1, none⟩ (.int .i64 a1)).setCell ⟨L, 2, none⟩ (.int .i64 n1)).setCell ⟨L, 3, none⟩ (.int .i64 s1)) := by
      have hl : L < W2.heap.size + 2 := by omega
      exact (((Above.setCell A (p := ⟨L, 0, none⟩) hl _).trans (Above.setCell _ (p := ⟨L, 1, none⟩) hl _)).trans (Above.setCell _ (p := ⟨L, 2, none⟩) hl _)).trans (Above.setCell _ (p := ⟨L, 3, none⟩) hl _)
    have hD : ∀ j, L < j → j < A.heap.size → ((((A.setCell ⟨L, 0, none⟩ (.int .i64 k1)).setCell ⟨L, 1, none⟩ (.int .i64 a1)).setCell ⟨L, 2, none⟩ (.int .i64 n1)).setCell ⟨L, 3, none⟩ (.int .i64 s1)).heap[j]? = A.heap[j]? := by
      intro j h1 h2
      have hl : L < j := h1
      exact ((((Above.setCell A (p := ⟨L, 0, none⟩) hl _).trans (Above.setCell _ (p := ⟨L, 1, none⟩) hl _)).trans (Above.setCell _ (p := ⟨L, 2, none⟩) hl _)).trans (Above.setCell _ (p := ⟨L, 3, none⟩) hl _)).block j (Nat.le_refl _) h2
    have HR := Lib.hid (And.intro (And.intro (hD W2.heap.size (by omega) (by omega)) (hD (W2.heap.size + 1) (by omega) hlt)) (And.intro hab (And.intro hp (hbA.trans hst))))
    have HE1 := Lib.hid e1
    clear hp hst hab hD hx hx1 hbA y1 y2 hx0 hN hF hG e0
    simp only [e1, stV_eq]
    gi_wp2
    exact ⟨HR.out.1, HR.out.2.1, by rw [HE1.out]; exact HR.out.2.2.1, HR.out.2.2.2⟩
end Go.Proofs.Ytopfcppmbkidgaa
