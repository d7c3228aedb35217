/- A step as it lies in memory; the walks of signOfTwo, signOfExchange, isLast, next and before. Conditions as stated in each theorem. -/
import Derived.Test.YtopfcppmbkidgaaBase
import Derived.Test.YtopfcppmbkidgaaIter
import Derived.Deep.RegionHeld3
namespace Go.Proofs.Ytopfcppmbkidgaa
open Go.RowKit Go.Shelf
attribute [local go_sem] Oper.semAt_some

theorem tmod_res {n m : Int} (hm : 0 < m) : (n.tmod m + m).tmod m = n % m := by
  have h1 := Int.tmod_lt_of_pos n hm
  have h2 := Int.lt_tmod_of_pos n hm
  rw [Int.tmod_eq_emod_of_nonneg (by omega), Int.add_emod_right]
  have h3 : n.tmod m = n - m * (n.tdiv m) := by have := Int.mul_tdiv_add_tmod n m; omega
  rw [h3, Int.sub_mul_emod_self_left]
theorem tmod_res2 {n m : Int} (hm : 0 < m) : (n.tmod m + m) % m = n % m := by
  have h2 := Int.lt_tmod_of_pos n hm
  have := tmod_res (n := n) hm
  rw [Int.tmod_eq_emod_of_nonneg (by omega)] at this
  exact this
theorem frozen_nw (w : World) (xs : Array Value) (i : Nat) {t : TypeId} : (w.alloc (.cells xs t)).frozen? ⟨w.heap.size, i, none⟩ = false := by
  unfold World.frozen?
  rw [heap_alloc_last]
  rfl
theorem heap_setCell_at {W : World} {G i : Nat} {xs : Array Value} {t : TypeId} {q : Nat × Nat} (v : Value) (h : W.heap[G]? = some (.cells xs t q)) (hi : i < xs.size) :
    (W.setCell ⟨G, i, none⟩ v).heap[G]? = some (.cells (xs.set i v hi) t q) := by
  obtain ⟨hlt, e⟩ := Array.getElem?_eq_some_iff.1 h
  simp [World.setCell, hlt, Array.getElem_modify, e, hi, Array.setIfInBounds]

/-- A step as a value, and in a block of its own. -/
def stV (t : Stp) : Value := .agg #[.int .i64 t.k, .int .i64 t.a, .int .i64 t.n, .int .i64 t.s]
def Sx (W : World) (G : Nat) (t : Stp) : Prop := W.heap[G]? = some (.cells #[.int .i64 t.k, .int .i64 t.a, .int .i64 t.n, .int .i64 t.s] 66 (0, 0))
theorem Sx.lt {W : World} {G : Nat} {t : Stp} (h : Sx W G t) : G < W.heap.size := (Array.getElem?_eq_some_iff.1 h).1
theorem Sx.new (W : World) (t : Stp) : Sx (W.alloc (.cells #[.int .i64 t.k, .int .i64 t.a, .int .i64 t.n, .int .i64 t.s] 66)) W.heap.size t := heap_alloc_last W _
theorem Sx.keep {W W' : World} {G : Nat} {t : Stp} (h : Sx W G t) (hb : Below W.heap.size W W') : Sx W' G t := (hb.block G h.lt).trans h
theorem Sx.under {W W' : World} {G B : Nat} {t : Stp} (h : Sx W G t) (hb : Below B W W') (hG : G < B) : Sx W' G t := (hb.block G hG).trans h
theorem Sx.above {W W' : World} {G B : Nat} {t : Stp} (h : Sx W G t) (hA : Above B W W') (hB : B ≤ G) : Sx W' G t := (hA.block G hB h.lt).trans h
theorem Sx.putObj {W : World} {G l : Nat} {t : Stp} (o : Obj) (h : Sx W G t) (hne : G ≠ l) : Sx (W.putObj l o) G t := (World.putObj_heap_other hne).trans h
theorem Sx.cells {W : World} {G : Nat} {t : Stp} (h : Sx W G t) :
    W.cell? ⟨G, 0, none⟩ = some (.int .i64 t.k) ∧ W.cell? ⟨G, 1, none⟩ = some (.int .i64 t.a) ∧ W.cell? ⟨G, 2, none⟩ = some (.int .i64 t.n) ∧ W.cell? ⟨G, 3, none⟩ = some (.int .i64 t.s) ∧
    W.frozen? ⟨G, 0, none⟩ = false ∧ W.frozen? ⟨G, 1, none⟩ = false ∧ W.frozen? ⟨G, 2, none⟩ = false ∧ W.frozen? ⟨G, 3, none⟩ = false := by
  unfold Sx at h
  refine ⟨?_, ?_, ?_, ?_, ?_, ?_, ?_, ?_⟩ <;> first | (unfold World.cell?; rw [h]; rfl) | (unfold World.frozen?; rw [h]; rfl)
theorem Sx.put {W : World} {G : Nat} {t : Stp} (h : Sx W G t) (u : Stp) :
    Sx ((((W.setCell ⟨G, 0, none⟩ (.int .i64 u.k)).setCell ⟨G, 1, none⟩ (.int .i64 u.a)).setCell ⟨G, 2, none⟩ (.int .i64 u.n)).setCell ⟨G, 3, none⟩ (.int .i64 u.s)) G u := by
  unfold Sx at h ⊢
  have h1 := heap_setCell_at (.int .i64 u.k) h (i := 0) (by simp)
  have h2 := heap_setCell_at (.int .i64 u.a) h1 (i := 1) (by simp)
  have h3 := heap_setCell_at (.int .i64 u.n) h2 (i := 2) (by simp)
  exact heap_setCell_at (.int .i64 u.s) h3 (i := 3) (by simp)
theorem sx_stores {W : World} {G B : Nat} (hB : B ≤ G) (x y z u : Value) : Below B W ((((W.setCell ⟨G, 0, none⟩ x).setCell ⟨G, 1, none⟩ y).setCell ⟨G, 2, none⟩ z).setCell ⟨G, 3, none⟩ u) :=
  ((((Below.refl B W).setCell (p := ⟨G, 0, none⟩) hB _).setCell (p := ⟨G, 1, none⟩) hB _).setCell (p := ⟨G, 2, none⟩) hB _).setCell (p := ⟨G, 3, none⟩) hB _

theorem two_any (n : Int) (h1 : 1 ≤ n) (w : World) : Calls Try.prog 92 #[.int .i64 n] w fun e w' => e = .returned (.int .i64 (two n)) ∧ w = w' := by
  by_cases h3 : n % 8 = 3
  · have e : two n = -1 := by unfold two; rw [if_pos (.inl h3)]
    rw [e]; clear e
    go_enter Try.func92, Try.ntmps92
    go_wp2
    go_ret
    exact ⟨rfl, rfl⟩
  · by_cases h5 : n % 8 = 5
    · have e : two n = -1 := by unfold two; rw [if_pos (.inr h5)]
      rw [e]; clear e
      go_enter Try.func92, Try.ntmps92
      go_wp2
      go_ret
      exact ⟨rfl, rfl⟩
    · have e : two n = 1 := by unfold two; rw [if_neg (by omega)]
      have b3 : (n % 8 == 3) = false := by simpa using h3
      have b5 : (n % 8 == 5) = false := by simpa using h5
      rw [e]; clear e
      go_enter Try.func92, Try.ntmps92
      go_wp2
      go_ret
      exact ⟨rfl, rfl⟩
theorem exch_any (a n : Int) (h0 : 0 ≤ a) (h1 : 1 ≤ n) (w : World) : Calls Try.prog 93 #[.int .i64 a, .int .i64 n] w fun e w' => e = .returned (.int .i64 (exch a n)) ∧ w = w' := by
  by_cases h3 : a % 4 = 3
  · by_cases h5 : n % 4 = 3
    · have e : exch a n = -1 := by unfold exch; rw [if_pos ⟨h3, h5⟩]
      rw [e]; clear e
      go_enter Try.func93, Try.ntmps93
      go_wp2
      go_ret
      exact ⟨rfl, rfl⟩
    · have e : exch a n = 1 := by unfold exch; rw [if_neg (by omega)]
      have b5 : (n % 4 == 3) = false := by simpa using h5
      rw [e]; clear e
      go_enter Try.func93, Try.ntmps93
      go_wp2
      go_ret
      exact ⟨rfl, rfl⟩
  · have e : exch a n = 1 := by unfold exch; rw [if_neg (by omega)]
    have b3 : (a % 4 == 3) = false := by simpa using h3
    rw [e]; clear e
    go_enter Try.func93, Try.ntmps93
    go_wp2
    go_ret
    exact ⟨rfl, rfl⟩

theorem before_any (a n : Int) (w : World) : Calls Try.prog 87 #[.int .i64 a, .int .i64 n] w fun e w' => e = .returned (stV (st a n 0)) ∧ Below w.heap.size w w' := by
  have hs := Sx.new w (st a n 0)
  have hb : Below w.heap.size w (w.alloc (.cells #[.int .i64 0, .int .i64 a, .int .i64 n, .int .i64 1] 66)) := (Below.refl _ _).alloc (Nat.le_refl _) _
  simp only [st] at hs
  have HB := Lib.hid hb
  have HC := Lib.hid hs.cells
  clear hs hb
  go_enter Try.func87, Try.ntmps87
  go_wp2
  generalize hW0 : w.alloc (.cells #[.int .i64 0, .int .i64 a, .int .i64 n, .int .i64 1] 66) = W0 at *
  obtain ⟨c0, c1, c2, c3, -⟩ := HC.out
  exact bodyPost_ret (v := stV (st a n 0)) (by simp [results, Try.results87, go_sem, stV, st, c0, c1, c2, c3]) rfl ⟨rfl, HB.out⟩

theorem isLast_any (t : Stp) (w : World) : Calls Try.prog 90 #[stV t] w fun e w' => e = .returned (.bool (decide (fin t))) ∧ Below w.heap.size w w' := by
  obtain ⟨k, a, n, s⟩ := t
  have HB := Lib.hid (fun x y z u => show Below w.heap.size w (w.alloc (.cells #[x, y, z, u] 66)) from (Below.refl _ _).alloc (Nat.le_refl _) _)
  have HF := Lib.hid (show decide (fin ⟨k, a, n, s⟩) = (a == 0 || n == 1) by unfold fin; by_cases h : a = 0 <;> by_cases h' : n = 1 <;> simp [h, h'])
  unfold stV
  rw [HF.out]
  by_cases h0 : a = 0
  · subst h0
    go_enter Try.func90, Try.ntmps90
    go_wp2
    go_ret
    exact ⟨rfl, HB.out _ _ _ _⟩
  · have b0 : (a == 0) = false := by simpa using h0
    by_cases h1 : n = 1
    · subst h1
      go_enter Try.func90, Try.ntmps90
      go_wp2
      go_ret
      exact ⟨by rw [b0]; rfl, HB.out _ _ _ _⟩
    · have b1 : (n == 1) = false := by simpa using h1
      go_enter Try.func90, Try.ntmps90
      go_wp2
      go_ret
      exact ⟨by rw [b0, b1]; rfl, HB.out _ _ _ _⟩

end Go.Proofs.Ytopfcppmbkidgaa
