/- Pairs in a block of the call's own, read and written one by one; the walks of slices.IndexFunc, DeleteFunc and MinFunc at pairs. Condition: the slice is the call's own, of at most 1000 pairs. -/
import Derived.Test.YtbdabpmpfciibaaGame1
namespace Go.Proofs.Ytbdabpmpfciibaa
open Go.RowKit
attribute [local go_sem] Oper.semAt_some

theorem fl2_cons (p : Int × Int) (S : List (Int × Int)) : fl2 (p :: S) = .int .i64 p.1 :: .int .i64 p.2 :: fl2 S := by simp [fl2]
theorem fl2_set : ∀ (S : List (Int × Int)) (j : Nat) (x y : Int), j < S.length → ((fl2 S).set (j * 2) (.int .i64 x)).set (j * 2 + 1) (.int .i64 y) = fl2 (S.set j (x, y))
  | [], j, _, _, h => absurd h (by simp)
  | p :: t, 0, x, y, _ => by simp [fl2]
  | p :: t, j + 1, x, y, h => by
    have ih := fl2_set t j x y (by simpa using h)
    rw [fl2_cons, show (j + 1) * 2 = j * 2 + 1 + 1 by omega, show (p :: t).set (j + 1) (x, y) = p :: t.set j (x, y) from rfl, fl2_cons, ← ih]
    rfl

/-- A block of the call's own that holds pairs. -/
structure HB (B g : Nat) (S : List (Int × Int)) (W : World) : Prop where
  heap : W.heap[g]? = some (.cells (fl2 S).toArray 72 (0, 0))
  le : B ≤ g
theorem HB.lt {B g : Nat} {S : List (Int × Int)} {W : World} (h : HB B g S W) : g < W.heap.size := (Array.getElem?_eq_some_iff.1 h.heap).1
theorem HB.cell' {B g : Nat} {S : List (Int × Int)} {W : World} (h : HB B g S W) (j : Nat) : W.cell? ⟨g, j, none⟩ = (fl2 S)[j]? := by
  unfold World.cell?
  rw [h.heap]
  simp
theorem HB.range {B g : Nat} {S : List (Int × Int)} {W : World} (h : HB B g S W) {j : Nat} (hj : j < S.length) : W.rangeAt g (j * 2) [.int .i64 (nth2 S j).1, .int .i64 (nth2 S j).2] := by
  obtain ⟨a, b⟩ := fl2_at S j hj
  intro i v hv
  match i, hv with
  | 0, hv =>
    have : v = .int .i64 (nth2 S j).1 := by simpa using hv.symm
    rw [Nat.add_zero, h.cell', a, this]
  | 1, hv =>
    have : v = .int .i64 (nth2 S j).2 := by simpa using hv.symm
    rw [h.cell', b, this]
  | i + 2, hv => simp at hv
theorem HB.there {B g : Nat} {S : List (Int × Int)} {W : World} (h : HB B g S W) {j : Nat} (hj : j < S.length) : W.there g (j * 2) 2 := by
  obtain ⟨a, b⟩ := fl2_at S j hj
  intro i hi
  refine ⟨?_, ?_⟩
  · match i, hi with
    | 0, _ => rw [Nat.add_zero, h.cell', a]; rfl
    | 1, _ => rw [h.cell', b]; rfl
  · unfold World.frozen?
    rw [h.heap]
    simp
theorem HB.later {B g : Nat} {S : List (Int × Int)} {W W' : World} (h : HB B g S W) (hb : Below W.heap.size W W') : HB B g S W' := ⟨(hb.block _ h.lt).trans h.heap, h.le⟩
theorem HB.put {B g : Nat} {S : List (Int × Int)} {W : World} (h : HB B g S W) {j : Nat} (hj : j < S.length) (x y : Int) : HB B g (S.set j (x, y)) (W.setCells g (j * 2) [.int .i64 x, .int .i64 y]) := by
  refine ⟨?_, h.le⟩
  show ((W.setCell ⟨g, j * 2, none⟩ (.int .i64 x)).setCell ⟨g, j * 2 + 1, none⟩ (.int .i64 y)).heap[g]? = _
  have h1 := heap_setCell_same W g (j * 2) _ 72 (.int .i64 x) h.heap
  have h2 := heap_setCell_same _ g (j * 2 + 1) _ 72 (.int .i64 y) h1
  rw [h2]
  congr 2
  rw [← fl2_set S j x y hj]
  simp
theorem HB.put_below {B g B0 : Nat} {w W : World} (hb : Below B0 w W) (hg : B0 ≤ g) (j : Nat) (x y : Int) : Below B0 w (W.setCells g j [.int .i64 x, .int .i64 y]) :=
  (hb.setCell (p := ⟨g, j, none⟩) hg _).setCell (p := ⟨g, j + 1, none⟩) hg _
theorem HB.start {W : World} {S : List (Int × Int)} (cs : Array Value) (h : cs = (fl2 S).toArray) : HB W.heap.size W.heap.size S (W.alloc (.cells cs 72)) := by
  subst h
  exact ⟨heap_alloc_last W _, Nat.le_refl _⟩
theorem HB.base {B B' g : Nat} {S : List (Int × Int)} {W : World} (h : HB B g S W) (hB : B' ≤ B) : HB B' g S W := ⟨h.heap, Nat.le_trans hB h.le⟩

/-- What the closure of best asks of a pair. -/
def tooL (a c : Int) (p : Int × Int) : Bool := decide (a < p.1) || decide (c < p.2)
/-- The box of the closure. -/
structure Bx (b : Nat) (a c : Int) (W : World) : Prop where
  c0 : W.cell? ⟨b, 0, none⟩ = some (.int .i64 a)
  c1 : W.cell? ⟨b, 1, none⟩ = some (.int .i64 c)
  lt : b < W.heap.size
theorem Bx.later {b : Nat} {a c : Int} {W W' : World} (h : Bx b a c W) (hb : Below W.heap.size W W') : Bx b a c W' :=
  ⟨(hb.cell (p := ⟨b, 0, none⟩) h.lt).trans h.c0, (hb.cell (p := ⟨b, 1, none⟩) h.lt).trans h.c1, Nat.lt_of_lt_of_le h.lt hb.size⟩
theorem Bx.put {b : Nat} {a c : Int} {W : World} (h : Bx b a c W) {g : Nat} (hne : b ≠ g) (o : Nat) (vs : List Value) : Bx b a c (W.setCells g o vs) := by
  refine ⟨?_, ?_, ?_⟩
  · rw [World.cell?_setCells_out g vs o W ⟨b, 0, none⟩ (fun e _ => absurd e hne)]; exact h.c0
  · rw [World.cell?_setCells_out g vs o W ⟨b, 1, none⟩ (fun e _ => absurd e hne)]; exact h.c1
  · have : (W.setCells g o vs).cell? ⟨b, 0, none⟩ = some (.int .i64 a) := by
      rw [World.cell?_setCells_out g vs o W ⟨b, 0, none⟩ (fun e _ => absurd e hne)]; exact h.c0
    exact World.block_lt_of_cell? _ _ this

theorem info72b : (Try.prog.info? 72).map (·.size) = some 2 := by kernel_rfl
theorem isRow72 : ∃ d, Try.prog.underlying 72 = some d ∧ d.isRow = true := ⟨_, Try.underlying72, rfl⟩

set_option maxHeartbeats 4000000 in
theorem index_any (B g cp b : Nat) (a c : Int) (S : List (Int × Int)) (w : World) (hS : HB B g S w) (hX : Bx b a c w) (hl : S.length ≤ 1000) :
    Calls Try.prog 113 #[.slice (some ⟨g, 0, none⟩) S.length cp, .func (.func 98) #[] #[.pointer (some ⟨b, 0, none⟩)]] w fun e w' =>
      ∃ r : Int, e = .returned (.int .i64 r) ∧ Below w.heap.size w w' ∧ ((r = -1 ∧ ∀ j, j < S.length → tooL a c (nth2 S j) = false) ∨ ∃ k : Nat, r = (k : Int) ∧ k < S.length ∧ tooL a c (nth2 S k) = true ∧ ∀ j, j < k → tooL a c (nth2 S j) = false) := by
  have HS := Lib.hid hS
  have HX := Lib.hid hX
  obtain ⟨n, hn⟩ : ∃ n, S.length = n := ⟨_, rfl⟩
  have HN := Lib.hid hn
  rw [hn] at hl ⊢
  clear hS hX hn
  go_enter Try.func113, Try.ntmps113
  go_wp2
  go_loopg [5, 8] n (fun gk u5 i wr => ∃ (j : Nat), j + gk = n ∧ i = .int .i64 (j : Int) ∧ Below w.heap.size w wr ∧ (∀ i, i < j → tooL a c (nth2 S i) = false))
  case atStart => exact ⟨0, by omega, rfl, Below.refl _ _, fun i hi => by omega⟩
  case round =>
    obtain ⟨j, hj, rfl, hb, hall⟩ := hrel
    have HBl := Lib.hid hb
    have HALL := Lib.hid hall
    clear hb hall
    by_cases hjn : j = n
    · have hge : ¬ (j : Int) < (n : Int) := by omega
      have hge2 : ¬ j < n := by omega
      clear hj
      go_wp2
      go_ret
      exact ⟨-1, rfl, HBl.out, .inl ⟨rfl, fun i hi => HALL.out i (by omega)⟩⟩
    · have hlt : (j : Int) < (n : Int) := by omega
      have hlt2 : j < n := by omega
      have j0 : (0 : Int) ≤ (j : Int) := by omega
      have hS1 := HS.out.later HBl.out
      have hX1 := HX.out.later HBl.out
      have hr := hS1.range (j := j) (by have := HN.out; omega)
      have hc0 := hr 0 _ rfl
      have hc1 := hr 1 _ rfl
      rw [Nat.add_zero] at hc0
      have HC := Lib.hid (closure98_any b a c (nth2 S j).1 (nth2 S j).2 wr hX1.c0 hX1.c1)
      have HJ := Lib.hid hj
      obtain ⟨t, ht⟩ : ∃ t, tooL a c (nth2 S j) = t := ⟨_, rfl⟩
      have ht' : (decide (a < (nth2 S j).1) || decide (c < (nth2 S j).2)) = t := ht
      rw [ht'] at HC
      have HT := Lib.hid ht
      obtain ⟨x, hx⟩ : ∃ x, (nth2 S j).1 = x := ⟨_, rfl⟩
      obtain ⟨y, hy⟩ : ∃ y, (nth2 S j).2 = y := ⟨_, rfl⟩
      rw [hx] at hc0 HC
      rw [hy] at hc1 HC
      clear hS1 hX1 hr hjn hj hx hy ht' ht
      go_wp2_with fail
      refine HC.out.mono ?_
      rintro e w1 ⟨rfl, hb1⟩
      have HB1 := Lib.hid (HBl.out.trans (hb1.mono HBl.out.size))
      clear hb1 HC
      cases t with
      | true =>
        go_wp2
        go_ret
        exact ⟨(j : Int), rfl, HB1.out, .inr ⟨j, rfl, by have := HN.out; omega, HT.out, HALL.out⟩⟩
      | false =>
        go_wp2
        go_roundg (n - j - 1)
        case rel =>
          refine ⟨j + 1, by have := HJ.out; omega, by go_num, HB1.out, fun i hi => ?_⟩
          by_cases hij : i = j
          · subst hij; exact HT.out
          · exact HALL.out i (by omega)
        case measure => have := HJ.out; omega

/-- The pairs that stay. -/
def keepL (a c : Int) (S : List (Int × Int)) : List (Int × Int) := S.filter fun p => !tooL a c p
theorem nth2_eq {S : List (Int × Int)} {k : Nat} (h : k < S.length) : S[k]? = some (nth2 S k) := by
  unfold nth2
  rw [List.getD_eq_getElem?_getD, List.getElem?_eq_getElem h]
  rfl
theorem keepL_none {a c : Int} {S : List (Int × Int)} (h : ∀ j, j < S.length → tooL a c (nth2 S j) = false) : keepL a c S = S := by
  unfold keepL
  rw [List.filter_eq_self]
  intro p hp
  obtain ⟨j, hj, rfl⟩ := List.mem_iff_getElem.1 hp
  have := h j hj
  unfold nth2 at this
  rw [List.getD_eq_getElem?_getD, List.getElem?_eq_getElem hj] at this
  simpa using this
theorem keepL_succ {a c : Int} {S : List (Int × Int)} {k : Nat} (h : k < S.length) : keepL a c (S.take (k + 1)) = if tooL a c (nth2 S k) = true then keepL a c (S.take k) else keepL a c (S.take k) ++ [nth2 S k] := by
  unfold keepL
  rw [take_succ2 h, List.filter_append]
  by_cases ht : tooL a c (nth2 S k) = true
  · rw [if_pos ht]; simp [ht]
  · rw [if_neg ht]; simp [ht]
theorem keepL_len (a c : Int) (S : List (Int × Int)) (k : Nat) : (keepL a c (S.take k)).length ≤ k := by
  unfold keepL
  have h1 := List.length_filter_le (fun p => !tooL a c p) (S.take k)
  have h2 : (S.take k).length ≤ k := by rw [List.length_take]; omega
  omega
theorem nth2_app_right {A S : List (Int × Int)} {i t : Nat} (hi : A.length = i) (h : i ≤ t) (ht : t < S.length) : nth2 (A ++ S.drop i) t = nth2 S t := by
  unfold nth2
  rw [List.getD_eq_getElem?_getD, List.getD_eq_getElem?_getD, List.getElem?_append_right (by omega), List.getElem?_drop, hi, show i + (t - i) = t by omega]
theorem set_mid {A S : List (Int × Int)} {i : Nat} (hi : A.length = i) (h : i < S.length) (p : Int × Int) : (A ++ S.drop i).set i p = A ++ [p] ++ S.drop (i + 1) := by
  rw [List.set_append_right _ _ (by omega), hi, Nat.sub_self, List.drop_eq_getElem_cons h, List.set_cons_zero, List.append_assoc]
  rfl

/-- 'clear' of the rest of a block of pairs. -/
theorem zero72 (w : World) : (zeroValue 72).run Try.prog w = .ok (.agg #[.int .i64 0, .int .i64 0]) w := by kernel_rfl

theorem setCells_pairs : ∀ (m g o : Nat) (A Z : List (Int × Int)) (B : Nat) (W : World), HB B g (A ++ Z) W → A.length = o → Z.length = m →
    HB B g (A ++ List.replicate m (0, 0)) (W.setCells g (o * 2) ((List.replicate m ((0 : Int), (0 : Int))).flatMap fun p => [.int .i64 p.1, .int .i64 p.2]))
  | 0, g, o, A, Z, B, W, h, ho, hz => by
    have : Z = [] := List.length_eq_zero_iff.1 hz
    subst this
    exact h
  | m + 1, g, o, A, Z, B, W, h, ho, hz => by
    obtain ⟨p, Z', rfl⟩ : ∃ p Z', Z = p :: Z' := by
      cases Z with
      | nil => simp at hz
      | cons p Z' => exact ⟨p, Z', rfl⟩
    have h1 := h.put (j := o) (by simp; omega) 0 0
    have e : (A ++ p :: Z').set o ((0 : Int), (0 : Int)) = (A ++ [(0, 0)]) ++ Z' := by
      rw [List.set_append_right _ _ (by omega), ho, Nat.sub_self, List.set_cons_zero, List.append_assoc]
      rfl
    rw [e] at h1
    have h2 := setCells_pairs m g (o + 1) (A ++ [(0, 0)]) Z' B _ h1 (by simp; omega) (by simpa using hz)
    rw [show A ++ [((0 : Int), (0 : Int))] ++ List.replicate m (0, 0) = A ++ List.replicate (m + 1) (0, 0) by rw [List.append_assoc, List.replicate_succ]; rfl] at h2
    rw [show (o + 1) * 2 = o * 2 + 1 + 1 by omega] at h2
    rw [List.replicate_succ, List.flatMap_cons]
    exact h2
theorem setCells_below {B0 g : Nat} (hg : B0 ≤ g) : ∀ (vs : List Value) (o : Nat) (w W : World), Below B0 w W → Below B0 w (W.setCells g o vs)
  | [], _, _, _, h => h
  | v :: r, o, w, W, h => setCells_below hg r (o + 1) w _ (h.setCell (p := ⟨g, o, none⟩) hg _)
theorem zc_aux : ∀ m : Nat, (Builtin.zeroCells (Value.agg #[.int .i64 0, .int .i64 0]).cells m).toList = (List.replicate m ((0 : Int), (0 : Int))).flatMap fun p => [.int .i64 p.1, .int .i64 p.2] := by
  intro m
  have e : (Value.agg #[.int .i64 0, .int .i64 0]).cells = #[Value.int .i64 0, Value.int .i64 0] := rfl
  rw [e]
  have e2 : ((List.replicate m ((0 : Int), (0 : Int))).flatMap fun p => [Value.int .i64 p.1, Value.int .i64 p.2]) = List.replicate (m * 2) (Value.int .i64 0) := by
    induction m with
    | zero => rfl
    | succ m ih => rw [List.replicate_succ, List.flatMap_cons, ih, show (m + 1) * 2 = m * 2 + 1 + 1 by omega, List.replicate_succ, List.replicate_succ]; rfl
  rw [e2]
  unfold Builtin.zeroCells
  apply List.ext_getElem?
  intro i
  by_cases hi : i < m * 2
  · rcases Nat.mod_two_eq_zero_or_one i with h | h <;> simp [hi, h, Nat.mul_comm]
  · simp [hi, Nat.mul_comm]
theorem run_clear2 {B g i m : Nat} {A Z : List (Int × Int)} {W : World} (h : HB B g (A ++ Z) W) (hA : A.length = i) (hZ : Z.length = m) (hm : 0 < m) :
    ∃ W', (∀ ty c, (Builtin.clear_ #[91] ty #[.slice (some ⟨g, i * 2, none⟩) m c]).run Try.prog W = .ok (.tuple #[]) W') ∧ HB B g (A ++ List.replicate m (0, 0)) W' ∧ (∀ B0 w, B0 ≤ g → Below B0 w W → Below B0 w W') := by
  refine ⟨W.setCells g (i * 2) ((List.replicate m ((0 : Int), (0 : Int))).flatMap fun p => [.int .i64 p.1, .int .i64 p.2]), ?_, setCells_pairs m g i A Z B W h hA hZ, fun B0 w hg hb => setCells_below hg _ _ _ _ hb⟩
  have hlen : ((List.replicate m ((0 : Int), (0 : Int))).flatMap fun p => [Value.int .i64 p.1, Value.int .i64 p.2]).length = m * 2 := by
    have := fl2_len (List.replicate m ((0 : Int), (0 : Int)))
    rw [List.length_replicate] at this
    exact this
  have hst := run_storeCells_cells (P := Try.prog) g (i * 2) ((List.replicate m ((0 : Int), (0 : Int))).flatMap fun p => [.int .i64 p.1, .int .i64 p.2]) 0 W ?_ ?_ ?_
  · intro ty c
    simp only [Nat.add_zero] at hst
    obtain ⟨k, rfl⟩ : ∃ k, m = k + 1 := ⟨m - 1, by omega⟩
    simp only [Builtin.clear_, run_underlying Try.underlying91, zero72, zc_aux, hst, Sem.run_bind, Sem.run_pure, Result.andThen_ok, List.getElem?_toArray, List.getElem?_cons_zero]
  · intro j hj
    rw [hlen] at hj
    rw [Nat.add_zero, h.cell', Option.isSome_iff_exists]
    refine ⟨(fl2 (A ++ Z))[i * 2 + j]'(by rw [fl2_len, List.length_append]; omega), List.getElem?_eq_getElem _⟩
  · intro j hj
    unfold World.frozen?
    rw [h.heap]
    simp
  · intro v hv
    rw [List.mem_flatMap] at hv
    obtain ⟨p, -, hp⟩ := hv
    simp at hp
    rcases hp with rfl | rfl <;> rfl
end Go.Proofs.Ytbdabpmpfciibaa
