/- The walks of partition.hooks and parts.Hooks: a table of its own that holds the hooks, row by row, or the documented error. Condition: the slice lies in memory. -/
import Derived.Test.YtfecdpglcdhijaaConjMath
import Derived.Test.YtfecdpglcdhijaaFrank3
namespace Go.Proofs.Ytfecdpglcdhijaa
open Go.RowKit
attribute [local go_sem] Oper.semAt_some

def hkAt (l : List Int) (i j : Nat) : Int := l.getD i 0 - (j : Int) + over (j : Int) l - (i : Int) - 1
def hkPre (l : List Int) (i k : Nat) : List Int := (List.range k).map (hkAt l i)
def hkL (l : List Int) (i : Nat) : List Int := hkPre l i (l.getD i 0).toNat
def hooksL (l : List Int) : List (List Int) := (List.range l.length).map (hkL l)
theorem hooksL_len (l : List Int) : (hooksL l).length = l.length := by simp [hooksL]
theorem hooksL_at {l : List Int} {i : Nat} (h : i < l.length) : nthL (hooksL l) i = hkL l i := by simp [nthL, hooksL, List.getD, h]
theorem hkPre_succ (l : List Int) (i k : Nat) : (hkPre l i (k + 1)).map (Value.int .i64) = (hkPre l i k).map (Value.int .i64) ++ [.int .i64 (hkAt l i k)] := by
  simp [hkPre, List.range_succ]

/-- Rows under way: row i is v, and holds k numbers; whatever else lay in W1 lies as it lay. -/
structure HS (w W1 : World) (gr n i : Nat) (vs : List Value) (v : Value) (k : Nat) (xs : List Value) (W : World) : Prop where
  b : Below w.heap.size w W
  sz : W1.heap.size ≤ W.heap.size
  still : ∀ q, q < W1.heap.size → q ≠ gr → W.heap[q]? = W1.heap[q]?
  rows : W.ownsRow w.heap.size 33 1 (.slice (some ⟨gr, 0, none⟩) n n) n (vs.set i v)
  cur : W.ownsRow W1.heap.size 3 1 v k xs

theorem HS.drewN {w W1 W : World} {gr n i k : Nat} {vs xs : List Value} {v : Value} (h : HS w W1 gr n i vs v k xs W) (q : Nat) : HS w W1 gr n i vs v k xs (W.drewN q) :=
  ⟨below_drewN h.b q, h.sz, h.still, own_same h.rows fun _ _ _ => rfl, own_same h.cur fun _ _ _ => rfl⟩

theorem HS.step {w W1 W W3 : World} {gr n i k g3 c3 : Nat} {vs xs : List Value} {v x : Value} {o : Obj} (h : HS w W1 gr n i vs v k xs W) (h1 : gr < W1.heap.size) (h0 : w.heap.size ≤ gr)
    (ho3 : W3.ownsRow W1.heap.size 3 1 (.slice (some ⟨g3, 0, none⟩) (k + 1) c3) (k + 1) (xs ++ [x])) (hg3 : (W.alloc o).grownBy W3 v.ownBlock) :
    HS w W1 gr n i vs (.slice (some ⟨g3, 0, none⟩) (k + 1) c3) (k + 1) (xs ++ [x]) (W3.setCell ⟨gr, i, none⟩ (.slice (some ⟨g3, 0, none⟩) (k + 1) c3)) := by
  have hsz := h.sz
  have hbs := h.b.size
  have s3 : W.heap.size + 1 ≤ W3.heap.size := by have := hg3.size; simpa using this
  have hne : v.ownBlock ≠ some gr := fun e => by have := (h.cur.lt gr e).1; omega
  have hrows : W3.ownsRow w.heap.size 33 1 (.slice (some ⟨gr, 0, none⟩) n n) n (vs.set i v) := (h.rows.alloc o).kept hg3 (.inr fun e => hne e.symm)
  refine ⟨?_, ?_, fun q hq hqg => ?_, ?_, ?_⟩
  · refine Below.setCell (p := ⟨gr, i, none⟩) ((h.b.alloc hbs o).grown hg3 (by simp; omega) (fun j e => ?_)) h0 _
    have := (h.cur.lt j e).1
    omega
  · simp; omega
  · have a1 := hg3.block q (by simp; omega) (fun e => by have := (h.cur.lt q e.symm).1; omega)
    exact (Below.heap_setCell W3 ⟨gr, i, none⟩ _ q hqg).trans (a1.trans ((Below.heap_alloc W o q (by omega)).trans (h.still q hq hqg)))
  · have := (hrows.stored i (.slice (some ⟨g3, 0, none⟩) (k + 1) c3)).1
    rw [List.set_set] at this
    exact this
  · exact own_same ho3 fun q hq _ => Below.heap_setCell W3 ⟨gr, i, none⟩ _ q (by show q ≠ gr; omega)

/-- A row of whole numbers is no part of the table's own row. -/
theorem own_still {W1 W : World} {B B' n m gr c : Nat} {x : Value} {ys vs : List Value} (h : W1.ownsRow B 3 1 x m ys) (hr : W1.ownsRow B' 33 1 (.slice (some ⟨gr, 0, none⟩) n c) n vs) (hs : ∀ q, q < W1.heap.size → q ≠ gr → W.heap[q]? = W1.heap[q]?) : W.ownsRow B 3 1 x m ys := by
  refine ⟨h.1, h.2.imp id ?_⟩
  rintro ⟨g, cap, cur, h1, h2, h3, h4⟩
  have hne : g ≠ gr := by
    intro e
    subst e
    rcases own_kinds h hr (by decide) with h5 | h5
    · rw [h1] at h5; cases h5
    · rw [h1] at h5; exact h5 rfl
  exact ⟨g, cap, cur, h1, h2, (hs g (Array.getElem?_eq_some_iff.1 h3).1 hne).trans h3, h4⟩

structure HO (w : World) (l : List Int) (gr n : Nat) (cv : Value) (i : Nat) (wr : World) : Prop where
  b : Below w.heap.size w wr
  lt : gr < wr.heap.size
  le : w.heap.size ≤ gr
  cols : wr.ownsRow w.heap.size 3 1 cv (conjL l).length ((conjL l).map (Value.int .i64))
  tab : ∃ vs, wr.ownsRow w.heap.size 33 1 (.slice (some ⟨gr, 0, none⟩) n n) n vs ∧ (∀ q, q < i → ∃ g c, vs[q]? = some (.slice (some ⟨g, 0, none⟩) (hkL l q).length c) ∧ wr.ownsRow w.heap.size 3 1 (.slice (some ⟨g, 0, none⟩) (hkL l q).length c) (hkL l q).length ((hkL l q).map (Value.int .i64))) ∧ (∀ q, i ≤ q → q < n → vs[q]? = some (.slice none 0 0))

theorem HO.begin {w wr : World} {l : List Int} {gr n i : Nat} {cv : Value} (h : HO w l gr n cv i wr) (hi : i < n) : ∃ vs, vs.length = n ∧ wr.ownsRow w.heap.size 33 1 (.slice (some ⟨gr, 0, none⟩) n n) n vs ∧
    (∀ q, q < i → ∃ g c, vs[q]? = some (.slice (some ⟨g, 0, none⟩) (hkL l q).length c) ∧ wr.ownsRow w.heap.size 3 1 (.slice (some ⟨g, 0, none⟩) (hkL l q).length c) (hkL l q).length ((hkL l q).map (Value.int .i64))) ∧
    (∀ q, i ≤ q → q < n → vs[q]? = some (.slice none 0 0)) ∧ HS w wr gr n i vs (.slice none 0 0) 0 [] wr := by
  obtain ⟨vs, h1, h2, h3⟩ := h.tab
  have hl : vs.length = n := by simpa using h1.1
  refine ⟨vs, hl, h1, h2, h3, h.b, Nat.le_refl _, fun _ _ _ => rfl, ?_, World.ownsRow_nil _ _ _ _⟩
  have h4 := h3 i (Nat.le_refl _) hi
  have : vs.set i (.slice none 0 0) = vs := by
    apply List.ext_getElem?
    intro q
    rw [List.getElem?_set]
    by_cases hq : i = q
    · subst hq
      rw [if_pos rfl, h4]
      simp [hl, hi]
    · rw [if_neg hq]
  rw [this]
  exact h1

theorem HO.next {w wr W : World} {l : List Int} {gr n i k : Nat} {cv : Value} {vs : List Value} {g c : Nat} (h : HO w l gr n cv i wr) (hi : i < n) (hl : vs.length = n)
    (h1 : wr.ownsRow w.heap.size 33 1 (.slice (some ⟨gr, 0, none⟩) n n) n vs)
    (h2 : ∀ q, q < i → ∃ g c, vs[q]? = some (.slice (some ⟨g, 0, none⟩) (hkL l q).length c) ∧ wr.ownsRow w.heap.size 3 1 (.slice (some ⟨g, 0, none⟩) (hkL l q).length c) (hkL l q).length ((hkL l q).map (Value.int .i64)))
    (h3 : ∀ q, i ≤ q → q < n → vs[q]? = some (.slice none 0 0))
    (hs : HS w wr gr n i vs (.slice (some ⟨g, 0, none⟩) k c) k ((hkL l i).map (Value.int .i64)) W) (hk : (hkL l i).length = k) : HO w l gr n cv (i + 1) W := by
  refine ⟨hs.b, Nat.lt_of_lt_of_le h.lt hs.sz, h.le, own_still h.cols h1 hs.still, _, hs.rows, fun q hq => ?_, fun q hq1 hq2 => ?_⟩
  · by_cases hqi : q = i
    · subst hqi
      rw [hk]
      exact ⟨g, c, by rw [List.getElem?_set_self (by omega)], Joins.ownsRow_le hs.cur h.b.size⟩
    · obtain ⟨g', c', h4, h5⟩ := h2 q (by omega)
      exact ⟨g', c', by rw [List.getElem?_set_ne (by omega)]; exact h4, own_still h5 h1 hs.still⟩
  · rw [List.getElem?_set_ne (by omega)]
    exact h3 q (by omega) hq2

set_option maxHeartbeats 4000000 in
set_option maxRecDepth 100000 in
theorem hooks_any (a : Option Addr) (n c : Nat) (xs : List Int) (w : World) (h : Ints w a n xs) (hP : isP xs = true) (hc : n ≤ c) (hcm : c ≤ maxLen) :
    Calls Try.prog 81 #[.slice a n c] w fun e w' => ∃ g, e = .returned (.slice (some ⟨g, 0, none⟩) n n) ∧ TabO w' w.heap.size (.slice (some ⟨g, 0, none⟩) n n) (hooksL xs) ∧ Below w.heap.size w w' := by
  have hl := h.1
  have hn := isP_len hP
  rw [hl] at hn
  obtain ⟨i3, j1, j2, j3, j4⟩ := info_parts info3
  obtain ⟨i33, k1, k2, k3, k4⟩ := info_parts info33
  have J := Lib.hid (And.intro j1 (And.intro j2 (And.intro j3 j4)))
  have H := Lib.hid h
  have HP := Lib.hid hP
  have HL := Lib.hid hl
  have hhd : ∀ i j : Nat, i < n → (j : Int) < xs.getD i 0 → j < (conjL xs).length ∧ (conjL xs).getD j 0 = over (j : Int) xs := by
    intro i j hi hj
    have h1 := isP_head hP (j := i) (by omega)
    have h2 : j < (xs.getD 0 0).toNat := by omega
    exact ⟨by rw [conj_len]; exact h2, conj_at h2⟩
  have HHD := Lib.hid hhd
  have hcn := conj_any a n c xs w h hP hc hcm
  have HCN := Lib.hid hcn
  clear h hP hl hhd hcn hc hcm j1 j2 j3 j4
  go_enter Try.func81, Try.ntmps81
  go_wp2_with (first
    | (go_at_call 63; refine HCN.out.mono ?_; rintro e w1 ⟨ac, cc, rfl, hoc, hbc⟩; have hsz1 := hbc.size; have HOC := Lib.hid hoc; have HBC := Lib.hid hbc; clear hoc hbc)
    | (at_make; refine wpList_make_full _ rfl _ _ 22 rfl w.heap.size 33 i33 (.slice none 0 0) 1 Try.underlying22 k1 k2 k3 _ _ _ _ n rfl rfl rfl rfl (by rw [k4]; omega) (by unfold maxLen; omega) hsz1 ?_; intro w2 hown hgrow; have HOW := Lib.hid hown; have HG := Lib.hid hgrow; clear hown hgrow))
  obtain ⟨kc, hkc⟩ : ∃ kc, (conjL xs).length = kc := ⟨_, rfl⟩
  have hs0 : HO w xs w1.heap.size n (.slice ac kc cc) 0 w2 := by
    have hb2 : Below w.heap.size w w2 := HBC.out.grown HG.out hsz1 (fun k e => by cases e)
    have ho := HOW.out
    have e : (madeCells (Value.slice none 0 0).cells (n * 1)).toList = List.replicate n (.slice none 0 0) := by
      rw [Nat.mul_one, show (Value.slice none 0 0).cells = #[Value.slice none 0 0] from rfl, toList_madeCells_one]
    rw [e] at ho
    refine ⟨hb2, (ho.lt _ rfl).2, hsz1, ?_, _, ho, fun q hq => by omega, fun q _ hq => by simp [hq]⟩
    have := HOC.out.kept HG.out (by cases hv : (Value.slice ac (conjL xs).length cc).ownBlock with | none => exact .inl rfl | some g => exact .inr (fun e => by cases e))
    rw [hkc] at this ⊢
    exact this
  rw [hkc]
  have HS0 := Lib.hid hs0
  have HKC := Lib.hid hkc
  obtain ⟨gr, hgr⟩ : ∃ gr, w1.heap.size = gr := ⟨_, rfl⟩
  rw [hgr] at HS0 ⊢
  clear hs0 hkc hgr HOC HBC HOW HG k1 k2 k3 k4 hsz1
  go_loopg [17] n (fun gk i wr => ∃ (k : Nat), k + gk = n ∧ i = .int .i64 (k : Int) ∧ HO w xs gr n (.slice ac kc cc) k wr)
  case atStart => exact ⟨0, by omega, rfl, HS0.out⟩
  case round =>
    obtain ⟨i, hi, rfl, hs⟩ := hrel
    have HOO := Lib.hid hs
    clear hs HS0
    by_cases hin : i = n
    · have hge : ¬ (i : Int) < (n : Int) := by omega
      have hge2 : ¬ i < n := by omega
      have HIN := Lib.hid hin
      clear hin
      go_wp2
      go_ret
      refine ⟨gr, rfl, ?_, HOO.out.b⟩
      obtain ⟨vs, h1, h2, -⟩ := HOO.out.tab
      refine ⟨vs, by rw [hooksL_len, HL.out]; exact h1, fun q hq => ?_⟩
      rw [hooksL_len] at hq
      rw [hooksL_at hq]
      exact h2 q (by have := HIN.out; have := HL.out; omega)
    · obtain ⟨W1, rfl⟩ : ∃ W1, W1 = wr := ⟨_, rfl⟩
      have hlt : (i : Int) < (n : Int) := by omega
      have hlt2 : i < n := by omega
      obtain ⟨b, off, rfl, hb, hcells⟩ := H.out.at (by omega)
      have hci := (HOO.out.b.cell (p := ⟨b, off + i, none⟩) hb).trans (hcells i hlt2)
      have hx := isP_at HP.out (j := i) (by have := HL.out; omega)
      obtain ⟨X, hX⟩ : ∃ X : Nat, xs.getD i 0 = (X : Int) := ⟨(xs.getD i 0).toNat, by omega⟩
      rw [hX] at hci hx
      obtain ⟨vs, v1, v2, v3, v4, v5⟩ := HOO.out.begin hlt2
      have V := Lib.hid (And.intro v1 (And.intro v2 (And.intro v3 v4)))
      have V5 := Lib.hid v5
      have HX := Lib.hid hX
      have hX1 : 1 ≤ X := by omega
      have hX2 : X ≤ 30 := by omega
      have i0 : (0 : Int) ≤ (i : Int) := by omega
      clear hin hcells hx hX v1 v2 v3 v4 v5
      go_wp2
      go_loopg [23] X (fun gk j wr2 => ∃ (k : Nat) (v : Value), k + gk = X ∧ j = .int .i64 (k : Int) ∧ HS w W1 gr n i vs v k ((hkPre xs i k).map (Value.int .i64)) wr2)
      case atStart => exact ⟨0, _, by omega, rfl, V5.out⟩
      case round =>
        obtain ⟨k, v, hk, rfl, hs⟩ := hrel
        have HSS := Lib.hid hs
        clear hs V5
        by_cases hkX : k = X
        · have hge : ¬ (k : Int) < (X : Int) := by omega
          have hge2 : ¬ k < X := by omega
          have HKX := Lib.hid hkX
          clear hkX
          go_wp2
          go_roundg (n - i - 1)
          case rel =>
            refine ⟨i + 1, by omega, by go_num, ?_⟩
            have hs := HSS.out
            obtain ⟨gv, cv, rfl⟩ := own_form hs.cur (by have := HKX.out; omega)
            have e : hkPre xs i k = hkL xs i := by unfold hkL; rw [HX.out, HKX.out]; rfl
            rw [e] at hs
            exact HOO.out.next hlt2 V.out.1 V.out.2.1 V.out.2.2.1 V.out.2.2.2 hs (by rw [← e]; simp [hkPre])
          case measure => omega
        · have hlt : (k : Int) < (X : Int) := by omega
          have hlt2' : k < X := by omega
          obtain ⟨c1, c2⟩ := HHD.out i k hlt2 (by rw [HX.out]; exact hlt)
          have hcols := own_still HOO.out.cols V.out.2.1 HSS.out.still
          rw [HKC.out] at hcols c1
          obtain ⟨gc, cc', hac⟩ := own_form hcols (by omega)
          cases hac
          have hcc := hcols.cellAt k (by omega)
          have hkl : k < (conjL xs).length := by rw [HKC.out]; exact c1
          have e1 : ((conjL xs).map (Value.int .i64))[k]? = some (.int .i64 ((conjL xs).getD k 0)) := by simp [List.getD, hkl]
          rw [e1, c2] at hcc
          obtain ⟨o1, o2⟩ := over_nonneg (k : Int) xs
          obtain ⟨C, hC⟩ : ∃ C, over (k : Int) xs = C := ⟨_, rfl⟩
          rw [hC] at hcc o1 o2
          have o3 : C ≤ 30 := by have := HL.out; omega
          have hval : hkAt xs i k = (X : Int) - (k : Int) + C - (i : Int) - 1 := by unfold hkAt; rw [HX.out, hC]
          have HV := Lib.hid hval
          have hrow := HSS.out.rows.cellAt i (by omega)
          rw [List.getElem?_set_self (by rw [V.out.1]; exact hlt2)] at hrow
          have hcur := HSS.out.cur
          have hgrl := HOO.out.lt
          have hgle := HOO.out.le
          have hszz := HSS.out.sz
          have hvne : v.ownBlock ≠ some gr := fun e => by have := (hcur.lt gr e).1; omega
          have HVNE := Lib.hid hvne
          obtain ⟨j1, j2, j3, j4⟩ := J.out
          have k0 : (0 : Int) ≤ (k : Int) := by omega
          have hck : (k : Int) < (kc : Int) := by omega
          have hX30 : (X : Int) ≤ 30 := by omega
          have hi30 : (i : Int) ≤ 30 := by omega
          clear hkX hcols e1 c2 o2 hC hval hvne
          go_wp2_with fail
          go_quiet (fail)
          have hs2 := HSS.out.drewN nq
          obtain ⟨WQ, hWQ⟩ : ∃ WQ, wr.drewN nq = WQ := ⟨_, rfl⟩
          have hrow2 : WQ.cell? ⟨gr, i, none⟩ = some v := by rw [← hWQ]; exact hrow
          rw [hWQ] at hs2 ⊢
          have hcur2 := hs2.cur
          have hq1 := hs2.sz
          have HS2 := Lib.hid hs2
          have HV2 := Lib.hid V.out.1
          clear hrow hs2 hWQ hcur hcc hszz
          go_wp2_with (at_builtin; refine wpList_append_own _ rfl _ _ 33 rfl W1.heap.size 3 i3 (.int .i64 0) 1 8 Try.underlying33 j1 j2 j3 j4 rfl (by decide) v k _ rfl (hcur2.alloc _) ⟨WQ.heap.size, 0, none⟩ 1 1 [.int .i64 ((X : Int) - (k : Int) - 1 + (C - (i : Int) - 1) + 1)] rfl rfl (cell_one_new _ _ _) (by simp [Value.oneCell']) (by unfold maxLen; omega) (by omega) (by simp; omega) ?_; intro v3 w3 ho3 hg3 _; obtain ⟨g3, c3, rfl⟩ := own_form ho3 (by omega); have hr3 := (HS2.out.rows.alloc _).kept hg3 (.inr fun e => HVNE.out e.symm); have hrc := hr3.cellAt i (by omega); have hrf := hr3.frozenAt i; rw [List.getElem?_set_self (by rw [HV2.out]; exact hlt2)] at hrc; have HO3 := Lib.hid ho3; have HG3 := Lib.hid hg3; clear ho3 hg3 hr3)
          go_roundg (X - k - 1)
          case rel =>
            have hst := HS2.out.step hgrl hgle HO3.out HG3.out
            refine ⟨k + 1, .slice (some ⟨g3, 0, none⟩) (k + 1) c3, by omega, by go_num, ?_⟩
            rw [hkPre_succ, HV.out, show (X : Int) - (k : Int) + C - (i : Int) - 1 = (X : Int) - (k : Int) - 1 + (C - (i : Int) - 1) + 1 by omega]
            exact hst
          case measure => omega
set_option maxHeartbeats 1000000 in
theorem Hooks_yes (a : Option Addr) (n c : Nat) (xs : List Int) (w : World) (h : Ints w a n xs) (hP : isP xs = true) (hc : n ≤ c) (hcm : c ≤ maxLen) :
    Calls Try.prog 46 #[.slice a n c] w fun e w' => ∃ g, e = .returned (.tuple #[.slice (some ⟨g, 0, none⟩) n n, .int .i64 0]) ∧ TabO w' w.heap.size (.slice (some ⟨g, 0, none⟩) n n) (hooksL xs) ∧ Below w.heap.size w w' := by
  have hn := isP_len hP
  rw [h.1] at hn
  have H := Lib.hid h
  have HP := Lib.hid hP
  have HK := Lib.hid (hooks_any a n c xs w h hP hc hcm)
  clear h hP hc hcm
  go_enter Try.func46, Try.ntmps46
  go_wp2_with (first | (go_at_call 62; refine (valid_any a n c xs _ H.out (by omega)).mono ?_; rintro e w' ⟨rfl, rfl⟩; rw [HP.out]) | (go_at_call 81; refine HK.out.mono ?_; rintro e w1 ⟨g, rfl, ht, hb⟩; have HT := Lib.hid (And.intro ht hb); clear ht hb) | go_in)
  go_ret2
  exact ⟨g, rfl, HT.out.1, HT.out.2⟩

set_option maxHeartbeats 1000000 in
theorem Hooks_no (a : Option Addr) (n c : Nat) (xs : List Int) (w : World) (h : Ints w a n xs) (hP : isP xs = false) (hn : n ≤ 4611686018427387904) :
    Calls Try.prog 46 #[.slice a n c] w fun e w' => e = .returned (.tuple #[.slice none 0 0, .int .i64 2]) ∧ w' = w := by
  have H := Lib.hid h
  have HP := Lib.hid hP
  clear h hP
  go_enter Try.func46, Try.ntmps46
  go_wp2_with (first | (go_at_call 62; refine (valid_any a n c xs _ H.out (by omega)).mono ?_; rintro e w' ⟨rfl, rfl⟩; rw [HP.out]) | go_in)
  go_ret2
  exact ⟨rfl, rfl⟩
end Go.Proofs.Ytfecdpglcdhijaa
