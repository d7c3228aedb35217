/- The walk of numeral.gaps: a map that tells how often each distance occurs. Condition: the numbers are arguments of Gaps. -/
import Derived.Test.YtbdabpmpfciibaaGap1
import Derived.Test.YtbdabpmpfciibaaShelf3
import Derived.Maps.OwnOps
import Derived.Maps.OwnSet
import Derived.Maps.Views
import Derived.Deep.RegionHeld3
import Derived.Sort.OwnSortedInts
import Derived.Lib.RowBridge
import Derived.Lib.SortBridge
namespace Go.Proofs.Ytbdabpmpfciibaa
open Go.RowKit Go.Shelf Go.Maps Go.Lib Go.Sort
attribute [local go_sem] Oper.semAt_some

theorem law3 : Keyed Try.prog 3 := int_keyed Try.underlying3
theorem zero3 (w : World) : (zeroValue 3).run Try.prog w = .ok (.int .i64 0) w := by kernel_rfl
theorem wf_small {x : Int} (h0 : -1000000 ≤ x) (h1 : x ≤ 1000000) : (Lit.int .i64 x).wf = true := by
  exact WalkArith.wf_i64 (by omega)

theorem lit_inj {a b : Int} (h : (DataW.lit (Lit.int .i64 a) : DataW Unit) = .lit (.int .i64 b)) : a = b := by
  injection h with h
  injection h
/-- The map tells f. -/
structure MapIs (D : DataW Unit) (f : Nat → Nat) (m : Nat) : Prop where
  at_ : ∀ d : Nat, D.atKey (.int .i64 (d : Int)) (.lit (.int .i64 0)) = .lit (.int .i64 (f d : Int))
  has : ∀ d : Nat, Maps.has D (.int .i64 (d : Int)) = decide (0 < f d)
  key : ∀ kl, Maps.has D kl = true → ∃ d : Nat, kl = .int .i64 (d : Int) ∧ d ≤ m
theorem MapIs.start (f : Nat → Nat) (m : Nat) (h : ∀ d, f d = 0) : MapIs (.map []) f m := by
  refine ⟨fun d => ?_, fun d => ?_, fun kl hk => ?_⟩
  · rw [h d]; exact atKey_of_not_has rfl _
  · rw [h d]; rfl
  · cases hk
theorem MapIs.put {D : DataW Unit} {f f' : Nat → Nat} {m d : Nat} (h : MapIs D f m) (hm : IsMap D) (hd : d ≤ m) (h1 : f' d = f d + 1) (h2 : ∀ e, e ≠ d → f' e = f e) : MapIs (D.put (.int .i64 (d : Int)) (.lit (.int .i64 ((f d : Int) + 1)))) f' m := by
  have hne : ∀ e : Nat, e ≠ d → (Lit.int .i64 (e : Int)) ≠ .int .i64 (d : Int) := fun e he hh => he (by injection hh with _ h; omega)
  refine ⟨fun e => ?_, fun e => ?_, fun kl hk => ?_⟩
  · by_cases he : e = d
    · subst he
      rw [atKey_put_same hm (show WideAt.IsKeyLit (.int .i64 (e : Int)) from trivial), h1]; rfl
    · rw [atKey_put_other (hne e he), h.at_ e, h2 e he]
  · by_cases he : e = d
    · subst he
      rw [has_put_same hm (show WideAt.IsKeyLit (.int .i64 (e : Int)) from trivial), h1, decide_eq_true (by omega)]
    · rw [has_put_other (hne e he), h.has e, h2 e he]
  · by_cases hkl : kl = .int .i64 (d : Int)
    · exact ⟨d, hkl, hd⟩
    · rw [has_put_other hkl] at hk
      exact h.key kl hk

set_option maxRecDepth 100000 in
theorem step_lookup {H : Type} {ops : Array Oper} {o : Oper} {a : Act} {w : World} {K : Act → World → Prop} {Q : Exit → Act → World → Prop} {E : Prop} (hgd : o.guard = none) (m x : Operand)
    (ho : o.op = Op.lookup 78 m x false) (b n : Nat) (D : DataW H) (hm : a.eval m = .map (some b)) (hown : w.ownsMap Try.prog 3 (plainElem Try.prog 3) b n D) (y c : Int) (hx : a.eval x = .int .i64 y) (hw : (Lit.int .i64 y).wf = true)
    (hc : D.atKey (.int .i64 y) (.lit (.int .i64 0)) = .lit (.int .i64 c)) (h : K (a.put o.dst (.int .i64 c)) w) :
    if Region.wanted o (yielded ops a.tmps) = true then Oper.wp Try.prog o a w K Q else E := by
  have hwn : Region.wanted o (yielded ops a.tmps) = true := by simp [Region.wanted, hgd]
  rw [if_pos hwn]
  obtain ⟨c', hrun, hat, hwc⟩ := hown.lookup_int law3 Try.underlying78 Try.underlying3 (zero3 _) (keyOf_int_mk Try.underlying3 hw)
  have e : c' = c := by rw [hc] at hat; injection hat with hat; injection hat with _ hat; exact hat.symm
  subst e
  unfold Oper.wp
  simp [execOp, ho, hm, hx, hrun, Result.andThen]
  exact h
set_option maxRecDepth 100000 in
theorem step_update {H : Type} {ops : Array Oper} {o : Oper} {a : Act} {w : World} {K : Act → World → Prop} {Q : Exit → Act → World → Prop} {E : Prop} (hgd : o.guard = none) (m x v : Operand)
    (ho : o.op = Op.mapUpdate 78 m x v) (b n : Nat) (D : DataW H) (hm : a.eval m = .map (some b)) (hown : w.ownsMap Try.prog 3 (plainElem Try.prog 3) b n D) (hn : n < maxLen) (y c : Int) (hx : a.eval x = .int .i64 y) (hv : a.eval v = .int .i64 c) (hw : (Lit.int .i64 y).wf = true) (hwc : (Lit.int .i64 c).wf = true)
    (h : ∀ w', w'.ownsMap Try.prog 3 (plainElem Try.prog 3) b (n + 1) (D.put (.int .i64 y) (.lit (.int .i64 c))) → w.grownBy w' (some b) → K (a.put o.dst undef) w') :
    if Region.wanted o (yielded ops a.tmps) = true then Oper.wp Try.prog o a w K Q else E := by
  have hwn : Region.wanted o (yielded ops a.tmps) = true := by simp [Region.wanted, hgd]
  rw [if_pos hwn]
  obtain ⟨w', hrun, r1, r2⟩ := hown.update law3 Try.underlying78 hn (keyOf_int_mk Try.underlying3 hw) (plainElem_int Try.underlying3 hwc)
  unfold Oper.wp
  simp [execOp, ho, hm, hx, hv, hrun, Result.andThen]
  exact h w' r1 r2

theorem grown_cell {W W' : World} {B g j : Nat} (h : W.grownBy W' (some B)) (hg : g < W.heap.size) (hne : g ≠ B) : W'.cell? ⟨g, j, none⟩ = W.cell? ⟨g, j, none⟩ := by
  unfold World.cell?
  rw [h.block g hg (by intro e; exact hne (Option.some.inj e))]
/-- A row of the call's own. -/
structure LS (g c : Nat) (xs : List Int) (w W : World) : Prop where
  b : Below w.heap.size w W
  own : W.ownsRow w.heap.size 3 1 (.slice (some ⟨g, 0, none⟩) xs.length c) xs.length (xs.map (Value.int .i64))
theorem sort_any (g c n : Nat) (xs : List Int) (w W : World) (h : LS g c xs w W) (hn : xs.length = n) (hn2 : n ≤ 1000) :
    Calls Try.prog 105 #[.slice (some ⟨g, 0, none⟩) n c] W fun e w' => e = .returned (.tuple #[]) ∧ LS g c (xs.mergeSort fun x y => decide (x ≤ y)) w w' := by
  subst hn
  obtain ⟨h1, h2⟩ := h.own
  rcases h2 with ⟨h3, -⟩ | ⟨g', cap, cur, h3, h4, h5, h6, h7, h8, h9⟩
  · cases h3
  cases h3
  have hH : Holds (Value.int .i64) W g 0 xs.toArray := holds_of_blockI h5 (by rw [Nat.mul_one] at h9; exact h9)
  refine (Try.slices_Sort_int g 0 c xs W hH (Array.getElem?_eq_some_iff.1 h5).1 (by omega)).mono fun e w' ⟨he, n, os, hw⟩ => ⟨he, ?_⟩
  subst hw
  have hg : W.grownBy (grow (putRow (Value.int .i64) (Sort.ahead W n) g 0 (xs.mergeSort fun x y => decide (x ≤ y)).toArray) os) (some g) := grownBy_sortedI _
  refine ⟨h.b.grown hg h.b.size (fun k e => by cases e; exact h4), ?_⟩
  rw [List.length_mergeSort]
  exact ownsRow_sortedI (List.length_mergeSort xs) h4 h5 (by omega) h7 (by omega)

theorem ptsI_len (p m n : Nat) : (ptsI p m n).length = n := by simp [ptsI, ptsN]
theorem ptsI_cells (p m n : Nat) (f : Nat → Int) (h : ∀ j, j < n → f j = ((j * p % m : Nat) : Int)) : ((List.range n).map fun j => Value.int .i64 (f j)) = (ptsI p m n).map (Value.int .i64) := by
  unfold ptsI ptsN
  rw [List.map_map, List.map_map]
  apply List.map_congr_left
  intro j hj
  rw [h j (List.mem_range.1 hj)]
  rfl
/-- The points and the length, and what lies between neighbours. -/
def qI (p m n : Nat) : List Int := plI p m n ++ [(m : Int)]
theorem qI_gap {p m n j : Nat} (hc : Nat.gcd p m = 1) (hn : n ≤ m) (hm : 0 < m) (hj : j < n) : ∃ x, x < m ∧ (plN p m n).take (j + 1) = (plN p m n).take j ++ [x] ∧ (qI p m n).getD (j + 1) 0 - (qI p m n).getD j 0 = ((nx (tf p m n) m x - x : Nat) : Int) ∧ nx (tf p m n) m x - x ≤ m ∧ 1 ≤ nx (tf p m n) m x - x ∧ 0 ≤ (qI p m n).getD j 0 ∧ (qI p m n).getD j 0 ≤ m ∧ 0 ≤ (qI p m n).getD (j + 1) 0 ∧ (qI p m n).getD (j + 1) 0 ≤ m := by
  have hl := plN_len hc hn hm
  have hjl : j < (plN p m n).length := by omega
  have hg := gapsOf_filter (tf p m n) m m 0 (by omega)
  have ha := gapsOf_at (plN p m n) m j hjl
  have hg' : gapsOf (plN p m n) m = (plN p m n).map fun x => nx (tf p m n) m x - x := hg
  have cast : ∀ i, (qI p m n).getD i 0 = (((plN p m n ++ [m]).getD i 0 : Nat) : Int) := by
    intro i
    unfold qI plI
    rw [show ([(m : Int)] : List Int) = [m].map (fun x : Nat => (x : Int)) from rfl, ← List.map_append, List.getD_eq_getElem?_getD, List.getElem?_map, List.getD_eq_getElem?_getD]
    cases (plN p m n ++ [m])[i]? <;> rfl
  have bd : ∀ i, (plN p m n ++ [m]).getD i 0 ≤ m := by
    intro i
    rw [List.getD_eq_getElem?_getD]
    cases h : (plN p m n ++ [m])[i]? with
    | none => simp
    | some y =>
      have := List.mem_of_getElem? h
      rw [List.mem_append, List.mem_singleton] at this
      rcases this with h | h
      · have := (plN_lt h).1; simp; omega
      · subst h; simp
  refine ⟨(plN p m n)[j], (plN_lt (List.getElem_mem hjl)).1, List.take_succ_eq_append_getElem hjl, ?_, ?_, ?_, ?_, ?_, ?_, ?_⟩
  · rw [cast, cast]
    rw [hg'] at ha
    have e : ((plN p m n).map fun x => nx (tf p m n) m x - x).getD j 0 = nx (tf p m n) m (plN p m n)[j] - (plN p m n)[j] := by
      rw [List.getD_eq_getElem?_getD, List.getElem?_map, List.getElem?_eq_getElem hjl]
      rfl
    rw [e] at ha
    have h1 := (nx_spec (tf p m n) (plN_lt (List.getElem_mem hjl)).1).1
    omega
  · have := (nx_spec (tf p m n) (plN_lt (List.getElem_mem hjl)).1).2.1; omega
  · have := (nx_spec (tf p m n) (plN_lt (List.getElem_mem hjl)).1).1; omega
  · rw [cast]; omega
  · rw [cast]; have := bd j; omega
  · rw [cast]; omega
  · rw [cast]; have := bd (j + 1); omega

set_option maxHeartbeats 8000000 in
set_option maxRecDepth 100000 in
theorem gaps_any (p m n : Nat) (w : World) (hp : p ≤ 1000) (hm : 1 ≤ m) (hm2 : m ≤ 1000) (hn : 1 ≤ n) (hnm : n ≤ m) (hc : Nat.gcd p m = 1) :
    Calls Try.prog 85 #[.int .i64 (p : Int), .int .i64 (m : Int), .int .i64 (n : Int)] w fun e w' => ∃ (b : Nat) (D : DataW Unit), e = .returned (.map (some b)) ∧ w'.ownsMap Try.prog 3 (plainElem Try.prog 3) b n D ∧ MapIs D (cF (tf p m n) m (plN p m n)) m ∧ Below w.heap.size w w' ∧ w.heap.size ≤ b := by
  obtain ⟨i0, hi, hz0, hz1, hz2⟩ := info_parts info3
  have hmm := @run_makeMap Try.prog
  have HC := Lib.hid hc
  have n0 : (0 : Int) ≤ (n : Int) := by omega
  clear hc
  go_enter Try.func85, Try.ntmps85
  go_wp2_with (at_make; refine wpList_make_full _ rfl _ _ 22 rfl w.heap.size 3 i0 (.int .i64 0) 1 Try.underlying22 hi hz0 hz1 _ _ _ _ n rfl rfl (by omega) (by omega) (by rw [hz2]; omega) (by unfold maxLen; omega) (Nat.le_refl _) ?_; intro w1 hown hgrow)
  have S0 := Lib.hid (CoState.made hown ((Below.refl w.heap.size w).grown hgrow (Nat.le_refl _) (fun k e => by cases e)))
  clear hown hgrow
  obtain ⟨g, hg⟩ : ∃ g, w.heap.size = g := ⟨_, rfl⟩
  rw [hg] at S0 ⊢
  have HG := Lib.hid hg
  clear hg
  go_loopg [8, 15] n (fun gk u8 i wr => ∃ (k : Nat), k + gk = n ∧ i = .int .i64 (k : Int) ∧ CoState g n (fun j => if j < k then ((j * p % m : Nat) : Int) else 0) w wr)
  case atStart => exact ⟨0, by omega, rfl, S0.out.congr fun j _ => by rw [if_neg (by omega)]⟩
  case round =>
    obtain ⟨k, hk, rfl, hs⟩ := hrel
    have HS := Lib.hid hs
    clear hs S0
    by_cases hkn : k = n
    · have hge : ¬ (k : Int) < (n : Int) := by omega
      have hge2 : ¬ k < n := by omega
      have ho := HS.out.own
      rw [ptsI_cells p m n _ (fun j hj => by rw [if_pos (by omega)])] at ho
      have hls : LS g n (ptsI p m n) w wr := ⟨HS.out.b, by rw [ptsI_len]; exact ho⟩
      have HLS := Lib.hid hls
      clear hkn ho hls hk HS
      go_wp2_with fail
      refine (sort_any g n n _ w _ HLS.out (ptsI_len p m n) (by omega)).mono ?_
      rintro e w2 ⟨rfl, hls2⟩
      rw [sorted_pts HC.out hnm hm] at hls2
      have hlen : (plI p m n).length = n := by unfold plI; rw [List.length_map]; exact plN_len HC.out hnm hm
      have hown2 := hls2.own
      rw [hlen] at hown2
      have hsz2 := hls2.b.size
      have HB2 := Lib.hid hls2.b
      clear HLS hls2
      go_wp2_with (at_builtin; refine wpList_append_own _ rfl _ _ 22 rfl w.heap.size 3 i0 (.int .i64 0) 1 8 Try.underlying22 hi hz0 hz1 hz2 rfl (by decide) _ _ _ rfl (World.ownsRow.alloc (h := hown2) _) ⟨w2.heap.size, 0, none⟩ 1 1 [.int .i64 (m : Int)] rfl rfl (cell_one_new _ _ _) (by simp [Value.oneCell']) (by unfold maxLen; omega) (by omega) (by simp; omega) ?_; intro v' w3 hown' hgrow _; obtain ⟨g3, c3, rfl⟩ := own_form hown' (by omega); have HO3 := Lib.hid hown'; have HG3 := Lib.hid hgrow)
      have hq : (plI p m n).map (Value.int .i64) ++ [Value.int .i64 (m : Int)] = (qI p m n).map (Value.int .i64) := by unfold qI; rw [List.map_append]; rfl
      rw [hq] at HO3
      obtain ⟨N1, hN1⟩ : ∃ N1, n + 1 = N1 := ⟨_, rfl⟩
      rw [hN1] at HO3 ⊢
      have HN1 := Lib.hid hN1
      have hql : (qI p m n).length = N1 := by rw [← hN1]; unfold qI; rw [List.length_append, hlen]; rfl
      have HQL := Lib.hid hql
      have HCELL := Lib.hid (fun i (hi : i < N1) => by
        have h1 := HO3.out.cellAt i (by omega)
        have e : ((qI p m n).map (Value.int .i64))[i]? = some (.int .i64 ((qI p m n).getD i 0)) := by
          rw [List.getElem?_map, List.getD_eq_getElem?_getD, List.getElem?_eq_getElem (by rw [HQL.out]; exact hi)]; rfl
        exact h1.trans e : ∀ i, i < N1 → w3.cell? ⟨g3, i, none⟩ = some (.int .i64 ((qI p m n).getD i 0)))
      have HB3 := Lib.hid ((HB2.out.alloc HB2.out.size (.cells #[.int .i64 (m : Int)] 3)).grown HG3.out (by have := HB2.out.size; simp; omega) (fun k e => (World.ownsRow.lt hown2 k e).1))
      have HLT := Lib.hid (World.ownsRow.lt HO3.out g3 rfl).2
      have HGAP := Lib.hid (fun j (hj : j < n) => qI_gap HC.out hnm hm hj)
      clear hq hql hN1 hown2 HO3 HG3 HB2 hlen hi hz0 hz1 hz2 hge hge2
      go_loopg [10, 35] n (fun gk u10 i wr => ∃ (j : Nat) (D : DataW Unit), j + gk = n ∧ i = .int .i64 (j : Int) ∧ wr.ownsMap Try.prog 3 (plainElem Try.prog 3) w3.heap.size j D ∧ MapIs D (cF (tf p m n) m ((plN p m n).take j)) m ∧ Below w3.heap.size w3 wr)
      case atStart => exact ⟨0, .map [], by omega, rfl, World.ownsMap_made _ _ _ _, MapIs.start _ _ (fun d => rfl), (Below.refl _ _).alloc (Nat.le_refl _) _⟩
      case round =>
        obtain ⟨j, D, hj, rfl, hown, hmap, hbl⟩ := hrel
        have HOWN := Lib.hid hown
        have HMAP := Lib.hid hmap
        have HBL := Lib.hid hbl
        clear hown hmap hbl
        by_cases hjn : j = n
        · have hge : ¬ (j : Int) < (n : Int) := by omega
          have hge2 : ¬ j < n := by omega
          have hfull : (plN p m n).take j = plN p m n := List.take_of_length_le (by rw [plN_len HC.out hnm hm]; omega)
          rw [hfull] at HMAP
          rw [hjn] at HOWN
          clear hj hjn hfull
          go_wp2
          go_ret
          exact ⟨w3.heap.size, rfl, D, HOWN.out, HMAP.out, HB3.out.trans (HBL.out.mono HB3.out.size), HB3.out.size⟩
        · have hlt : (j : Int) < (n : Int) := by omega
          have hlt2 : j < n := by omega
          have j0 : (0 : Int) ≤ (j : Int) := by omega
          obtain ⟨x, hx, htk, hgap, hd1, hd2, q0, q1, q2, q3⟩ := HGAP.out j hlt2
          have c0 := (HBL.out.cell (p := ⟨g3, j, none⟩) HLT.out).trans (HCELL.out j (by have := HN1.out; omega))
          have c1 := (HBL.out.cell (p := ⟨g3, j + 1, none⟩) HLT.out).trans (HCELL.out (j + 1) (by have := HN1.out; omega))
          obtain ⟨d, hd⟩ : ∃ d, nx (tf p m n) m x - x = d := ⟨_, rfl⟩
          obtain ⟨U, hU⟩ : ∃ U, (qI p m n).getD j 0 = U := ⟨_, rfl⟩
          obtain ⟨V, hV⟩ : ∃ V, (qI p m n).getD (j + 1) 0 = V := ⟨_, rfl⟩
          rw [hd] at hgap hd1 hd2
          rw [hU] at c0 hgap q0 q1
          rw [hV] at c1 hgap q2 q3
          have hat := HMAP.out.at_ d
          have hcl : cF (tf p m n) m ((plN p m n).take j) d ≤ j := by
            unfold cF
            exact Nat.le_trans List.countP_le_length (by rw [List.length_take]; omega)
          obtain ⟨c, hcc⟩ : ∃ c, cF (tf p m n) m ((plN p m n).take j) d = c := ⟨_, rfl⟩
          have hm2' : MapIs (D.put (.int .i64 (d : Int)) (.lit (.int .i64 ((c : Int) + 1)))) (cF (tf p m n) m ((plN p m n).take (j + 1))) m := by
            have h := HMAP.out.put (f' := cF (tf p m n) m ((plN p m n).take (j + 1))) HOWN.out.isMap hd1 (by rw [htk, cF_snoc, if_pos hd]) (fun e he => by rw [htk, cF_snoc, if_neg (fun hh => he (hh.symm.trans hd)), Nat.add_zero])
            rw [hcc] at h
            exact h
          rw [hcc] at hat hcl
          have HM2 := Lib.hid hm2'
          have HJ := Lib.hid hj
          obtain ⟨J, hJ⟩ : ∃ J, j + 1 = J := ⟨_, rfl⟩
          rw [hJ] at c1
          have hJi : (j : Int) + 1 = (J : Int) := by omega
          have hJw : IntKind.i64.wrap (J : Int) = (J : Int) := by simp [IntKind.wrap, IntKind.bits, IntKind.signed]; omega
          have J0 : (0 : Int) ≤ (J : Int) := by omega
          have J1 : (J : Int) < (N1 : Int) := by have := HN1.out; omega
          have J2 : J < N1 := by have := HN1.out; omega
          have j1 : (j : Int) < (N1 : Int) := by omega
          have j2 : j < N1 := by omega
          have hUV : IntKind.i64.wrap (V - U) = (d : Int) := by rw [hgap]; simp [IntKind.wrap, IntKind.bits, IntKind.signed]; omega
          have hdw : IntKind.i64.wrap (d : Int) = (d : Int) := by simp [IntKind.wrap, IntKind.bits, IntKind.signed]; omega
          have hcw : IntKind.i64.wrap ((c : Int) + 1) = (c : Int) + 1 := by simp [IntKind.wrap, IntKind.bits, IntKind.signed]; omega
          have HJJ := Lib.hid hJ
          clear hJ
          have hkw : (Lit.int .i64 (d : Int)).wf = true := wf_small (by omega) (by omega)
          have hvw : (Lit.int .i64 ((c : Int) + 1)).wf = true := wf_small (by omega) (by omega)
          have hjm : j < maxLen := by unfold maxLen; omega
          have hne3 : g3 ≠ w3.heap.size := Nat.ne_of_lt HLT.out
          have hg3r : g3 < wr.heap.size := Nat.lt_of_lt_of_le HLT.out HBL.out.size
          have hbr : w3.heap.size < wr.heap.size := HOWN.out.lt
          obtain ⟨c', hrunL, hatL, -⟩ := (World.ownsMap.drew HOWN.out).lookup_int law3 Try.underlying78 Try.underlying3 (zero3 _) (keyOf_int_mk Try.underlying3 hkw)
          have ec : c' = (c : Int) := (lit_inj (hat.symm.trans hatL)).symm
          subst ec
          obtain ⟨w5, hrunU, hown5, hgrow5⟩ := (World.ownsMap.drew HOWN.out).update law3 Try.underlying78 hjm (keyOf_int_mk Try.underlying3 hkw) (plainElem_int Try.underlying3 hvw)
          have HOWN5 := Lib.hid hown5
          have HCC := Lib.hid (And.intro c0 c1)
          have HCC5 := Lib.hid (And.intro ((grown_cell hgrow5 hg3r hne3).trans c0) ((grown_cell hgrow5 hg3r hne3).trans c1))
          have HB5 := Lib.hid (HBL.out.drew.grown hgrow5 HBL.out.size (fun k e => by have e' : w3.heap.size = k := Option.some.inj e; omega))
          clear hd hU hV hat hatL hm2' hj hjn hkw hvw hjm hne3 hg3r hcc htk hx c0 c1 hown5 hgrow5 hbr
          go_wp2
          go_region_held3 (fun w' => w'.cell? ⟨g3, j, none⟩ = some (.int .i64 U) ∧ w'.cell? ⟨g3, J, none⟩ = some (.int .i64 V)) (first | exact HCC.out | exact HCC5.out) (fail)
          go_wp2
          go_roundg (n - j - 1)
          case rel => exact ⟨j + 1, _, by have := HJ.out; omega, by go_num, HOWN5.out, HM2.out, HB5.out⟩
          case measure => have := HJ.out; omega
    · have hlt : (k : Int) < (n : Int) := by omega
      have hlt2 : k < n := by omega
      have k0 : (0 : Int) ≤ (k : Int) := by omega
      obtain ⟨X, hX⟩ : ∃ X, k * p = X := ⟨_, rfl⟩
      have hXi : (k : Int) * (p : Int) = (X : Int) := by rw [← hX]; simp
      have hXb : X ≤ 1000 * 1000 := by rw [← hX]; exact Nat.mul_le_mul (by omega) hp
      obtain ⟨V, hV⟩ : ∃ V, X % m = V := ⟨_, rfl⟩
      have hVi : (X : Int).tmod (m : Int) = (V : Int) := by rw [Int.tmod_eq_emod_of_nonneg (by omega), ← hV]; omega
      have hVb : V < m := hV ▸ Nat.mod_lt _ (by omega)
      have hmz : ¬ (m : Int) = 0 := by omega
      have hmb : ((m : Int) == 0) = false := by rw [beq_eq_false_iff_ne]; exact hmz
      have HV := Lib.hid (show k * p % m = V by rw [hX, hV])
      have hcg := HS.out.cell (j := k) hlt2
      have hfg := HS.out.frozen k
      obtain ⟨u, hu⟩ : ∃ u : Int, (if k < k then ((k * p % m : Nat) : Int) else 0) = u := ⟨_, rfl⟩
      rw [hu] at hcg
      have HK := Lib.hid hk
      clear hX hV hu hkn hk
      go_wp2
      have HS2 := Lib.hid (show CoState g n (fun j => if j < k + 1 then ((j * p % m : Nat) : Int) else 0) w (wr.setCell ⟨g, k, none⟩ (.int .i64 (V : Int))) from
        (HS.out.put k (V : Int)).congr fun j _ => by
          by_cases hj : j = k
          · subst hj
            rw [if_pos rfl, if_pos (by omega), HV.out]
          · rw [if_neg hj]
            by_cases hj2 : j < k
            · rw [if_pos hj2, if_pos (by omega)]
            · rw [if_neg hj2, if_neg (by omega)])
      go_roundg (n - k - 1)
      case rel => exact ⟨k + 1, by have := HK.out; omega, by go_num, HS2.out⟩
      case measure => have := HK.out; omega
end Go.Proofs.Ytbdabpmpfciibaa
