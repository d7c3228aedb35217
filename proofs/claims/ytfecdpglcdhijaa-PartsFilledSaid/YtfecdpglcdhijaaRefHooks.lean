/- The walk of the reference's Hooks: a table of its own that holds the hooks, row by row. Condition: the slice lies in memory and holds a partition. -/
import Derived.Test.YtfecdpglcdhijaaHooks
namespace Go.Proofs.Ytfecdpglcdhijaa
open Go.RowKit
attribute [local go_sem] Oper.semAt_some


/-- The list of rows, and what the row under way leaves alone. -/
structure RH (w : World) (l : List Int) (ov : Value) (i : Nat) (cv : Value) (W : World) : Prop where
  b : Below w.heap.size w W
  t : TabO W w.heap.size ov ((List.range i).map (hkL l))
  cols : W.ownsRow w.heap.size 3 1 cv (conjL l).length ((conjL l).map (Value.int .i64))

/-- All old blocks lie as they lay. -/
def Stay (W1 W : World) : Prop := W1.heap.size ≤ W.heap.size ∧ ∀ q, q < W1.heap.size → W.heap[q]? = W1.heap[q]?
theorem RH.stay {w W1 W : World} {l : List Int} {ov cv : Value} {i : Nat} (h : RH w l ov i cv W1) (hs : Stay W1 W) (hb : Below w.heap.size w W) : RH w l ov i cv W :=
  ⟨hb, h.t.same fun k _ hk => hs.2 k hk, own_same h.cols fun k _ hk => hs.2 k hk⟩

/-- A row under way, in blocks that are newer than W1. -/
structure RR (w W1 : World) (v : Value) (k : Nat) (xs : List Value) (W : World) : Prop where
  b : Below w.heap.size w W
  s : Stay W1 W
  cur : W.ownsRow W1.heap.size 3 1 v k xs
theorem RR.step {w W1 W W3 : World} {v v3 x : Value} {k : Nat} {xs : List Value} {o : Obj} (h : RR w W1 v k xs W) (hw : w.heap.size ≤ W1.heap.size)
    (ho3 : W3.ownsRow W1.heap.size 3 1 v3 (k + 1) (xs ++ [x])) (hg3 : (W.alloc o).grownBy W3 v.ownBlock) : RR w W1 v3 (k + 1) (xs ++ [x]) W3 := by
  have hbs := h.b.size
  have hss := h.s.1
  have s3 : W.heap.size + 1 ≤ W3.heap.size := by have := hg3.size; simpa using this
  refine ⟨(h.b.alloc hbs o).grown hg3 (by simp; omega) (fun j e => ?_), ⟨by omega, fun q hq => ?_⟩, ho3⟩
  · have := (h.cur.lt j e).1
    omega
  · have a1 := hg3.block q (by simp; omega) (fun e => by have := (h.cur.lt q e.symm).1; omega)
    exact a1.trans ((Below.heap_alloc W o q (by omega)).trans (h.s.2 q hq))

set_option maxHeartbeats 4000000 in
set_option maxRecDepth 100000 in
theorem refHooks_any (a : Option Addr) (n c : Nat) (xs : List Int) (w : World) (h : Ints w a n xs) (hP : isP xs = true) :
    Calls Try.prog 48 #[.slice a n c] w fun e w' => ∃ ao co, e = .returned (.slice ao n co) ∧ TabO w' w.heap.size (.slice ao n co) (hooksL xs) ∧ Below w.heap.size w w' := by
  have hl := h.1
  have hn := isP_len hP
  rw [hl] at hn
  obtain ⟨i3, j1, j2, j3, j4⟩ := info_parts info3
  obtain ⟨i33, k1, k2, k3, k4⟩ := info_parts info33
  have J := Lib.hid (And.intro j1 (And.intro j2 (And.intro j3 j4)))
  have J2 := Lib.hid (And.intro k1 (And.intro k2 (And.intro k3 k4)))
  have H := Lib.hid h
  have HP := Lib.hid hP
  have HL := Lib.hid hl
  have hhd : ∀ i j : Nat, i < n → (j : Int) < xs.getD i 0 → j < (conjL xs).length ∧ (conjL xs).getD j 0 = over (j : Int) xs := by
    intro i j hi hj
    have h1 := isP_head hP (j := i) (by omega)
    have h2 : j < (xs.getD 0 0).toNat := by omega
    exact ⟨by rw [conj_len]; exact h2, conj_at h2⟩
  have HHD := Lib.hid hhd
  have HCN := Lib.hid (refConj_any a n c xs w h hP)
  clear h hP hl hhd j1 j2 j3 j4 k1 k2 k3 k4
  go_enter Try.func48, Try.ntmps48
  go_wp2_with (go_at_call 30; refine HCN.out.mono ?_; rintro e w1 ⟨ac, cc, rfl, hoc, hbc⟩; have HOC := Lib.hid hoc; have HBC := Lib.hid hbc; clear hoc hbc)
  obtain ⟨kc, hkc⟩ : ∃ kc, (conjL xs).length = kc := ⟨_, rfl⟩
  have hs0 : RH w xs (.slice none 0 0) 0 (.slice ac kc cc) w1 := by
    have h1 := HOC.out
    rw [hkc] at h1
    exact ⟨HBC.out, TabO.nil _ _, by rw [hkc]; exact h1⟩
  rw [hkc]
  have HS0 := Lib.hid hs0
  have HKC := Lib.hid hkc
  clear hs0 hkc HOC HBC
  go_loopg [3, 13] n (fun gk ov i wr => ∃ (k : Nat) (ao : Option Addr) (co : Nat), k + gk = n ∧ i = .int .i64 (k : Int) ∧ ov = .slice ao k co ∧ RH w xs ov k (.slice ac kc cc) wr)
  case atStart => exact ⟨0, none, 0, by omega, rfl, rfl, HS0.out⟩
  case round =>
    obtain ⟨i, ao, co, hi, rfl, rfl, hs⟩ := hrel
    have HOO := Lib.hid hs
    clear hs HS0
    by_cases hin : i = n
    · have hge : ¬ (i : Int) < (n : Int) := by omega
      have hge2 : ¬ i < n := by omega
      have ht := HOO.out.t
      subst hin
      have e : (List.range i).map (hkL xs) = hooksL xs := by unfold hooksL; rw [HL.out]
      rw [e] at ht
      have HT := Lib.hid ht
      clear e ht
      go_wp2
      go_ret
      exact ⟨ao, co, rfl, HT.out, HOO.out.b⟩
    · obtain ⟨W1, rfl⟩ : ∃ W1, W1 = wr := ⟨_, rfl⟩
      have hlt : (i : Int) < (n : Int) := by omega
      have hlt2 : i < n := by omega
      obtain ⟨b, off, rfl, hb, hcells⟩ := H.out.at (by omega)
      have hci := (HOO.out.b.cell (p := ⟨b, off + i, none⟩) hb).trans (hcells i hlt2)
      have hx := isP_at HP.out (j := i) (by have := HL.out; omega)
      obtain ⟨X, hX⟩ : ∃ X : Nat, xs.getD i 0 = (X : Int) := ⟨(xs.getD i 0).toNat, by omega⟩
      rw [hX] at hci hx
      have HX := Lib.hid hX
      have hX1 : 1 ≤ X := by omega
      have hX2 : X ≤ 30 := by omega
      have i0 : (0 : Int) ≤ (i : Int) := by omega
      have V5 := Lib.hid (RR.mk (w := w) (W1 := W1) HOO.out.b ⟨Nat.le_refl _, fun _ _ => rfl⟩ (World.ownsRow_nil W1 W1.heap.size 3 1))
      clear hin hcells hx hX
      go_wp2
      go_loopg [7, 19] X (fun gk v j wr2 => ∃ (k : Nat), k + gk = X ∧ j = .int .i64 (k : Int) ∧ RR w W1 v k ((hkPre xs i k).map (Value.int .i64)) wr2)
      case atStart => exact ⟨0, by omega, rfl, V5.out⟩
      case round =>
        obtain ⟨k, hk, rfl, hs⟩ := hrel
        have HSS := Lib.hid hs
        clear hs V5
        by_cases hkX : k = X
        · have hge : ¬ (k : Int) < (X : Int) := by omega
          have hge2 : ¬ k < X := by omega
          have e : hkPre xs i k = hkL xs i := by unfold hkL; rw [HX.out, hkX]; rfl
          have hcur := HSS.out.cur
          rw [e] at hcur
          have hlen : (hkL xs i).length = k := by rw [← e]; simp [hkPre]
          obtain ⟨gv, cv, rfl⟩ := own_form hcur (by omega)
          have hrh := HOO.out.stay HSS.out.s HSS.out.b
          obtain ⟨vs, ht1, ht2⟩ := hrh.t
          have hlr : ((List.range i).map (hkL xs)).length = i := by simp
          have HT2 := Lib.hid ht2
          have HCUR := Lib.hid hcur
          have HLEN := Lib.hid hlen
          have HRH := Lib.hid hrh
          rw [hlr] at ht1
          have HT1 := Lib.hid ht1
          have hbs := HSS.out.b.size
          obtain ⟨k1, k2, k3, k4⟩ := J2.out
          clear e hcur hlen hrh ht2 hlr hkX
          go_wp2_with (at_builtin; refine wpList_append_own _ rfl _ _ 22 rfl w.heap.size 33 i33 (.slice none 0 0) 1 24 Try.underlying22 k1 k2 k3 k4 rfl (by decide) _ _ vs rfl (ht1.alloc _) ⟨wr.heap.size, 0, none⟩ 1 1 [.slice (some ⟨gv, 0, none⟩) k cv] rfl rfl (cell_one_new _ _ _) (by simp [Value.oneCell']) (by unfold maxLen; omega) (by omega) (by simp; omega) ?_; intro v4 w4 ho4 hg4 _; obtain ⟨g4, c4, rfl⟩ := own_form ho4 (by omega); have HO4 := Lib.hid ho4; have HG4 := Lib.hid hg4; clear ho4 hg4)
          go_roundg (n - i - 1)
          case rel =>
            refine ⟨i + 1, some ⟨g4, 0, none⟩, c4, by omega, by go_num, rfl, ?_⟩
            have hb4 : Below w.heap.size w w4 := (HSS.out.b.alloc hbs _).grown HG4.out (by simp; omega) (fun j e => (HT1.out.lt j e).1)
            have hlr : ((List.range i).map (hkL xs)).length = i := by simp
            refine ⟨hb4, ?_, ?_⟩
            · rw [List.range_succ, List.map_append]
              simp only [List.map_cons, List.map_nil]
              refine TabO.push (W := wr.alloc (.cells #[.slice (some ⟨gv, 0, none⟩) k cv] 33)) (v := .slice ao i co) (vs := vs) (g := gv) (c := cv) (by rw [hlr]; exact HT1.out.alloc _) (fun q hq => ?_) ?_ ?_ HG4.out
              · obtain ⟨g', c', h1, h2⟩ := HT2.out q hq
                exact ⟨g', c', h1, h2.alloc _⟩
              · rw [HLEN.out]
                exact (Joins.ownsRow_le HCUR.out (HOO.out.b.size)).alloc _
              · rw [hlr, HLEN.out]
                exact HO4.out
            · exact (HRH.out.cols.alloc _).kept HG4.out (own_kinds (HRH.out.cols.alloc (.cells #[.slice (some ⟨gv, 0, none⟩) k cv] 33)) (HT1.out.alloc _) (by decide))
          case measure => omega
        · have hlt : (k : Int) < (X : Int) := by omega
          have hlt2' : k < X := by omega
          obtain ⟨c1, c2⟩ := HHD.out i k hlt2 (by rw [HX.out]; exact hlt)
          have hcols := (HOO.out.stay HSS.out.s HSS.out.b).cols
          rw [HKC.out] at hcols c1
          obtain ⟨gc, cc', hac⟩ := own_form hcols (by omega)
          cases hac
          have hcc := hcols.cellAt k (by omega)
          have hkl : k < (conjL xs).length := by rw [HKC.out]; exact c1
          have e1 : ((conjL xs).map (Value.int .i64))[k]? = some (.int .i64 ((conjL xs).getD k 0)) := by simp [List.getD, hkl]
          rw [e1, c2] at hcc
          obtain ⟨o1, o2⟩ := over_nonneg (k : Int) xs
          obtain ⟨C, hC⟩ : ∃ C, over (k : Int) xs = C := ⟨_, rfl⟩
          rw [hC] at hcc o1 o2
          have o3 : C ≤ 30 := by have := HL.out; omega
          have hval : hkAt xs i k = (X : Int) - (k : Int) + C - (i : Int) - 1 := by unfold hkAt; rw [HX.out, hC]
          have HV := Lib.hid hval
          have hcur := HSS.out.cur
          have hss := HSS.out.s.1
          obtain ⟨j1, j2, j3, j4⟩ := J.out
          have k0 : (0 : Int) ≤ (k : Int) := by omega
          have hck : (k : Int) < (kc : Int) := by omega
          have hX30 : (X : Int) ≤ 30 := by omega
          have hi30 : (i : Int) ≤ 30 := by omega
          clear hkX hcols e1 c2 o2 hC hval
          go_wp2_with (at_builtin; refine wpList_append_own _ rfl _ _ 33 rfl W1.heap.size 3 i3 (.int .i64 0) 1 8 Try.underlying33 j1 j2 j3 j4 rfl (by decide) _ k _ rfl (hcur.alloc _) ⟨wr.heap.size, 0, none⟩ 1 1 [.int .i64 ((X : Int) - (k : Int) + C - (i : Int) - 1)] rfl rfl (cell_one_new _ _ _) (by simp [Value.oneCell']) (by unfold maxLen; omega) (by omega) (by simp; omega) ?_; intro v3 w3 ho3 hg3 _; obtain ⟨g3, c3, rfl⟩ := own_form ho3 (by omega); have HO3 := Lib.hid ho3; have HG3 := Lib.hid hg3; clear ho3 hg3)
          go_roundg (X - k - 1)
          case rel =>
            have hst := HSS.out.step HOO.out.b.size HO3.out HG3.out
            refine ⟨k + 1, by omega, by go_num, ?_⟩
            rw [hkPre_succ, HV.out]
            exact hst
          case measure => omega
end Go.Proofs.Ytfecdpglcdhijaa
