/- The walk of the reference's Odds. Condition: the slice lies in memory and holds a partition. -/
import Derived.Test.YtfecdpglcdhijaaRefPair
namespace Go.Proofs.Ytfecdpglcdhijaa
open Go.RowKit

set_option maxHeartbeats 8000000 in
set_option maxRecDepth 100000 in
theorem refOdds_any (a : Option Addr) (n c : Nat) (xs : List Int) (w : World) (h : Ints w a n xs) (hP : isP xs = true) :
    Calls Try.prog 41 #[.slice a n c] w fun e w' => ∃ ao co m, e = .returned (.slice ao m co) ∧ IR w.heap.size (.slice ao m co) (halfF xs 0) w' ∧ (halfF xs 0).length = m ∧ Below w.heap.size w w' := by
  have hn := isP_len hP
  rw [h.1] at hn
  have H := Lib.hid h
  have HP := Lib.hid hP
  have HFA := Lib.hid (isP_falls hP)
  clear h hP
  go_enter Try.func41, Try.ntmps41
  go_wp2_with fail
  refine (fall_any a n c xs _ H.out (by omega)).mono ?_
  rintro e w1 ⟨a1, c1, m1, rfl, hr1, hl1, hb1⟩
  rw [HFA.out] at hr1 hl1
  have S1 := Lib.hid (And.intro hr1 (And.intro hl1 hb1))
  have hm1 : m1 = n := by rw [← hl1]; exact H.out.1
  have HM1 := Lib.hid hm1
  clear hr1 hl1 hb1 hm1
  go_wp2_with fail
  have hm30' : m1 ≤ 30 := by have := HM1.out; omega
  go_loopg [3, 4] (101 * (31 - m1) + m1) (fun gk v i wr => ∃ (m j : Nat) (ao : Option Addr) (co : Nat) (ys : List Int), gk + j = 101 * (31 - m) + m ∧ j ≤ m ∧ v = .slice ao m co ∧ i = .int .i64 (j : Int) ∧ IR w.heap.size (.slice ao m co) ys wr ∧ goodL ys ∧ halfF ys j = halfF xs 0 ∧ ys.length = m ∧ Below w.heap.size w wr)
  case atStart => exact ⟨m1, 0, a1, c1, xs, by omega, by omega, rfl, rfl, S1.out.1, isP_good HP.out, rfl, S1.out.2.1, S1.out.2.2⟩
  case round =>
    obtain ⟨m, j, ao, co, ys, hgk, hjm, rfl, rfl, hr, hgood, hjj, hlen, hb⟩ := hrel
    have HR := Lib.hid hr
    have HGY := Lib.hid hgood
    have HJ := Lib.hid hjj
    have HL := Lib.hid hlen
    have HB := Lib.hid hb
    have HGK := Lib.hid (And.intro hgk hjm)
    have hm30 : m ≤ 30 := by have := hgood.len; omega
    have j0 : (0 : Int) ≤ (j : Int) := by omega
    clear hr hgood hjj hlen hb hgk S1
    by_cases hend : j = m
    · have hge : ¬ (j : Int) < (m : Int) := by omega
      have hE : halfF xs 0 = ys := by rw [← HJ.out, halfF_end (by have := HL.out; omega)]
      have HE := Lib.hid hE
      clear hE hend
      go_wp2
      go_ret
      exact ⟨ao, co, m, rfl, by rw [HE.out]; exact HR.out, by rw [HE.out]; exact HL.out, HB.out⟩
    · have hlt2 : j < m := by omega
      have hlt3 : (j : Int) < (m : Int) := by omega
      obtain ⟨g, co', hao⟩ := own_form HR.out (by have := HL.out; omega)
      have hao2 : ao = some ⟨g, 0, none⟩ := by injection hao
      subst hao2
      have hr := HR.out
      unfold IR at hr
      rw [HL.out] at hr
      obtain ⟨hcap, hcap2⟩ := own_room hr
      have hcells : ∀ j, j < m → wr.cell? ⟨g, j, none⟩ = some (.int .i64 (ys.getD j 0)) := fun j hj => by
        rw [hr.cellAt j (by omega), List.getElem?_map, List.getElem?_eq_getElem (by have := HL.out; omega), List.getD_eq_getElem?_getD, List.getElem?_eq_getElem (by have := HL.out; omega)]
        rfl
      have HCS := Lib.hid hcells
      have HGW := Lib.hid (hr.lt g rfl).2
      have hc0 := hcells j hlt2
      have hb0 := HGY.out.at (j := j) (by have := HL.out; omega)
      obtain ⟨x, hx⟩ : ∃ x, ys.getD j 0 = x := ⟨_, rfl⟩
      rw [hx] at hc0 hb0
      have HX := Lib.hid hx
      obtain ⟨hb1, hb2⟩ := hb0
      have HCAP := Lib.hid (And.intro hcap hcap2)
      have hmod : x.tmod 2 = x % 2 := Int.tmod_eq_emod_of_nonneg (by omega)
      have hquo : x.tdiv 2 = x / 2 := Int.tdiv_eq_ediv_of_nonneg (by omega)
      obtain ⟨r, hrr⟩ : ∃ r, x % 2 = r := ⟨_, rfl⟩
      rw [hrr] at hmod
      have hr2 : r = 0 ∨ r = 1 := by omega
      have HRR := Lib.hid hrr
      clear hx hao hr hcells hcap hcap2 hend hrr hjm
      rcases hr2 with rfl | rfl
      · have hgj := HGY.out.half (i := j) (by have := HL.out; omega) (by rw [HX.out]; exact HRR.out)
        have hjj := HJ.out.symm.trans (halfF_half (i := j) (by have := HL.out; omega) (by have := HL.out; omega) (by rw [HX.out]; exact HRR.out))
        rw [HX.out] at hgj hjj
        obtain ⟨q, hq⟩ : ∃ q, x / 2 = q := ⟨_, rfl⟩
        have hq1 : 1 ≤ q := by have := HRR.out; omega
        have hq2 : q ≤ 15 := by omega
        rw [hq] at hgj hjj hquo
        obtain ⟨zs, hzs⟩ : ∃ zs, ys.take j ++ q :: q :: ys.drop (j + 1) = zs := ⟨_, rfl⟩
        rw [hzs] at hgj hjj
        have HGJ := Lib.hid hgj
        have HJJ := Lib.hid hjj
        have HNEW := Lib.hid (show [] ++ ys.take j ++ [q, q] ++ ys.drop (j + 1) = zs by rw [← hzs]; simp)
        have hl1 : (ys.take j).length = j := by rw [List.length_take]; have := HL.out; omega
        have hl2 : (ys.drop (j + 1)).length = m - (j + 1) := by rw [List.length_drop]; have := HL.out; omega
        have hnl : zs.length = m + 1 := by rw [← hzs, List.length_append, List.length_cons, List.length_cons, hl1, hl2]; omega
        have hm29 : m + 1 ≤ 30 := by have := HGJ.out.len; omega
        have HNL := Lib.hid hnl
        have HL1 := Lib.hid (And.intro hl1 hl2)
        have hsh1 : ∀ W, Below wr.heap.size wr W → Sh (some ⟨g, 0, none⟩) j co (ys.take j) W := fun W hb => Sh.old HL1.out.1 hb HGW.out fun i hi => by
          rw [Nat.zero_add, HCS.out i (by omega)]
          simp [List.getD, hi]
        have HSH1 := Lib.hid hsh1
        have hk1 : (j : Int) ≤ (m : Int) := by omega
        have hk2 : (j : Int) + 1 ≤ (m : Int) := by omega
        have hk3 : (m : Int) ≤ (co : Int) := by have := HCAP.out.1; omega
        have hk4 : (j : Int) ≤ (co : Int) := by omega
        have hk5 : j ≤ co := by omega
        have hk7 : j + 1 ≤ m := by omega
        have hk10 : j ≤ m := by omega
        have hz0 : (0 : Int) ≤ (j : Int) + 1 := by omega
        have hz2 : ((j : Int) + 1).toNat = j + 1 := by omega
        have hw2 : IntKind.i64.wrap ((j : Int) + 1) = (j : Int) + 1 := by simp [IntKind.wrap, IntKind.bits, IntKind.signed]; omega
        have hw3 : IntKind.i64.wrap q = q := by simp [IntKind.wrap, IntKind.bits, IntKind.signed]; omega
        have HQ := Lib.hid hq
        clear hgj hjj hzs hl1 hl2 hnl hsh1 hq
        by_cases hct : co = j + 1
        · have hcm : m = co := by have := HCAP.out.1; omega
          subst hcm
          have hj2 : (j : Int) + 1 = (m : Int) := by omega
          have hw4 : IntKind.i64.wrap (m : Int) = (m : Int) := by simp [IntKind.wrap, IntKind.bits, IntKind.signed]; omega
          have hz4 : (0 : Int) ≤ (m : Int) := by omega
          have hsh2 : ∀ W, Below wr.heap.size wr W → Sh (some ⟨g, 0, none⟩) 0 0 (ys.drop (j + 1)) W := fun W hb => ⟨by have := HL1.out.2; omega, .inr ⟨_, rfl, fun i hi => by omega⟩⟩
          have HSH2 := Lib.hid hsh2
          clear hsh2 hct hw2 hk2 hz0 hz2
          go_wp2
          go_region_law (first
            | (refine step_app rfl (.tmp 21) (.tmp 24) rfl wr.heap.size (.slice (some ⟨wr.heap.size, 0, none⟩) 0 0) [] rfl (IR.here (by simp only [hdrew, halloc]; simp [Array.getElem?_push, Array.getElem_push]) (by first | exact Nat.le_refl _ | exact b1.size | (simp; done) | (simp; omega) | (simp; have := b1.size; omega))) (some ⟨g, 0, none⟩) j m (ys.take j) rfl (HSH1.out _ (by repeat (first | exact b5 | exact b3 | exact b2 | exact b1 | exact Below.refl _ _ | refine Below.drew ?_ | refine Below.alloc ?_ (by first | exact Nat.le_refl _ | exact b1.size | (simp; done) | (simp; omega) | (simp; have := b1.size; omega)) _))) (by have := HL1.out; simp only [List.length_nil]; omega) (by first | exact Nat.le_refl _ | exact b1.size | (simp; done) | (simp; omega) | (simp; have := b1.size; omega)) ?_
               intro v1 w1 h1 g1
               have b1 : Below wr.heap.size wr w1 := Below.grown (by repeat (first | exact b5 | exact b3 | exact b2 | exact b1 | exact Below.refl _ _ | refine Below.drew ?_ | refine Below.alloc ?_ (by first | exact Nat.le_refl _ | exact b1.size | (simp; done) | (simp; omega) | (simp; have := b1.size; omega)) _)) g1 (by first | exact Nat.le_refl _ | exact b1.size | (simp; done) | (simp; omega) | (simp; have := b1.size; omega)) (by intro q hq; cases hq; first | exact Nat.le_refl _ | (simp; done)))
            | (refine step_app rfl (.tmp 21) (.tmp 24) rfl wr.heap.size (.slice (some ⟨wr.heap.size + 1, 0, none⟩) 0 0) [] rfl (IR.here (by simp only [hdrew, halloc]; simp [Array.getElem?_push, Array.getElem_push]) (by first | exact Nat.le_refl _ | exact b1.size | (simp; done) | (simp; omega) | (simp; have := b1.size; omega))) (some ⟨g, 0, none⟩) j m (ys.take j) rfl (HSH1.out _ (by repeat (first | exact b5 | exact b3 | exact b2 | exact b1 | exact Below.refl _ _ | refine Below.drew ?_ | refine Below.alloc ?_ (by first | exact Nat.le_refl _ | exact b1.size | (simp; done) | (simp; omega) | (simp; have := b1.size; omega)) _))) (by have := HL1.out; simp only [List.length_nil]; omega) (by first | exact Nat.le_refl _ | exact b1.size | (simp; done) | (simp; omega) | (simp; have := b1.size; omega)) ?_
               intro v1 w1 h1 g1
               have b1 : Below wr.heap.size wr w1 := Below.grown (by repeat (first | exact b5 | exact b3 | exact b2 | exact b1 | exact Below.refl _ _ | refine Below.drew ?_ | refine Below.alloc ?_ (by first | exact Nat.le_refl _ | exact b1.size | (simp; done) | (simp; omega) | (simp; have := b1.size; omega)) _)) g1 (by first | exact Nat.le_refl _ | exact b1.size | (simp; done) | (simp; omega) | (simp; have := b1.size; omega)) (by intro q hq; cases hq; first | exact Nat.le_refl _ | (simp; done)))
            | (refine step_app rfl (.tmp 25) (.tmp 30) rfl wr.heap.size v1 ([] ++ (ys.take j)) rfl (by first | exact h1 | exact h1.drew | exact h1.alloc _ | exact (h1.alloc _).drew) _ 2 2 [q, q] rfl (Sh.litN (by first | (simp only [hdrew, halloc]; simp [Array.getElem?_push, Array.getElem_push]; done) | exact (g1.block _ (by first | (simp; done) | (simp; omega)) (by simp [Value.ownBlock])).trans (by simp only [hdrew, halloc]; simp [Array.getElem?_push, Array.getElem_push]))) (by have := HL1.out; simp only [List.nil_append, List.length_cons, List.length_nil]; omega) (by first | exact Nat.le_refl _ | exact b1.size | (simp; done) | (simp; omega) | (simp; have := b1.size; omega)) ?_
               intro v2 w2 h2 g2
               have b2 : Below wr.heap.size wr w2 := Below.grown (by repeat (first | exact b5 | exact b3 | exact b2 | exact b1 | exact Below.refl _ _ | refine Below.drew ?_ | refine Below.alloc ?_ (by first | exact Nat.le_refl _ | exact b1.size | (simp; done) | (simp; omega) | (simp; have := b1.size; omega)) _)) g2 (by first | exact Nat.le_refl _ | exact b1.size | (simp; done) | (simp; omega) | (simp; have := b1.size; omega)) (fun q hq => (World.ownsRow.lt h1 q hq).1))
            | (refine step_app rfl (.tmp 31) (.tmp 35) rfl wr.heap.size v2 ([] ++ (ys.take j) ++ [q, q]) rfl h2 (some ⟨g, 0, none⟩) 0 0 (ys.drop (j + 1)) rfl (HSH2.out _ b2) (by have := HL1.out; simp only [List.nil_append, List.length_append, List.length_cons, List.length_nil]; omega) b2.size ?_
               intro v3 w3 h3 g3
               have b3 : Below wr.heap.size wr w3 := Below.grown b2 g3 b2.size (fun q hq => (World.ownsRow.lt h2 q hq).1)
               have e3 : IR wr.heap.size v3 zs w3 := (by rw [← HNEW.out]; exact h3)
               obtain ⟨g5, c5, hv5⟩ := own_form e3 (by rw [HNL.out]; omega)
               rw [HNL.out] at hv5
               subst hv5)
            | (go_simp
               go_at_call 74
               refine (fall_any (some ⟨g5, 0, none⟩) (m + 1) c5 zs _ ((Ints.own e3).1.cast HNL.out) (by omega)).mono ?_
               rintro e w4 ⟨a4, c4, m4, rfl, h4, hl4, b4⟩
               obtain rfl : m4 = (m + 1) := (by rw [← hl4, sortD_len, HNL.out])
               have E4 := Lib.hid (And.intro (Joins.ownsRow_le h4 b3.size) (b3.trans (b4.mono b3.size)))
               have b5 : Below wr.heap.size wr w4 := b3.trans (b4.mono b3.size)
               have HL4 := Lib.hid hl4
               clear e3 b3 h3 g3 h4 b4 hl4))
          all_goals
            go_wp2
            go_roundg (101 * (31 - (m + 1)) + (m + 1))
            case rel => exact ⟨m + 1, 0, a4, c4, sortD zs, by omega, by omega, rfl, by go_num, Joins.ownsRow_le E4.out.1 HB.out.size, HGJ.out.sort, HJJ.out.symm, HL4.out, HB.out.trans (E4.out.2.mono HB.out.size)⟩
            case measure => have := HGK.out; omega
        · have hsh2 : ∀ W, Below wr.heap.size wr W → Sh (some ⟨g, j + 1, none⟩) (m - (j + 1)) (co - (j + 1)) (ys.drop (j + 1)) W := fun W hb => Sh.old HL1.out.2 hb HGW.out fun i hi => by
            rw [HCS.out (j + 1 + i) (by omega)]
            simp [List.getD]
          have HSH2 := Lib.hid hsh2
          clear hsh2
          go_wp2
          go_region_law (first
            | (refine step_app rfl (.tmp 21) (.tmp 24) rfl wr.heap.size (.slice (some ⟨wr.heap.size, 0, none⟩) 0 0) [] rfl (IR.here (by simp only [hdrew, halloc]; simp [Array.getElem?_push, Array.getElem_push]) (by first | exact Nat.le_refl _ | exact b1.size | (simp; done) | (simp; omega) | (simp; have := b1.size; omega))) (some ⟨g, 0, none⟩) j co (ys.take j) rfl (HSH1.out _ (by repeat (first | exact b5 | exact b3 | exact b2 | exact b1 | exact Below.refl _ _ | refine Below.drew ?_ | refine Below.alloc ?_ (by first | exact Nat.le_refl _ | exact b1.size | (simp; done) | (simp; omega) | (simp; have := b1.size; omega)) _))) (by have := HL1.out; simp only [List.length_nil]; omega) (by first | exact Nat.le_refl _ | exact b1.size | (simp; done) | (simp; omega) | (simp; have := b1.size; omega)) ?_
               intro v1 w1 h1 g1
               have b1 : Below wr.heap.size wr w1 := Below.grown (by repeat (first | exact b5 | exact b3 | exact b2 | exact b1 | exact Below.refl _ _ | refine Below.drew ?_ | refine Below.alloc ?_ (by first | exact Nat.le_refl _ | exact b1.size | (simp; done) | (simp; omega) | (simp; have := b1.size; omega)) _)) g1 (by first | exact Nat.le_refl _ | exact b1.size | (simp; done) | (simp; omega) | (simp; have := b1.size; omega)) (by intro q hq; cases hq; first | exact Nat.le_refl _ | (simp; done)))
            | (refine step_app rfl (.tmp 21) (.tmp 24) rfl wr.heap.size (.slice (some ⟨wr.heap.size + 1, 0, none⟩) 0 0) [] rfl (IR.here (by simp only [hdrew, halloc]; simp [Array.getElem?_push, Array.getElem_push]) (by first | exact Nat.le_refl _ | exact b1.size | (simp; done) | (simp; omega) | (simp; have := b1.size; omega))) (some ⟨g, 0, none⟩) j co (ys.take j) rfl (HSH1.out _ (by repeat (first | exact b5 | exact b3 | exact b2 | exact b1 | exact Below.refl _ _ | refine Below.drew ?_ | refine Below.alloc ?_ (by first | exact Nat.le_refl _ | exact b1.size | (simp; done) | (simp; omega) | (simp; have := b1.size; omega)) _))) (by have := HL1.out; simp only [List.length_nil]; omega) (by first | exact Nat.le_refl _ | exact b1.size | (simp; done) | (simp; omega) | (simp; have := b1.size; omega)) ?_
               intro v1 w1 h1 g1
               have b1 : Below wr.heap.size wr w1 := Below.grown (by repeat (first | exact b5 | exact b3 | exact b2 | exact b1 | exact Below.refl _ _ | refine Below.drew ?_ | refine Below.alloc ?_ (by first | exact Nat.le_refl _ | exact b1.size | (simp; done) | (simp; omega) | (simp; have := b1.size; omega)) _)) g1 (by first | exact Nat.le_refl _ | exact b1.size | (simp; done) | (simp; omega) | (simp; have := b1.size; omega)) (by intro q hq; cases hq; first | exact Nat.le_refl _ | (simp; done)))
            | (refine step_app rfl (.tmp 25) (.tmp 30) rfl wr.heap.size v1 ([] ++ (ys.take j)) rfl (by first | exact h1 | exact h1.drew | exact h1.alloc _ | exact (h1.alloc _).drew) _ 2 2 [q, q] rfl (Sh.litN (by first | (simp only [hdrew, halloc]; simp [Array.getElem?_push, Array.getElem_push]; done) | exact (g1.block _ (by first | (simp; done) | (simp; omega)) (by simp [Value.ownBlock])).trans (by simp only [hdrew, halloc]; simp [Array.getElem?_push, Array.getElem_push]))) (by have := HL1.out; simp only [List.nil_append, List.length_cons, List.length_nil]; omega) (by first | exact Nat.le_refl _ | exact b1.size | (simp; done) | (simp; omega) | (simp; have := b1.size; omega)) ?_
               intro v2 w2 h2 g2
               have b2 : Below wr.heap.size wr w2 := Below.grown (by repeat (first | exact b5 | exact b3 | exact b2 | exact b1 | exact Below.refl _ _ | refine Below.drew ?_ | refine Below.alloc ?_ (by first | exact Nat.le_refl _ | exact b1.size | (simp; done) | (simp; omega) | (simp; have := b1.size; omega)) _)) g2 (by first | exact Nat.le_refl _ | exact b1.size | (simp; done) | (simp; omega) | (simp; have := b1.size; omega)) (fun q hq => (World.ownsRow.lt h1 q hq).1))
            | (refine step_app rfl (.tmp 31) (.tmp 35) rfl wr.heap.size v2 ([] ++ (ys.take j) ++ [q, q]) rfl h2 (some ⟨g, j + 1, none⟩) (m - (j + 1)) (co - (j + 1)) (ys.drop (j + 1)) rfl (HSH2.out _ b2) (by have := HL1.out; simp only [List.nil_append, List.length_append, List.length_cons, List.length_nil]; omega) b2.size ?_
               intro v3 w3 h3 g3
               have b3 : Below wr.heap.size wr w3 := Below.grown b2 g3 b2.size (fun q hq => (World.ownsRow.lt h2 q hq).1)
               have e3 : IR wr.heap.size v3 zs w3 := (by rw [← HNEW.out]; exact h3)
               obtain ⟨g5, c5, hv5⟩ := own_form e3 (by rw [HNL.out]; omega)
               rw [HNL.out] at hv5
               subst hv5)
            | (go_simp
               go_at_call 74
               refine (fall_any (some ⟨g5, 0, none⟩) (m + 1) c5 zs _ ((Ints.own e3).1.cast HNL.out) (by omega)).mono ?_
               rintro e w4 ⟨a4, c4, m4, rfl, h4, hl4, b4⟩
               obtain rfl : m4 = (m + 1) := (by rw [← hl4, sortD_len, HNL.out])
               have E4 := Lib.hid (And.intro (Joins.ownsRow_le h4 b3.size) (b3.trans (b4.mono b3.size)))
               have b5 : Below wr.heap.size wr w4 := b3.trans (b4.mono b3.size)
               have HL4 := Lib.hid hl4
               clear e3 b3 h3 g3 h4 b4 hl4))
          all_goals
            go_wp2
            go_roundg (101 * (31 - (m + 1)) + (m + 1))
            case rel => exact ⟨m + 1, 0, a4, c4, sortD zs, by omega, by omega, rfl, by go_num, Joins.ownsRow_le E4.out.1 HB.out.size, HGJ.out.sort, HJJ.out.symm, HL4.out, HB.out.trans (E4.out.2.mono HB.out.size)⟩
            case measure => have := HGK.out; omega
      · have HJJ := Lib.hid ((halfF_on (i := j) (by have := HL.out; omega) (by have := HL.out; omega) (by rw [HX.out, HRR.out]; omega)).symm.trans HJ.out)
        go_wp2
        go_roundg (101 * (31 - m) + m - j - 1)
        case rel => exact ⟨m, j + 1, some ⟨g, 0, none⟩, co, ys, by have := HGK.out; omega, by omega, rfl, by go_num, HR.out, HGY.out, HJJ.out, HL.out, HB.out⟩
        case measure => have := HGK.out; omega
end Go.Proofs.Ytfecdpglcdhijaa
