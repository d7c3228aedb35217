/- The walks of the reference's Glaisher and Odds. Condition: the slice lies in memory and holds a partition. -/
import Derived.Test.YtfecdpglcdhijaaRefFall
namespace Go.Proofs.Ytfecdpglcdhijaa
open Go.RowKit

theorem Ints.cast {w : World} {a : Option Addr} {n m : Nat} {xs : List Int} (h : Ints w a n xs) (e : n = m) : Ints w a m xs := e ▸ h
theorem Sh.litN {L c : Nat} {ys : List Int} {W : World} (h : W.heap[L]? = some (.cells (ys.map (Value.int .i64)).toArray 3 (0, 0))) : Sh (some ⟨L, 0, none⟩) ys.length c ys W := by
  refine ⟨rfl, .inr ⟨_, rfl, fun j hj => ?_⟩⟩
  rw [Addr.add_lit]
  simp [World.cell?, h, hj, List.getD]

set_option maxHeartbeats 8000000 in
set_option maxRecDepth 100000 in
theorem refGlaisher_any (a : Option Addr) (n c : Nat) (xs : List Int) (w : World) (h : Ints w a n xs) (hP : isP xs = true) :
    Calls Try.prog 40 #[.slice a n c] w fun e w' => ∃ ao co m, e = .returned (.slice ao m co) ∧ IR w.heap.size (.slice ao m co) (joinF xs 0) w' ∧ (joinF xs 0).length = m ∧ Below w.heap.size w w' := by
  have hn := isP_len hP
  rw [h.1] at hn
  have H := Lib.hid h
  have HP := Lib.hid hP
  have HFA := Lib.hid (isP_falls hP)
  clear h hP
  go_enter Try.func40, Try.ntmps40
  go_wp2_with fail
  refine (fall_any a n c xs _ H.out (by omega)).mono ?_
  rintro e w1 ⟨a1, c1, m1, rfl, hr1, hl1, hb1⟩
  rw [HFA.out] at hr1 hl1
  have S1 := Lib.hid (And.intro hr1 (And.intro hl1 hb1))
  have hm1 : m1 = n := by rw [← hl1]; exact H.out.1
  have HM1 := Lib.hid hm1
  clear hr1 hl1 hb1 hm1
  go_wp2_with fail
  go_loopg [3, 4] (101 * m1) (fun gk v i wr => ∃ (m j : Nat) (ao : Option Addr) (co : Nat) (ys : List Int), gk + j = 101 * m ∧ j ≤ m ∧ v = .slice ao m co ∧ i = .int .i64 ((j : Int) + 1) ∧ IR w.heap.size (.slice ao m co) ys wr ∧ goodL ys ∧ joinF ys j = joinF xs 0 ∧ ys.length = m ∧ Below w.heap.size w wr)
  case atStart => exact ⟨m1, 0, a1, c1, xs, by omega, by omega, rfl, rfl, S1.out.1, isP_good HP.out, rfl, S1.out.2.1, S1.out.2.2⟩
  case round =>
    obtain ⟨m, j, ao, co, ys, hgk, hjm, rfl, rfl, hr, hgood, hjj, hlen, hb⟩ := hrel
    have HR := Lib.hid hr
    have HGY := Lib.hid hgood
    have HJ := Lib.hid hjj
    have HL := Lib.hid hlen
    have HB := Lib.hid hb
    have HGK := Lib.hid (And.intro hgk hjm)
    have hm30 : m ≤ 30 := by have := hgood.len; omega
    have j0 : (0 : Int) ≤ (j : Int) := by omega
    clear hr hgood hjj hlen hb hgk hjm S1
    by_cases hend : m ≤ j + 1
    · have hge : ¬ (j : Int) + 1 < (m : Int) := by omega
      have hE : joinF xs 0 = ys := by rw [← HJ.out, joinF_end (by have := HL.out; omega)]
      have HE := Lib.hid hE
      clear hE hend
      go_wp2
      go_ret
      exact ⟨ao, co, m, rfl, by rw [HE.out]; exact HR.out, by rw [HE.out]; exact HL.out, HB.out⟩
    · have hlt : (j : Int) + 1 < (m : Int) := by omega
      have hlt1 : j + 1 < m := by omega
      have hlt2 : j < m := by omega
      have hlt3 : (j : Int) < (m : Int) := by omega
      have hidx : (j : Int) + 1 - 1 = (j : Int) := by omega
      obtain ⟨g, co', hao⟩ := own_form HR.out (by have := HL.out; omega)
      have hao2 : ao = some ⟨g, 0, none⟩ := by injection hao
      subst hao2
      have hr := HR.out
      unfold IR at hr
      rw [HL.out] at hr
      obtain ⟨hcap, hcap2⟩ := own_room hr
      have hcells : ∀ j, j < m → wr.cell? ⟨g, j, none⟩ = some (.int .i64 (ys.getD j 0)) := fun j hj => by
        rw [hr.cellAt j (by omega), List.getElem?_map, List.getElem?_eq_getElem (by have := HL.out; omega), List.getD_eq_getElem?_getD, List.getElem?_eq_getElem (by have := HL.out; omega)]
        rfl
      have HCS := Lib.hid hcells
      have HGW := Lib.hid (hr.lt g rfl).2
      have HGE := Lib.hid (hr.lt g rfl).1
      have hc1 := hcells (j + 1) hlt1
      have hc0 := hcells j hlt2
      have hb0 := HGY.out.at (j := j) (by have := HL.out; omega)
      obtain ⟨x, hx⟩ : ∃ x, ys.getD j 0 = x := ⟨_, rfl⟩
      obtain ⟨y, hy⟩ : ∃ y, ys.getD (j + 1) 0 = y := ⟨_, rfl⟩
      rw [hx] at hc0 hb0
      rw [hy] at hc1
      have HX := Lib.hid hx
      have HY := Lib.hid hy
      obtain ⟨hb1, hb2⟩ := hb0
      have HCAP := Lib.hid (And.intro hcap hcap2)
      clear hx hy hao hr hcells hcap hcap2 hend
      by_cases hxy : (y == x) = true
      · have hxe : y = x := by simpa using hxy
        have hyb1 : 1 ≤ y := by omega
        have hyb2 : y ≤ 30 := by omega
        have hgj := HGY.out.join (j := j) (by have := HL.out; omega) (by rw [HX.out, HY.out]; exact hxe)
        have hjj := HJ.out.symm.trans (joinF_join (by have := HL.out; omega) (by rw [HX.out, HY.out]; exact hxe))
        rw [HX.out, show x * 2 = 2 * y by omega] at hgj hjj
        obtain ⟨zs, hzs⟩ : ∃ zs, ys.take j ++ (2 * y) :: ys.drop (j + 2) = zs := ⟨_, rfl⟩
        rw [hzs] at hgj hjj
        have HGJ := Lib.hid hgj
        have HJJ := Lib.hid hjj
        have HNEW := Lib.hid (show [] ++ ys.take j ++ [2 * y] ++ ys.drop (j + 2) = zs by rw [← hzs]; simp)
        have hl1 : (ys.take j).length = j := by rw [List.length_take]; have := HL.out; omega
        have hl2 : (ys.drop (j + 2)).length = m - (j + 2) := by rw [List.length_drop]; have := HL.out; omega
        have hnl : zs.length = m - 1 := by rw [← hzs, List.length_append, List.length_cons, hl1, hl2]; omega
        have HNL := Lib.hid hnl
        have HL1 := Lib.hid (And.intro hl1 hl2)
        have HXY := Lib.hid hxy
        clear hxe hgj hjj hzs hl1 hl2 hnl
        go_wp2
        go_quiet (fail)
        have b0 : Below w.heap.size w (wr.drewN nq) := below_drewN HB.out nq
        obtain ⟨W0, hW0⟩ : ∃ W0, wr.drewN nq = W0 := ⟨_, rfl⟩
        have hcy : ∀ j, j < m → W0.cell? ⟨g, j, none⟩ = some (.int .i64 (ys.getD j 0)) := fun i hi => by rw [← hW0]; exact HCS.out i hi
        have hgw : g < W0.heap.size := by rw [← hW0]; exact HGW.out
        rw [hW0] at b0 ⊢
        clear hc0 hc1 HCS HGW HR hW0
        obtain ⟨wr, rfl⟩ : ∃ wr, wr = W0 := ⟨_, rfl⟩
        have B0 := Lib.hid b0
        have HGW := Lib.hid hgw
        have HCY := Lib.hid (by have := hcy (j + 1) hlt1; rw [HY.out] at this; exact this)
        have hcyy := HCY.out
        have HCS := Lib.hid hcy
        have hsh1 : ∀ W, Below wr.heap.size wr W → Sh (some ⟨g, 0, none⟩) j co (ys.take j) W := fun W hb => Sh.old HL1.out.1 hb HGW.out fun i hi => by
          rw [Nat.zero_add, HCS.out i (by omega)]
          simp [List.getD, hi]
        have HSH1 := Lib.hid hsh1
        have hk1 : (j : Int) ≤ (m : Int) := by omega
        have hk2 : (j : Int) + 1 + 1 ≤ (m : Int) := by omega
        have hk3 : (m : Int) ≤ (co : Int) := by have := HCAP.out.1; omega
        have hk4 : (j : Int) ≤ (co : Int) := by omega
        have hk5 : j ≤ co := by omega
        have hk6 : j + 2 ≤ m := by omega
        have hk7 : j + 1 + 1 ≤ m := by omega
        have hk8 : ((j : Int) + 1 + 1).toNat = j + 2 := by omega
        have hk9 : (j : Int) ≤ (m : Int) := by omega
        have hk10 : j ≤ m := by omega
        have hz0 : (0 : Int) ≤ (j : Int) + 1 := by omega
        have hz1 : (0 : Int) ≤ (j : Int) + 1 + 1 := by omega
        have hz2 : ((j : Int) + 1).toNat = j + 1 := by omega
        have hw0 : IntKind.i64.wrap (j : Int) = (j : Int) := by simp [IntKind.wrap, IntKind.bits, IntKind.signed]; omega
        have hw2 : IntKind.i64.wrap ((j : Int) + 1 + 1) = (j : Int) + 1 + 1 := by simp [IntKind.wrap, IntKind.bits, IntKind.signed]; omega
        have hw3 : IntKind.i64.wrap (2 * y) = 2 * y := by simp [IntKind.wrap, IntKind.bits, IntKind.signed]; omega
        clear b0 hgw hcy hsh1
        by_cases hct : co = j + 2
        · have hcm : m = co := by have := HCAP.out.1; omega
          subst hcm
          have hj2 : (j : Int) + 1 + 1 = (m : Int) := by omega
          have hw4 : IntKind.i64.wrap (m : Int) = (m : Int) := by simp [IntKind.wrap, IntKind.bits, IntKind.signed]; omega
          have hz4 : (0 : Int) ≤ (m : Int) := by omega
          have hsh2 : ∀ W, Below wr.heap.size wr W → Sh (some ⟨g, 0, none⟩) 0 0 (ys.drop (j + 2)) W := fun W hb => ⟨by have := HL1.out.2; omega, .inr ⟨_, rfl, fun i hi => by omega⟩⟩
          have HSH2 := Lib.hid hsh2
          clear hsh2 hct hw2 hk2 hk8 hz1
          go_wp2
          go_region_held3 (fun w' => w'.cell? ⟨g, j + 1, none⟩ = some (.int .i64 y)) (exact (Below.cell (B := wr.heap.size) (by repeat (first | exact b5 | exact b3 | exact b2 | exact b1 | exact Below.refl _ _ | refine Below.drew ?_ | refine Below.alloc ?_ (by first | exact Nat.le_refl _ | exact b1.size | (simp; done) | (simp; omega) | (simp; have := b1.size; omega)) _)) HGW.out).trans HCY.out) (first
            | (refine step_app rfl (.tmp 23) (.tmp 27) rfl wr.heap.size (.slice (some ⟨wr.heap.size, 0, none⟩) 0 0) [] rfl (IR.here (by simp only [hdrew, halloc]; simp [Array.getElem?_push, Array.getElem_push]) (by first | exact Nat.le_refl _ | exact b1.size | (simp; done) | (simp; omega) | (simp; have := b1.size; omega))) (some ⟨g, 0, none⟩) j m (ys.take j) rfl (HSH1.out _ (by repeat (first | exact b5 | exact b3 | exact b2 | exact b1 | exact Below.refl _ _ | refine Below.drew ?_ | refine Below.alloc ?_ (by first | exact Nat.le_refl _ | exact b1.size | (simp; done) | (simp; omega) | (simp; have := b1.size; omega)) _))) (by have := HL1.out; simp only [List.length_nil]; omega) (by first | exact Nat.le_refl _ | exact b1.size | (simp; done) | (simp; omega) | (simp; have := b1.size; omega)) ?_
               intro v1 w1 h1 g1
               have b1 : Below wr.heap.size wr w1 := Below.grown (by repeat (first | exact b5 | exact b3 | exact b2 | exact b1 | exact Below.refl _ _ | refine Below.drew ?_ | refine Below.alloc ?_ (by first | exact Nat.le_refl _ | exact b1.size | (simp; done) | (simp; omega) | (simp; have := b1.size; omega)) _)) g1 (by first | exact Nat.le_refl _ | exact b1.size | (simp; done) | (simp; omega) | (simp; have := b1.size; omega)) (by intro q hq; cases hq; first | exact Nat.le_refl _ | (simp; done)))
            | (refine step_app rfl (.tmp 23) (.tmp 27) rfl wr.heap.size (.slice (some ⟨wr.heap.size + 1, 0, none⟩) 0 0) [] rfl (IR.here (by simp only [hdrew, halloc]; simp [Array.getElem?_push, Array.getElem_push]) (by first | exact Nat.le_refl _ | exact b1.size | (simp; done) | (simp; omega) | (simp; have := b1.size; omega))) (some ⟨g, 0, none⟩) j m (ys.take j) rfl (HSH1.out _ (by repeat (first | exact b5 | exact b3 | exact b2 | exact b1 | exact Below.refl _ _ | refine Below.drew ?_ | refine Below.alloc ?_ (by first | exact Nat.le_refl _ | exact b1.size | (simp; done) | (simp; omega) | (simp; have := b1.size; omega)) _))) (by have := HL1.out; simp only [List.length_nil]; omega) (by first | exact Nat.le_refl _ | exact b1.size | (simp; done) | (simp; omega) | (simp; have := b1.size; omega)) ?_
               intro v1 w1 h1 g1
               have b1 : Below wr.heap.size wr w1 := Below.grown (by repeat (first | exact b5 | exact b3 | exact b2 | exact b1 | exact Below.refl _ _ | refine Below.drew ?_ | refine Below.alloc ?_ (by first | exact Nat.le_refl _ | exact b1.size | (simp; done) | (simp; omega) | (simp; have := b1.size; omega)) _)) g1 (by first | exact Nat.le_refl _ | exact b1.size | (simp; done) | (simp; omega) | (simp; have := b1.size; omega)) (by intro q hq; cases hq; first | exact Nat.le_refl _ | (simp; done)))
            | (refine step_app rfl (.tmp 28) (.tmp 34) rfl wr.heap.size v1 ([] ++ (ys.take j)) rfl (by first | exact h1 | exact h1.drew | exact h1.alloc _ | exact (h1.alloc _).drew) _ 1 1 [2 * y] rfl (Sh.litN (by first | (simp only [hdrew, halloc]; simp [Array.getElem?_push, Array.getElem_push]; done) | exact (g1.block _ (by first | (simp; done) | (simp; omega)) (by simp [Value.ownBlock])).trans (by simp only [hdrew, halloc]; simp [Array.getElem?_push, Array.getElem_push]))) (by have := HL1.out; simp only [List.nil_append, List.length_cons, List.length_nil]; omega) (by first | exact Nat.le_refl _ | exact b1.size | (simp; done) | (simp; omega) | (simp; have := b1.size; omega)) ?_
               intro v2 w2 h2 g2
               have b2 : Below wr.heap.size wr w2 := Below.grown (by repeat (first | exact b5 | exact b3 | exact b2 | exact b1 | exact Below.refl _ _ | refine Below.drew ?_ | refine Below.alloc ?_ (by first | exact Nat.le_refl _ | exact b1.size | (simp; done) | (simp; omega) | (simp; have := b1.size; omega)) _)) g2 (by first | exact Nat.le_refl _ | exact b1.size | (simp; done) | (simp; omega) | (simp; have := b1.size; omega)) (fun q hq => (World.ownsRow.lt h1 q hq).1))
            | (refine step_app rfl (.tmp 35) (.tmp 39) rfl wr.heap.size v2 ([] ++ (ys.take j) ++ [2 * y]) rfl h2 (some ⟨g, 0, none⟩) 0 0 (ys.drop (j + 2)) rfl (HSH2.out _ b2) (by have := HL1.out; simp only [List.nil_append, List.length_append, List.length_cons, List.length_nil]; omega) b2.size ?_
               intro v3 w3 h3 g3
               have b3 : Below wr.heap.size wr w3 := Below.grown b2 g3 b2.size (fun q hq => (World.ownsRow.lt h2 q hq).1)
               have e3 : IR wr.heap.size v3 zs w3 := (by rw [← HNEW.out]; exact h3)
               obtain ⟨g5, c5, hv5⟩ := own_form e3 (by rw [HNL.out]; omega)
               rw [HNL.out] at hv5
               subst hv5)
            | (go_simp
               go_at_call 74
               refine (fall_any (some ⟨g5, 0, none⟩) (m - 1) c5 zs _ ((Ints.own e3).1.cast HNL.out) (by omega)).mono ?_
               rintro e w4 ⟨a4, c4, m4, rfl, h4, hl4, b4⟩
               obtain rfl : m4 = (m - 1) := (by rw [← hl4, sortD_len, HNL.out])
               have E4 := Lib.hid (And.intro (Joins.ownsRow_le h4 b3.size) (b3.trans (b4.mono b3.size)))
               have b5 : Below wr.heap.size wr w4 := b3.trans (b4.mono b3.size)
               have HL4 := Lib.hid hl4
               clear e3 b3 h3 g3 h4 b4 hl4))
          all_goals
            go_wp2
            go_roundg (101 * (m - 1))
            case rel => exact ⟨m - 1, 0, a4, c4, sortD zs, by omega, by omega, rfl, by go_num, Joins.ownsRow_le E4.out.1 B0.out.size, HGJ.out.sort, HJJ.out.symm, HL4.out, B0.out.trans (E4.out.2.mono B0.out.size)⟩
            case measure => have := HGK.out; omega
        · have hsh2 : ∀ W, Below wr.heap.size wr W → Sh (some ⟨g, j + 2, none⟩) (m - (j + 2)) (co - (j + 2)) (ys.drop (j + 2)) W := fun W hb => Sh.old HL1.out.2 hb HGW.out fun i hi => by
            rw [HCS.out (j + 2 + i) (by omega)]
            simp [List.getD]
          have HSH2 := Lib.hid hsh2
          clear hsh2
          go_wp2
          go_region_held3 (fun w' => w'.cell? ⟨g, j + 1, none⟩ = some (.int .i64 y)) (exact (Below.cell (B := wr.heap.size) (by repeat (first | exact b5 | exact b3 | exact b2 | exact b1 | exact Below.refl _ _ | refine Below.drew ?_ | refine Below.alloc ?_ (by first | exact Nat.le_refl _ | exact b1.size | (simp; done) | (simp; omega) | (simp; have := b1.size; omega)) _)) HGW.out).trans HCY.out) (first
            | (refine step_app rfl (.tmp 23) (.tmp 27) rfl wr.heap.size (.slice (some ⟨wr.heap.size, 0, none⟩) 0 0) [] rfl (IR.here (by simp only [hdrew, halloc]; simp [Array.getElem?_push, Array.getElem_push]) (by first | exact Nat.le_refl _ | exact b1.size | (simp; done) | (simp; omega) | (simp; have := b1.size; omega))) (some ⟨g, 0, none⟩) j co (ys.take j) rfl (HSH1.out _ (by repeat (first | exact b5 | exact b3 | exact b2 | exact b1 | exact Below.refl _ _ | refine Below.drew ?_ | refine Below.alloc ?_ (by first | exact Nat.le_refl _ | exact b1.size | (simp; done) | (simp; omega) | (simp; have := b1.size; omega)) _))) (by have := HL1.out; simp only [List.length_nil]; omega) (by first | exact Nat.le_refl _ | exact b1.size | (simp; done) | (simp; omega) | (simp; have := b1.size; omega)) ?_
               intro v1 w1 h1 g1
               have b1 : Below wr.heap.size wr w1 := Below.grown (by repeat (first | exact b5 | exact b3 | exact b2 | exact b1 | exact Below.refl _ _ | refine Below.drew ?_ | refine Below.alloc ?_ (by first | exact Nat.le_refl _ | exact b1.size | (simp; done) | (simp; omega) | (simp; have := b1.size; omega)) _)) g1 (by first | exact Nat.le_refl _ | exact b1.size | (simp; done) | (simp; omega) | (simp; have := b1.size; omega)) (by intro q hq; cases hq; first | exact Nat.le_refl _ | (simp; done)))
            | (refine step_app rfl (.tmp 23) (.tmp 27) rfl wr.heap.size (.slice (some ⟨wr.heap.size + 1, 0, none⟩) 0 0) [] rfl (IR.here (by simp only [hdrew, halloc]; simp [Array.getElem?_push, Array.getElem_push]) (by first | exact Nat.le_refl _ | exact b1.size | (simp; done) | (simp; omega) | (simp; have := b1.size; omega))) (some ⟨g, 0, none⟩) j co (ys.take j) rfl (HSH1.out _ (by repeat (first | exact b5 | exact b3 | exact b2 | exact b1 | exact Below.refl _ _ | refine Below.drew ?_ | refine Below.alloc ?_ (by first | exact Nat.le_refl _ | exact b1.size | (simp; done) | (simp; omega) | (simp; have := b1.size; omega)) _))) (by have := HL1.out; simp only [List.length_nil]; omega) (by first | exact Nat.le_refl _ | exact b1.size | (simp; done) | (simp; omega) | (simp; have := b1.size; omega)) ?_
               intro v1 w1 h1 g1
               have b1 : Below wr.heap.size wr w1 := Below.grown (by repeat (first | exact b5 | exact b3 | exact b2 | exact b1 | exact Below.refl _ _ | refine Below.drew ?_ | refine Below.alloc ?_ (by first | exact Nat.le_refl _ | exact b1.size | (simp; done) | (simp; omega) | (simp; have := b1.size; omega)) _)) g1 (by first | exact Nat.le_refl _ | exact b1.size | (simp; done) | (simp; omega) | (simp; have := b1.size; omega)) (by intro q hq; cases hq; first | exact Nat.le_refl _ | (simp; done)))
            | (refine step_app rfl (.tmp 28) (.tmp 34) rfl wr.heap.size v1 ([] ++ (ys.take j)) rfl (by first | exact h1 | exact h1.drew | exact h1.alloc _ | exact (h1.alloc _).drew) _ 1 1 [2 * y] rfl (Sh.litN (by first | (simp only [hdrew, halloc]; simp [Array.getElem?_push, Array.getElem_push]; done) | exact (g1.block _ (by first | (simp; done) | (simp; omega)) (by simp [Value.ownBlock])).trans (by simp only [hdrew, halloc]; simp [Array.getElem?_push, Array.getElem_push]))) (by have := HL1.out; simp only [List.nil_append, List.length_cons, List.length_nil]; omega) (by first | exact Nat.le_refl _ | exact b1.size | (simp; done) | (simp; omega) | (simp; have := b1.size; omega)) ?_
               intro v2 w2 h2 g2
               have b2 : Below wr.heap.size wr w2 := Below.grown (by repeat (first | exact b5 | exact b3 | exact b2 | exact b1 | exact Below.refl _ _ | refine Below.drew ?_ | refine Below.alloc ?_ (by first | exact Nat.le_refl _ | exact b1.size | (simp; done) | (simp; omega) | (simp; have := b1.size; omega)) _)) g2 (by first | exact Nat.le_refl _ | exact b1.size | (simp; done) | (simp; omega) | (simp; have := b1.size; omega)) (fun q hq => (World.ownsRow.lt h1 q hq).1))
            | (refine step_app rfl (.tmp 35) (.tmp 39) rfl wr.heap.size v2 ([] ++ (ys.take j) ++ [2 * y]) rfl h2 (some ⟨g, j + 2, none⟩) (m - (j + 2)) (co - (j + 2)) (ys.drop (j + 2)) rfl (HSH2.out _ b2) (by have := HL1.out; simp only [List.nil_append, List.length_append, List.length_cons, List.length_nil]; omega) b2.size ?_
               intro v3 w3 h3 g3
               have b3 : Below wr.heap.size wr w3 := Below.grown b2 g3 b2.size (fun q hq => (World.ownsRow.lt h2 q hq).1)
               have e3 : IR wr.heap.size v3 zs w3 := (by rw [← HNEW.out]; exact h3)
               obtain ⟨g5, c5, hv5⟩ := own_form e3 (by rw [HNL.out]; omega)
               rw [HNL.out] at hv5
               subst hv5)
            | (go_simp
               go_at_call 74
               refine (fall_any (some ⟨g5, 0, none⟩) (m - 1) c5 zs _ ((Ints.own e3).1.cast HNL.out) (by omega)).mono ?_
               rintro e w4 ⟨a4, c4, m4, rfl, h4, hl4, b4⟩
               obtain rfl : m4 = (m - 1) := (by rw [← hl4, sortD_len, HNL.out])
               have E4 := Lib.hid (And.intro (Joins.ownsRow_le h4 b3.size) (b3.trans (b4.mono b3.size)))
               have b5 : Below wr.heap.size wr w4 := b3.trans (b4.mono b3.size)
               have HL4 := Lib.hid hl4
               clear e3 b3 h3 g3 h4 b4 hl4))
          all_goals
            go_wp2
            go_roundg (101 * (m - 1))
            case rel => exact ⟨m - 1, 0, a4, c4, sortD zs, by omega, by omega, rfl, by go_num, Joins.ownsRow_le E4.out.1 B0.out.size, HGJ.out.sort, HJJ.out.symm, HL4.out, B0.out.trans (E4.out.2.mono B0.out.size)⟩
            case measure => have := HGK.out; omega
      · have hxy' : (y == x) = false := by simpa using hxy
        have hxe : ¬ y = x := by simpa using hxy
        have HJJ := Lib.hid ((joinF_on (by have := HL.out; omega) (by rw [HX.out, HY.out]; exact hxe)).symm.trans HJ.out)
        have HXY := Lib.hid hxy'
        clear hxy hxe
        go_wp2
        go_quiet (fail)
        go_wp2
        go_roundg (101 * m - j - 1)
        case rel => exact ⟨m, j + 1, some ⟨g, 0, none⟩, co, ys, by have := HGK.out; omega, by omega, rfl, by go_num, own_same HR.out fun _ _ _ => rfl, HGY.out, HJJ.out, HL.out, below_drewN HB.out nq⟩
        case measure => have := HGK.out; omega
end Go.Proofs.Ytfecdpglcdhijaa
