/- The walks of greedy, Greedy and Engel, and of the reference's. Conditions: the numbers are in range. -/
import Derived.Test.YtbdiknlbmjdpeaaLess
import Derived.Test.YtbdiknlbmjdpeaaClone
import Derived.Laws.StructEq
namespace Go.Proofs.Ytbdiknlbmjdpeaa
open Go.RowKit
attribute [local go_sem] Oper.semAt_some

theorem frozen_new (w : World) (vs : Array Value) (o : Nat) {t : TypeId} : (w.alloc (.cells vs t)).frozen? ⟨w.heap.size, o, none⟩ = false := by
  unfold World.frozen?
  rw [heap_alloc_last]
  rfl
theorem next_big {X den D : Nat} (hX : 0 < X) (hD : 0 < D) : 1000000000000 * X / D < den ↔ 1000000000000 < ceilD X (den * D) := by
  have h := ceil_le (num := X) (den := den * D) (d := 1000000000000) hX
  have h2 := Nat.le_div_iff_mul_le (x := den) (y := 1000000000000 * X) hD
  rw [Nat.mul_comm X] at h
  omega
theorem grd_enough : ∀ (k j : Nat) {num den : Nat}, num ≤ k → num ≤ j → 0 < den → grd k num den = grd j num den
  | 0, j, num, den, h, _, _ => by
    have : num = 0 := by omega
    subst this
    rw [grd_zero, grd_zero]
  | k + 1, j, num, den, h, hj, hd => by
    by_cases h0 : num = 0
    · subst h0; rw [grd_zero, grd_zero]
    · obtain ⟨i, rfl⟩ : ∃ i, j = i + 1 := ⟨j - 1, by omega⟩
      have hn : 0 < num := by omega
      by_cases hb : 1000000000000 < ceilD num den
      · rw [grd_big hn hb, grd_big hn hb]
      · have := ceil_left hn hd
        have := ceil_pos hn hd
        rw [grd_step hn (by omega), grd_step hn (by omega), grd_enough k i (by omega) (by omega) (Nat.mul_pos hd this)]
theorem wrap_mul {a b P : Nat} (e : a * b = P) (h : P ≤ 4000000000000000000) : wrap64 ((a : Int) * (b : Int)) = (P : Int) := by
  subst e
  rw [Int.natCast_mul]
  exact IntWalk.wrap64_in _ (by rw [← Int.natCast_mul]; omega)
theorem wrap_sub {p q X : Nat} (e : p - q = X) (h : q ≤ p) (hp : p ≤ 4000000000000000000) : wrap64 ((p : Int) - (q : Int)) = (X : Int) := by
  subst e
  rw [Int.natCast_sub h]
  exact IntWalk.wrap64_in _ (by omega)
theorem wrapI_mul {a b P : Nat} (e : a * b = P) (h : P ≤ 4000000000000000000) : IntKind.i64.wrap ((a : Int) * (b : Int)) = (P : Int) := by
  subst e
  rw [Int.natCast_mul]
  exact IntWalk.i64_in _ (by rw [← Int.natCast_mul]; omega)
theorem wrapI_sub {p q X : Nat} (e : p - q = X) (h : q ≤ p) (hp : p ≤ 4000000000000000000) : IntKind.i64.wrap ((p : Int) - (q : Int)) = (X : Int) := by
  subst e
  rw [Int.natCast_sub h]
  exact IntWalk.i64_in _ (by omega)
def nats (l : List Nat) : List Int := l.map fun (n : Nat) => (n : Int)
theorem nats_len (l : List Nat) : (nats l).length = l.length := by simp [nats]
theorem nats_app (l m : List Nat) : nats (l ++ m) = nats l ++ nats m := by simp [nats]
/-- What Greedy hands back: a list, or ErrSize. -/
def GRes (R : Option (List Nat)) (B : Nat) (e : Ending) (w' : World) : Prop :=
  match R with
  | some L => ∃ v, e = .returned (.tuple #[v, .int .i64 0]) ∧ Row B v (nats L) w'
  | none => e = .returned (.tuple #[.slice none 0 0, .int .i64 6])
/-- What lies while a greedy sum is made: the fraction in block g, the list behind it. -/
structure GS (g : Nat) (w : World) (num den : Nat) (v : Value) (xs : List Int) (W : World) : Prop where
  b : Below g w W
  c : W.cell? ⟨g, 0, none⟩ = some (.int .i64 (num : Int)) ∧ W.cell? ⟨g, 1, none⟩ = some (.int .i64 (den : Int))
  f : W.frozen? ⟨g, 0, none⟩ = false ∧ W.frozen? ⟨g, 1, none⟩ = false
  r : Row (g + 1) v xs W

set_option maxHeartbeats 4000000 in
set_option maxRecDepth 100000 in
theorem greedy_any (a b : Nat) (ha : 0 < a) (hab : a < b) (hb : b ≤ 60) (w : World) :
    Calls Try.prog 39 #[.agg #[.int .i64 (a : Int), .int .i64 (b : Int)]] w fun e w' => GRes (grd a a b) w.heap.size e w' ∧ Below w.heap.size w w' := by
  obtain ⟨R, hR⟩ : ∃ R, grd a a b = R := ⟨_, rfl⟩
  rw [hR]
  have HR := Lib.hid hR
  clear hR
  go_enter Try.func39, Try.ntmps39
  go_wp2
  go_loopg [4] a (fun gk s4 wr => ∃ (num den : Nat) (pre : List Nat), num = gk ∧ 0 < num ∧ num ≤ a ∧ 0 < den ∧ den ≤ 60000000000000 ∧ ceilD num den ≤ 1000000000000 ∧ pre.length + num ≤ a ∧ R = (grd num num den).map (pre ++ ·) ∧ GS w.heap.size w num den s4 (nats pre) wr)
  case atStart =>
    refine ⟨a, b, [], rfl, ha, Nat.le_refl _, by omega, by omega, ?_, by simp, ?_, ?_⟩
    · have h := (ceil_le (num := a) (den := b) (d := 60) ha).2 (Nat.le_trans hb (Nat.le_mul_of_pos_left _ ha))
      exact Nat.le_trans h (by decide)
    · rw [← HR.out]; cases grd a a b <;> simp
    · obtain ⟨p0, p1⟩ := cell_pair w (.int .i64 (a : Int)) (.int .i64 (b : Int)) 49
      exact ⟨(Below.refl _ _).alloc (Nat.le_refl _) _, ⟨p0, p1⟩, ⟨frozen_new w _ 0, frozen_new w _ 1⟩, Row.nil _ _⟩
  case round =>
    obtain ⟨num, den, pre, rfl, hn0, hna, hd0, hd1, hce, hlen, hres, hgs⟩ := hrel
    have HGS := Lib.hid hgs
    have HRES := Lib.hid hres
    have hC := fun w => least_any num den w hn0 (by omega) (by omega)
    have hle := ceil_left hn0 hd0
    have hok := ceil_ok (den := den) hn0
    have hpos := ceil_pos hn0 hd0
    have hst := grd_step (k := num - 1) hn0 hce
    rw [show num - 1 + 1 = num by omega] at hst
    obtain ⟨D, hD⟩ : ∃ D, ceilD num den = D := ⟨_, rfl⟩
    rw [hD] at hle hok hpos hst hce
    simp only [hD] at hC
    have hnd : num * D ≤ 70000000000000 := by omega
    have hnd2 : den ≤ num * D := hok
    obtain ⟨P, hP⟩ : ∃ P, num * D = P := ⟨_, rfl⟩
    rw [hP] at hnd hnd2 hle hst
    obtain ⟨X, hX⟩ : ∃ X, P - den = X := ⟨_, rfl⟩
    rw [hX] at hle hst
    have hP4 : P ≤ 4000000000000000000 := Nat.le_trans hnd (by decide)
    have e1 := wrap_mul hP hP4
    have hM : ∀ w, den * D ≤ 60000000000000 → Calls Try.prog 54 #[.agg #[.int .i64 (num : Int), .int .i64 (den : Int)], .int .i64 (D : Int)] w fun e w' => e = .returned (.agg #[.int .i64 (X : Int), .int .i64 ((den * D : Nat) : Int)]) ∧ Below w.heap.size w w' := by
      intro w h
      have := minus_any num den D w (by rw [hP]; exact hnd2) (by rw [hP]; exact hP4) (Nat.le_trans h (by decide)) (Nat.le_trans hce (by decide)) (by omega)
      rw [hP, hX] at this
      exact this
    have HM := Lib.hid hM
    clear hM
    have e2 : (P : Int) - (den : Int) = (X : Int) := by rw [← hX, Int.natCast_sub hnd2]
    have HC := Lib.hid hC
    have HST := Lib.hid hst
    have k0 := HGS.out.c.1
    have k1 := HGS.out.c.2
    have HLEN := Lib.hid hlen
    have hll : pre.length ≤ 60 := by omega
    clear hgs hres hC hst hD hX hP hok hlen
    go_wp2_with fail
    refine (HC.out _).mono ?_
    rintro e w1 ⟨rfl, hb1⟩
    have j0 := cell_later k0 hb1
    have j1 := cell_later k1 hb1
    have hr := HGS.out.r.later hb1
    unfold Row at hr
    rw [nats_len] at hr
    have hg1 : w.heap.size < w1.heap.size := Nat.lt_of_lt_of_le (World.block_lt_of_cell? _ _ k0) hb1.size
    have hfr := And.intro ((hb1.frozen (p := ⟨w.heap.size, 0, none⟩) (World.block_lt_of_cell? _ _ k0)).trans HGS.out.f.1) ((hb1.frozen (p := ⟨w.heap.size, 1, none⟩) (World.block_lt_of_cell? _ _ k1)).trans HGS.out.f.2)
    have HFR := Lib.hid hfr
    have HB1 := Lib.hid (HGS.out.b.trans (hb1.mono HGS.out.b.size))
    obtain ⟨i0, hi, hz0, hz1, hz2⟩ := info_parts info3
    clear hb1 k0 k1 hfr
    by_cases hx : X = 0
    · have hx2 : ((X : Int) == 0) = true := by rw [beq_iff_eq]; omega
      have hxx : (X : Int) = 0 := by omega
      have hR2 : R = some (pre ++ [D]) := by rw [HRES.out, HST.out, hx, grd_zero]; rfl
      have HR2 := Lib.hid hR2
      clear hx hxx hR2
      go_wp2_with (at_builtin; refine wpList_append_own _ rfl _ _ 22 rfl (w.heap.size + 1) 3 i0 (.int .i64 0) 1 8 Try.underlying22 hi hz0 hz1 hz2 rfl (by decide) _ _ _ rfl (hr.alloc _) ⟨w1.heap.size, 0, none⟩ 1 1 [.int .i64 (D : Int)] rfl rfl (cell_one_new _ _ _) (by simp [Value.oneCell']) (by unfold maxLen; omega) (by omega) (by simp; omega) ?_; intro v' w3 hown' hgrow _; have hb3 : Below (w.heap.size + 1) w1 w3 := ((Below.refl _ w1).alloc (by omega) _).grown hgrow (by simp; omega) (fun j e => (hr.lt j e).1); have q0 := (hb3.cell (p := ⟨w.heap.size, 0, none⟩) (by simp)).trans j0; have q1 := (hb3.cell (p := ⟨w.heap.size, 1, none⟩) (by simp)).trans j1)
      have hrow : Row (w.heap.size + 1) v' (nats (pre ++ [D])) w3 := by
        unfold Row
        rw [nats_app, List.length_append, nats_len, List.map_append]
        exact hown'
      have HFIN := Lib.hid (And.intro (hrow.mono (Nat.le_succ w.heap.size)) (HB1.out.trans (hb3.mono (Nat.le_succ _))))
      clear hown' hgrow hb3 hrow q0 q1
      go_wp2
      go_ret2
      refine ⟨?_, HFIN.out.2⟩
      rw [HR2.out]
      exact ⟨_, rfl, HFIN.out.1⟩
    · have hx2 : ((X : Int) == 0) = false := by rw [beq_eq_false_iff_ne]; omega
      have hxx : ¬ (X : Int) = 0 := by omega
      have hx0 : 0 < X := by omega
      have hnb := next_big (den := den) hx0 hpos
      obtain ⟨Z, hZ⟩ : ∃ Z, 1000000000000 * X = Z := ⟨_, rfl⟩
      rw [hZ] at hnb
      have hZ4 : Z ≤ 4000000000000000000 := by rw [← hZ]; exact Nat.le_trans (Nat.mul_le_mul_left _ (show X ≤ 60 by omega)) (by decide)
      have e5 := wrapI_mul hZ hZ4
      have e6 : ((1000000000000 : Nat) : Int) = 1000000000000 := rfl
      rw [e6] at e5
      have e7 : ((Z : Int) / (D : Int)) = ((Z / D : Nat) : Int) := by rw [Int.natCast_ediv]
      have hZD := Nat.div_le_self Z D
      obtain ⟨Y, hY⟩ : ∃ Y, Z / D = Y := ⟨_, rfl⟩
      rw [hY] at e7 hnb hZD
      have y4 : (Y : Int) ≤ 4000000000000000000 := by omega
      have D0 : (0 : Int) < (D : Int) := by omega
      have HNB := Lib.hid hnb
      have HZ := Lib.hid (And.intro hZ hY)
      clear hx hnb hZ hZ4 e6 hZD hY
      have hrow : ∀ v' w3, w3.ownsRow (w.heap.size + 1) 3 1 v' (pre.length + 1) ((nats pre).map (Value.int .i64) ++ [.int .i64 (D : Int)]) → Row (w.heap.size + 1) v' (nats (pre ++ [D])) w3 := by
        intro v' w3 hown'
        unfold Row
        rw [nats_app, List.length_append, nats_len, List.map_append]
        exact hown'
      have HROW := Lib.hid hrow
      clear hrow
      by_cases hy : Y < den
      · have hy2 : (Y : Int) < (den : Int) := by omega
        have hR2 : R = none := by rw [HRES.out, HST.out, grd_big hx0 (HNB.out.1 hy)]; rfl
        have HR2 := Lib.hid hR2
        clear hR2
        go_wp2_with (at_builtin; refine wpList_append_own _ rfl _ _ 22 rfl (w.heap.size + 1) 3 i0 (.int .i64 0) 1 8 Try.underlying22 hi hz0 hz1 hz2 rfl (by decide) _ _ _ rfl (hr.alloc _) ⟨w1.heap.size, 0, none⟩ 1 1 [.int .i64 (D : Int)] rfl rfl (cell_one_new _ _ _) (by simp [Value.oneCell']) (by unfold maxLen; omega) (by omega) (by simp; omega) ?_; intro v' w3 hown' hgrow _; have hb3 : Below (w.heap.size + 1) w1 w3 := ((Below.refl _ w1).alloc (by omega) _).grown hgrow (by simp; omega) (fun j e => (hr.lt j e).1); have q0 := (hb3.cell (p := ⟨w.heap.size, 0, none⟩) (by simp)).trans j0; have q1 := (hb3.cell (p := ⟨w.heap.size, 1, none⟩) (by simp)).trans j1)
        have HFIN := Lib.hid (HB1.out.trans (hb3.mono (Nat.le_succ _)))
        clear hown' hgrow hb3
        go_quiet (fail)
        go_wp2
        go_ret2
        refine ⟨?_, below_drewN HFIN.out _⟩
        rw [HR2.out]
        rfl
      · have hy2 : ¬ (Y : Int) < (den : Int) := by omega
        have hce2 : ceilD X (den * D) ≤ 1000000000000 := by
          apply Decidable.byContradiction
          intro hc
          exact hy (HNB.out.2 (by omega))
        have HCE := Lib.hid hce2
        have hE1 : den * D ≤ X * 1000000000000 := (ceil_le hx0).1 hce2
        have hE2 : den * D ≤ 60000000000000 := Nat.le_trans hE1 (Nat.le_trans (Nat.mul_le_mul_right _ (show X ≤ 60 by omega)) (by decide))
        have hE3 : 0 < den * D := Nat.mul_pos hd0 hpos
        have hM := fun w => HM.out w hE2
        have hst2 := HST.out
        obtain ⟨E, hE⟩ : ∃ E, den * D = E := ⟨_, rfl⟩
        rw [hE] at hE2 hE3 HCE hst2
        simp only [hE] at hM
        have HE := Lib.hid (And.intro hE2 hE3)
        have HM := Lib.hid hM
        have hfin : R = (grd X X E).map ((pre ++ [D]) ++ ·) := by
          have hk := grd_enough (k := num - 1) (j := X) (num := X) (den := E) (by omega) (Nat.le_refl _) hE3
          rw [HRES.out, hst2, hk]
          cases grd X X E <;> simp
        have HFIN := Lib.hid hfin
        clear hce2 hE1 hE2 hE3 hM hE hst2 hfin
        go_wp2_with (at_builtin; refine wpList_append_own _ rfl _ _ 22 rfl (w.heap.size + 1) 3 i0 (.int .i64 0) 1 8 Try.underlying22 hi hz0 hz1 hz2 rfl (by decide) _ _ _ rfl (hr.alloc _) ⟨w1.heap.size, 0, none⟩ 1 1 [.int .i64 (D : Int)] rfl rfl (cell_one_new _ _ _) (by simp [Value.oneCell']) (by unfold maxLen; omega) (by omega) (by simp; omega) ?_; intro v' w3 hown' hgrow _; have hb3 : Below (w.heap.size + 1) w1 w3 := ((Below.refl _ w1).alloc (by omega) _).grown hgrow (by simp; omega) (fun j e => (hr.lt j e).1); have q0 := (hb3.cell (p := ⟨w.heap.size, 0, none⟩) (by simp)).trans j0; have q1 := (hb3.cell (p := ⟨w.heap.size, 1, none⟩) (by simp)).trans j1)
        have hown2 := HROW.out _ _ hown'
        have hb4 := HB1.out.trans (hb3.mono (Nat.le_succ _))
        clear hown' hgrow
        go_quiet (fail)
        go_wp2_with fail
        refine (HM.out _).mono ?_
        rintro e w5 ⟨rfl, hb5⟩
        have hg3 : w.heap.size < w3.heap.size := Nat.lt_of_lt_of_le hg1 hb3.size
        have r0 := (hb5.cell (p := ⟨w.heap.size, 0, none⟩) hg3).trans q0
        have r1 := (hb5.cell (p := ⟨w.heap.size, 1, none⟩) hg3).trans q1
        have fr0 := (hb5.frozen (p := ⟨w.heap.size, 0, none⟩) hg3).trans ((hb3.frozen (p := ⟨w.heap.size, 0, none⟩) (by simp)).trans HFR.out.1)
        have fr1 := (hb5.frozen (p := ⟨w.heap.size, 1, none⟩) hg3).trans ((hb3.frozen (p := ⟨w.heap.size, 1, none⟩) (by simp)).trans HFR.out.2)
        have hb5' : Below w3.heap.size w3 w5 := (below_drewN (Below.refl _ w3) nq).trans hb5
        have hown5 := hown2.later hb5'
        have HO5 := Lib.hid (And.intro hown5 (hb4.trans (hb5'.mono (Nat.le_of_lt hg3))))
        clear hown5 hown2 hb4 hb3 hb5 hb5' q0 q1
        go_wp2_with fail
        go_roundg X
        case rel =>
          have s0 := World.cell?_setCell_same' w5 ⟨w.heap.size, 0, none⟩ (.int .i64 (X : Int)) (by rw [r0]; rfl)
          have s1 : (w5.setCell ⟨w.heap.size, 0, none⟩ (.int .i64 (X : Int))).cell? ⟨w.heap.size, 1, none⟩ = some (.int .i64 (den : Int)) := (World.cell?_setCell_other _ _ _ _ (by simp)).trans r1
          refine ⟨X, E, pre ++ [D], rfl, hx0, by omega, HE.out.2, HE.out.1, HCE.out, by have := HLEN.out; simp; omega, ?_, ?_, ?_, ?_, ?_⟩
          · exact HFIN.out
          · exact (HO5.out.2.setCell (by simp) _).setCell (by simp) _
          · exact ⟨(World.cell?_setCell_other _ _ _ _ (by simp)).trans s0, World.cell?_setCell_same' _ _ _ (by rw [s1]; rfl)⟩
          · exact ⟨by rw [World.frozen?_setCell, World.frozen?_setCell]; exact fr0, by rw [World.frozen?_setCell, World.frozen?_setCell]; exact fr1⟩
          · exact ownsRow_setCell_below (ownsRow_setCell_below HO5.out.1 (by simp) _) (by simp) _
        case measure => omega
end Go.Proofs.Ytbdiknlbmjdpeaa
