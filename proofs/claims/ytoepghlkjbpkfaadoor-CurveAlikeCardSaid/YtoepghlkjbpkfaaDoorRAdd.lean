/- The walk of the reference's Add. Conditions as stated in each theorem. -/
import Derived.Test.YtoepghlkjbpkfaaDoorSum2
namespace Go.Proofs.YtoepghlkjbpkfaaDoor
open Go.RowKit
attribute [local go_sem] Oper.semAt_some

theorem qF_flip {P x1 y1 x2 y2 : Int} (h : isM P = true) (hn : ¬ P ∣ x1 - x2) : qF (y2 - y1) ((x2 - x1) % P) P = qF (y1 - y2) (x1 - x2) P := by
  obtain ⟨h1, h2⟩ := qF_ok (x := y1 - y2) h hn
  have d : P ∣ (x2 - x1) % P - (x2 - x1) := dvd_mod
  have hn2 : ¬ P ∣ (x2 - x1) % P := by
    intro hd
    refine hn ?_
    have e : x1 - x2 = ((x2 - x1) % P - (x2 - x1)) - (x2 - x1) % P := by omega
    rw [e]; exact Int.dvd_sub d hd
  refine (qF_uniq h hn2 h1 ?_).symm
  have e : qF (y1 - y2) (x1 - x2) P * ((x2 - x1) % P) - (y2 - y1) = ((x2 - x1) % P - (x2 - x1)) * qF (y1 - y2) (x1 - x2) P - (qF (y1 - y2) (x1 - x2) P * (x1 - x2) - (y1 - y2)) := by grind
  rw [e]
  exact Int.dvd_sub (Int.dvd_mul_of_dvd_left d) h2

set_option maxHeartbeats 8000000 in
set_option maxRecDepth 100000 in
theorem addR_far (P A B x y x2 y2 : Int) (f : Bool)  (w : World) :
    Calls Tryd.prog 35 #[.agg #[.int .i64 P, .int .i64 A, .int .i64 B], .agg #[.int .i64 x, .int .i64 y, .bool true], .agg #[.int .i64 x2, .int .i64 y2, .bool f]] w fun e w' => e = .returned (.agg #[.int .i64 x2, .int .i64 y2, .bool f]) ∧ Below w.heap.size w w' := by
  have HB := Lib.hid (below4 w (.cells #[.int .i64 P, .int .i64 A, .int .i64 B] 23) (.cells #[.int .i64 x, .int .i64 y, .bool true] 25) (.cells #[.int .i64 x2, .int .i64 y2, .bool f] 25) (.cells #[.int .i64 x2, .int .i64 y2, .bool f] 25))
  go_enter Tryd.func35, Tryd.ntmps35
  go_wp2
  exact bodyPost_ret (v := .agg #[.int .i64 x2, .int .i64 y2, .bool f]) (by simp [results, Tryd.results35, go_sem]) rfl ⟨rfl, HB.out⟩

set_option maxHeartbeats 8000000 in
set_option maxRecDepth 100000 in
theorem addR_far2 (P A B x y x2 y2 : Int)  (w : World) :
    Calls Tryd.prog 35 #[.agg #[.int .i64 P, .int .i64 A, .int .i64 B], .agg #[.int .i64 x, .int .i64 y, .bool false], .agg #[.int .i64 x2, .int .i64 y2, .bool true]] w fun e w' => e = .returned (.agg #[.int .i64 x, .int .i64 y, .bool false]) ∧ Below w.heap.size w w' := by
  have HB := Lib.hid (below4 w (.cells #[.int .i64 P, .int .i64 A, .int .i64 B] 23) (.cells #[.int .i64 x, .int .i64 y, .bool false] 25) (.cells #[.int .i64 x2, .int .i64 y2, .bool true] 25) (.cells #[.int .i64 x, .int .i64 y, .bool false] 25))
  go_enter Tryd.func35, Tryd.ntmps35
  go_wp2
  exact bodyPost_ret (v := .agg #[.int .i64 x, .int .i64 y, .bool false]) (by simp [results, Tryd.results35, go_sem]) rfl ⟨rfl, HB.out⟩

set_option maxHeartbeats 8000000 in
set_option maxRecDepth 100000 in
theorem addR_opp (P A B x y y2 : Int) (h : isM P = true) (b2 : 0 ≤ y ∧ y < P) (b4 : 0 ≤ y2 ∧ y2 < P) (ho : (y + y2) % P = 0) (w : World) :
    Calls Tryd.prog 35 #[.agg #[.int .i64 P, .int .i64 A, .int .i64 B], .agg #[.int .i64 x, .int .i64 y, .bool false], .agg #[.int .i64 x, .int .i64 y2, .bool false]] w fun e w' => e = .returned (.agg #[.int .i64 0, .int .i64 0, .bool true]) ∧ Below w.heap.size w w' := by
  have hP := isM_le h
  have HM := Lib.hid (fun n W => mod_any n P (by omega) (by omega) W)
  have HX := Lib.hid (fun W => HM.out (y + y2) W)
  rw [ho] at HX
  have HB := Lib.hid (below4 w (.cells #[.int .i64 P, .int .i64 A, .int .i64 B] 23) (.cells #[.int .i64 x, .int .i64 y, .bool false] 25) (.cells #[.int .i64 x, .int .i64 y2, .bool false] 25) (.cells #[.int .i64 0, .int .i64 0, .bool false] 25))
  obtain ⟨W0, hW0⟩ : ∃ W0, ((((w.alloc (.cells #[.int .i64 P, .int .i64 A, .int .i64 B] 23)).alloc (.cells #[.int .i64 x, .int .i64 y, .bool false] 25)).alloc (.cells #[.int .i64 x, .int .i64 y2, .bool false] 25)).alloc (.cells #[.int .i64 0, .int .i64 0, .bool false] 25)) = W0 := ⟨_, rfl⟩
  obtain ⟨hc, hd, he, hr4, hf4, hsz⟩ := blocks4 w _ _ _ _ _ _ _ _ _ _ _ _ _ _ _ _ W0 hW0.symm
  rw [hW0] at HB
  have HR4 := Lib.hid hr4
  have HF4 := Lib.hid hf4
  have HZ := Lib.hid hsz
  obtain ⟨c0, c1, c2⟩ := hc
  obtain ⟨d0, d1, d2⟩ := hd
  obtain ⟨e0, e1, e2⟩ := he
  clear h ho hr4 hf4 hsz
  go_enter Tryd.func35, Tryd.ntmps35
  go_wp2_with fail
  refine (HX.out _).mono ?_
  rintro e w1 ⟨rfl, hw⟩
  rw [hw]
  clear hw w1
  go_wp2_with fail
  refine (farR_any _).mono ?_
  rintro e w1 ⟨rfl, hb⟩
  have hlt4 : w.heap.size + 1 + 1 + 1 < W0.heap.size := by have := HZ.out; omega
  obtain ⟨k0, k1, k2⟩ := HR4.out.below hlt4 hb
  obtain ⟨z0, z1, z2⟩ := HF4.out.below hlt4 hb
  have HB3 := Lib.hid (HB.out.trans (hb.mono HB.out.size))
  clear hb hlt4
  go_wp2
  exact bodyPost_ret (v := .agg #[.int .i64 0, .int .i64 0, .bool true]) (by simp [results, Tryd.results35, go_sem, k0, k1, k2]) rfl ⟨rfl, set3 HB3.out (by omega) _ _ _⟩

set_option maxHeartbeats 8000000 in
set_option maxRecDepth 100000 in
theorem addR_dbl (P A B x y : Int) (h : isM P = true) (hA : 0 ≤ A ∧ A ≤ 31) (b1 : 0 ≤ x ∧ x < P) (b2 : 0 ≤ y ∧ y < P) (hn : ¬ P ∣ 2 * y) (s : Int) (hsl : qF (3 * x * x + A) (2 * y) P = s) (w : World) :
    Calls Tryd.prog 35 #[.agg #[.int .i64 P, .int .i64 A, .int .i64 B], .agg #[.int .i64 x, .int .i64 y, .bool false], .agg #[.int .i64 x, .int .i64 y, .bool false]] w fun e w' => e = .returned (.agg #[.int .i64 ((s * s - x - x) % P), .int .i64 ((s * (x - (s * s - x - x) % P) - y) % P), .bool false]) ∧ Below w.heap.size w w' := by
  have hP := isM_le h
  have HM := Lib.hid (fun n W => mod_any n P (by omega) (by omega) W)
  obtain ⟨⟨n0, n1⟩, ⟨n2, n3⟩⟩ := nx_in (P := P) (y := 0) (x := x) (A := A) (by omega) hA
  have hs := (qF_ok (x := 3 * x * x + A) h hn).1
  have HQ := Lib.hid (fun W => quotientR_any (3 * x * x + A) (2 * y) P h hn (by omega) (by omega) W)
  rw [hsl] at HQ hs
  have HT := Lib.hid (fun W => HM.out (y + y) W)
  obtain ⟨T, hT⟩ : ∃ T, (y + y) % P = T := ⟨_, rfl⟩
  rw [hT] at HT
  have hT0 : (T == 0) = false := by
    refine beq_eq_false_iff_ne.2 fun e => hn ?_
    have e2 : 2 * y = y + y := by omega
    rw [e2]; exact Int.dvd_of_emod_eq_zero (by rw [hT]; exact e)
  have heq := fun W => eql25 W ⟨x, y, false⟩ ⟨x, y, false⟩
  rw [decide_eq_true rfl] at heq
  simp only at heq
  obtain ⟨X, hX⟩ : ∃ X, (s * s - x - x) % P = X := ⟨_, rfl⟩
  have hXi : 0 ≤ X ∧ X < P := by rw [← hX]; exact mod_in h _
  have HX := Lib.hid (fun W => HM.out (s * s - x - x) W)
  rw [hX] at HX ⊢
  obtain ⟨V, hV⟩ : ∃ V, (s * (x - X) - y) % P = V := ⟨_, rfl⟩
  have HV := Lib.hid (fun W => HM.out (s * (x - X) - y) W)
  rw [hV] at HV ⊢
  obtain ⟨a0, a1⟩ := mul_in (a := s) (b := s) 31 31 hs.1 (by omega) hs.1 (by omega)
  have hm : s * (x - X) ≤ 961 ∧ -961 ≤ s * (x - X) := by
    have h1 := Int.mul_le_mul_of_nonneg_left (show x - X ≤ 31 by omega) hs.1
    have h2 := Int.mul_le_mul_of_nonneg_left (show -31 ≤ x - X by omega) hs.1
    omega
  obtain ⟨m0, m1⟩ := hm
  have HB := Lib.hid (below4 w (.cells #[.int .i64 P, .int .i64 A, .int .i64 B] 23) (.cells #[.int .i64 x, .int .i64 y, .bool false] 25) (.cells #[.int .i64 x, .int .i64 y, .bool false] 25) (.cells #[.int .i64 X, .int .i64 V, .bool false] 25))
  clear h hn hsl hT hX hV
  go_enter Tryd.func35, Tryd.ntmps35
  go_wp2_with fail
  refine (HT.out _).mono ?_
  rintro e w1 ⟨rfl, rfl⟩
  go_wp2_with fail
  refine (HQ.out _).mono ?_
  rintro e w1 ⟨rfl, rfl⟩
  go_wp2_with fail
  refine (HX.out _).mono ?_
  rintro e w5 ⟨rfl, rfl⟩
  go_wp2_with fail
  refine (HV.out _).mono ?_
  rintro e w5 ⟨rfl, rfl⟩
  go_wp2
  exact bodyPost_ret (v := .agg #[.int .i64 X, .int .i64 V, .bool false]) (by simp [results, Tryd.results35, go_sem]) rfl ⟨rfl, HB.out⟩

set_option maxHeartbeats 8000000 in
set_option maxRecDepth 100000 in
theorem addR_gen (P A B x y x2 y2 : Int) (h : isM P = true) (hA : 0 ≤ A ∧ A ≤ 31) (b1 : 0 ≤ x ∧ x < P) (b2 : 0 ≤ y ∧ y < P) (b3 : 0 ≤ x2 ∧ x2 < P) (b4 : 0 ≤ y2 ∧ y2 < P) (hn : ¬ P ∣ x - x2) (s : Int) (hsl : qF (y - y2) (x - x2) P = s) (w : World) :
    Calls Tryd.prog 35 #[.agg #[.int .i64 P, .int .i64 A, .int .i64 B], .agg #[.int .i64 x, .int .i64 y, .bool false], .agg #[.int .i64 x2, .int .i64 y2, .bool false]] w fun e w' => e = .returned (.agg #[.int .i64 ((s * s - x - x2) % P), .int .i64 ((s * (x - (s * s - x - x2) % P) - y) % P), .bool false]) ∧ Below w.heap.size w w' := by
  have hP := isM_le h
  have HM := Lib.hid (fun n W => mod_any n P (by omega) (by omega) W)
  have hs := (qF_ok (x := y - y2) h hn).1
  have hfl := qF_flip (y1 := y) (y2 := y2) h hn
  rw [hsl] at hfl hs
  have HD := Lib.hid (fun W => HM.out (x2 - x) W)
  have hDi := mod_in h (x2 - x)
  have hn2 : ¬ P ∣ (x2 - x) % P := by
    intro hd
    refine hn ?_
    have d : P ∣ (x2 - x) % P - (x2 - x) := dvd_mod
    have e : x - x2 = ((x2 - x) % P - (x2 - x)) - (x2 - x) % P := by omega
    rw [e]; exact Int.dvd_sub d hd
  have HQ := Lib.hid (fun W => quotientR_any (y2 - y) ((x2 - x) % P) P h hn2 (by omega) (by omega) W)
  rw [hfl] at HQ
  obtain ⟨D, hD⟩ : ∃ D, (x2 - x) % P = D := ⟨_, rfl⟩
  rw [hD] at HD HQ hDi
  have hxn : ¬ x = x2 := fun e => hn ⟨0, by omega⟩
  have hxb : (x == x2) = false := beq_eq_false_iff_ne.2 hxn
  have heq := fun W => eql25 W ⟨x, y, false⟩ ⟨x2, y2, false⟩
  rw [decide_eq_false (fun e => hxn (by simpa using congrArg Pt.x e))] at heq
  simp only at heq
  have hw1 : IntKind.i64.wrap (x2 - x) = x2 - x := IntWalk.i64_in _ (by omega)
  have hw2 : IntKind.i64.wrap (y2 - y) = y2 - y := IntWalk.i64_in _ (by omega)
  obtain ⟨X, hX⟩ : ∃ X, (s * s - x - x2) % P = X := ⟨_, rfl⟩
  have hXi : 0 ≤ X ∧ X < P := by rw [← hX]; exact mod_in h _
  have HX := Lib.hid (fun W => HM.out (s * s - x - x2) W)
  rw [hX] at HX ⊢
  obtain ⟨V, hV⟩ : ∃ V, (s * (x - X) - y) % P = V := ⟨_, rfl⟩
  have HV := Lib.hid (fun W => HM.out (s * (x - X) - y) W)
  rw [hV] at HV ⊢
  obtain ⟨a0, a1⟩ := mul_in (a := s) (b := s) 31 31 hs.1 (by omega) hs.1 (by omega)
  have hm : s * (x - X) ≤ 961 ∧ -961 ≤ s * (x - X) := by
    have h1 := Int.mul_le_mul_of_nonneg_left (show x - X ≤ 31 by omega) hs.1
    have h2 := Int.mul_le_mul_of_nonneg_left (show -31 ≤ x - X by omega) hs.1
    omega
  obtain ⟨m0, m1⟩ := hm
  have hb4 := below4 w (.cells #[.int .i64 P, .int .i64 A, .int .i64 B] 23) (.cells #[.int .i64 x, .int .i64 y, .bool false] 25) (.cells #[.int .i64 x2, .int .i64 y2, .bool false] 25) (.cells #[.int .i64 0, .int .i64 0, .bool false] 25)
  obtain ⟨W0, hW0⟩ : ∃ W0, ((((w.alloc (.cells #[.int .i64 P, .int .i64 A, .int .i64 B] 23)).alloc (.cells #[.int .i64 x, .int .i64 y, .bool false] 25)).alloc (.cells #[.int .i64 x2, .int .i64 y2, .bool false] 25)).alloc (.cells #[.int .i64 0, .int .i64 0, .bool false] 25)) = W0 := ⟨_, rfl⟩
  obtain ⟨hc, hd, he, hr4, hf4, hsz⟩ := blocks4 w _ _ _ _ _ _ _ _ _ _ _ _ _ _ _ _ W0 hW0.symm
  rw [hW0] at hb4
  have HB := Lib.hid hb4
  have HR4 := Lib.hid hr4
  have HF4 := Lib.hid hf4
  have HZ := Lib.hid hsz
  have HN := Lib.hid (fun (W1 W2 : World) (hb : Below W1.heap.size W1 W2) (h : W1.cell? ⟨w.heap.size, 0, none⟩ = some (.int .i64 P) ∧ W1.cell? ⟨w.heap.size, 1, none⟩ = some (.int .i64 A) ∧ W1.cell? ⟨w.heap.size, 2, none⟩ = some (.int .i64 B) ∧ W1.cell? ⟨w.heap.size + 1, 0, none⟩ = some (.int .i64 x) ∧ W1.cell? ⟨w.heap.size + 1, 1, none⟩ = some (.int .i64 y) ∧ W1.cell? ⟨w.heap.size + 1, 2, none⟩ = some (.bool false) ∧ W1.cell? ⟨w.heap.size + 1 + 1, 0, none⟩ = some (.int .i64 x2) ∧ W1.cell? ⟨w.heap.size + 1 + 1, 1, none⟩ = some (.int .i64 y2) ∧ W1.cell? ⟨w.heap.size + 1 + 1, 2, none⟩ = some (.bool false) ∧ BelF W0.heap.size W0 W1) => (show W2.cell? ⟨w.heap.size, 0, none⟩ = some (.int .i64 P) ∧ W2.cell? ⟨w.heap.size, 1, none⟩ = some (.int .i64 A) ∧ W2.cell? ⟨w.heap.size, 2, none⟩ = some (.int .i64 B) ∧ W2.cell? ⟨w.heap.size + 1, 0, none⟩ = some (.int .i64 x) ∧ W2.cell? ⟨w.heap.size + 1, 1, none⟩ = some (.int .i64 y) ∧ W2.cell? ⟨w.heap.size + 1, 2, none⟩ = some (.bool false) ∧ W2.cell? ⟨w.heap.size + 1 + 1, 0, none⟩ = some (.int .i64 x2) ∧ W2.cell? ⟨w.heap.size + 1 + 1, 1, none⟩ = some (.int .i64 y2) ∧ W2.cell? ⟨w.heap.size + 1 + 1, 2, none⟩ = some (.bool false) ∧ BelF W0.heap.size W0 W2 from ⟨cell_later h.1 hb, cell_later h.2.1 hb, cell_later h.2.2.1 hb, cell_later h.2.2.2.1 hb, cell_later h.2.2.2.2.1 hb, cell_later h.2.2.2.2.2.1 hb, cell_later h.2.2.2.2.2.2.1 hb, cell_later h.2.2.2.2.2.2.2.1 hb, cell_later h.2.2.2.2.2.2.2.2.1 hb, h.2.2.2.2.2.2.2.2.2.next hb⟩))
  have HBS := Lib.hid (fun (W1 : World) (h : W1.cell? ⟨w.heap.size, 0, none⟩ = some (.int .i64 P) ∧ W1.cell? ⟨w.heap.size, 1, none⟩ = some (.int .i64 A) ∧ W1.cell? ⟨w.heap.size, 2, none⟩ = some (.int .i64 B) ∧ W1.cell? ⟨w.heap.size + 1, 0, none⟩ = some (.int .i64 x) ∧ W1.cell? ⟨w.heap.size + 1, 1, none⟩ = some (.int .i64 y) ∧ W1.cell? ⟨w.heap.size + 1, 2, none⟩ = some (.bool false) ∧ W1.cell? ⟨w.heap.size + 1 + 1, 0, none⟩ = some (.int .i64 x2) ∧ W1.cell? ⟨w.heap.size + 1 + 1, 1, none⟩ = some (.int .i64 y2) ∧ W1.cell? ⟨w.heap.size + 1 + 1, 2, none⟩ = some (.bool false) ∧ BelF W0.heap.size W0 W1) => (show Below W0.heap.size W0 W1 from h.2.2.2.2.2.2.2.2.2.to))
  have HS0 := Lib.hid (show W0.cell? ⟨w.heap.size, 0, none⟩ = some (.int .i64 P) ∧ W0.cell? ⟨w.heap.size, 1, none⟩ = some (.int .i64 A) ∧ W0.cell? ⟨w.heap.size, 2, none⟩ = some (.int .i64 B) ∧ W0.cell? ⟨w.heap.size + 1, 0, none⟩ = some (.int .i64 x) ∧ W0.cell? ⟨w.heap.size + 1, 1, none⟩ = some (.int .i64 y) ∧ W0.cell? ⟨w.heap.size + 1, 2, none⟩ = some (.bool false) ∧ W0.cell? ⟨w.heap.size + 1 + 1, 0, none⟩ = some (.int .i64 x2) ∧ W0.cell? ⟨w.heap.size + 1 + 1, 1, none⟩ = some (.int .i64 y2) ∧ W0.cell? ⟨w.heap.size + 1 + 1, 2, none⟩ = some (.bool false) ∧ BelF W0.heap.size W0 W0 from ⟨hc.1, hc.2.1, hc.2.2, hd.1, hd.2.1, hd.2.2, he.1, he.2.1, he.2.2, BelF.begin W0⟩)
  obtain ⟨c0, c1, c2⟩ := hc
  obtain ⟨d0, d1, d2⟩ := hd
  obtain ⟨e0, e1, e2⟩ := he
  clear h hn hn2 hsl hD hX hV hr4 hf4 hsz hb4 hfl
  go_enter Tryd.func35, Tryd.ntmps35
  go_wp2
  go_region_held3 (fun W => W.cell? ⟨w.heap.size, 0, none⟩ = some (.int .i64 P) ∧ W.cell? ⟨w.heap.size, 1, none⟩ = some (.int .i64 A) ∧ W.cell? ⟨w.heap.size, 2, none⟩ = some (.int .i64 B) ∧ W.cell? ⟨w.heap.size + 1, 0, none⟩ = some (.int .i64 x) ∧ W.cell? ⟨w.heap.size + 1, 1, none⟩ = some (.int .i64 y) ∧ W.cell? ⟨w.heap.size + 1, 2, none⟩ = some (.bool false) ∧ W.cell? ⟨w.heap.size + 1 + 1, 0, none⟩ = some (.int .i64 x2) ∧ W.cell? ⟨w.heap.size + 1 + 1, 1, none⟩ = some (.int .i64 y2) ∧ W.cell? ⟨w.heap.size + 1 + 1, 2, none⟩ = some (.bool false) ∧ BelF W0.heap.size W0 W)
    (first | exact HS0.out | exact HN.out _ _ (drew_below _) (by assumption) | exact HN.out _ _ (drew_below _) HS0.out)
    ((first
      | (go_at_call 65; refine (HD.out _).mono ?_; rintro e wx ⟨rfl, rfl⟩)
      | (go_at_call 66; refine (HQ.out _).mono ?_; rintro e wx ⟨rfl, rfl⟩)))
  all_goals
    refine at_world (S := fun W => W.cell? ⟨w.heap.size, 0, none⟩ = some (.int .i64 P) ∧ W.cell? ⟨w.heap.size, 1, none⟩ = some (.int .i64 A) ∧ W.cell? ⟨w.heap.size, 2, none⟩ = some (.int .i64 B) ∧ W.cell? ⟨w.heap.size + 1, 0, none⟩ = some (.int .i64 x) ∧ W.cell? ⟨w.heap.size + 1, 1, none⟩ = some (.int .i64 y) ∧ W.cell? ⟨w.heap.size + 1, 2, none⟩ = some (.bool false) ∧ W.cell? ⟨w.heap.size + 1 + 1, 0, none⟩ = some (.int .i64 x2) ∧ W.cell? ⟨w.heap.size + 1 + 1, 1, none⟩ = some (.int .i64 y2) ∧ W.cell? ⟨w.heap.size + 1 + 1, 2, none⟩ = some (.bool false) ∧ BelF W0.heap.size W0 W) (G := fun W => Exit.inBlock _ _ _ _ W) (by assumption) ?_
    intro w3 hS
    clear c0 c1 c2 d0 d1 d2 e0 e1 e2
    obtain ⟨c0, c1, c2, d0, d1, d2, e0, e1, e2, hs3⟩ := hS
    have hb3 := hs3.to
    have hlt4 : w.heap.size + 1 + 1 + 1 < W0.heap.size := by have := HZ.out; omega
    have HB3 := Lib.hid (HB.out.trans (hb3.mono HB.out.size))
    obtain ⟨k0, k1, k2⟩ := HR4.out.below hlt4 hb3
    obtain ⟨z0, z1, z2⟩ := HF4.out.below hlt4 hb3
    clear hs3 hb3 hW0 hlt4
    go_wp2_with fail
    refine (HX.out _).mono ?_
    rintro e w5 ⟨rfl, rfl⟩
    go_wp2_with fail
    refine (HV.out _).mono ?_
    rintro e w5 ⟨rfl, rfl⟩
    go_wp2
    exact bodyPost_ret (v := .agg #[.int .i64 X, .int .i64 V, .bool false]) (by simp [results, Tryd.results35, go_sem, k0, k1, k2]) rfl ⟨rfl, set3 HB3.out (by omega) _ _ _⟩

theorem addR_any (P A B : Int) (q r : Pt) (hv : vB P A B = true) (hq : onB P A B q = true) (hr : onB P A B r = true) (w : World) :
    Calls Tryd.prog 35 #[.agg #[.int .i64 P, .int .i64 A, .int .i64 B], .agg #[.int .i64 q.x, .int .i64 q.y, .bool q.f], .agg #[.int .i64 r.x, .int .i64 r.y, .bool r.f]] w fun e w' => e = .returned (.agg #[.int .i64 (sumP P A q r).x, .int .i64 (sumP P A q r).y, .bool (sumP P A q r).f]) ∧ Below w.heap.size w w' := by
  have h := (vB_iff.1 hv).1
  have hA := (vB_le hv).2.1
  by_cases nq : q = farP
  · have e : sumP P A q r = r := by unfold sumP; rw [if_pos nq]
    rw [e, nq]; exact addR_far P A B 0 0 r.x r.y r.f w
  · obtain ⟨fq, cq⟩ := (on_cases hq).resolve_left nq
    by_cases nr : r = farP
    · have e : sumP P A q r = q := by unfold sumP; rw [if_neg nq, if_pos nr]
      rw [e, nr, fq]; exact addR_far2 P A B q.x q.y 0 0 w
    · obtain ⟨fr, cr⟩ := (on_cases hr).resolve_left nr
      by_cases hn : r = turnP P q
      · have e : sumP P A q r = farP := by unfold sumP; rw [if_neg nq, if_neg nr, if_pos hn]
        rw [e, fq, fr]
        have hx : r.x = q.x := by rw [hn]; rfl
        have hy : r.y = (-q.y) % P := by rw [hn]; rfl
        rw [hx]
        exact addR_opp P A B q.x q.y r.y h cq.2.1 cr.2.1 (Int.emod_eq_zero_of_dvd ((neg_eq h cq.2.1 cr.2.1).2 hy)) w
      · have e : sumP P A q r = ⟨thirdX P q r (slopeP P A q r), thirdY P q r (slopeP P A q r), false⟩ := by unfold sumP; rw [if_neg nq, if_neg nr, if_neg hn]
        obtain ⟨hs, hl⟩ := slope_line h cq cr fq fr hn
        rw [e, fq, fr]
        by_cases hqr : q = r
        · have hd : ¬ P ∣ 2 * q.y := by
            rcases hl with ⟨k1, -⟩ | ⟨-, -, k3, -⟩
            · exact absurd ⟨0, by rw [hqr]; omega⟩ k1
            · exact k3
          have es : slopeP P A q r = qF (3 * q.x * q.x + A) (2 * q.y) P := by unfold slopeP; rw [if_pos hqr]
          rw [es, ← hqr]
          exact addR_dbl P A B q.x q.y h hA cq.1 cq.2.1 hd _ rfl w
        · have hd : ¬ P ∣ q.x - r.x := by
            rcases hl with ⟨k1, -⟩ | ⟨k1, k2, -, -⟩
            · exact k1
            · refine absurd ?_ hqr
              obtain ⟨x1, y1, f1⟩ := q
              obtain ⟨x2, y2, f2⟩ := r
              simp only at k1 k2 fq fr
              rw [k1, k2, fq, fr]
          have es : slopeP P A q r = qF (q.y - r.y) (q.x - r.x) P := by unfold slopeP; rw [if_neg hqr]
          rw [es]
          exact addR_gen P A B q.x q.y r.x r.y h hA cq.1 cq.2.1 cr.1 cr.2.1 hd _ rfl w
end Go.Proofs.YtoepghlkjbpkfaaDoor
