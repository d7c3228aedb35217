/- The law CurveAlike: it returns true, whatever its arguments are. Condition: the far point lies in memory. -/
import Derived.Test.YtoepghlkjbpkfaaDoorShpY
import Derived.Test.YtoepghlkjbpkfaaDoorAlk
namespace Go.Proofs.YtoepghlkjbpkfaaDoor
open Go.RowKit
attribute [local go_sem] Oper.semAt_some

theorem fst_of {P A B v z t A' B' : Int} (hv : vB P A B = true) (v1 : 1 ≤ v) (v2 : v < P) (hz : z = v * v * v * v % P) (hA' : A' = A * z % P) (ht : t = B * z % P) (hB' : B' = t * v * v % P) : ∃ V : Nat, IsFst (alk P A B A' B') P.toNat V ∧ 1 ≤ V ∧ (V : Int) ≤ v := by
  obtain ⟨u, rfl⟩ : ∃ u : Nat, v = u := ⟨v.toNat, by omega⟩
  have hP := isM_le (vB_iff.1 hv).1
  have hp := (vB_iff.1 hv).1
  have hal : alk P A B A' B' u = true := by
    unfold alk
    rw [Bool.and_eq_true, decide_eq_true_iff, decide_eq_true_iff]
    have d1 : P ∣ z - (u : Int) * u * u * u := by rw [hz]; exact dvd_mod
    have d4 : P ∣ t - B * z := by rw [ht]; exact dvd_mod
    refine ⟨eq_of_dvd (mod_in hp _) (by rw [hA']; exact mod_in hp _) ?_, eq_of_dvd (mod_in hp _) (by rw [hB']; exact mod_in hp _) ?_⟩
    · have d2 : P ∣ A' - A * z := by rw [hA']; exact dvd_mod
      have d3 : P ∣ A * ((u : Int) * u) * ((u : Int) * u) % P - A * ((u : Int) * u) * ((u : Int) * u) := dvd_mod
      have e : A * ((u : Int) * u) * ((u : Int) * u) % P - A' = (A * ((u : Int) * u) * ((u : Int) * u) % P - A * ((u : Int) * u) * ((u : Int) * u)) - (A' - A * z) - (z - (u : Int) * u * u * u) * A := by grind
      rw [e]
      exact Int.dvd_sub (Int.dvd_sub d3 d2) (Int.dvd_mul_of_dvd_left d1)
    · have d2 : P ∣ B' - t * u * u := by rw [hB']; exact dvd_mod
      have d3 : P ∣ B * ((u : Int) * u) * ((u : Int) * u) * ((u : Int) * u) % P - B * ((u : Int) * u) * ((u : Int) * u) * ((u : Int) * u) := dvd_mod
      have e : B * ((u : Int) * u) * ((u : Int) * u) * ((u : Int) * u) % P - B' = (B * ((u : Int) * u) * ((u : Int) * u) * ((u : Int) * u) % P - B * ((u : Int) * u) * ((u : Int) * u) * ((u : Int) * u)) - (B' - t * u * u) - (t - B * z) * ((u : Int) * u) - (z - (u : Int) * u * u * u) * (B * (u * u)) := by grind
      rw [e]
      exact Int.dvd_sub (Int.dvd_sub (Int.dvd_sub d3 d2) (Int.dvd_mul_of_dvd_left d4)) (Int.dvd_mul_of_dvd_left d1)
  obtain ⟨V, hV⟩ := fst_ex (alk P A B A' B') P.toNat
  refine ⟨V, hV, ?_⟩
  rcases hV with ⟨rfl, h⟩ | ⟨h1, h2, h3, h4⟩
  · rw [h u (by omega) (by omega)] at hal
    cases hal
  · refine ⟨h1, ?_⟩
    refine Int.not_lt.1 fun hlt => ?_
    rw [h4 u (by omega) (by omega)] at hal
    cases hal
theorem u64_pos (k : Int) : 0 ≤ IntKind.u64.wrap k := by
  unfold IntKind.wrap
  have := Int.emod_nonneg k (show (2 : Int) ^ IntKind.u64.bits ≠ 0 by decide)
  simp only [show IntKind.u64.signed = false from rfl, Bool.false_and, Bool.false_eq_true, if_false]
  exact this
theorem u64_ex (k : Int) : ∃ U, IntKind.u64.wrap k = U ∧ 0 ≤ U := ⟨_, rfl, u64_pos k⟩
theorem tmod_ex {U P : Int} (hU : 0 ≤ U) (hP : 0 < P) : ∃ r, U.tmod P = r ∧ 0 ≤ r ∧ r < P := ⟨_, rfl, by rw [Int.tmod_eq_emod_of_nonneg hU]; exact Int.emod_nonneg _ (by omega), by rw [Int.tmod_eq_emod_of_nonneg hU]; exact Int.emod_lt_of_pos _ hP⟩
theorem tmod_ex2 {x P : Int} (hU : 0 ≤ x) (hP : 0 < P) : ∃ r, x.tmod P = r ∧ 0 ≤ r ∧ r < P ∧ r = x % P := ⟨x % P, Int.tmod_eq_emod_of_nonneg hU, Int.emod_nonneg _ (by omega), Int.emod_lt_of_pos _ hP, rfl⟩
theorem pow_in {v : Int} (h1 : 1 ≤ v) (h2 : v ≤ 30) : wrap64 v = v ∧ wrap64 (v * v) = v * v ∧ wrap64 (v * v * v) = v * v * v ∧ wrap64 (v * v * v * v) = v * v * v * v ∧ 0 ≤ v * v * v * v := by
  obtain ⟨a0, a1⟩ := mul_in (a := v) (b := v) 30 30 (by omega) h2 (by omega) h2
  obtain ⟨b0, b1⟩ := mul_in (a := v * v) (b := v) 900 30 a0 a1 (by omega) h2
  obtain ⟨c0, c1⟩ := mul_in (a := v * v * v) (b := v) 27000 30 b0 b1 (by omega) h2
  exact ⟨IntWalk.wrap64_in _ (by omega), IntWalk.wrap64_in _ (by omega), IntWalk.wrap64_in _ (by omega), IntWalk.wrap64_in _ (by omega), c0⟩
theorem small2 {a b : Int} (ha : 0 ≤ a ∧ a ≤ 31) (hb : 0 ≤ b ∧ b ≤ 31) : IntKind.i64.wrap (a * b) = a * b := by
  obtain ⟨a0, a1⟩ := mul_in (a := a) (b := b) 31 31 ha.1 ha.2 hb.1 hb.2
  exact IntWalk.i64_in _ (by omega)
theorem small3 {a b c : Int} (ha : 0 ≤ a ∧ a ≤ 31) (hb : 0 ≤ b ∧ b ≤ 31) (hc : 0 ≤ c ∧ c ≤ 31) : IntKind.i64.wrap (a * b * c) = a * b * c := by
  obtain ⟨a0, a1⟩ := mul_in (a := a) (b := b) 31 31 ha.1 ha.2 hb.1 hb.2
  obtain ⟨b0, b1⟩ := mul_in (a := a * b) (b := c) 961 31 a0 a1 hc.1 hc.2
  exact IntWalk.i64_in _ (by omega)
theorem small4 {a b : Int} (ha : 0 ≤ a ∧ a ≤ 31) (hb : 0 ≤ b ∧ b ≤ 31) : IntKind.i64.wrap (a * b * b * b) = a * b * b * b ∧ 0 ≤ a * b * b * b := by
  obtain ⟨a0, a1⟩ := mul_in (a := a) (b := b) 31 31 ha.1 ha.2 hb.1 hb.2
  obtain ⟨b0, b1⟩ := mul_in (a := a * b) (b := b) 961 31 a0 a1 hb.1 hb.2
  obtain ⟨c0, c1⟩ := mul_in (a := a * b * b) (b := b) 29791 31 b0 b1 hb.1 hb.2
  exact ⟨IntWalk.i64_in _ (by omega), c0⟩
theorem rel_of {P A B v z t A' B' : Int} (hv : vB P A B = true) (v1 : 1 ≤ v) (v2 : v < P) (hz : z = v * v * v * v % P) (hA' : A' = A * z % P) (ht : t = B * z % P) (hB' : B' = t * v * v % P) : Rel P A B A' B' v := by
  refine ⟨(vB_iff.1 hv).1, ?_, ?_, ?_⟩
  · intro hd
    have := Int.le_of_dvd (by omega) hd
    omega
  · have d1 : P ∣ z - v * v * v * v := by rw [hz]; exact dvd_mod
    have d2 : P ∣ A' - A * z := by rw [hA']; exact dvd_mod
    have e : A' - A * v * v * v * v = (A' - A * z) + (z - v * v * v * v) * A := by grind
    rw [e]
    exact Int.dvd_add d2 (Int.dvd_mul_of_dvd_left d1)
  · have d1 : P ∣ z - v * v * v * v := by rw [hz]; exact dvd_mod
    have d2 : P ∣ t - B * z := by rw [ht]; exact dvd_mod
    have d3 : P ∣ B' - t * v * v := by rw [hB']; exact dvd_mod
    have e : B' - B * v * v * v * v * v * v = (B' - t * v * v) + (t - B * z) * (v * v) + (z - v * v * v * v) * (B * v * v) := by grind
    rw [e]
    exact Int.dvd_add (Int.dvd_add d3 (Int.dvd_mul_of_dvd_left d2)) (Int.dvd_mul_of_dvd_left d1)

set_option maxHeartbeats 8000000 in
set_option maxRecDepth 100000 in
theorem lawAlike_yes (P A B k x y : Int) (f : Bool) (hv : vB P A B = true) (hq : onB P A B ⟨x, y, f⟩ = true) (w : World) (hF : Far w) :
    Calls Tryd.prog 12 #[.agg #[.int .i64 P, .int .i64 A, .int .i64 B], .int .i64 k, .agg #[.int .i64 x, .int .i64 y, .bool f]] w fun e w' => e = .returned (.bool true) ∧ Below w.heap.size w w' := by
  obtain ⟨h5, hA, hB⟩ := vB_le hv
  have HFI := Lib.hid (fun a n c W h hn => fine_any P A B a n c [⟨x, y, f⟩] W h hn)
  have hfi : (vB P A B && [⟨x, y, f⟩].all (onB P A B)) = true := by simp [hv, hq]
  rw [hfi] at HFI
  clear hfi
  have HB := Lib.hid (below2 w (.cells #[.int .i64 P, .int .i64 A, .int .i64 B] 23) (.cells #[.int .i64 x, .int .i64 y, .bool f] 25))
  have hc := C3.new w (.int .i64 P) (.int .i64 A) (.int .i64 B) 23
  have HC := Lib.hid (hc.later (below1 (w.alloc (.cells #[.int .i64 P, .int .i64 A, .int .i64 B] 23)) (.cells #[.int .i64 x, .int .i64 y, .bool f] 25)))
  have hd := C3.new (w.alloc (.cells #[.int .i64 P, .int .i64 A, .int .i64 B] 23)) (.int .i64 x) (.int .i64 y) (.bool f) 25
  rw [show (w.alloc (.cells #[.int .i64 P, .int .i64 A, .int .i64 B] 23)).heap.size = w.heap.size + 1 by simp] at hd
  have HD := Lib.hid hd
  have HFa := Lib.hid (hF.below HB.out)
  obtain ⟨W0, hW0⟩ : ∃ W, (w.alloc (.cells #[.int .i64 P, .int .i64 A, .int .i64 B] 23)).alloc (.cells #[.int .i64 x, .int .i64 y, .bool f] 25) = W := ⟨_, rfl⟩
  rw [hW0] at HB HC HD HFa
  obtain ⟨c0, c1, c2⟩ := HC.out
  obtain ⟨d0, d1, d2⟩ := HD.out
  clear hc hd hF
  go_enter Tryd.func12, Tryd.ntmps12
  have hbs := below1 W0 (.cells #[.int .i64 x, .int .i64 y, .bool f] 25)
  have HFQ := Lib.hid (HFI.out (some ⟨W0.heap.size, 0, none⟩) 1 1 _ (agp_one W0 ⟨x, y, f⟩ 25) (by omega))
  have HB1 := Lib.hid (HB.out.trans (hbs.mono HB.out.size))
  have HF1 := Lib.hid (HFa.out.below hbs)
  have HC1 := Lib.hid (HC.out.later hbs)
  have HD1 := Lib.hid (HD.out.later hbs)
  clear hbs
  go_wp2_with fail
  refine HFQ.out.mono ?_
  rintro e w1 ⟨rfl, hb⟩
  have HB2 := Lib.hid (HB1.out.trans (hb.mono HB1.out.size))
  have HF2 := Lib.hid (HF1.out.below hb)
  have HC2 := Lib.hid (HC1.out.later hb)
  have HD2 := Lib.hid (HD1.out.later hb)
  clear hb c0 c1 c2 d0 d1 d2 hW0
  obtain ⟨c0, c1, c2⟩ := HC2.out
  obtain ⟨d0, d1, d2⟩ := HD2.out
  have hpw : wrap64 (P - 1) = P - 1 := IntWalk.wrap64_in _ (by omega)
  have hpu : IntKind.u64.wrap (P - 1) = P - 1 := IntWalk.u64_in _ (by omega)
  have hp1 : ¬ P - 1 = 0 := by omega
  have hp0 : ¬ P = 0 := by omega
  obtain ⟨U, e1, U0⟩ := u64_ex k
  obtain ⟨r, e2, r0, r1⟩ := tmod_ex (P := P - 1) U0 (by omega)
  have e3 : wrap64 r = r := IntWalk.wrap64_in _ (by omega)
  obtain ⟨v, hvr⟩ : ∃ v, 1 + r = v := ⟨_, rfl⟩
  have v1 : 1 ≤ v := by omega
  have v2 : v < P := by omega
  obtain ⟨e4, e5, e6, e7, p4⟩ := pow_in v1 (show v ≤ 30 by omega)
  obtain ⟨z, e8, z0, z1, hz⟩ := tmod_ex2 (P := P) p4 (by omega)
  obtain ⟨A', f2, A0, A1, hA'⟩ := tmod_ex2 (P := P) (x := A * z) (Int.mul_nonneg hA.1 z0) (by omega)
  obtain ⟨t, f4, t0, t1, ht⟩ := tmod_ex2 (P := P) (x := B * z) (Int.mul_nonneg hB.1 z0) (by omega)
  obtain ⟨B', f7, B0, B1, hB'⟩ := tmod_ex2 (P := P) (x := t * v * v) (Int.mul_nonneg (Int.mul_nonneg t0 (by omega)) (by omega)) (by omega)
  have f1 : IntKind.i64.wrap (A * z) = A * z := small2 hA ⟨z0, by omega⟩
  have f3 : IntKind.i64.wrap (B * z) = B * z := small2 hB ⟨z0, by omega⟩
  have f5 : IntKind.i64.wrap (t * v) = t * v := small2 ⟨t0, by omega⟩ ⟨by omega, by omega⟩
  have f6 : IntKind.i64.wrap (t * v * v) = t * v * v := small3 ⟨t0, by omega⟩ ⟨by omega, by omega⟩ ⟨by omega, by omega⟩
  have HREL := Lib.hid (rel_of (A' := A') (B' := B') hv v1 v2 hz hA' ht hB')
  have HIN := Lib.hid (And.intro A0 (And.intro A1 (And.intro B0 B1)))
  have HVR := Lib.hid (And.intro v1 v2)
  obtain ⟨hx, hy⟩ := on_le hv hq
  simp only at hx hy
  obtain ⟨X, k3, -, -, hX⟩ := tmod_ex2 (P := P) (x := x * v * v) (Int.mul_nonneg (Int.mul_nonneg hx.1 (by omega)) (by omega)) (by omega)
  have k1 : IntKind.i64.wrap (x * v) = x * v := small2 hx ⟨by omega, by omega⟩
  have k2 : IntKind.i64.wrap (x * v * v) = x * v * v := small3 hx ⟨by omega, by omega⟩ ⟨by omega, by omega⟩
  have l1 : IntKind.i64.wrap (y * v) = y * v := small2 hy ⟨by omega, by omega⟩
  have l2 : IntKind.i64.wrap (y * v * v) = y * v * v := small3 hy ⟨by omega, by omega⟩ ⟨by omega, by omega⟩
  obtain ⟨l3, l4⟩ := small4 hy (show 0 ≤ v ∧ v ≤ 31 by omega)
  obtain ⟨Y, l5, -, -, hY⟩ := tmod_ex2 (P := P) (x := y * v * v * v) l4 (by omega)
  clear l4
  obtain ⟨n, ho, hn⟩ := ord_ex (vB_iff.1 hv).1 (vB_iff.1 hv).2.2.2 hq
  have HOrd := Lib.hid (fun W hF => (show Calls Tryd.prog 29 #[.agg #[.int .i64 P, .int .i64 A, .int .i64 B], .agg #[.int .i64 x, .int .i64 y, .bool f]] W (fun e w' => e = .returned (.tuple #[.int .i64 (n : Int), .int .i64 0]) ∧ Below W.heap.size W w') from Order_yes P A B ⟨x, y, f⟩ n hv hq ho hn W hF))
  obtain ⟨s, hs⟩ : ∃ s, sc P v ⟨x, y, f⟩ = s := ⟨_, rfl⟩
  have hso : onB P A' B' s = true := by rw [← hs]; exact HREL.out.onB hq
  have hsr : IsOrd P A' s n := by rw [← hs]; exact HREL.out.ord hq ho
  have HSF := Lib.hid (show f = true → s = ⟨x, y, f⟩ from fun h => by
    rw [← hs]
    subst h
    obtain ⟨rfl, rfl⟩ := onB_far.1 hq
    unfold sc; rw [if_pos rfl])
  have HSA := Lib.hid (show f = false → s.x = X ∧ s.y = Y ∧ s.f = false from fun h => by
    rw [← hs]; unfold sc; rw [if_neg (by rw [h]; simp)]; exact ⟨hX.symm, hY.symm, rfl⟩)
  clear hX hY hs hx hy
  have hv' := HREL.out.valid hv ⟨A0, A1⟩ ⟨B0, B1⟩
  obtain ⟨V, hV, V1, V2⟩ := fst_of hv v1 v2 hz hA' ht hB'
  have HOr2 := Lib.hid (fun W hF => Order_yes P A' B' s n hv' hso hsr hn W hF)
  have HOn := Lib.hid (fun W hF => On_yes P A' B' s hv' W hF)
  rw [hso] at HOn
  obtain ⟨shl, shs⟩ := HREL.out.shape hv hv'
  obtain ⟨sm, hsm⟩ : ∃ m, (ptsL P A B).length / shN P A B = m := ⟨_, rfl⟩
  obtain ⟨sn, hsn⟩ : ∃ m, shN P A B = m := ⟨_, rfl⟩
  have HSh := Lib.hid (fun W hF => Shape_yes P A B sm sn hv hsm hsn W hF)
  have HSh2 := Lib.hid (fun W hF => Shape_yes P A' B' sm sn hv' (by rw [← shl, ← shs]; exact hsm) (by rw [← shs]; exact hsn) W hF)
  have HVV := Lib.hid (And.intro V1 V2)
  clear shl shs hsm hsn ho hn hso hsr
  have HAL := Lib.hid (fun W hF => Alike_yes P A B A' B' hv hv' V hV 0 ⟨fun e => absurd e (by omega), fun _ => rfl⟩ W hF)
  clear U0 r0 r1 p4 z0 z1 A0 A1 t0 t1 B0 B1 hz hA' ht hB' v1 v2 hV hv' V1 V2
  go_wp2_with fail
  refine share_rest (S := fun g W => w1.heap.size ≤ g ∧ C3 g (.int .i64 P) (.int .i64 A') (.int .i64 B') W ∧ Below w1.heap.size w1 W) (G := ?G5) ?main5 ?rest5
  case main5 =>
    intro KK
    have HN5 := Lib.hid (fun (W1 W2 : World) (hb : Below W1.heap.size W1 W2) (h : W1.cell? ⟨w.heap.size, 0, none⟩ = some (.int .i64 P) ∧ W1.cell? ⟨w.heap.size, 1, none⟩ = some (.int .i64 A) ∧ W1.cell? ⟨w.heap.size, 2, none⟩ = some (.int .i64 B) ∧ BelF w1.heap.size w1 W1) => (show W2.cell? ⟨w.heap.size, 0, none⟩ = some (.int .i64 P) ∧ W2.cell? ⟨w.heap.size, 1, none⟩ = some (.int .i64 A) ∧ W2.cell? ⟨w.heap.size, 2, none⟩ = some (.int .i64 B) ∧ BelF w1.heap.size w1 W2 from ⟨cell_later h.1 hb, cell_later h.2.1 hb, cell_later h.2.2.1 hb, h.2.2.2.next hb⟩))
    have HS5 := Lib.hid (show w1.cell? ⟨w.heap.size, 0, none⟩ = some (.int .i64 P) ∧ w1.cell? ⟨w.heap.size, 1, none⟩ = some (.int .i64 A) ∧ w1.cell? ⟨w.heap.size, 2, none⟩ = some (.int .i64 B) ∧ BelF w1.heap.size w1 w1 from ⟨c0, c1, c2, BelF.begin w1⟩)
    go_region_held3 (fun W => W.cell? ⟨w.heap.size, 0, none⟩ = some (.int .i64 P) ∧ W.cell? ⟨w.heap.size, 1, none⟩ = some (.int .i64 A) ∧ W.cell? ⟨w.heap.size, 2, none⟩ = some (.int .i64 B) ∧ BelF w1.heap.size w1 W)
      (first | exact HS5.out | exact HN5.out _ _ (below1 _ _) HS5.out | exact HN5.out _ _ (drew_below _) (HN5.out _ _ (below1 _ _) HS5.out) | exact HN5.out _ _ hbf (by assumption) | exact HN5.out _ _ (drew_below _) (by assumption) | exact HN5.out _ _ (drew_below _) HS5.out)
      ((first
        | (fail)))
    all_goals
      have hCn := (C3.new w1 (.int .i64 P) (.int .i64 A') (.int .i64 B') 30).later (drew_below _)
      have hbn : Below w1.heap.size w1 (w1.alloc (.cells #[.int .i64 P, .int .i64 A', .int .i64 B'] 30)).drew := (below1 w1 (.cells #[.int .i64 P, .int .i64 A', .int .i64 B'] 30)).trans ((drew_below _).mono (by simp))
      obtain ⟨W', hW'⟩ : ∃ W', W' = (w1.alloc (.cells #[.int .i64 P, .int .i64 A', .int .i64 B'] 30)).drew := ⟨_, rfl⟩
      rw [← hW'] at hCn hbn ⊢
      have hgl : w1.heap.size ≤ w1.heap.size := Nat.le_refl _
      have hall := And.intro hgl (And.intro hCn hbn)
      clear hgl hCn hbn
      obtain ⟨g', hg'⟩ : ∃ g', g' = w1.heap.size := ⟨_, rfl⟩
      have hall2 : w1.heap.size ≤ g' ∧ C3 g' (.int .i64 P) (.int .i64 A') (.int .i64 B') W' ∧ Below w1.heap.size w1 W' := by rw [hg']; exact hall
      clear hall
      rw [← hg']
      exact KK g' W' hall2
  case rest5 =>
    intro g w2 hR
    obtain ⟨-, hG, hb⟩ := hR
    have HG3 := Lib.hid hG
    have HB3 := Lib.hid (HB2.out.trans (hb.mono HB2.out.size))
    have HF3 := Lib.hid (HF2.out.below hb)
    have HC3 := Lib.hid (HC2.out.later hb)
    have HD3 := Lib.hid (HD2.out.later hb)
    clear hG hb c0 c1 c2 d0 d1 d2
    obtain ⟨c0, c1, c2⟩ := HC3.out
    obtain ⟨g0, g1, g2⟩ := HG3.out
    go_wp2
    have HN6 := Lib.hid (fun (W1 W2 : World) (hb : Below W1.heap.size W1 W2) (h : W1.cell? ⟨w.heap.size, 0, none⟩ = some (.int .i64 P) ∧ W1.cell? ⟨w.heap.size, 1, none⟩ = some (.int .i64 A) ∧ W1.cell? ⟨w.heap.size, 2, none⟩ = some (.int .i64 B) ∧ W1.cell? ⟨g, 0, none⟩ = some (.int .i64 P) ∧ W1.cell? ⟨g, 1, none⟩ = some (.int .i64 A') ∧ W1.cell? ⟨g, 2, none⟩ = some (.int .i64 B') ∧ BelF w2.heap.size w2 W1) => (show W2.cell? ⟨w.heap.size, 0, none⟩ = some (.int .i64 P) ∧ W2.cell? ⟨w.heap.size, 1, none⟩ = some (.int .i64 A) ∧ W2.cell? ⟨w.heap.size, 2, none⟩ = some (.int .i64 B) ∧ W2.cell? ⟨g, 0, none⟩ = some (.int .i64 P) ∧ W2.cell? ⟨g, 1, none⟩ = some (.int .i64 A') ∧ W2.cell? ⟨g, 2, none⟩ = some (.int .i64 B') ∧ BelF w2.heap.size w2 W2 from ⟨cell_later h.1 hb, cell_later h.2.1 hb, cell_later h.2.2.1 hb, cell_later h.2.2.2.1 hb, cell_later h.2.2.2.2.1 hb, cell_later h.2.2.2.2.2.1 hb, h.2.2.2.2.2.2.next hb⟩))
    have HBS6 := Lib.hid (fun (W1 : World) (h : W1.cell? ⟨w.heap.size, 0, none⟩ = some (.int .i64 P) ∧ W1.cell? ⟨w.heap.size, 1, none⟩ = some (.int .i64 A) ∧ W1.cell? ⟨w.heap.size, 2, none⟩ = some (.int .i64 B) ∧ W1.cell? ⟨g, 0, none⟩ = some (.int .i64 P) ∧ W1.cell? ⟨g, 1, none⟩ = some (.int .i64 A') ∧ W1.cell? ⟨g, 2, none⟩ = some (.int .i64 B') ∧ BelF w2.heap.size w2 W1) => (show Below w2.heap.size w2 W1 from h.2.2.2.2.2.2.to))
    have HS6 := Lib.hid (show w2.cell? ⟨w.heap.size, 0, none⟩ = some (.int .i64 P) ∧ w2.cell? ⟨w.heap.size, 1, none⟩ = some (.int .i64 A) ∧ w2.cell? ⟨w.heap.size, 2, none⟩ = some (.int .i64 B) ∧ w2.cell? ⟨g, 0, none⟩ = some (.int .i64 P) ∧ w2.cell? ⟨g, 1, none⟩ = some (.int .i64 A') ∧ w2.cell? ⟨g, 2, none⟩ = some (.int .i64 B') ∧ BelF w2.heap.size w2 w2 from ⟨c0, c1, c2, g0, g1, g2, BelF.begin w2⟩)
    go_region_held3 (fun W => W.cell? ⟨w.heap.size, 0, none⟩ = some (.int .i64 P) ∧ W.cell? ⟨w.heap.size, 1, none⟩ = some (.int .i64 A) ∧ W.cell? ⟨w.heap.size, 2, none⟩ = some (.int .i64 B) ∧ W.cell? ⟨g, 0, none⟩ = some (.int .i64 P) ∧ W.cell? ⟨g, 1, none⟩ = some (.int .i64 A') ∧ W.cell? ⟨g, 2, none⟩ = some (.int .i64 B') ∧ BelF w2.heap.size w2 W)
      (first | exact HS6.out | exact HN6.out _ _ hbf (by assumption) | exact HN6.out _ _ (drew_below _) (by assumption) | exact HN6.out _ _ (drew_below _) HS6.out)
      ((first
        | (go_at_call 18; refine (Of_any _ _ _ _).mono ?_; rintro e wx ⟨rfl, hbf⟩)
        | (go_at_call 45; refine (HAL.out _ (HF3.out.below (HBS6.out _ (by assumption)))).mono ?_; rintro e wx ⟨rfl, hbf⟩)))
    all_goals
      refine at_world (S := fun W => W.cell? ⟨w.heap.size, 0, none⟩ = some (.int .i64 P) ∧ W.cell? ⟨w.heap.size, 1, none⟩ = some (.int .i64 A) ∧ W.cell? ⟨w.heap.size, 2, none⟩ = some (.int .i64 B) ∧ W.cell? ⟨g, 0, none⟩ = some (.int .i64 P) ∧ W.cell? ⟨g, 1, none⟩ = some (.int .i64 A') ∧ W.cell? ⟨g, 2, none⟩ = some (.int .i64 B') ∧ BelF w2.heap.size w2 W) (G := fun W => Exit.then _ _ _ _ W) (by assumption) ?_
      intro w3 hS
      have hb := HBS6.out _ hS
      have HB4 := Lib.hid (HB3.out.trans (hb.mono HB3.out.size))
      have HF4 := Lib.hid (HF3.out.below hb)
      have HC4 := Lib.hid (HC3.out.later hb)
      have HD4 := Lib.hid (HD3.out.later hb)
      have HG4 := Lib.hid (HG3.out.later hb)
      clear hS hb c0 c1 c2 g0 g1 g2
      obtain ⟨c0, c1, c2⟩ := HC4.out
      go_wp2_with fail
      refine (Of_any P A B _).mono ?_
      rintro e w4 ⟨rfl, hb⟩
      have HB5 := Lib.hid (HB4.out.trans (hb.mono HB4.out.size))
      have HF5 := Lib.hid (HF4.out.below hb)
      have HC5 := Lib.hid (HC4.out.later hb)
      have HD5 := Lib.hid (HD4.out.later hb)
      have HG5 := Lib.hid (HG4.out.later hb)
      clear hb c0 c1 c2
      go_wp2_with fail
      refine (HSh.out _ HF5.out).mono ?_
      rintro e w5 ⟨rfl, hb⟩
      have HB6 := Lib.hid (HB5.out.trans (hb.mono HB5.out.size))
      have HF6 := Lib.hid (HF5.out.below hb)
      have HC6 := Lib.hid (HC5.out.later hb)
      have HD6 := Lib.hid (HD5.out.later hb)
      have HG6 := Lib.hid (HG5.out.later hb)
      clear hb
      obtain ⟨g0, g1, g2⟩ := HG6.out
      go_wp2_with fail
      refine (HSh2.out _ HF6.out).mono ?_
      rintro e w6 ⟨rfl, hb⟩
      have HB7 := Lib.hid (HB6.out.trans (hb.mono HB6.out.size))
      have HF7 := Lib.hid (HF6.out.below hb)
      have HC7 := Lib.hid (HC6.out.later hb)
      have HD7 := Lib.hid (HD6.out.later hb)
      have HG7 := Lib.hid (HG6.out.later hb)
      clear hb g0 g1 g2
      obtain ⟨d0, d1, d2⟩ := HD7.out
      have hV1 : ¬ (V : Int) < 1 := by have := HVV.out; omega
      have hV2 : ¬ v < (V : Int) := by have := HVV.out; omega
      go_wp2_with fail
      refine (at_any ⟨x, y, f⟩ _).mono ?_
      rintro e w7 ⟨rfl, hb⟩
      have HB8 := Lib.hid (HB7.out.trans (hb.mono HB7.out.size))
      have HF8 := Lib.hid (HF7.out.below hb)
      have HC8 := Lib.hid (HC7.out.later hb)
      have HD8 := Lib.hid (HD7.out.later hb)
      have HG8 := Lib.hid (HG7.out.later hb)
      clear hb d0 d1 d2 hV1 hV2
      obtain ⟨c0, c1, c2⟩ := HC8.out
      obtain ⟨d0, d1, d2⟩ := HD8.out
      have hcl := HC8.out.lt
      have hdl := HD8.out.lt
      have hgl := HG8.out.lt
      clear hq HFI HFQ
      cases f
      · have HSv := Lib.hid (HSA.out rfl)
        go_wp2
        refine share_rest (S := fun h W => C3 h (.int .i64 X) (.int .i64 Y) (.bool false) W ∧ Below w7.heap.size w7 W) (G := ?G7) ?main7 ?rest7
        case main7 =>
          intro KK
          have HN7 := Lib.hid (fun (W1 W2 : World) (hb : Below W1.heap.size W1 W2) (h : W1.cell? ⟨w.heap.size, 0, none⟩ = some (.int .i64 P) ∧ W1.cell? ⟨w.heap.size, 1, none⟩ = some (.int .i64 A) ∧ W1.cell? ⟨w.heap.size, 2, none⟩ = some (.int .i64 B) ∧ W1.cell? ⟨w.heap.size + 1, 0, none⟩ = some (.int .i64 x) ∧ W1.cell? ⟨w.heap.size + 1, 1, none⟩ = some (.int .i64 y) ∧ W1.cell? ⟨w.heap.size + 1, 2, none⟩ = some (.bool false) ∧ BelF w7.heap.size w7 W1) => (show W2.cell? ⟨w.heap.size, 0, none⟩ = some (.int .i64 P) ∧ W2.cell? ⟨w.heap.size, 1, none⟩ = some (.int .i64 A) ∧ W2.cell? ⟨w.heap.size, 2, none⟩ = some (.int .i64 B) ∧ W2.cell? ⟨w.heap.size + 1, 0, none⟩ = some (.int .i64 x) ∧ W2.cell? ⟨w.heap.size + 1, 1, none⟩ = some (.int .i64 y) ∧ W2.cell? ⟨w.heap.size + 1, 2, none⟩ = some (.bool false) ∧ BelF w7.heap.size w7 W2 from ⟨cell_later h.1 hb, cell_later h.2.1 hb, cell_later h.2.2.1 hb, cell_later h.2.2.2.1 hb, cell_later h.2.2.2.2.1 hb, cell_later h.2.2.2.2.2.1 hb, h.2.2.2.2.2.2.next hb⟩))
          have HS7 := Lib.hid (show w7.cell? ⟨w.heap.size, 0, none⟩ = some (.int .i64 P) ∧ w7.cell? ⟨w.heap.size, 1, none⟩ = some (.int .i64 A) ∧ w7.cell? ⟨w.heap.size, 2, none⟩ = some (.int .i64 B) ∧ w7.cell? ⟨w.heap.size + 1, 0, none⟩ = some (.int .i64 x) ∧ w7.cell? ⟨w.heap.size + 1, 1, none⟩ = some (.int .i64 y) ∧ w7.cell? ⟨w.heap.size + 1, 2, none⟩ = some (.bool false) ∧ BelF w7.heap.size w7 w7 from ⟨c0, c1, c2, d0, d1, d2, BelF.begin w7⟩)
          go_region_held3 (fun W => W.cell? ⟨w.heap.size, 0, none⟩ = some (.int .i64 P) ∧ W.cell? ⟨w.heap.size, 1, none⟩ = some (.int .i64 A) ∧ W.cell? ⟨w.heap.size, 2, none⟩ = some (.int .i64 B) ∧ W.cell? ⟨w.heap.size + 1, 0, none⟩ = some (.int .i64 x) ∧ W.cell? ⟨w.heap.size + 1, 1, none⟩ = some (.int .i64 y) ∧ W.cell? ⟨w.heap.size + 1, 2, none⟩ = some (.bool false) ∧ BelF w7.heap.size w7 W)
            (first | exact HS7.out | exact HN7.out _ _ (below1 _ _) HS7.out | exact HN7.out _ _ (drew_below _) (HN7.out _ _ (below1 _ _) HS7.out) | exact HN7.out _ _ hbf (by assumption) | exact HN7.out _ _ (drew_below _) (by assumption) | exact HN7.out _ _ (drew_below _) HS7.out)
            ((first
              | (fail)))
          all_goals
            have hCn := (C3.new w7 (.int .i64 X) (.int .i64 Y) (.bool false) 34).later (drew_below _)
            have hbn : Below w7.heap.size w7 (w7.alloc (.cells #[.int .i64 X, .int .i64 Y, .bool false] 34)).drew := (below1 w7 (.cells #[.int .i64 X, .int .i64 Y, .bool false] 34)).trans ((drew_below _).mono (by simp))
            obtain ⟨W', hW'⟩ : ∃ W', W' = (w7.alloc (.cells #[.int .i64 X, .int .i64 Y, .bool false] 34)).drew := ⟨_, rfl⟩
            rw [← hW'] at hCn hbn ⊢
            have hall := And.intro hCn hbn
            clear hCn hbn
            obtain ⟨g', hg'⟩ : ∃ g', g' = w7.heap.size := ⟨_, rfl⟩
            have hall2 : C3 g' (.int .i64 X) (.int .i64 Y) (.bool false) W' ∧ Below w7.heap.size w7 W' := by rw [hg']; exact hall
            clear hall
            rw [← hg']
            exact KK g' W' hall2
        case rest7 =>
          intro h w8 hR
          obtain ⟨hS, hb⟩ := hR
          have HB9 := Lib.hid (HB8.out.trans (hb.mono HB8.out.size))
          have HF9 := Lib.hid (HF8.out.below hb)
          have HC9 := Lib.hid (HC8.out.later hb)
          have HD9 := Lib.hid (HD8.out.later hb)
          have HG9 := Lib.hid (HG8.out.later hb)
          obtain ⟨sx, sy, sf⟩ := HSv.out
          have HS9 := Lib.hid (show C3 h (.int .i64 s.x) (.int .i64 s.y) (.bool s.f) w8 by rw [sx, sy, sf]; exact hS)
          clear hS hb c0 c1 c2 d0 d1 d2 hcl hdl hgl sx sy sf
          obtain ⟨c0, c1, c2⟩ := HC9.out
          obtain ⟨d0, d1, d2⟩ := HD9.out
          obtain ⟨g0, g1, g2⟩ := HG9.out
          obtain ⟨s0, s1, s2⟩ := HS9.out
          go_wp2_with fail
          refine (HOn.out _ HF9.out).mono ?_
          rintro e x1 ⟨rfl, hb⟩
          have HB10 := Lib.hid (HB9.out.trans (hb.mono HB9.out.size))
          have HF10 := Lib.hid (HF9.out.below hb)
          have HC10 := Lib.hid (HC9.out.later hb)
          have HD10 := Lib.hid (HD9.out.later hb)
          have HG10 := Lib.hid (HG9.out.later hb)
          have HS10 := Lib.hid (HS9.out.later hb)
          clear hb c0 c1 c2 d0 d1 d2 g0 g1 g2 s0 s1 s2
          obtain ⟨c0, c1, c2⟩ := HC10.out
          obtain ⟨d0, d1, d2⟩ := HD10.out
          go_wp2
          have HNr := Lib.hid (fun (W1 W2 : World) (hb : Below W1.heap.size W1 W2) (h : W1.cell? ⟨w.heap.size, 0, none⟩ = some (.int .i64 P) ∧ W1.cell? ⟨w.heap.size, 1, none⟩ = some (.int .i64 A) ∧ W1.cell? ⟨w.heap.size, 2, none⟩ = some (.int .i64 B) ∧ W1.cell? ⟨w.heap.size + 1, 0, none⟩ = some (.int .i64 x) ∧ W1.cell? ⟨w.heap.size + 1, 1, none⟩ = some (.int .i64 y) ∧ W1.cell? ⟨w.heap.size + 1, 2, none⟩ = some (.bool false) ∧ BelF x1.heap.size x1 W1) => (show W2.cell? ⟨w.heap.size, 0, none⟩ = some (.int .i64 P) ∧ W2.cell? ⟨w.heap.size, 1, none⟩ = some (.int .i64 A) ∧ W2.cell? ⟨w.heap.size, 2, none⟩ = some (.int .i64 B) ∧ W2.cell? ⟨w.heap.size + 1, 0, none⟩ = some (.int .i64 x) ∧ W2.cell? ⟨w.heap.size + 1, 1, none⟩ = some (.int .i64 y) ∧ W2.cell? ⟨w.heap.size + 1, 2, none⟩ = some (.bool false) ∧ BelF x1.heap.size x1 W2 from ⟨cell_later h.1 hb, cell_later h.2.1 hb, cell_later h.2.2.1 hb, cell_later h.2.2.2.1 hb, cell_later h.2.2.2.2.1 hb, cell_later h.2.2.2.2.2.1 hb, h.2.2.2.2.2.2.next hb⟩))
          have HBr := Lib.hid (fun (W1 : World) (h : W1.cell? ⟨w.heap.size, 0, none⟩ = some (.int .i64 P) ∧ W1.cell? ⟨w.heap.size, 1, none⟩ = some (.int .i64 A) ∧ W1.cell? ⟨w.heap.size, 2, none⟩ = some (.int .i64 B) ∧ W1.cell? ⟨w.heap.size + 1, 0, none⟩ = some (.int .i64 x) ∧ W1.cell? ⟨w.heap.size + 1, 1, none⟩ = some (.int .i64 y) ∧ W1.cell? ⟨w.heap.size + 1, 2, none⟩ = some (.bool false) ∧ BelF x1.heap.size x1 W1) => (show Below x1.heap.size x1 W1 from h.2.2.2.2.2.2.to))
          have HSr := Lib.hid (show x1.cell? ⟨w.heap.size, 0, none⟩ = some (.int .i64 P) ∧ x1.cell? ⟨w.heap.size, 1, none⟩ = some (.int .i64 A) ∧ x1.cell? ⟨w.heap.size, 2, none⟩ = some (.int .i64 B) ∧ x1.cell? ⟨w.heap.size + 1, 0, none⟩ = some (.int .i64 x) ∧ x1.cell? ⟨w.heap.size + 1, 1, none⟩ = some (.int .i64 y) ∧ x1.cell? ⟨w.heap.size + 1, 2, none⟩ = some (.bool false) ∧ BelF x1.heap.size x1 x1 from ⟨c0, c1, c2, d0, d1, d2, BelF.begin x1⟩)
          go_region_held3 (fun W => W.cell? ⟨w.heap.size, 0, none⟩ = some (.int .i64 P) ∧ W.cell? ⟨w.heap.size, 1, none⟩ = some (.int .i64 A) ∧ W.cell? ⟨w.heap.size, 2, none⟩ = some (.int .i64 B) ∧ W.cell? ⟨w.heap.size + 1, 0, none⟩ = some (.int .i64 x) ∧ W.cell? ⟨w.heap.size + 1, 1, none⟩ = some (.int .i64 y) ∧ W.cell? ⟨w.heap.size + 1, 2, none⟩ = some (.bool false) ∧ BelF x1.heap.size x1 W)
            (first | exact HSr.out | exact HNr.out _ _ hbf (by assumption) | exact HNr.out _ _ (drew_below _) (by assumption) | exact HNr.out _ _ (drew_below _) HSr.out)
            ((first
              | (go_at_call 18; refine (Of_any _ _ _ _).mono ?_; rintro e wx ⟨rfl, hbf⟩)
              | (go_at_call 20; refine (at_any ⟨x, y, false⟩ _).mono ?_; rintro e wx ⟨rfl, hbf⟩)
              | (go_at_call 29; refine (HOrd.out _ (HF10.out.below (HBr.out _ (by assumption)))).mono ?_; rintro e wx ⟨rfl, hbf⟩)))
          all_goals
            refine at_world (S := fun W => W.cell? ⟨w.heap.size, 0, none⟩ = some (.int .i64 P) ∧ W.cell? ⟨w.heap.size, 1, none⟩ = some (.int .i64 A) ∧ W.cell? ⟨w.heap.size, 2, none⟩ = some (.int .i64 B) ∧ W.cell? ⟨w.heap.size + 1, 0, none⟩ = some (.int .i64 x) ∧ W.cell? ⟨w.heap.size + 1, 1, none⟩ = some (.int .i64 y) ∧ W.cell? ⟨w.heap.size + 1, 2, none⟩ = some (.bool false) ∧ BelF x1.heap.size x1 W) (G := fun W => Exit.then _ _ _ _ W) (by assumption) ?_
            intro x2 hS
            have hb := HBr.out _ hS
            have HB11 := Lib.hid (HB10.out.trans (hb.mono HB10.out.size))
            have HF11 := Lib.hid (HF10.out.below hb)
            have HG11 := Lib.hid (HG10.out.later hb)
            have HS11 := Lib.hid (HS10.out.later hb)
            clear hS hb c0 c1 c2 d0 d1 d2
            obtain ⟨g0, g1, g2⟩ := HG11.out
            obtain ⟨s0, s1, s2⟩ := HS11.out
            go_wp2_with fail
            refine (HOr2.out _ HF11.out).mono ?_
            rintro e x3 ⟨rfl, hb⟩
            have HB12 := Lib.hid (HB11.out.trans (hb.mono HB11.out.size))
            have HF12 := Lib.hid (HF11.out.below hb)
            clear hb g0 g1 g2 s0 s1 s2
            go_wp2_with fail
            refine (awake_any _ HF12.out).mono ?_
            rintro e x4 ⟨rfl, hb⟩
            have HBz := Lib.hid (HB12.out.trans (hb.mono HB12.out.size))
            clear hb
            go_wp2
            go_ret
            exact ⟨ret_bool (by simp), HBz.out⟩
      · have hsq := HSF.out rfl
        subst hsq
        have hbA := below1 w7 (.cells #[.int .i64 x, .int .i64 y, .bool true] 34)
        have HB9 := Lib.hid (HB8.out.trans (hbA.mono HB8.out.size))
        have HF9 := Lib.hid (HF8.out.below hbA)
        have HC9 := Lib.hid (HC8.out.later hbA)
        have HD9 := Lib.hid (HD8.out.later hbA)
        have HG9 := Lib.hid (HG8.out.later hbA)
        have HS9 := Lib.hid (C3.new w7 (.int .i64 x) (.int .i64 y) (.bool true) 34)
        clear hbA
        obtain ⟨g0, g1, g2⟩ := HG8.out
        obtain ⟨s0, s1, s2⟩ := HS9.out
        go_wp2_with fail
        refine (HOn.out _ HF9.out).mono ?_
        rintro e x1 ⟨rfl, hb⟩
        have HB10 := Lib.hid (HB9.out.trans (hb.mono HB9.out.size))
        have HF10 := Lib.hid (HF9.out.below hb)
        have HC10 := Lib.hid (HC9.out.later hb)
        have HD10 := Lib.hid (HD9.out.later hb)
        have HG10 := Lib.hid (HG9.out.later hb)
        have HS10 := Lib.hid (HS9.out.later hb)
        clear hb c0 c1 c2 d0 d1 d2 g0 g1 g2 s0 s1 s2
        obtain ⟨c0, c1, c2⟩ := HC10.out
        obtain ⟨d0, d1, d2⟩ := HD10.out
        go_wp2
        have HNr := Lib.hid (fun (W1 W2 : World) (hb : Below W1.heap.size W1 W2) (h : W1.cell? ⟨w.heap.size, 0, none⟩ = some (.int .i64 P) ∧ W1.cell? ⟨w.heap.size, 1, none⟩ = some (.int .i64 A) ∧ W1.cell? ⟨w.heap.size, 2, none⟩ = some (.int .i64 B) ∧ W1.cell? ⟨w.heap.size + 1, 0, none⟩ = some (.int .i64 x) ∧ W1.cell? ⟨w.heap.size + 1, 1, none⟩ = some (.int .i64 y) ∧ W1.cell? ⟨w.heap.size + 1, 2, none⟩ = some (.bool true) ∧ BelF x1.heap.size x1 W1) => (show W2.cell? ⟨w.heap.size, 0, none⟩ = some (.int .i64 P) ∧ W2.cell? ⟨w.heap.size, 1, none⟩ = some (.int .i64 A) ∧ W2.cell? ⟨w.heap.size, 2, none⟩ = some (.int .i64 B) ∧ W2.cell? ⟨w.heap.size + 1, 0, none⟩ = some (.int .i64 x) ∧ W2.cell? ⟨w.heap.size + 1, 1, none⟩ = some (.int .i64 y) ∧ W2.cell? ⟨w.heap.size + 1, 2, none⟩ = some (.bool true) ∧ BelF x1.heap.size x1 W2 from ⟨cell_later h.1 hb, cell_later h.2.1 hb, cell_later h.2.2.1 hb, cell_later h.2.2.2.1 hb, cell_later h.2.2.2.2.1 hb, cell_later h.2.2.2.2.2.1 hb, h.2.2.2.2.2.2.next hb⟩))
        have HBr := Lib.hid (fun (W1 : World) (h : W1.cell? ⟨w.heap.size, 0, none⟩ = some (.int .i64 P) ∧ W1.cell? ⟨w.heap.size, 1, none⟩ = some (.int .i64 A) ∧ W1.cell? ⟨w.heap.size, 2, none⟩ = some (.int .i64 B) ∧ W1.cell? ⟨w.heap.size + 1, 0, none⟩ = some (.int .i64 x) ∧ W1.cell? ⟨w.heap.size + 1, 1, none⟩ = some (.int .i64 y) ∧ W1.cell? ⟨w.heap.size + 1, 2, none⟩ = some (.bool true) ∧ BelF x1.heap.size x1 W1) => (show Below x1.heap.size x1 W1 from h.2.2.2.2.2.2.to))
        have HSr := Lib.hid (show x1.cell? ⟨w.heap.size, 0, none⟩ = some (.int .i64 P) ∧ x1.cell? ⟨w.heap.size, 1, none⟩ = some (.int .i64 A) ∧ x1.cell? ⟨w.heap.size, 2, none⟩ = some (.int .i64 B) ∧ x1.cell? ⟨w.heap.size + 1, 0, none⟩ = some (.int .i64 x) ∧ x1.cell? ⟨w.heap.size + 1, 1, none⟩ = some (.int .i64 y) ∧ x1.cell? ⟨w.heap.size + 1, 2, none⟩ = some (.bool true) ∧ BelF x1.heap.size x1 x1 from ⟨c0, c1, c2, d0, d1, d2, BelF.begin x1⟩)
        go_region_held3 (fun W => W.cell? ⟨w.heap.size, 0, none⟩ = some (.int .i64 P) ∧ W.cell? ⟨w.heap.size, 1, none⟩ = some (.int .i64 A) ∧ W.cell? ⟨w.heap.size, 2, none⟩ = some (.int .i64 B) ∧ W.cell? ⟨w.heap.size + 1, 0, none⟩ = some (.int .i64 x) ∧ W.cell? ⟨w.heap.size + 1, 1, none⟩ = some (.int .i64 y) ∧ W.cell? ⟨w.heap.size + 1, 2, none⟩ = some (.bool true) ∧ BelF x1.heap.size x1 W)
          (first | exact HSr.out | exact HNr.out _ _ hbf (by assumption) | exact HNr.out _ _ (drew_below _) (by assumption) | exact HNr.out _ _ (drew_below _) HSr.out)
          ((first
            | (go_at_call 18; refine (Of_any _ _ _ _).mono ?_; rintro e wx ⟨rfl, hbf⟩)
            | (go_at_call 20; refine (at_any ⟨x, y, true⟩ _).mono ?_; rintro e wx ⟨rfl, hbf⟩)
            | (go_at_call 29; refine (HOrd.out _ (HF10.out.below (HBr.out _ (by assumption)))).mono ?_; rintro e wx ⟨rfl, hbf⟩)))
        all_goals
          refine at_world (S := fun W => W.cell? ⟨w.heap.size, 0, none⟩ = some (.int .i64 P) ∧ W.cell? ⟨w.heap.size, 1, none⟩ = some (.int .i64 A) ∧ W.cell? ⟨w.heap.size, 2, none⟩ = some (.int .i64 B) ∧ W.cell? ⟨w.heap.size + 1, 0, none⟩ = some (.int .i64 x) ∧ W.cell? ⟨w.heap.size + 1, 1, none⟩ = some (.int .i64 y) ∧ W.cell? ⟨w.heap.size + 1, 2, none⟩ = some (.bool true) ∧ BelF x1.heap.size x1 W) (G := fun W => Exit.then _ _ _ _ W) (by assumption) ?_
          intro x2 hS
          have hb := HBr.out _ hS
          have HB11 := Lib.hid (HB10.out.trans (hb.mono HB10.out.size))
          have HF11 := Lib.hid (HF10.out.below hb)
          have HG11 := Lib.hid (HG10.out.later hb)
          have HS11 := Lib.hid (HS10.out.later hb)
          clear hS hb c0 c1 c2 d0 d1 d2
          obtain ⟨g0, g1, g2⟩ := HG11.out
          obtain ⟨s0, s1, s2⟩ := HS11.out
          go_wp2_with fail
          refine (HOr2.out _ HF11.out).mono ?_
          rintro e x3 ⟨rfl, hb⟩
          have HB12 := Lib.hid (HB11.out.trans (hb.mono HB11.out.size))
          have HF12 := Lib.hid (HF11.out.below hb)
          clear hb g0 g1 g2 s0 s1 s2
          go_wp2_with fail
          refine (awake_any _ HF12.out).mono ?_
          rintro e x4 ⟨rfl, hb⟩
          have HBz := Lib.hid (HB12.out.trans (hb.mono HB12.out.size))
          clear hb
          go_wp2
          go_ret
          exact ⟨ret_bool (by simp), HBz.out⟩
end Go.Proofs.YtoepghlkjbpkfaaDoor
