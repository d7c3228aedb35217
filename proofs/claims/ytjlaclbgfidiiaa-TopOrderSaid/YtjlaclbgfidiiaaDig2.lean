/- The walks of digits, Digits, again and Again, and of the reference's. Conditions: the numbers are in range. -/
import Derived.Test.YtjlaclbgfidiiaaDig1
import Derived.Test.YtjlaclbgfidiiaaLawRoots
import Derived.Maps.OwnOps
import Derived.Maps.OwnSet
import Derived.Maps.Views
namespace Go.Proofs.Ytjlaclbgfidiiaa
open Go.RowKit Go.Shelf Go.Maps Go.Lib
attribute [local go_sem] Oper.semAt_some

theorem law3 : Keyed Try.prog 3 := int_keyed Try.underlying3
theorem zero3 (w : World) : (zeroValue 3).run Try.prog w = .ok (.int .i64 0) w := by kernel_rfl
theorem wf_small {x : Int} (h0 : -1000000 ≤ x) (h1 : x ≤ 1000000) : (Lit.int .i64 x).wf = true := by
  exact WalkArith.wf_i64 (by omega)
theorem lit_inj {a b : Int} (h : (DataW.lit (Lit.int .i64 a) : DataW Unit) = .lit (.int .i64 b)) : a = b := by
  injection h with h
  injection h
/-- The map tells where each of the first i rests stands. -/
structure SeenIs (D : DataW Unit) (R : Nat → Int) (i : Nat) : Prop where
  at_ : ∀ u, u < i → D.atKey (.int .i64 (R u)) (.lit (.int .i64 0)) = .lit (.int .i64 (u : Int))
  has : ∀ x : Int, Maps.has D (.int .i64 x) = true ↔ ∃ u, u < i ∧ R u = x
theorem SeenIs.start (R : Nat → Int) : SeenIs (.map []) R 0 :=
  ⟨fun u hu => absurd hu (by omega), fun x => ⟨(fun h => by cases h), fun ⟨u, hu, _⟩ => absurd hu (by omega)⟩⟩
theorem SeenIs.put {D : DataW Unit} {R : Nat → Int} {i : Nat} (h : SeenIs D R i) (hm : IsMap D) (hn : ∀ u, u < i → R u ≠ R i) : SeenIs (D.put (.int .i64 (R i)) (.lit (.int .i64 (i : Int)))) R (i + 1) := by
  have hne : ∀ x : Int, x ≠ R i → (Lit.int .i64 x) ≠ .int .i64 (R i) := fun x he hh => he (by injection hh)
  refine ⟨fun u hu => ?_, fun x => ?_⟩
  · by_cases he : u = i
    · subst he
      rw [atKey_put_same hm (show WideAt.IsKeyLit (.int .i64 (R u)) from trivial)]
    · rw [atKey_put_other (hne _ (hn u (by omega))), h.at_ u (by omega)]
  · by_cases he : x = R i
    · subst he
      rw [has_put_same hm (show WideAt.IsKeyLit (.int .i64 (R i)) from trivial)]
      exact ⟨fun _ => ⟨i, by omega, rfl⟩, fun _ => rfl⟩
    · rw [has_put_other (hne x he), h.has x]
      constructor
      · rintro ⟨u, hu, e⟩
        exact ⟨u, by omega, e⟩
      · rintro ⟨u, hu, e⟩
        refine ⟨u, ?_, e⟩
        apply Decidable.byContradiction
        intro hc
        have : u = i := by omega
        subst this
        exact he e.symm
theorem CoState.drewE {g m : Nat} {f : Nat → Int} {w W W' : World} (h : CoState g m f w W) (hq : ∃ q, W' = W.drewN q) : CoState g m f w W' := by
  obtain ⟨q, rfl⟩ := hq
  exact ⟨below_drewN h.b q, own_same h.own (fun _ _ _ => rfl)⟩
/-- The first n digits. -/
def digL (q : Nat) (a b : Int) (n : Nat) : List Int := (List.range n).map fun i => (dg q (rs q a b i) b : Int)
theorem digL_len {q n : Nat} {a b : Int} : (digL q a b n).length = n := by simp [digL]
theorem digL_at {q n i : Nat} {a b : Int} (h : i < n) : (digL q a b n).getD i 0 = (dg q (rs q a b i) b : Int) := by simp [digL, List.getD, h]
theorem digL_snoc {q n : Nat} {a b : Int} : digL q a b (n + 1) = digL q a b n ++ [(dg q (rs q a b n) b : Int)] := by
  simp [digL, List.range_succ]

set_option maxHeartbeats 4000000 in
set_option maxRecDepth 100000 in
theorem digits_any (q : Nat) (hq : q ∈ [2, 3, 5, 7, 11, 13]) (a b : Int) (n : Nat) (w : World) (a0 : -1000 ≤ a) (a1 : a ≤ 1000) (b0 : 1 ≤ b) (b1 : b ≤ 1000) (hb : ¬ (q : Int) ∣ b) (hn : n ≤ 40) :
    Calls Try.prog 68 #[.int .i64 a, .int .i64 b, .int .i64 (q : Int), .int .i64 (n : Int)] w fun e w' => (∃ v, e = .returned v ∧ Row w.heap.size v (digL q a b n) w') ∧ Below w.heap.size w w' := by
  obtain ⟨i0, hi, hz0, hz1, hz2⟩ := info_parts info3
  have HS := Lib.hid (fun i w => split_any q hq (rs q a b i) b w (rs_bound hq hb b0 b1 a0 a1 i).1 (rs_bound hq hb b0 b1 a0 a1 i).2 b0 b1 hb)
  have HR : RowKit.Hid (∀ i, nx q (rs q a b i) b = rs q a b (i + 1)) := Lib.hid (fun i => rfl)
  have HL := Lib.hid (digL_len (q := q) (n := n) (a := a) (b := b))
  have HA := Lib.hid (fun i (h : i < n) => digL_at (q := q) (n := n) (a := a) (b := b) h)
  have HR0 : RowKit.Hid (rs q a b 0 = a) := Lib.hid rfl
  obtain ⟨R, hR⟩ : ∃ R, rs q a b = R := ⟨_, rfl⟩
  rw [hR] at HS HR HA HR0
  have n0 : (0 : Int) ≤ (n : Int) := by omega
  clear hq hb hR
  go_enter Try.func68, Try.ntmps68
  go_wp2_with (at_make; refine wpList_make_full _ rfl _ _ 22 rfl w.heap.size 3 i0 (.int .i64 0) 1 Try.underlying22 hi hz0 hz1 _ _ _ _ n rfl rfl (by omega) (by omega) (by rw [hz2]; omega) (by unfold maxLen; omega) (Nat.le_refl _) ?_; intro w1 hown hgrow)
  clear hi hz0 hz1 hz2
  have S0 := Lib.hid (CoState.made hown ((Below.refl w.heap.size w).grown hgrow (Nat.le_refl _) (fun k e => by cases e)))
  clear hown hgrow
  obtain ⟨g, hg⟩ : ∃ g, w.heap.size = g := ⟨_, rfl⟩
  rw [hg] at S0 ⊢
  have HG := Lib.hid hg
  clear hg
  go_loopg [0, 16] n (fun gk s0 i wr => ∃ (k : Nat), k + gk = n ∧ i = .int .i64 (k : Int) ∧ s0 = .int .i64 (R k) ∧ CoState g n (fun j => if j < k then (dg q (R j) b : Int) else 0) w wr)
  case atStart => exact ⟨0, by omega, rfl, by rw [HR0.out], S0.out.congr fun j _ => by rw [if_neg (by omega)]⟩
  case round =>
    obtain ⟨k, hk, rfl, rfl, hs⟩ := hrel
    have HS0 := Lib.hid hs
    clear hs S0
    by_cases hkn : k = n
    · have hge : ¬ (k : Int) < (n : Int) := by omega
      have ho := HS0.out.own
      rw [range_cells (digL q a b n) n HL.out _ (fun j hj => by rw [if_pos (by omega), HA.out j hj])] at ho
      have HF := Lib.hid (Row.of ho).1
      clear hkn ho
      go_wp2
      go_ret
      exact ⟨⟨_, rfl, HF.out⟩, HS0.out.b⟩
    · have hlt : (k : Int) < (n : Int) := by omega
      have hlt2 : k < n := by omega
      have HC := Lib.hid (HS.out k wr)
      rw [HR.out] at HC
      have k0 : (0 : Int) ≤ (k : Int) := by omega
      obtain ⟨D, hD⟩ : ∃ D : Int, (dg q (R k) b : Int) = D := ⟨_, rfl⟩
      rw [hD] at HC
      have HDD := Lib.hid hD
      have HK := Lib.hid hk
      clear hD hk hkn
      go_wp2_with fail
      refine HC.out.mono ?_
      rintro e w2 ⟨rfl, hz⟩
      have HS1 := Lib.hid (HS0.out.drewE hz)
      have hcg := HS1.out.cell (j := k) hlt2
      have hfg := HS1.out.frozen k
      obtain ⟨u, hu⟩ : ∃ u : Int, (if k < k then (dg q (R k) b : Int) else 0) = u := ⟨_, rfl⟩
      rw [hu] at hcg
      clear hu hz
      go_wp2
      have HS2 := Lib.hid (show CoState g n (fun j => if j < k + 1 then (dg q (R j) b : Int) else 0) w (w2.setCell ⟨g, k, none⟩ (.int .i64 D)) from
        (HS1.out.put k D).congr fun j _ => by
          by_cases hj : j = k
          · subst hj
            rw [if_pos rfl, if_pos (by omega), HDD.out]
          · rw [if_neg hj]
            by_cases hj2 : j < k
            · rw [if_pos hj2, if_pos (by omega)]
            · rw [if_neg hj2, if_neg (by omega)])
      go_roundg (n - k - 1)
      case rel => exact ⟨k + 1, by have := HK.out; omega, by go_num, rfl, HS2.out⟩
      case measure => have := HK.out; omega

set_option maxHeartbeats 4000000 in
set_option maxRecDepth 100000 in
theorem digitsR_any (q : Nat) (hq : q ∈ [2, 3, 5, 7, 11, 13]) (a b : Int) (n : Nat) (w : World) (a0 : -1000 ≤ a) (a1 : a ≤ 1000) (b0 : 1 ≤ b) (b1 : b ≤ 1000) (hb : ¬ (q : Int) ∣ b) (hn : n ≤ 40) :
    Calls Try.prog 40 #[.int .i64 a, .int .i64 b, .int .i64 (q : Int), .int .i64 (n : Int)] w fun e w' => (∃ v, e = .returned v ∧ Row w.heap.size v (digL q a b n) w') ∧ Below w.heap.size w w' := by
  have HD := Lib.hid (fun i w => digitR_any q hq (rs q a b i) b w (rs_bound hq hb b0 b1 a0 a1 i).1 (rs_bound hq hb b0 b1 a0 a1 i).2 b0 b1 hb)
  have HN := Lib.hid (fun i w => nextR_any q hq (rs q a b i) b w (rs_bound hq hb b0 b1 a0 a1 i).1 (rs_bound hq hb b0 b1 a0 a1 i).2 b0 b1 hb)
  have HR : RowKit.Hid (∀ i, nx q (rs q a b i) b = rs q a b (i + 1)) := Lib.hid (fun i => rfl)
  have HL := Lib.hid (fun n => digL_len (q := q) (n := n) (a := a) (b := b))
  have HA := Lib.hid (fun n => digL_snoc (q := q) (n := n) (a := a) (b := b))
  have HR0 : RowKit.Hid (rs q a b 0 = a) := Lib.hid rfl
  have HN0 : RowKit.Hid (digL q a b 0 = []) := Lib.hid rfl
  obtain ⟨R, hR⟩ : ∃ R, rs q a b = R := ⟨_, rfl⟩
  rw [hR] at HD HN HR HA HR0
  obtain ⟨L, hL⟩ : ∃ L, digL q a b = L := ⟨_, rfl⟩
  rw [hL] at HL HA HN0 ⊢
  have n0 : (0 : Int) ≤ (n : Int) := by omega
  clear hq hb hR hL
  go_enter Try.func40, Try.ntmps40
  go_wp2
  go_loopg [0, 9, 11] n (fun gk s0 v i wr => ∃ (k : Nat), k + gk = n ∧ i = .int .i64 (k : Int) ∧ s0 = .int .i64 (R k) ∧ Row w.heap.size v (L k) wr ∧ Below w.heap.size w wr)
  case atStart => exact ⟨0, by omega, rfl, by rw [HR0.out], by rw [HN0.out]; exact Row.nil _ _, Below.refl _ _⟩
  case round =>
    obtain ⟨k, hk, rfl, rfl, hr0, hb⟩ := hrel
    have HRW := Lib.hid hr0
    have HB := Lib.hid hb
    have HK := Lib.hid hk
    clear hr0 hb
    by_cases hkn : k < n
    · have hlt : (k : Int) < (n : Int) := by omega
      have HC := Lib.hid (HD.out k wr)
      have HC2 := Lib.hid (HN.out k)
      simp only [HR.out] at HC2
      have hst := HA.out k
      obtain ⟨D, hDD⟩ : ∃ D : Int, (dg q (R k) b : Int) = D := ⟨_, rfl⟩
      rw [hDD] at HC hst
      have HST := Lib.hid hst
      have hr := HRW.out
      unfold Row at hr
      rw [HL.out k] at hr
      have hsz := HB.out.size
      obtain ⟨i0, hi, hz0, hz1, hz2⟩ := info_parts info3
      clear hDD hk hst
      go_wp2_with fail
      refine HC.out.mono ?_
      rintro e w2 ⟨rfl, rfl⟩
      go_wp2_with (at_builtin; refine wpList_append_own _ rfl _ _ 22 rfl (w.heap.size) 3 i0 (.int .i64 0) 1 8 Try.underlying22 hi hz0 hz1 hz2 rfl (by decide) _ _ _ rfl (hr.alloc _) ⟨wr.heap.size, 0, none⟩ 1 1 [.int .i64 D] rfl rfl (cell_one_new _ _ _) (by simp [Value.oneCell']) (by unfold maxLen; omega) (by omega) (by simp; omega) ?_; intro v' w3 hown' hgrow _; have hb3 : Below w.heap.size w w3 := (HB.out.alloc hsz _).grown hgrow (by simp; omega) (fun j e => (hr.lt j e).1))
      have hrow : Row w.heap.size v' (L (k + 1)) w3 := by
        unfold Row
        rw [HST.out, List.length_append, HL.out, List.map_append]
        exact hown'
      have HF := Lib.hid (And.intro hrow hb3)
      clear hown' hgrow hr hrow hb3
      refine (HC2.out _).mono ?_
      rintro e w4 ⟨rfl, rfl⟩
      go_wp2
      go_roundg (gk - 1)
      case rel => exact ⟨k + 1, by have := HK.out; omega, by go_num, rfl, HF.out.1, HF.out.2⟩
      case measure => have := HK.out; omega
    · have hlt : ¬ (k : Int) < (n : Int) := by omega
      have HF := Lib.hid (show k = n by have := HK.out; omega)
      clear hk
      go_wp2
      go_ret
      exact ⟨⟨_, rfl, by rw [← HF.out]; exact HRW.out⟩, HB.out⟩

set_option maxHeartbeats 8000000 in
set_option maxRecDepth 100000 in
theorem again_any (q : Nat) (hq : q ∈ [2, 3, 5, 7, 11, 13]) (a b : Int) (w : World) (a0 : -1000 ≤ a) (a1 : a ≤ 1000) (b0 : 1 ≤ b) (b1 : b ≤ 1000) (hb : ¬ (q : Int) ∣ b) :
    Calls Try.prog 69 #[.int .i64 a, .int .i64 b, .int .i64 (q : Int)] w fun e w' => (∃ s t : Nat, e = .returned (.tuple #[.int .i64 (s : Int), .int .i64 (t : Int)]) ∧ IsAg q a b s t) ∧ Below w.heap.size w w' := by
  have HS := Lib.hid (fun i w => split_any q hq (rs q a b i) b w (rs_bound hq hb b0 b1 a0 a1 i).1 (rs_bound hq hb b0 b1 a0 a1 i).2 b0 b1 hb)
  have HR : RowKit.Hid (∀ i, nx q (rs q a b i) b = rs q a b (i + 1)) := Lib.hid (fun i => rfl)
  have HB0 := Lib.hid (fun i => rs_bound hq hb b0 b1 a0 a1 i)
  have HP := Lib.hid (fun n h => pigeon (f := rs q a b) (n := n) (fun i _ => rs_bound hq hb b0 b1 a0 a1 i) h)
  have HR0 : RowKit.Hid (rs q a b 0 = a) := Lib.hid rfl
  have HAG : RowKit.Hid (∀ s t : Nat, 1 ≤ t → rs q a b s = rs q a b (s + t) → (∀ i j, i < j → j < s + t → rs q a b i ≠ rs q a b j) → IsAg q a b s t) := Lib.hid (fun s t h1 h2 h3 => ⟨h1, h2, h3⟩)
  obtain ⟨R, hR⟩ : ∃ R, rs q a b = R := ⟨_, rfl⟩
  rw [hR] at HS HR HB0 HP HR0 HAG
  have hmm := @run_makeMap Try.prog
  clear hq hb hR
  go_enter Try.func69, Try.ntmps69
  go_wp2
  go_loopg [0, 9, 10, 11] 2001 (fun gk s0 s9 s10 s11 wr => ∃ (i : Nat) (D : DataW Unit), i + gk = 2001 ∧ s9 = .int .i64 (i : Int) ∧ s0 = .int .i64 (R i) ∧ wr.ownsMap Try.prog 3 (plainElem Try.prog 3) w.heap.size i D ∧ SeenIs D R i ∧ Below w.heap.size w wr ∧ (∀ u v, u < v → v < i → R u ≠ R v))
  case atStart => exact ⟨0, .map [], by omega, rfl, by rw [HR0.out], World.ownsMap_made _ _ _ _, SeenIs.start R, (Below.refl _ _).alloc (Nat.le_refl _) _, fun u v _ h => absurd h (by omega)⟩
  case round =>
    obtain ⟨i, D, hi, rfl, rfl, hown, hseen, hb, hdis⟩ := hrel
    have HOWN := Lib.hid hown
    have HSEEN := Lib.hid hseen
    have HB := Lib.hid hb
    have HDIS := Lib.hid hdis
    have HI := Lib.hid hi
    have i2001 : i ≤ 2001 := by omega
    have i00 : (0 : Int) ≤ (i : Int) := by omega
    obtain ⟨r0, r1⟩ := HB0.out i
    clear hown hseen hb hdis hi
    by_cases hex : ∃ u, u < i ∧ R u = R i
    · obtain ⟨u, hu, he⟩ := hex
      have HH := Lib.hid ((HSEEN.out.has (R i)).2 ⟨u, hu, he⟩)
      have hat := HSEEN.out.at_ u hu
      rw [he] at hat
      have HAT := Lib.hid (fun c (h : D.atKey (.int .i64 (R i)) (.lit (.int .i64 0)) = .lit (.int .i64 c)) => show c = (u : Int) from lit_inj (h.symm.trans hat))
      have HF := Lib.hid (HAG.out u (i - u) (by omega) (by rw [show u + (i - u) = i by omega]; exact he) (fun x y h1 h2 => HDIS.out x y h1 (by omega)))
      obtain ⟨t, ht⟩ : ∃ t, i - u = t := ⟨_, rfl⟩
      rw [ht] at HF
      have hut : (i : Int) - (u : Int) = (t : Int) := by omega
      obtain ⟨x, hx⟩ : ∃ x, R i = x := ⟨_, rfl⟩
      rw [hx] at r0 r1 HH HAT ⊢
      have hkw : (Lit.int .i64 x).wf = true := wf_small (by omega) (by omega)
      clear hat he ht hx hu
      go_wp2_with (at_lookup; refine wpList_lookup_own_ok_int _ rfl _ _ 106 rfl 3 3 .i64 law3 Try.underlying106 Try.underlying3 (zero3 _) w.heap.size i D rfl HOWN.out _ _ rfl (keyOf_int_mk Try.underlying3 hkw) ?_; intro c hat hwc; obtain rfl := HAT.out c hat; rw [HH.out]; clear hat hwc)
      go_ret2
      exact ⟨⟨u, t, rfl, HF.out⟩, HB.out⟩
    · have hno : Maps.has D (.int .i64 (R i)) = false := by
        cases h : Maps.has D (.int .i64 (R i)) with
        | false => rfl
        | true => exact absurd ((HSEEN.out.has (R i)).1 h) hex
      have HH := Lib.hid hno
      have hdis2 : ∀ u v, u < v → v < i + 1 → R u ≠ R v := fun u v h1 h2 => by
        by_cases h : v = i
        · subst h
          exact fun e => hex ⟨u, h1, e⟩
        · exact HDIS.out u v h1 (by omega)
      have hlt := HP.out (i + 1) hdis2
      have HDIS2 := Lib.hid hdis2
      have HSEEN2 := Lib.hid (HSEEN.out.put HOWN.out.isMap (fun u hu => hdis2 u i hu (by omega)))
      have HC := Lib.hid (HS.out i)
      simp only [HR.out] at HC
      have hn : i < maxLen := by unfold maxLen; omega
      obtain ⟨x, hx⟩ : ∃ x, R i = x := ⟨_, rfl⟩
      rw [hx] at r0 r1 HH HSEEN2 ⊢
      simp only [hx] at HC
      have hkw : (Lit.int .i64 x).wf = true := wf_small (by omega) (by omega)
      have hvw : (Lit.int .i64 (i : Int)).wf = true := wf_small (by omega) (by omega)
      have hown := HOWN.out
      clear hno hdis2 hex hx
      go_wp2_with (first | (at_lookup; refine wpList_lookup_own_ok_int _ rfl _ _ 106 rfl 3 3 .i64 law3 Try.underlying106 Try.underlying3 (zero3 _) w.heap.size i D rfl HOWN.out _ _ rfl (keyOf_int_mk Try.underlying3 hkw) ?_; intro c hat hwc; rw [HH.out]; clear hat hwc) | (at_mapUpdate; refine wpList_mapUpdate_own _ rfl _ _ _ 106 rfl 3 3 law3 Try.underlying106 _ w.heap.size i D rfl hown hn _ _ _ rfl rfl (keyOf_int_mk Try.underlying3 hkw) _ [] (plainElem_int Try.underlying3 hvw) ?_; intro w2 hown2 hgrow2))
      have HB2 := Lib.hid (HB.out.grown hgrow2 HB.out.size (fun q e => by have e' : w.heap.size = q := Option.some.inj e; omega))
      have HOWN2 := Lib.hid hown2
      clear hown hown2 hgrow2
      refine (HC.out _).mono ?_
      rintro e w3 ⟨rfl, z, rfl⟩
      go_wp2
      go_roundg (2000 - i)
      case rel => exact ⟨i + 1, _, by omega, by go_num, rfl, HOWN2.out, HSEEN2.out, below_drewN HB2.out z, HDIS2.out⟩
      case measure => have := HI.out; omega
end Go.Proofs.Ytjlaclbgfidiiaa
