/- The walks of multiples, order and times. Conditions: the curve is valid, the point is on it. -/
import Derived.Test.YtoepghlkjbpkfaaDoorOrd
namespace Go.Proofs.YtoepghlkjbpkfaaDoor
open Go.RowKit
attribute [local go_sem] Oper.semAt_some

theorem on_le {P A B : Int} {q : Pt} (hv : vB P A B = true) (hq : onB P A B q = true) : (0 ≤ q.x ∧ q.x ≤ 31) ∧ (0 ≤ q.y ∧ q.y ≤ 31) := by
  have := (vB_le hv).1
  rcases on_cases hq with rfl | ⟨-, h1, h2, -⟩
  · exact ⟨⟨by decide, by decide⟩, ⟨by decide, by decide⟩⟩
  · omega
theorem F3.set {g g' : Nat} {W : World} (h : F3 g W) (x y z : Value) : F3 g (((W.setCell ⟨g', 0, none⟩ x).setCell ⟨g', 1, none⟩ y).setCell ⟨g', 2, none⟩ z) := by
  obtain ⟨h0, h1, h2⟩ := h
  refine ⟨?_, ?_, ?_⟩ <;> (rw [World.frozen?_setCell, World.frozen?_setCell, World.frozen?_setCell]; assumption)
theorem far_lit (W : World) : RowP 34 W.heap.size (.slice (some ⟨W.heap.size, 0, none⟩) 1 1) [farP] (W.alloc (.cells #[.int .i64 0, .int .i64 0, .bool true] 34)) :=
  World.ownsRow_lit (base := W.heap.size) (e := 34) (size := 3) W #[.int .i64 0, .int .i64 0, .bool true] 1 (Nat.le_refl _) (by unfold maxLen; omega) rfl

set_option maxHeartbeats 8000000 in
set_option maxRecDepth 100000 in
theorem multiples_any (P A B : Int) (q : Pt) (n : Nat) (hv : vB P A B = true) (hq : onB P A B q = true) (ho : IsOrd P A q n) (hn : n ≤ 962) (w : World) (hF : Far w) :
    Calls Tryd.prog 85 #[.agg #[.int .i64 P, .int .i64 A, .int .i64 B], .agg #[.int .i64 q.x, .int .i64 q.y, .bool q.f]] w fun e w' => (∃ v', e = .returned v' ∧ RowP 34 w.heap.size v' (mulL P A q n) w') ∧ Below w.heap.size w w' := by
  have h := (vB_iff.1 hv).1
  obtain ⟨i0, hi, hz0, hz1, hz2⟩ := info_parts info34
  have HON := Lib.hid (fun k => mul_on h hq k)
  have HS := Lib.hid (fun r hr W hF => sum_any P A B r q hv hr hq W hF)
  have HO := Lib.hid ho
  have hb4 := below4 w (.cells #[.int .i64 P, .int .i64 A, .int .i64 B] 30) (.cells #[.int .i64 q.x, .int .i64 q.y, .bool q.f] 34) (.cells #[.int .i64 0, .int .i64 0, .bool true] 34) (.cells #[.int .i64 q.x, .int .i64 q.y, .bool q.f] 34)
  obtain ⟨W0, hW0⟩ : ∃ W0, (((w.alloc (.cells #[.int .i64 P, .int .i64 A, .int .i64 B] 30)).alloc (.cells #[.int .i64 q.x, .int .i64 q.y, .bool q.f] 34)).alloc (.cells #[.int .i64 0, .int .i64 0, .bool true] 34)).alloc (.cells #[.int .i64 q.x, .int .i64 q.y, .bool q.f] 34) = W0 := ⟨_, rfl⟩
  obtain ⟨hc, hd, he, hr4, hf4, hsz⟩ := blocks4 w _ _ _ _ _ _ _ _ _ _ _ _ _ _ _ _ W0 hW0.symm
  have hl := far_lit ((w.alloc (.cells #[.int .i64 P, .int .i64 A, .int .i64 B] 30)).alloc (.cells #[.int .i64 q.x, .int .i64 q.y, .bool q.f] 34))
  have s2 : ((w.alloc (.cells #[.int .i64 P, .int .i64 A, .int .i64 B] 30)).alloc (.cells #[.int .i64 q.x, .int .i64 q.y, .bool q.f] 34)).heap.size = w.heap.size + 1 + 1 := by simp
  rw [s2] at hl
  have hl2 := World.ownsRow.alloc (h := hl) (.cells #[.int .i64 q.x, .int .i64 q.y, .bool q.f] 34)
  rw [hW0] at hb4 hl2
  have HB := Lib.hid hb4
  have HC := Lib.hid hc
  have HD := Lib.hid hd
  have HR4 := Lib.hid hr4
  have HF4 := Lib.hid hf4
  have HZ := Lib.hid hsz
  have HL := Lib.hid (show RowP 34 (w.heap.size + 1 + 1) (.slice (some ⟨w.heap.size + 1 + 1, 0, none⟩) 1 1) (mulL P A q 1) W0 from hl2)
  have HF0 := Lib.hid hF
  obtain ⟨f0, f1, f2, f3⟩ := hF.below hb4
  obtain ⟨c0, c1, c2⟩ := hc
  obtain ⟨d0, d1, d2⟩ := hd
  have hm1 := mul_one P A q
  have HM1 := Lib.hid hm1
  have hw1 := hF
  obtain ⟨w0, w1, w2, w3⟩ := hw1
  clear h hv hq ho hb4 he hr4 hf4 hsz hl hl2 s2 hm1 hF
  go_enter Tryd.func85, Tryd.ntmps85
  go_wp2
  go_loopg [5, 6] (n - 1) (fun gk s5 s6 wr => ∃ k g : Nat, k + gk = n ∧ 1 ≤ k ∧ s6 = .pointer (some ⟨g, 0, none⟩) ∧ C3 g (.int .i64 (mulP P A q k).x) (.int .i64 (mulP P A q k).y) (.bool (mulP P A q k).f) wr ∧ F3 g wr ∧ RowP 34 (w.heap.size + 1 + 1) s5 (mulL P A q k) wr ∧ s5.ownBlock ≠ some g ∧ w.heap.size + 1 + 1 ≤ g ∧ Below (w.heap.size + 1 + 1) W0 wr)
  case atStart =>
    refine ⟨1, w.heap.size + 1 + 1 + 1, by have := HO.out.1; omega, by omega, rfl, ?_, HF4.out, HL.out, by simp [Value.ownBlock], by omega, Below.refl _ _⟩
    rw [HM1.out]
    exact HR4.out
  case round =>
    obtain ⟨k, g, hk, hk1, rfl, hC, hFz, hr, hne, hgB, hb⟩ := hrel
    have HK := Lib.hid (And.intro hk hk1)
    have HRR := Lib.hid hr
    have HNE := Lib.hid hne
    have HBB := Lib.hid hb
    have HGB := Lib.hid hgB
    have hbw : Below w.heap.size w wr := HB.out.trans (hb.mono (by omega))
    have HBW := Lib.hid hbw
    obtain ⟨⟨x, y, f⟩, hx⟩ : ∃ m, mulP P A q k = m := ⟨_, rfl⟩
    rw [hx] at hC
    simp only at hC
    have HX := Lib.hid hx
    have HCg := Lib.hid hC
    have HFg := Lib.hid hFz
    clear f0 f1 f2 f3 c0 c1 c2 d0 d1 d2
    obtain ⟨f0, f1, f2, f3⟩ := HF0.out.below hbw
    obtain ⟨y0, y1, y2⟩ := hC
    have hgl := HCg.out.lt
    have HGL := Lib.hid hgl
    have heq := fun W => neq34 W ⟨x, y, f⟩ ⟨0, 0, true⟩
    by_cases hkn : k = n
    · rw [decide_eq_true (show (⟨x, y, f⟩ : Pt) = ⟨0, 0, true⟩ by rw [← hx, hkn]; exact HO.out.2.1)] at heq
      simp only at heq
      have HF := Lib.hid (show RowP 34 w.heap.size u5 (mulL P A q n) wr by have := HRR.out; rw [hkn] at this; exact this.mono (by omega))
      clear hkn hk hk1 hr hb hbw hne hgB hFz hx hgl
      go_wp2
      go_ret
      exact ⟨⟨_, rfl, HF.out⟩, HBW.out⟩
    · have hklt : k < n := by omega
      rw [decide_eq_false (show ¬ (⟨x, y, f⟩ : Pt) = ⟨0, 0, true⟩ by rw [← hx]; exact HO.out.2.2 k hk1 hklt)] at heq
      simp only at heq
      have hr2 := hr
      unfold RowP at hr2
      rw [mulL_len] at hr2
      have hsz : w.heap.size + 1 + 1 ≤ wr.heap.size := by omega
      have HKL := Lib.hid hklt
      have hkb : k ≤ 962 := by omega
      clear hkn hk hk1 hr hb hbw hne hgB hFz hx hklt
      go_wp2_with (at_builtin; refine wpList_append_own _ rfl _ _ 26 rfl (w.heap.size + 1 + 1) 34 i0 (.agg #[.int .i64 0, .int .i64 0, .bool false]) 3 24 Tryd.underlying26 hi hz0 hz1 hz2 rfl (by decide) _ _ _ rfl (World.ownsRow.alloc (h := hr2) _) ⟨wr.heap.size, 0, none⟩ 1 1 (fl3 [⟨x, y, f⟩]) rfl rfl (by have := cell3_new wr ⟨x, y, f⟩ 34; simpa using this) (fl3_one _) (by unfold maxLen; omega) (by omega) (by simp; omega) ?_; intro v' w3 hown' hgrow hat; have hg3 : C3 g (.int .i64 x) (.int .i64 y) (.bool f) w3 := (HCg.out.later (below1 wr (.cells #[.int .i64 x, .int .i64 y, .bool f] 34))).heap (hgrow.block g (by simp; omega) (fun e => HNE.out e.symm)); obtain ⟨z0, z1, z2⟩ := hg3; have hb3 : Below (w.heap.size + 1 + 1) W0 w3 := (HBB.out.alloc hsz _).grown hgrow (by first | (simp; done) | (simp; omega)) (fun j e => (World.ownsRow.lt hr2 j e).1); have hs3 : w.heap.size + 1 + 1 ≤ w3.heap.size := (by have := hb3.size; have := HZ.out; omega); have hb5 := hb3.trans ((below1 w3 (.cells #[.int .i64 x, .int .i64 y, .bool f] 34)).mono hs3); obtain ⟨c0, c1, c2⟩ := HC.out.below (show w.heap.size < w.heap.size + 1 + 1 by omega) hb5; obtain ⟨d0, d1, d2⟩ := HD.out.below (show w.heap.size + 1 < w.heap.size + 1 + 1 by omega) hb5)
      have hb3 : Below (w.heap.size + 1 + 1) W0 w3 := (HBB.out.alloc hsz _).grown hgrow (by first | (simp; done) | (simp; omega)) (fun j e => (World.ownsRow.lt hr2 j e).1)
      have hs3 : w.heap.size + 1 + 1 ≤ w3.heap.size := by have := hb3.size; have := HZ.out; omega
      have hb5 := hb3.trans ((below1 w3 (.cells #[.int .i64 x, .int .i64 y, .bool f] 34)).mono hs3)
      have hbw5 : Below w.heap.size w (w3.alloc (.cells #[.int .i64 x, .int .i64 y, .bool f] 34)) := HB.out.trans (hb5.mono (by omega))
      have HX5 := Lib.hid (C3.new w3 (.int .i64 x) (.int .i64 y) (.bool f) 34)
      have HF5 := Lib.hid (F3.new w3 (.int .i64 x) (.int .i64 y) (.bool f) 34)
      have hrow : RowP 34 (w.heap.size + 1 + 1) v' (mulL P A q (k + 1)) (w3.alloc (.cells #[.int .i64 x, .int .i64 y, .bool f] 34)) := by
        unfold RowP
        rw [mulL_succ, HX.out, List.length_append, mulL_len, fl3_app]
        exact World.ownsRow.alloc (h := hown') _
      have HROW := Lib.hid hrow
      have HLT := Lib.hid (fun j e => (World.ownsRow.lt hown' j e).2)
      have HB5 := Lib.hid hb5
      have HBW5 := Lib.hid hbw5
      have HS3 := Lib.hid hs3
      have HSz5 := Lib.hid (show (w3.alloc (.cells #[.int .i64 x, .int .i64 y, .bool f] 34)).heap.size = w3.heap.size + 1 by simp)
      have HFar := Lib.hid (HF0.out.below hbw5)
      have hon : onB P A B ⟨x, y, f⟩ = true := by rw [← HX.out]; exact HON.out k
      have hsum : sumP P A ⟨x, y, f⟩ q = mulP P A q (k + 1) := by rw [← HX.out]; rfl
      have HSUM := Lib.hid (HS.out ⟨x, y, f⟩ hon _ (HF0.out.below hbw5))
      rw [hsum] at HSUM
      clear hown' hgrow hat hb3 hs3 hb5 hbw5 hrow hon hsum hr2 hsz
      refine HSUM.out.mono ?_
      rintro e w6 ⟨rfl, hb⟩
      have HC6 := Lib.hid (HX5.out.later hb)
      have HF6 := Lib.hid (HF5.out.below (by simp) hb)
      have HR6 := Lib.hid (HROW.out.later hb)
      have HB6 := Lib.hid (HB5.out.trans (hb.mono (by have := HSz5.out; have := HS3.out; omega)))
      clear c0 c1 c2 d0 d1 d2
      obtain ⟨k0, k1, k2⟩ := HC6.out
      obtain ⟨m0, m1, m2⟩ := HF6.out
      obtain ⟨⟨X, Y, G⟩, hm⟩ : ∃ m, mulP P A q (k + 1) = m := ⟨_, rfl⟩
      rw [hm]
      simp only
      have HM := Lib.hid hm
      clear hb hm
      go_wp2
      go_roundg (gk - 1)
      case rel =>
        refine ⟨k + 1, w3.heap.size, by have := HK.out; have := HKL.out; omega, by omega, rfl, ?_, HF6.out.set _ _ _, row_kept HR6.out fun j e => ?_, fun e => ?_, HS3.out, set3 HB6.out HS3.out _ _ _⟩
        · rw [HM.out]; exact HC6.out.set
        · exact heap_set3 _ _ _ _ _ j (by have := HLT.out j e; omega)
        · have := HLT.out _ e; omega
      case measure => have := HK.out; have := HKL.out; omega

set_option maxHeartbeats 4000000 in
theorem order_any (P A B : Int) (q : Pt) (n : Nat) (hv : vB P A B = true) (hq : onB P A B q = true) (ho : IsOrd P A q n) (hn : n ≤ 962) (w : World) (hF : Far w) :
    Calls Tryd.prog 64 #[.agg #[.int .i64 P, .int .i64 A, .int .i64 B], .agg #[.int .i64 q.x, .int .i64 q.y, .bool q.f]] w fun e w' => e = .returned (.int .i64 (n : Int)) ∧ Below w.heap.size w w' := by
  have HB := Lib.hid (below2 w (.cells #[.int .i64 P, .int .i64 A, .int .i64 B] 30) (.cells #[.int .i64 q.x, .int .i64 q.y, .bool q.f] 34))
  have HM := Lib.hid (fun W hF => multiples_any P A B q n hv hq ho hn W hF)
  have HF1 := Lib.hid (hF.below HB.out)
  clear hv hq ho hF
  go_enter Tryd.func64, Tryd.ntmps64
  go_wp2_with fail
  refine (HM.out _ HF1.out).mono ?_
  rintro e w1 ⟨⟨v', rfl, hr⟩, hb⟩
  have HB1 := Lib.hid (HB.out.trans (hb.mono HB.out.size))
  obtain ⟨a, c, rfl, h1, h2, -⟩ := AgP.of hr
  rw [mulL_len] at h1 ⊢
  clear hb hr
  go_wp2
  go_ret
  exact ⟨rfl, HB1.out⟩
end Go.Proofs.YtoepghlkjbpkfaaDoor
