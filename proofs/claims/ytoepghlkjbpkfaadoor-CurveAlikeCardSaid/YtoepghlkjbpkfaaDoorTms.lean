/- The walks of times, of the reference's Order and Times. Conditions: the curve is valid, the point is on it. -/
import Derived.Test.YtoepghlkjbpkfaaDoorMul
namespace Go.Proofs.YtoepghlkjbpkfaaDoor
open Go.RowKit
attribute [local go_sem] Oper.semAt_some

theorem blocks3 (w : World) (a1 a2 a3 b1 b2 b3 c1 c2 c3 : Value) (ta tb tc : TypeId) (W : World) (hW : W = ((w.alloc (.cells #[a1, a2, a3] ta)).alloc (.cells #[b1, b2, b3] tb)).alloc (.cells #[c1, c2, c3] tc)) :
    C3 w.heap.size a1 a2 a3 W ∧ C3 (w.heap.size + 1) b1 b2 b3 W ∧ C3 (w.heap.size + 1 + 1) c1 c2 c3 W ∧ F3 (w.heap.size + 1 + 1) W ∧ W.heap.size = w.heap.size + 3 := by
  subst hW
  obtain ⟨W1, h1⟩ : ∃ W1, w.alloc (.cells #[a1, a2, a3] ta) = W1 := ⟨_, rfl⟩
  have s1 : W1.heap.size = w.heap.size + 1 := by rw [← h1]; simp
  have k1 := C3.new w a1 a2 a3 ta
  rw [h1] at k1 ⊢
  obtain ⟨W2, h2⟩ : ∃ W2, W1.alloc (.cells #[b1, b2, b3] tb) = W2 := ⟨_, rfl⟩
  have s2 : W2.heap.size = w.heap.size + 1 + 1 := by rw [← h2]; simp [s1]
  have k2 := C3.new W1 b1 b2 b3 tb
  have k1b := k1.later (below1 W1 (.cells #[b1, b2, b3] tb))
  rw [h2] at k1b k2 ⊢
  have k3 := C3.new W2 c1 c2 c3 tc
  have f3 := F3.new W2 c1 c2 c3 tc
  rw [s1] at k2
  rw [s2] at k3 f3
  exact ⟨k1b.later (below1 W2 _), k2.later (below1 W2 _), k3, f3, by simp [s2]⟩

/-- k times a point, of order n -/
def tmP (P A : Int) (q : Pt) (n : Nat) (k : Int) : Pt := mulP P A q (k % (n : Int)).toNat
theorem idx_in {n : Nat} (hn : 1 ≤ n) (k : Int) : ∃ i : Nat, k % (n : Int) = i ∧ i < n := by
  have h1 := Int.emod_nonneg k (show (n : Int) ≠ 0 by omega)
  have h2 := Int.emod_lt_of_pos k (show 0 < (n : Int) by omega)
  exact ⟨(k % (n : Int)).toNat, by omega, by omega⟩
theorem nth_mulL {P A : Int} {q : Pt} {n i : Nat} (hi : i < n) : nth3 (mulL P A q n) i = mulP P A q i := by
  simp [nth3, List.getD, mulL, hi]

set_option maxHeartbeats 8000000 in
set_option maxRecDepth 100000 in
theorem times_any (P A B : Int) (q : Pt) (n : Nat) (k : Int) (hv : vB P A B = true) (hq : onB P A B q = true) (ho : IsOrd P A q n) (hn : n ≤ 962) (w : World) (hF : Far w) :
    Calls Tryd.prog 63 #[.agg #[.int .i64 P, .int .i64 A, .int .i64 B], .agg #[.int .i64 q.x, .int .i64 q.y, .bool q.f], .int .i64 k] w fun e w' => e = .returned (.agg #[.int .i64 (tmP P A q n k).x, .int .i64 (tmP P A q n k).y, .bool (tmP P A q n k).f]) ∧ Below w.heap.size w w' := by
  have hb3 := below3 w (.cells #[.int .i64 P, .int .i64 A, .int .i64 B] 30) (.cells #[.int .i64 q.x, .int .i64 q.y, .bool q.f] 34) (.cells #[.int .i64 0, .int .i64 0, .bool false] 34)
  obtain ⟨W0, hW0⟩ : ∃ W0, ((w.alloc (.cells #[.int .i64 P, .int .i64 A, .int .i64 B] 30)).alloc (.cells #[.int .i64 q.x, .int .i64 q.y, .bool q.f] 34)).alloc (.cells #[.int .i64 0, .int .i64 0, .bool false] 34) = W0 := ⟨_, rfl⟩
  obtain ⟨hc, hd, he, hf, hsz⟩ := blocks3 w _ _ _ _ _ _ _ _ _ _ _ _ W0 hW0.symm
  rw [hW0] at hb3
  have HB := Lib.hid hb3
  have HE := Lib.hid he
  have HFz := Lib.hid hf
  have HZ := Lib.hid hsz
  have HM := Lib.hid (fun W hF => multiples_any P A B q n hv hq ho hn W hF)
  have HF1 := Lib.hid (hF.below hb3)
  obtain ⟨i, hi, hin⟩ := idx_in ho.1 k
  have HR := Lib.hid (fun W => rest_any k (n : Int) (by have := ho.1; omega) (by omega) W)
  rw [hi] at HR
  have hT : tmP P A q n k = mulP P A q i := by unfold tmP; rw [hi]; rfl
  obtain ⟨⟨X, Y, G⟩, hm⟩ : ∃ m, mulP P A q i = m := ⟨_, rfl⟩
  rw [hT, hm]
  simp only
  have HMI := Lib.hid hm
  obtain ⟨c0, c1, c2⟩ := hc
  obtain ⟨d0, d1, d2⟩ := hd
  clear hv hq ho hF hb3 he hf hsz hi hT hm
  go_enter Tryd.func63, Tryd.ntmps63
  go_wp2_with fail
  try rw [hW0]
  refine (HM.out _ HF1.out).mono ?_
  rintro e w1 ⟨⟨v', rfl, hr⟩, hb⟩
  have HB1 := Lib.hid (HB.out.trans (hb.mono HB.out.size))
  obtain ⟨k0, k1, k2⟩ := HE.out.later hb
  obtain ⟨m0, m1, m2⟩ := HFz.out.below (by have := HZ.out; omega) hb
  obtain ⟨a, c, rfl, h1, h2, hag⟩ := AgP.of hr
  rw [mulL_len] at h1 hag ⊢
  obtain ⟨b, o, rfl, -, hcc⟩ := hag.pos (by omega)
  obtain ⟨t0, t1, t2⟩ := hcc i hin
  rw [nth_mulL hin, HMI.out] at t0 t1 t2
  simp only at t0 t1 t2
  have l1 : (i : Int) < (n : Int) := by omega
  have l0 : (0 : Int) ≤ (i : Int) := by omega
  clear hb hr hag hcc c0 c1 c2 d0 d1 d2
  go_wp2_with fail
  refine (HR.out _).mono ?_
  rintro e w2 ⟨rfl, hw⟩
  rw [hw]
  clear hw w2
  go_wp2
  exact bodyPost_ret (v := .agg #[.int .i64 X, .int .i64 Y, .bool G]) (by simp [results, Tryd.results63, go_sem, k0, k1, k2]) rfl ⟨rfl, set3 HB1.out (by omega) _ _ _⟩

set_option maxHeartbeats 8000000 in
set_option maxRecDepth 100000 in
theorem orderR_any (P A B : Int) (q : Pt) (n : Nat) (hv : vB P A B = true) (hq : onB P A B q = true) (ho : IsOrd P A q n) (hn : n ≤ 962) (w : World) :
    Calls Tryd.prog 34 #[.agg #[.int .i64 P, .int .i64 A, .int .i64 B], .agg #[.int .i64 q.x, .int .i64 q.y, .bool q.f]] w fun e w' => e = .returned (.int .i64 (n : Int)) ∧ Below w.heap.size w w' := by
  have h := (vB_iff.1 hv).1
  have HON := Lib.hid (fun k => mul_on h hq k)
  have HS := Lib.hid (fun r hr W => addR_any P A B r q hv hr hq W)
  have HO := Lib.hid ho
  have hb3 := below3 w (.cells #[.int .i64 P, .int .i64 A, .int .i64 B] 23) (.cells #[.int .i64 q.x, .int .i64 q.y, .bool q.f] 25) (.cells #[.int .i64 q.x, .int .i64 q.y, .bool q.f] 25)
  obtain ⟨W0, hW0⟩ : ∃ W0, ((w.alloc (.cells #[.int .i64 P, .int .i64 A, .int .i64 B] 23)).alloc (.cells #[.int .i64 q.x, .int .i64 q.y, .bool q.f] 25)).alloc (.cells #[.int .i64 q.x, .int .i64 q.y, .bool q.f] 25) = W0 := ⟨_, rfl⟩
  obtain ⟨hc, hd, he, hf, hsz⟩ := blocks3 w _ _ _ _ _ _ _ _ _ _ _ _ W0 hW0.symm
  rw [hW0] at hb3
  have HB := Lib.hid hb3
  have HC := Lib.hid hc
  have HD := Lib.hid hd
  have HE := Lib.hid he
  have HFz := Lib.hid hf
  have HZ := Lib.hid hsz
  have HM1 := Lib.hid (mul_one P A q)
  obtain ⟨c0, c1, c2⟩ := hc
  obtain ⟨d0, d1, d2⟩ := hd
  clear h hv hq ho hb3 he hf hsz
  go_enter Tryd.func34, Tryd.ntmps34
  go_wp2
  try rw [hW0]
  go_loopg [5, 6] (n - 1) (fun gk s5 s6 wr => ∃ k g : Nat, k + gk = n ∧ 1 ≤ k ∧ s5 = .int .i64 (k : Int) ∧ s6 = .pointer (some ⟨g, 0, none⟩) ∧ C3 g (.int .i64 (mulP P A q k).x) (.int .i64 (mulP P A q k).y) (.bool (mulP P A q k).f) wr ∧ F3 g wr ∧ w.heap.size + 1 + 1 ≤ g ∧ Below (w.heap.size + 1 + 1) W0 wr)
  case atStart =>
    refine ⟨1, w.heap.size + 1 + 1, by have := HO.out.1; omega, by omega, rfl, rfl, ?_, HFz.out, by omega, Below.refl _ _⟩
    rw [HM1.out]
    exact HE.out
  case round =>
    obtain ⟨k, g, hk, hk1, rfl, rfl, hC, hFz, hgB, hb⟩ := hrel
    have HK := Lib.hid (And.intro hk hk1)
    have HBB := Lib.hid hb
    have HGB := Lib.hid hgB
    have HBW := Lib.hid (HB.out.trans (hb.mono (by omega)))
    have HOk := Lib.hid (HON.out k)
    obtain ⟨⟨x, y, f⟩, hx⟩ : ∃ m, mulP P A q k = m := ⟨_, rfl⟩
    rw [hx] at hC HOk
    simp only at hC
    have HX := Lib.hid hx
    have HCg := Lib.hid hC
    have HFg := Lib.hid hFz
    have HGL := Lib.hid hC.lt
    clear c0 c1 c2 d0 d1 d2
    obtain ⟨c0, c1, c2⟩ := HC.out.below (show w.heap.size < w.heap.size + 1 + 1 by omega) hb
    obtain ⟨d0, d1, d2⟩ := HD.out.below (show w.heap.size + 1 < w.heap.size + 1 + 1 by omega) hb
    obtain ⟨y0, y1, y2⟩ := hC
    by_cases hkn : k = n
    · have hf : f = true := by
        have e : (⟨x, y, f⟩ : Pt) = farP := by rw [← hx, hkn]; exact HO.out.2.1
        exact congrArg Pt.f e
      subst hf
      have HKN := Lib.hid hkn
      clear hkn hk hk1 hb hgB hFz hx
      go_wp2
      go_ret
      exact ⟨ret_int (by rw [HKN.out]), HBW.out⟩
    · have hklt : k < n := by omega
      have hf : f = false := by
        have e : ¬ (⟨x, y, f⟩ : Pt) = farP := by rw [← hx]; exact HO.out.2.2 k hk1 hklt
        exact ((on_cases HOk.out).resolve_left e).1
      subst hf
      have hkb : k ≤ 962 := by omega
      have hsum : sumP P A ⟨x, y, false⟩ q = mulP P A q (k + 1) := by rw [← HX.out]; rfl
      have HSUM := Lib.hid (fun W => HS.out ⟨x, y, false⟩ HOk.out W)
      rw [hsum] at HSUM
      have HKL := Lib.hid hklt
      clear hkn hk hk1 hb hgB hFz hx hklt hsum
      go_wp2_with fail
      refine (HSUM.out _).mono ?_
      rintro e w6 ⟨rfl, hb⟩
      have HC6 := Lib.hid (HCg.out.later hb)
      have HF6 := Lib.hid (HFg.out.below HGL.out hb)
      have HB6 := Lib.hid (HBB.out.trans (hb.mono (by have := HBB.out.size; have := HZ.out; omega)))
      have HS6 := Lib.hid (show w.heap.size + 1 + 1 ≤ w6.heap.size by have := HB6.out.size; have := HZ.out; omega)
      clear y0 y1 y2
      obtain ⟨k0, k1, k2⟩ := HC6.out
      obtain ⟨m0, m1, m2⟩ := HF6.out
      obtain ⟨⟨X, Y, G⟩, hm⟩ : ∃ m, mulP P A q (k + 1) = m := ⟨_, rfl⟩
      rw [hm]
      simp only
      have HM := Lib.hid hm
      clear hb hm c0 c1 c2 d0 d1 d2
      go_wp2
      go_roundg (gk - 1)
      case rel =>
        refine ⟨k + 1, w6.heap.size, by have := HK.out; have := HKL.out; omega, by omega, by go_num, by first | rfl | simp, ?_, ?_, HS6.out, ?_⟩
        · rw [HM.out]
          have e := C3.new (((w6.setCell ⟨g, 0, none⟩ (.int .i64 X)).setCell ⟨g, 1, none⟩ (.int .i64 Y)).setCell ⟨g, 2, none⟩ (.bool G)) (.int .i64 X) (.int .i64 Y) (.bool G) 25
          simpa using e
        · have e := F3.new (((w6.setCell ⟨g, 0, none⟩ (.int .i64 X)).setCell ⟨g, 1, none⟩ (.int .i64 Y)).setCell ⟨g, 2, none⟩ (.bool G)) (.int .i64 X) (.int .i64 Y) (.bool G) 25
          simpa using e
        · exact (set3 HB6.out HGB.out _ _ _).alloc (by have := HS6.out; simp; omega) _
      case measure => have := HK.out; have := HKL.out; omega

set_option maxHeartbeats 8000000 in
set_option maxRecDepth 100000 in
theorem timesR_any (P A B : Int) (q : Pt) (n : Nat) (k : Int) (hv : vB P A B = true) (hq : onB P A B q = true) (ho : IsOrd P A q n) (hn : n ≤ 962) (w : World) :
    Calls Tryd.prog 33 #[.agg #[.int .i64 P, .int .i64 A, .int .i64 B], .agg #[.int .i64 q.x, .int .i64 q.y, .bool q.f], .int .i64 k] w fun e w' => e = .returned (.agg #[.int .i64 (tmP P A q n k).x, .int .i64 (tmP P A q n k).y, .bool (tmP P A q n k).f]) ∧ Below w.heap.size w w' := by
  have h := (vB_iff.1 hv).1
  have HON := Lib.hid (fun k => mul_on h hq k)
  have HS := Lib.hid (fun r hr W => addR_any P A B r q hv hr hq W)
  have hb3 := below3 w (.cells #[.int .i64 P, .int .i64 A, .int .i64 B] 23) (.cells #[.int .i64 q.x, .int .i64 q.y, .bool q.f] 25) (.cells #[.int .i64 0, .int .i64 0, .bool false] 25)
  obtain ⟨W0, hW0⟩ : ∃ W0, ((w.alloc (.cells #[.int .i64 P, .int .i64 A, .int .i64 B] 23)).alloc (.cells #[.int .i64 q.x, .int .i64 q.y, .bool q.f] 25)).alloc (.cells #[.int .i64 0, .int .i64 0, .bool false] 25) = W0 := ⟨_, rfl⟩
  obtain ⟨hc, hd, he, hf, hsz⟩ := blocks3 w _ _ _ _ _ _ _ _ _ _ _ _ W0 hW0.symm
  rw [hW0] at hb3
  have HB := Lib.hid hb3
  have HC := Lib.hid hc
  have HD := Lib.hid hd
  have HE := Lib.hid he
  have HFz := Lib.hid hf
  have HZ := Lib.hid hsz
  have HOR := Lib.hid (fun W => orderR_any P A B q n hv hq ho hn W)
  obtain ⟨i, hi, hin⟩ := idx_in ho.1 k
  have HR := Lib.hid (fun W => mod_any k (n : Int) (by have := ho.1; omega) (by omega) W)
  rw [hi] at HR
  have hT : tmP P A q n k = mulP P A q i := by unfold tmP; rw [hi]; rfl
  obtain ⟨⟨X, Y, G⟩, hm⟩ : ∃ m, mulP P A q i = m := ⟨_, rfl⟩
  rw [hT, hm]
  simp only
  have HMI := Lib.hid hm
  obtain ⟨c0, c1, c2⟩ := hc
  obtain ⟨d0, d1, d2⟩ := hd
  clear h hv hq ho hb3 he hf hsz hi hT hm
  go_enter Tryd.func33, Tryd.ntmps33
  go_wp2_with fail
  try rw [hW0]
  refine (farR_any _).mono ?_
  rintro e w1 ⟨rfl, hb⟩
  have hs1 : w.heap.size + 1 + 1 + 1 ≤ w1.heap.size := by have := hb.size; have := HZ.out; omega
  have HS1 := Lib.hid hs1
  have hbx := below1 w1 (.cells #[.int .i64 0, .int .i64 0, .bool true] 25)
  have hbb := hb.trans (hbx.mono hb.size)
  have hz3 : W0.heap.size = w.heap.size + 1 + 1 + 1 := by have := HZ.out; omega
  rw [hz3] at hbb
  have HB1 := Lib.hid hbb
  have HG := Lib.hid (C3.new w1 (.int .i64 0) (.int .i64 0) (.bool true) 25)
  have HGF := Lib.hid (F3.new w1 (.int .i64 0) (.int .i64 0) (.bool true) 25)
  obtain ⟨W1, hW1⟩ : ∃ W1, w1.alloc (.cells #[.int .i64 0, .int .i64 0, .bool true] 25) = W1 := ⟨_, rfl⟩
  have HSW := Lib.hid (show W1.heap.size = w1.heap.size + 1 by rw [← hW1]; simp)
  clear c0 c1 c2 d0 d1 d2 hb hbx
  rw [hW1] at hbb HB1 HG HGF
  obtain ⟨c0, c1, c2⟩ := HC.out.below (show w.heap.size < w.heap.size + 1 + 1 + 1 by omega) hbb
  obtain ⟨d0, d1, d2⟩ := HD.out.below (show w.heap.size + 1 < w.heap.size + 1 + 1 + 1 by omega) hbb
  obtain ⟨g, hg⟩ : ∃ g, w1.heap.size = g := ⟨_, rfl⟩
  have HGE := Lib.hid (show w.heap.size + 1 + 1 + 1 ≤ g by rw [← hg]; exact hs1)
  rw [hg] at HG HGF HSW
  clear hbb hs1 hz3
  go_wp2_with fail
  try rw [hW1]
  try rw [hg]
  refine (HOR.out _).mono ?_
  rintro e w2 ⟨rfl, hb⟩
  have hs2 : w.heap.size + 1 + 1 + 1 ≤ W1.heap.size := by have := HSW.out; have := HGE.out; omega
  have HB2 := Lib.hid (HB1.out.trans (hb.mono hs2))
  have HG2 := Lib.hid (HG.out.later hb)
  have HGF2 := Lib.hid (HGF.out.below (by have := HSW.out; omega) hb)
  have HGL := Lib.hid (HG.out.later hb).lt
  clear c0 c1 c2 d0 d1 d2 hb hs2 hW1 hg
  go_wp2_with fail
  refine (HR.out _).mono ?_
  rintro e w3 ⟨rfl, hw⟩
  rw [hw]
  clear hw w3
  go_wp2
  go_loopg [14] i (fun gk s14 wr => ∃ j : Nat, j + gk = i ∧ s14 = .int .i64 (j : Int) ∧ C3 g (.int .i64 (mulP P A q j).x) (.int .i64 (mulP P A q j).y) (.bool (mulP P A q j).f) wr ∧ F3 g wr ∧ Below (w.heap.size + 1 + 1 + 1) W0 wr)
  case atStart => exact ⟨0, by omega, rfl, HG2.out, HGF2.out, HB2.out⟩
  case round =>
    obtain ⟨j, hj, rfl, hC, hFj, hb⟩ := hrel
    have HJ := Lib.hid hj
    have HBB := Lib.hid hb
    have HOk := Lib.hid (HON.out j)
    obtain ⟨⟨x, y, f⟩, hx⟩ : ∃ m, mulP P A q j = m := ⟨_, rfl⟩
    rw [hx] at hC HOk
    simp only at hC
    have HX := Lib.hid hx
    have HCg := Lib.hid hC
    have HFg := Lib.hid hFj
    have HGLj := Lib.hid hC.lt
    obtain ⟨c0, c1, c2⟩ := HC.out.below (show w.heap.size < w.heap.size + 1 + 1 + 1 by omega) hb
    obtain ⟨d0, d1, d2⟩ := HD.out.below (show w.heap.size + 1 < w.heap.size + 1 + 1 + 1 by omega) hb
    obtain ⟨y0, y1, y2⟩ := hC
    by_cases hlt : j < i
    · have l1 : (j : Int) < (i : Int) := by omega
      have hkb : i ≤ 962 := by omega
      have hsum : sumP P A ⟨x, y, f⟩ q = mulP P A q (j + 1) := by rw [← HX.out]; rfl
      have HSUM := Lib.hid (fun W => HS.out ⟨x, y, f⟩ HOk.out W)
      rw [hsum] at HSUM
      clear hj hb hFj hx hsum
      go_wp2_with fail
      refine (HSUM.out _).mono ?_
      rintro e w6 ⟨rfl, hb⟩
      have HC6 := Lib.hid (HCg.out.later hb)
      have HF6 := Lib.hid (HFg.out.below HGLj.out hb)
      have HB6 := Lib.hid (HBB.out.trans (hb.mono (by have := HBB.out.size; have := HZ.out; omega)))
      clear y0 y1 y2
      obtain ⟨k0, k1, k2⟩ := HC6.out
      obtain ⟨m0, m1, m2⟩ := HF6.out
      obtain ⟨⟨X', Y', G'⟩, hm⟩ : ∃ m, mulP P A q (j + 1) = m := ⟨_, rfl⟩
      rw [hm]
      simp only
      have HM := Lib.hid hm
      clear hb hm c0 c1 c2 d0 d1 d2
      go_wp2
      go_roundg (gk - 1)
      case rel =>
        refine ⟨j + 1, by have := HJ.out; omega, by go_num, ?_, HF6.out.set _ _ _, set3 HB6.out HGE.out _ _ _⟩
        rw [HM.out]
        exact HC6.out.set
      case measure => have := HJ.out; omega
    · have l1 : ¬ (j : Int) < (i : Int) := by omega
      have hji : j = i := by omega
      have hxx := HMI.out
      rw [← hji, hx] at hxx
      simp only [Pt.mk.injEq] at hxx
      obtain ⟨rfl, rfl, rfl⟩ := hxx
      obtain ⟨k0, k1, k2⟩ := HE.out.below (show w.heap.size + 1 + 1 < w.heap.size + 1 + 1 + 1 by omega) hb
      obtain ⟨m0, m1, m2⟩ := HFz.out.below (show w.heap.size + 1 + 1 < w.heap.size + 1 + 1 + 1 by omega) hb
      have HBW := Lib.hid (HB.out.trans (hb.mono (by omega)))
      clear hj hb hji hx hFj
      go_wp2
      exact bodyPost_ret (v := .agg #[.int .i64 x, .int .i64 y, .bool f]) (by simp [results, Tryd.results33, go_sem, k0, k1, k2]) rfl ⟨rfl, set3 HBW.out (by omega) _ _ _⟩
end Go.Proofs.YtoepghlkjbpkfaaDoor
