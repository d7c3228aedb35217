/- The walks of Add, Times, Order and fine. Conditions as stated in each theorem. -/
import Derived.Test.YtoepghlkjbpkfaaDoorTms
import Derived.Test.YtoepghlkjbpkfaaDoorAsk
import Derived.Test.YtoepghlkjbpkfaaDoorAlk
namespace Go.Proofs.YtoepghlkjbpkfaaDoor
open Go.RowKit
attribute [local go_sem] Oper.semAt_some

theorem agp_one (W : World) (q : Pt) (t : TypeId) : AgP (W.alloc (.cells #[.int .i64 q.x, .int .i64 q.y, .bool q.f] t)) (some ⟨W.heap.size, 0, none⟩) 1 [q] := by
  refine ⟨rfl, .inr ⟨W.heap.size, 0, rfl, by simp, fun j hj => ?_⟩⟩
  obtain rfl : j = 0 := by omega
  exact cell_three W (.int .i64 q.x) (.int .i64 q.y) (.bool q.f) t
theorem agp_two (W : World) (q r : Pt) (t : TypeId) : AgP (W.alloc (.cells #[.int .i64 q.x, .int .i64 q.y, .bool q.f, .int .i64 r.x, .int .i64 r.y, .bool r.f] t)) (some ⟨W.heap.size, 0, none⟩) 2 [q, r] := by
  refine ⟨rfl, .inr ⟨W.heap.size, 0, rfl, by simp, fun j hj => ?_⟩⟩
  have hl := heap_alloc_last W (.cells #[.int .i64 q.x, .int .i64 q.y, .bool q.f, .int .i64 r.x, .int .i64 r.y, .bool r.f] t)
  have : j = 0 ∨ j = 1 := by omega
  rcases this with rfl | rfl
  · refine ⟨?_, ?_, ?_⟩ <;> (unfold World.cell?; rw [show W.heap.size = W.heap.size from rfl]; simp only [hl]; rfl)
  · refine ⟨?_, ?_, ?_⟩ <;> (unfold World.cell?; simp only [hl]; rfl)

set_option maxHeartbeats 8000000 in
set_option maxRecDepth 100000 in
theorem fine_any (P A B : Int) (a : Option Addr) (n c : Nat) (S : List Pt) (w : World) (h : AgP w a n S) (hn : n ≤ 100) :
    Calls Tryd.prog 30 #[.agg #[.int .i64 P, .int .i64 A, .int .i64 B], .slice a n c] w fun e w' => e = .returned (.bool (vB P A B && S.all (onB P A B))) ∧ Below w.heap.size w w' := by
  have HB := Lib.hid (below1 w (.cells #[.int .i64 P, .int .i64 A, .int .i64 B] 23))
  have HX := Lib.hid (fun W => validR_any P A B W)
  have HSL := Lib.hid h.1
  cases hv : vB P A B
  · rw [hv] at HX
    clear hv h
    go_enter Tryd.func30, Tryd.ntmps30
    go_wp2_with fail
    refine (HX.out _).mono ?_
    rintro e w1 ⟨rfl, hb⟩
    have HB1 := Lib.hid (HB.out.trans (hb.mono HB.out.size))
    clear hb
    go_wp2
    go_ret
    exact ⟨ret_bool rfl, HB1.out⟩
  · rw [hv] at HX
    obtain ⟨h1, h2, h3⟩ := vB_le hv
    have HH := Lib.hid (fun q W => onR_any P A B q h1 h2 h3 W)
    have HAg := Lib.hid h
    have HC := Lib.hid (C3.new w (.int .i64 P) (.int .i64 A) (.int .i64 B) 23)
    clear h hv h1 h2 h3
    go_enter Tryd.func30, Tryd.ntmps30
    go_wp2_with fail
    refine (HX.out _).mono ?_
    rintro e w1 ⟨rfl, hb⟩
    have HB1 := Lib.hid (HB.out.trans (hb.mono HB.out.size))
    have HC1 := Lib.hid (HC.out.later hb)
    clear hb
    go_wp2
    go_loopg [6, 12] n (fun gk s6 s12 wr => ∃ k : Nat, k + gk = n ∧ s12 = .int .i64 (k : Int) ∧ RowKit.Hid (∀ j, j < k → onB P A B (nth3 S j) = true) ∧ C3 w.heap.size (.int .i64 P) (.int .i64 A) (.int .i64 B) wr ∧ Below w.heap.size w wr)
    case atStart => exact ⟨0, by omega, rfl, Lib.hid (fun j hj => by omega), HC1.out, HB1.out⟩
    case round =>
      obtain ⟨k, hk, rfl, HP, hC, hb⟩ := hrel
      have HK := Lib.hid hk
      have HBB := Lib.hid hb
      have HCC := Lib.hid hC
      obtain ⟨q0, q1, q2⟩ := hC
      by_cases hlt : k < n
      · have l1 : (k : Int) < (n : Int) := by omega
        have l0 : (0 : Int) ≤ (k : Int) := by omega
        obtain ⟨b, o, rfl, -, hcc⟩ := (HAg.out.later hb).pos (by omega)
        obtain ⟨t0, t1, t2⟩ := hcc k hlt
        obtain ⟨⟨x, y, f⟩, hx⟩ : ∃ x, nth3 S k = x := ⟨_, rfl⟩
        rw [hx] at t0 t1 t2
        simp only at t0 t1 t2
        have HO := Lib.hid (fun W => HH.out ⟨x, y, f⟩ W)
        have HB2 := Lib.hid (hb.trans ((below1 wr (.cells #[.int .i64 x, .int .i64 y, .bool f] 25)).mono hb.size))
        have HC2 := Lib.hid (HCC.out.later (below1 wr (.cells #[.int .i64 x, .int .i64 y, .bool f] 25)))
        have hql := HCC.out.lt
        obtain ⟨v, hv⟩ : ∃ v, onB P A B ⟨x, y, f⟩ = v := ⟨_, rfl⟩
        rw [hv] at HO
        have HV := Lib.hid (And.intro hx hv)
        clear hx hv hcc hb hk
        go_wp2_with fail
        refine (HO.out _).mono ?_
        rintro e w2 ⟨rfl, hb⟩
        have HB3 := Lib.hid (HB2.out.trans (hb.mono HB2.out.size))
        have HC3 := Lib.hid (HC2.out.later hb)
        clear hb
        cases v
        · have HF := Lib.hid (all_false (S := S) (P := P) (A := A) (B := B) (k := k) (by rw [HSL.out]; exact hlt) (by rw [HV.out.1, HV.out.2]))
          go_wp2
          go_ret
          exact ⟨ret_bool (by rw [HF.out]; rfl), HB3.out⟩
        · have HP2 := Lib.hid (show ∀ j, j < k + 1 → onB P A B (nth3 S j) = true from fun j hj => by
            by_cases hjk : j = k
            · subst hjk; rw [HV.out.1, HV.out.2]
            · exact HP.out j (by omega))
          go_wp2
          go_roundg (gk - 1)
          case rel => exact ⟨k + 1, by have := HK.out; omega, by go_num, HP2, HC3.out, HB3.out⟩
          case measure => have := HK.out; omega
      · have l1 : ¬ (k : Int) < (n : Int) := by omega
        have HF := Lib.hid (all_true (S := S) (P := P) (A := A) (B := B) fun j hj => HP.out j (by rw [HSL.out] at hj; omega))
        clear hk hb
        go_wp2
        go_ret
        exact ⟨ret_bool (by simp [HF.out]), HBB.out⟩

set_option maxHeartbeats 8000000 in
set_option maxRecDepth 100000 in
theorem Order_no (P A B : Int) (q : Pt) (hv : (vB P A B && onB P A B q) = false) (w : World) (hF : Far w) :
    Calls Tryd.prog 29 #[.agg #[.int .i64 P, .int .i64 A, .int .i64 B], .agg #[.int .i64 q.x, .int .i64 q.y, .bool q.f]] w fun e w' => e = .returned (.tuple #[.int .i64 0, .int .i64 2]) ∧ Below w.heap.size w w' := by
  have hb3 := below3 w (.cells #[.int .i64 P, .int .i64 A, .int .i64 B] 30) (.cells #[.int .i64 q.x, .int .i64 q.y, .bool q.f] 34) (.cells #[.int .i64 q.x, .int .i64 q.y, .bool q.f] 34)
  have HB := Lib.hid hb3
  have hag := agp_one ((w.alloc (.cells #[.int .i64 P, .int .i64 A, .int .i64 B] 30)).alloc (.cells #[.int .i64 q.x, .int .i64 q.y, .bool q.f] 34)) q 34
  rw [show ((w.alloc (.cells #[.int .i64 P, .int .i64 A, .int .i64 B] 30)).alloc (.cells #[.int .i64 q.x, .int .i64 q.y, .bool q.f] 34)).heap.size = w.heap.size + 1 + 1 by simp] at hag
  have hV := valid_any P A B (some ⟨w.heap.size + 1 + 1, 0, none⟩) 1 1 [q] _ hag (by omega) (hF.below hb3)
  rw [show (vB P A B && [q].all (onB P A B)) = false by simpa using hv] at hV
  have HV := Lib.hid hV
  clear hv hF hb3 hag hV
  go_enter Tryd.func29, Tryd.ntmps29
  go_wp2_with fail
  refine (HV.out).mono ?_
  rintro e w1 ⟨rfl, hb⟩
  have HB1 := Lib.hid (HB.out.trans (hb.mono HB.out.size))
  clear hb
  go_wp2
  go_ret2
  exact ⟨rfl, HB1.out⟩

set_option maxHeartbeats 8000000 in
set_option maxRecDepth 100000 in
theorem Order_yes (P A B : Int) (q : Pt) (n : Nat) (hv : vB P A B = true) (hq : onB P A B q = true) (ho : IsOrd P A q n) (hn : n ≤ 962) (w : World) (hF : Far w) :
    Calls Tryd.prog 29 #[.agg #[.int .i64 P, .int .i64 A, .int .i64 B], .agg #[.int .i64 q.x, .int .i64 q.y, .bool q.f]] w fun e w' => e = .returned (.tuple #[.int .i64 (n : Int), .int .i64 0]) ∧ Below w.heap.size w w' := by
  have hb3 := below3 w (.cells #[.int .i64 P, .int .i64 A, .int .i64 B] 30) (.cells #[.int .i64 q.x, .int .i64 q.y, .bool q.f] 34) (.cells #[.int .i64 q.x, .int .i64 q.y, .bool q.f] 34)
  obtain ⟨hc, hd, -, -, -⟩ := blocks3 w _ _ _ _ _ _ _ _ _ _ _ _ _ (rfl : ((w.alloc (.cells #[.int .i64 P, .int .i64 A, .int .i64 B] 30)).alloc (.cells #[.int .i64 q.x, .int .i64 q.y, .bool q.f] 34)).alloc (.cells #[.int .i64 q.x, .int .i64 q.y, .bool q.f] 34) = _)
  have HB := Lib.hid hb3
  have HC := Lib.hid hc
  have HD := Lib.hid hd
  have hag := agp_one ((w.alloc (.cells #[.int .i64 P, .int .i64 A, .int .i64 B] 30)).alloc (.cells #[.int .i64 q.x, .int .i64 q.y, .bool q.f] 34)) q 34
  rw [show ((w.alloc (.cells #[.int .i64 P, .int .i64 A, .int .i64 B] 30)).alloc (.cells #[.int .i64 q.x, .int .i64 q.y, .bool q.f] 34)).heap.size = w.heap.size + 1 + 1 by simp] at hag
  have hV := valid_any P A B (some ⟨w.heap.size + 1 + 1, 0, none⟩) 1 1 [q] _ hag (by omega) (hF.below hb3)
  rw [show (vB P A B && [q].all (onB P A B)) = true by simp [hv, hq]] at hV
  have HV := Lib.hid hV
  have HF1 := Lib.hid (hF.below hb3)
  have HO := Lib.hid (fun W hF => order_any P A B q n hv hq ho hn W hF)
  clear hv hq ho hF hb3 hag hV hc hd
  go_enter Tryd.func29, Tryd.ntmps29
  go_wp2_with fail
  refine (HV.out).mono ?_
  rintro e w1 ⟨rfl, hb⟩
  have HB1 := Lib.hid (HB.out.trans (hb.mono HB.out.size))
  have HF2 := Lib.hid (HF1.out.below hb)
  obtain ⟨c0, c1, c2⟩ := HC.out.later hb
  obtain ⟨d0, d1, d2⟩ := HD.out.later hb
  clear hb
  go_wp2_with fail
  refine (HO.out _ HF2.out).mono ?_
  rintro e w2 ⟨rfl, hb⟩
  have HB2 := Lib.hid (HB1.out.trans (hb.mono HB1.out.size))
  clear hb
  go_wp2
  go_ret2
  exact ⟨rfl, HB2.out⟩
set_option maxHeartbeats 8000000 in
set_option maxRecDepth 100000 in
theorem Times_no (P A B : Int) (q : Pt) (k : Int) (hv : (vB P A B && onB P A B q) = false) (w : World) (hF : Far w) :
    Calls Tryd.prog 28 #[.agg #[.int .i64 P, .int .i64 A, .int .i64 B], .agg #[.int .i64 q.x, .int .i64 q.y, .bool q.f], .int .i64 k] w fun e w' => e = .returned (.tuple #[.agg #[.int .i64 0, .int .i64 0, .bool false], .int .i64 2]) ∧ Below w.heap.size w w' := by
  have hb4 := below4 w (.cells #[.int .i64 P, .int .i64 A, .int .i64 B] 30) (.cells #[.int .i64 q.x, .int .i64 q.y, .bool q.f] 34) (.cells #[.int .i64 0, .int .i64 0, .bool false] 34) (.cells #[.int .i64 q.x, .int .i64 q.y, .bool q.f] 34)
  have hag := agp_one (((w.alloc (.cells #[.int .i64 P, .int .i64 A, .int .i64 B] 30)).alloc (.cells #[.int .i64 q.x, .int .i64 q.y, .bool q.f] 34)).alloc (.cells #[.int .i64 0, .int .i64 0, .bool false] 34)) q 34
  rw [show (((w.alloc (.cells #[.int .i64 P, .int .i64 A, .int .i64 B] 30)).alloc (.cells #[.int .i64 q.x, .int .i64 q.y, .bool q.f] 34)).alloc (.cells #[.int .i64 0, .int .i64 0, .bool false] 34)).heap.size = w.heap.size + 1 + 1 + 1 by simp] at hag
  have hV := valid_any P A B (some ⟨w.heap.size + 1 + 1 + 1, 0, none⟩) 1 1 [q] _ hag (by omega) (hF.below hb4)
  obtain ⟨W0, hW0⟩ : ∃ W0, (((w.alloc (.cells #[.int .i64 P, .int .i64 A, .int .i64 B] 30)).alloc (.cells #[.int .i64 q.x, .int .i64 q.y, .bool q.f] 34)).alloc (.cells #[.int .i64 0, .int .i64 0, .bool false] 34)).alloc (.cells #[.int .i64 q.x, .int .i64 q.y, .bool q.f] 34) = W0 := ⟨_, rfl⟩
  obtain ⟨hc, hd, he, -, -, hsz⟩ := blocks4 w _ _ _ _ _ _ _ _ _ _ _ _ _ _ _ _ W0 hW0.symm
  have hfz : F3 (w.heap.size + 1 + 1) W0 := by
    have h1 := F3.new ((w.alloc (.cells #[.int .i64 P, .int .i64 A, .int .i64 B] 30)).alloc (.cells #[.int .i64 q.x, .int .i64 q.y, .bool q.f] 34)) (.int .i64 0) (.int .i64 0) (.bool false) 34
    rw [show ((w.alloc (.cells #[.int .i64 P, .int .i64 A, .int .i64 B] 30)).alloc (.cells #[.int .i64 q.x, .int .i64 q.y, .bool q.f] 34)).heap.size = w.heap.size + 1 + 1 by simp] at h1
    rw [← hW0]
    exact h1.below (by simp) (below1 _ _)
  rw [hW0] at hb4 hV
  rw [show (vB P A B && [q].all (onB P A B)) = false by simpa using hv] at hV
  have HB := Lib.hid hb4
  have HC := Lib.hid hc
  have HD := Lib.hid hd
  have HE := Lib.hid he
  have HFz := Lib.hid hfz
  have HZ := Lib.hid hsz
  have HV := Lib.hid hV
  have HF1 := Lib.hid (hF.below hb4)
  clear hv hF hb4 hag hV he hfz hsz
  obtain ⟨c0, c1, c2⟩ := hc
  obtain ⟨d0, d1, d2⟩ := hd
  go_enter Tryd.func28, Tryd.ntmps28
  go_wp2_with fail
  try rw [hW0]
  refine (HV.out).mono ?_
  rintro e w1 ⟨rfl, hb⟩
  have HB1 := Lib.hid (HB.out.trans (hb.mono HB.out.size))
  obtain ⟨k0, k1, k2⟩ := HE.out.later hb
  obtain ⟨m0, m1, m2⟩ := HFz.out.below (by have := HZ.out; omega) hb
  clear hb c0 c1 c2 d0 d1 d2
  go_wp2
  exact bodyPost_ret (v := .tuple #[.agg #[.int .i64 0, .int .i64 0, .bool false], .int .i64 2]) (by simp [results, Tryd.results28, go_sem, k0, k1, k2]) rfl ⟨rfl, set3 HB1.out (by omega) _ _ _⟩

set_option maxHeartbeats 8000000 in
set_option maxRecDepth 100000 in
theorem Add_no (P A B : Int) (q r : Pt) (hv : (vB P A B && (onB P A B q && onB P A B r)) = false) (w : World) (hF : Far w) :
    Calls Tryd.prog 27 #[.agg #[.int .i64 P, .int .i64 A, .int .i64 B], .agg #[.int .i64 q.x, .int .i64 q.y, .bool q.f], .agg #[.int .i64 r.x, .int .i64 r.y, .bool r.f]] w fun e w' => e = .returned (.tuple #[.agg #[.int .i64 0, .int .i64 0, .bool false], .int .i64 2]) ∧ Below w.heap.size w w' := by
  have hb4 := below4 w (.cells #[.int .i64 P, .int .i64 A, .int .i64 B] 30) (.cells #[.int .i64 q.x, .int .i64 q.y, .bool q.f] 34) (.cells #[.int .i64 r.x, .int .i64 r.y, .bool r.f] 34) (.cells #[.int .i64 0, .int .i64 0, .bool false] 34)
  obtain ⟨W0, hW0⟩ : ∃ W0, (((w.alloc (.cells #[.int .i64 P, .int .i64 A, .int .i64 B] 30)).alloc (.cells #[.int .i64 q.x, .int .i64 q.y, .bool q.f] 34)).alloc (.cells #[.int .i64 r.x, .int .i64 r.y, .bool r.f] 34)).alloc (.cells #[.int .i64 0, .int .i64 0, .bool false] 34) = W0 := ⟨_, rfl⟩
  obtain ⟨hc, hd, he, hr4, hf4, hsz⟩ := blocks4 w _ _ _ _ _ _ _ _ _ _ _ _ _ _ _ _ W0 hW0.symm
  rw [hW0] at hb4
  have hag := agp_two W0 q r 34
  have hb5 := hb4.trans ((below1 W0 (.cells #[.int .i64 q.x, .int .i64 q.y, .bool q.f, .int .i64 r.x, .int .i64 r.y, .bool r.f] 34)).mono hb4.size)
  have hbx := below1 W0 (.cells #[.int .i64 q.x, .int .i64 q.y, .bool q.f, .int .i64 r.x, .int .i64 r.y, .bool r.f] 34)
  have hV := valid_any P A B (some ⟨W0.heap.size, 0, none⟩) 2 2 [q, r] _ hag (by omega) (hF.below hb5)
  have hF5 := hF.below hb5
  have hc5 := hc.later hbx
  have hd5 := hd.later hbx
  have he5 := he.later hbx
  have hr5 := hr4.later hbx
  have hf5 := hf4.below (show w.heap.size + 1 + 1 + 1 < W0.heap.size by omega) hbx
  have hz5 : (W0.alloc (.cells #[.int .i64 q.x, .int .i64 q.y, .bool q.f, .int .i64 r.x, .int .i64 r.y, .bool r.f] 34)).heap.size = w.heap.size + 5 := by simp [hsz]
  obtain ⟨W5, hW5⟩ : ∃ W5, W0.alloc (.cells #[.int .i64 q.x, .int .i64 q.y, .bool q.f, .int .i64 r.x, .int .i64 r.y, .bool r.f] 34) = W5 := ⟨_, rfl⟩
  rw [hW5] at hb5 hV hF5 hc5 hd5 he5 hr5 hf5 hz5
  rw [hsz] at hV
  rw [show (vB P A B && [q, r].all (onB P A B)) = false by simpa using hv] at hV
  have HB := Lib.hid hb5
  have HC := Lib.hid hc5
  have HD := Lib.hid hd5
  have HE := Lib.hid he5
  have HR := Lib.hid hr5
  have HFz := Lib.hid hf5
  have HZ := Lib.hid hz5
  have HV := Lib.hid hV
  have HF1 := Lib.hid hF5
  clear hv hF hb4 hag hV hr4 hf4 hb5 hbx hF5 hc5 hd5 he5 hr5 hf5 hz5
  obtain ⟨c0, c1, c2⟩ := hc
  obtain ⟨d0, d1, d2⟩ := hd
  obtain ⟨e0, e1, e2⟩ := he
  go_enter Tryd.func27, Tryd.ntmps27
  go_wp2_with fail
  try rw [hW0]
  try rw [hW5]
  try simp only [hsz]
  refine (HV.out).mono ?_
  rintro e w1 ⟨rfl, hb⟩
  have HB1 := Lib.hid (HB.out.trans (hb.mono HB.out.size))
  obtain ⟨k0, k1, k2⟩ := HR.out.later hb
  obtain ⟨m0, m1, m2⟩ := HFz.out.below (by have := HZ.out; omega) hb
  clear hb c0 c1 c2 d0 d1 d2 e0 e1 e2
  go_wp2
  exact bodyPost_ret (v := .tuple #[.agg #[.int .i64 0, .int .i64 0, .bool false], .int .i64 2]) (by simp [results, Tryd.results27, go_sem, k0, k1, k2]) rfl ⟨rfl, set3 HB1.out (by omega) _ _ _⟩

set_option maxHeartbeats 8000000 in
set_option maxRecDepth 100000 in
theorem Times_yes (P A B : Int) (q : Pt) (n : Nat) (k : Int) (hv : vB P A B = true) (hq : onB P A B q = true) (ho : IsOrd P A q n) (hn : n ≤ 962) (w : World) (hF : Far w) :
    Calls Tryd.prog 28 #[.agg #[.int .i64 P, .int .i64 A, .int .i64 B], .agg #[.int .i64 q.x, .int .i64 q.y, .bool q.f], .int .i64 k] w fun e w' => e = .returned (.tuple #[.agg #[.int .i64 (tmP P A q n k).x, .int .i64 (tmP P A q n k).y, .bool (tmP P A q n k).f], .int .i64 0]) ∧ Below w.heap.size w w' := by
  have hb4 := below4 w (.cells #[.int .i64 P, .int .i64 A, .int .i64 B] 30) (.cells #[.int .i64 q.x, .int .i64 q.y, .bool q.f] 34) (.cells #[.int .i64 0, .int .i64 0, .bool false] 34) (.cells #[.int .i64 q.x, .int .i64 q.y, .bool q.f] 34)
  have hag := agp_one (((w.alloc (.cells #[.int .i64 P, .int .i64 A, .int .i64 B] 30)).alloc (.cells #[.int .i64 q.x, .int .i64 q.y, .bool q.f] 34)).alloc (.cells #[.int .i64 0, .int .i64 0, .bool false] 34)) q 34
  rw [show (((w.alloc (.cells #[.int .i64 P, .int .i64 A, .int .i64 B] 30)).alloc (.cells #[.int .i64 q.x, .int .i64 q.y, .bool q.f] 34)).alloc (.cells #[.int .i64 0, .int .i64 0, .bool false] 34)).heap.size = w.heap.size + 1 + 1 + 1 by simp] at hag
  have hV := valid_any P A B (some ⟨w.heap.size + 1 + 1 + 1, 0, none⟩) 1 1 [q] _ hag (by omega) (hF.below hb4)
  obtain ⟨W0, hW0⟩ : ∃ W0, (((w.alloc (.cells #[.int .i64 P, .int .i64 A, .int .i64 B] 30)).alloc (.cells #[.int .i64 q.x, .int .i64 q.y, .bool q.f] 34)).alloc (.cells #[.int .i64 0, .int .i64 0, .bool false] 34)).alloc (.cells #[.int .i64 q.x, .int .i64 q.y, .bool q.f] 34) = W0 := ⟨_, rfl⟩
  obtain ⟨hc, hd, he, -, -, hsz⟩ := blocks4 w _ _ _ _ _ _ _ _ _ _ _ _ _ _ _ _ W0 hW0.symm
  have hfz : F3 (w.heap.size + 1 + 1) W0 := by
    have h1 := F3.new ((w.alloc (.cells #[.int .i64 P, .int .i64 A, .int .i64 B] 30)).alloc (.cells #[.int .i64 q.x, .int .i64 q.y, .bool q.f] 34)) (.int .i64 0) (.int .i64 0) (.bool false) 34
    rw [show ((w.alloc (.cells #[.int .i64 P, .int .i64 A, .int .i64 B] 30)).alloc (.cells #[.int .i64 q.x, .int .i64 q.y, .bool q.f] 34)).heap.size = w.heap.size + 1 + 1 by simp] at h1
    rw [← hW0]
    exact h1.below (by simp) (below1 _ _)
  rw [hW0] at hb4 hV
  rw [show (vB P A B && [q].all (onB P A B)) = true by simp [hv, hq]] at hV
  have HB := Lib.hid hb4
  have HC := Lib.hid hc
  have HD := Lib.hid hd
  have HE := Lib.hid he
  have HFz := Lib.hid hfz
  have HZ := Lib.hid hsz
  have HV := Lib.hid hV
  have HF1 := Lib.hid (hF.below hb4)
  have HT := Lib.hid (fun W hF => times_any P A B q n k hv hq ho hn W hF)
  obtain ⟨⟨X, Y, G⟩, hm⟩ : ∃ m, tmP P A q n k = m := ⟨_, rfl⟩
  rw [hm] at HT ⊢
  simp only at HT ⊢
  clear hv hq ho hF hb4 hag hV he hfz hsz hm
  obtain ⟨c0, c1, c2⟩ := hc
  obtain ⟨d0, d1, d2⟩ := hd
  go_enter Tryd.func28, Tryd.ntmps28
  go_wp2_with fail
  try rw [hW0]
  refine (HV.out).mono ?_
  rintro e w1 ⟨rfl, hb⟩
  have HB1 := Lib.hid (HB.out.trans (hb.mono HB.out.size))
  have HF2 := Lib.hid (HF1.out.below hb)
  have HE1 := Lib.hid (HE.out.later hb)
  have HFz1 := Lib.hid (HFz.out.below (by have := HZ.out; omega) hb)
  have HL1 := Lib.hid (show w.heap.size + 1 + 1 < w1.heap.size by have := hb.size; have := HZ.out; omega)
  clear c0 c1 c2 d0 d1 d2
  obtain ⟨c0, c1, c2⟩ := HC.out.later hb
  obtain ⟨d0, d1, d2⟩ := HD.out.later hb
  clear hb
  go_wp2_with fail
  refine (HT.out _ HF2.out).mono ?_
  rintro e w2 ⟨rfl, hb⟩
  have HB2 := Lib.hid (HB1.out.trans (hb.mono HB1.out.size))
  obtain ⟨k0, k1, k2⟩ := HE1.out.later hb
  obtain ⟨m0, m1, m2⟩ := HFz1.out.below HL1.out hb
  clear hb c0 c1 c2 d0 d1 d2
  go_wp2
  exact bodyPost_ret (v := .tuple #[.agg #[.int .i64 X, .int .i64 Y, .bool G], .int .i64 0]) (by simp [results, Tryd.results28, go_sem, k0, k1, k2]) rfl ⟨rfl, set3 HB2.out (by omega) _ _ _⟩

set_option maxHeartbeats 8000000 in
set_option maxRecDepth 100000 in
theorem Add_yes (P A B : Int) (q r : Pt) (hv : vB P A B = true) (hq : onB P A B q = true) (hr : onB P A B r = true) (w : World) (hF : Far w) :
    Calls Tryd.prog 27 #[.agg #[.int .i64 P, .int .i64 A, .int .i64 B], .agg #[.int .i64 q.x, .int .i64 q.y, .bool q.f], .agg #[.int .i64 r.x, .int .i64 r.y, .bool r.f]] w fun e w' => e = .returned (.tuple #[.agg #[.int .i64 (sumP P A q r).x, .int .i64 (sumP P A q r).y, .bool (sumP P A q r).f], .int .i64 0]) ∧ Below w.heap.size w w' := by
  have hb4 := below4 w (.cells #[.int .i64 P, .int .i64 A, .int .i64 B] 30) (.cells #[.int .i64 q.x, .int .i64 q.y, .bool q.f] 34) (.cells #[.int .i64 r.x, .int .i64 r.y, .bool r.f] 34) (.cells #[.int .i64 0, .int .i64 0, .bool false] 34)
  obtain ⟨W0, hW0⟩ : ∃ W0, (((w.alloc (.cells #[.int .i64 P, .int .i64 A, .int .i64 B] 30)).alloc (.cells #[.int .i64 q.x, .int .i64 q.y, .bool q.f] 34)).alloc (.cells #[.int .i64 r.x, .int .i64 r.y, .bool r.f] 34)).alloc (.cells #[.int .i64 0, .int .i64 0, .bool false] 34) = W0 := ⟨_, rfl⟩
  obtain ⟨hc, hd, he, hr4, hf4, hsz⟩ := blocks4 w _ _ _ _ _ _ _ _ _ _ _ _ _ _ _ _ W0 hW0.symm
  rw [hW0] at hb4
  have hag := agp_two W0 q r 34
  have hb5 := hb4.trans ((below1 W0 (.cells #[.int .i64 q.x, .int .i64 q.y, .bool q.f, .int .i64 r.x, .int .i64 r.y, .bool r.f] 34)).mono hb4.size)
  have hbx := below1 W0 (.cells #[.int .i64 q.x, .int .i64 q.y, .bool q.f, .int .i64 r.x, .int .i64 r.y, .bool r.f] 34)
  have hV := valid_any P A B (some ⟨W0.heap.size, 0, none⟩) 2 2 [q, r] _ hag (by omega) (hF.below hb5)
  have hF5 := hF.below hb5
  have hc5 := hc.later hbx
  have hd5 := hd.later hbx
  have he5 := he.later hbx
  have hr5 := hr4.later hbx
  have hf5 := hf4.below (show w.heap.size + 1 + 1 + 1 < W0.heap.size by omega) hbx
  have hz5 : (W0.alloc (.cells #[.int .i64 q.x, .int .i64 q.y, .bool q.f, .int .i64 r.x, .int .i64 r.y, .bool r.f] 34)).heap.size = w.heap.size + 5 := by simp [hsz]
  obtain ⟨W5, hW5⟩ : ∃ W5, W0.alloc (.cells #[.int .i64 q.x, .int .i64 q.y, .bool q.f, .int .i64 r.x, .int .i64 r.y, .bool r.f] 34) = W5 := ⟨_, rfl⟩
  rw [hW5] at hb5 hV hF5 hc5 hd5 he5 hr5 hf5 hz5
  rw [hsz] at hV
  rw [show (vB P A B && [q, r].all (onB P A B)) = true by simp [hv, hq, hr]] at hV
  have HB := Lib.hid hb5
  have HC := Lib.hid hc5
  have HD := Lib.hid hd5
  have HE := Lib.hid he5
  have HR := Lib.hid hr5
  have HFz := Lib.hid hf5
  have HZ := Lib.hid hz5
  have HV := Lib.hid hV
  have HF1 := Lib.hid hF5
  have HT := Lib.hid (fun W hF => sum_any P A B q r hv hq hr W hF)
  obtain ⟨⟨X, Y, G⟩, hm⟩ : ∃ m, sumP P A q r = m := ⟨_, rfl⟩
  rw [hm] at HT ⊢
  simp only at HT ⊢
  clear hv hq hr hF hb4 hag hV hr4 hf4 hb5 hbx hF5 hc5 hd5 he5 hr5 hf5 hz5 hm
  obtain ⟨c0, c1, c2⟩ := hc
  obtain ⟨d0, d1, d2⟩ := hd
  obtain ⟨e0, e1, e2⟩ := he
  go_enter Tryd.func27, Tryd.ntmps27
  go_wp2_with fail
  try rw [hW0]
  try rw [hW5]
  try simp only [hsz]
  refine (HV.out).mono ?_
  rintro e w1 ⟨rfl, hb⟩
  have HB1 := Lib.hid (HB.out.trans (hb.mono HB.out.size))
  have HF2 := Lib.hid (HF1.out.below hb)
  have HR1 := Lib.hid (HR.out.later hb)
  have HFz1 := Lib.hid (HFz.out.below (by have := HZ.out; omega) hb)
  have HL1 := Lib.hid (show w.heap.size + 1 + 1 + 1 < w1.heap.size by have := hb.size; have := HZ.out; omega)
  clear c0 c1 c2 d0 d1 d2 e0 e1 e2
  obtain ⟨c0, c1, c2⟩ := HC.out.later hb
  obtain ⟨d0, d1, d2⟩ := HD.out.later hb
  obtain ⟨e0, e1, e2⟩ := HE.out.later hb
  clear hb
  go_wp2_with fail
  refine (HT.out _ HF2.out).mono ?_
  rintro e w2 ⟨rfl, hb⟩
  have HB2 := Lib.hid (HB1.out.trans (hb.mono HB1.out.size))
  obtain ⟨k0, k1, k2⟩ := HR1.out.later hb
  obtain ⟨m0, m1, m2⟩ := HFz1.out.below HL1.out hb
  clear hb c0 c1 c2 d0 d1 d2 e0 e1 e2
  go_wp2
  exact bodyPost_ret (v := .tuple #[.agg #[.int .i64 X, .int .i64 Y, .bool G], .int .i64 0]) (by simp [results, Tryd.results27, go_sem, k0, k1, k2]) rfl ⟨rfl, set3 HB2.out (by omega) _ _ _⟩

end Go.Proofs.YtoepghlkjbpkfaaDoor
