/- The walks of sum and of the reference's Add. Conditions as stated in each theorem. -/
import Derived.Test.YtoepghlkjbpkfaaDoorSum
namespace Go.Proofs.YtoepghlkjbpkfaaDoor
open Go.RowKit
attribute [local go_sem] Oper.semAt_some

theorem blocks4 (w : World) (a1 a2 a3 b1 b2 b3 c1 c2 c3 d1 d2 d3 : Value) (ta tb tc td : TypeId) (W : World) (hW : W = (((w.alloc (.cells #[a1, a2, a3] ta)).alloc (.cells #[b1, b2, b3] tb)).alloc (.cells #[c1, c2, c3] tc)).alloc (.cells #[d1, d2, d3] td)) :
    C3 w.heap.size a1 a2 a3 W ∧ C3 (w.heap.size + 1) b1 b2 b3 W ∧ C3 (w.heap.size + 1 + 1) c1 c2 c3 W ∧ C3 (w.heap.size + 1 + 1 + 1) d1 d2 d3 W ∧ F3 (w.heap.size + 1 + 1 + 1) W ∧ W.heap.size = w.heap.size + 4 := by
  subst hW
  obtain ⟨W1, h1⟩ : ∃ W1, w.alloc (.cells #[a1, a2, a3] ta) = W1 := ⟨_, rfl⟩
  have s1 : W1.heap.size = w.heap.size + 1 := by rw [← h1]; simp
  have k1 := C3.new w a1 a2 a3 ta
  rw [h1] at k1 ⊢
  obtain ⟨W2, h2⟩ : ∃ W2, W1.alloc (.cells #[b1, b2, b3] tb) = W2 := ⟨_, rfl⟩
  have s2 : W2.heap.size = w.heap.size + 1 + 1 := by rw [← h2]; simp [s1]
  have k2 := C3.new W1 b1 b2 b3 tb
  have k1b := k1.later (below1 W1 (.cells #[b1, b2, b3] tb))
  rw [h2] at k1b k2 ⊢
  obtain ⟨W3, h3⟩ : ∃ W3, W2.alloc (.cells #[c1, c2, c3] tc) = W3 := ⟨_, rfl⟩
  have s3 : W3.heap.size = w.heap.size + 1 + 1 + 1 := by rw [← h3]; simp [s2]
  have k3 := C3.new W2 c1 c2 c3 tc
  have k1c := k1b.later (below1 W2 (.cells #[c1, c2, c3] tc))
  have k2c := k2.later (below1 W2 (.cells #[c1, c2, c3] tc))
  rw [h3] at k1c k2c k3 ⊢
  have k4 := C3.new W3 d1 d2 d3 td
  have f4 := F3.new W3 d1 d2 d3 td
  rw [s3] at k4 f4
  rw [s1] at k2c
  rw [s2] at k3
  exact ⟨k1c.later (below1 W3 _), k2c.later (below1 W3 _), k3.later (below1 W3 _), k4, f4, by simp [s3]⟩
theorem size4 (w : World) (a b c d : Obj) : ((((w.alloc a).alloc b).alloc c).alloc d).heap.size = w.heap.size + 4 := by simp

set_option maxHeartbeats 8000000 in
set_option maxRecDepth 100000 in
theorem sum_far (P A B : Int) (q r : Pt) (hq : q = farP) (w : World) (hF : Far w) :
    Calls Tryd.prog 62 #[.agg #[.int .i64 P, .int .i64 A, .int .i64 B], .agg #[.int .i64 q.x, .int .i64 q.y, .bool q.f], .agg #[.int .i64 r.x, .int .i64 r.y, .bool r.f]] w fun e w' => e = .returned (.agg #[.int .i64 r.x, .int .i64 r.y, .bool r.f]) ∧ Below w.heap.size w w' := by
  have heq := fun W => eql34 W q ⟨0, 0, true⟩
  rw [decide_eq_true hq] at heq
  simp only at heq
  have HB := Lib.hid (below4 w (.cells #[.int .i64 P, .int .i64 A, .int .i64 B] 30) (.cells #[.int .i64 q.x, .int .i64 q.y, .bool q.f] 34) (.cells #[.int .i64 r.x, .int .i64 r.y, .bool r.f] 34) (.cells #[.int .i64 r.x, .int .i64 r.y, .bool r.f] 34))
  obtain ⟨f0, f1, f2, f3⟩ := hF
  clear hq
  go_enter Tryd.func62, Tryd.ntmps62
  go_wp2
  exact bodyPost_ret (v := .agg #[.int .i64 r.x, .int .i64 r.y, .bool r.f]) (by simp [results, Tryd.results62, go_sem]) rfl ⟨rfl, HB.out⟩

set_option maxHeartbeats 8000000 in
set_option maxRecDepth 100000 in
theorem sum_far2 (P A B : Int) (q r : Pt) (hq : ¬ q = farP) (hr : r = farP) (w : World) (hF : Far w) :
    Calls Tryd.prog 62 #[.agg #[.int .i64 P, .int .i64 A, .int .i64 B], .agg #[.int .i64 q.x, .int .i64 q.y, .bool q.f], .agg #[.int .i64 r.x, .int .i64 r.y, .bool r.f]] w fun e w' => e = .returned (.agg #[.int .i64 q.x, .int .i64 q.y, .bool q.f]) ∧ Below w.heap.size w w' := by
  have heq := fun W => eql34 W q ⟨0, 0, true⟩
  rw [decide_eq_false hq] at heq
  simp only at heq
  have heq2 := fun W => eql34 W r ⟨0, 0, true⟩
  rw [decide_eq_true hr] at heq2
  simp only at heq2
  have HB := Lib.hid (below4 w (.cells #[.int .i64 P, .int .i64 A, .int .i64 B] 30) (.cells #[.int .i64 q.x, .int .i64 q.y, .bool q.f] 34) (.cells #[.int .i64 r.x, .int .i64 r.y, .bool r.f] 34) (.cells #[.int .i64 q.x, .int .i64 q.y, .bool q.f] 34))
  obtain ⟨f0, f1, f2, f3⟩ := hF
  clear hq hr
  go_enter Tryd.func62, Tryd.ntmps62
  go_wp2
  exact bodyPost_ret (v := .agg #[.int .i64 q.x, .int .i64 q.y, .bool q.f]) (by simp [results, Tryd.results62, go_sem]) rfl ⟨rfl, HB.out⟩

set_option maxHeartbeats 8000000 in
set_option maxRecDepth 100000 in
theorem sum_opp (P A B : Int) (q r : Pt) (h : isM P = true) (hA : 0 ≤ A ∧ A ≤ 31) (hq : ¬ q = farP) (hr : ¬ r = farP) (bq : 0 ≤ q.x ∧ q.x < P ∧ 0 ≤ q.y ∧ q.y < P) (br : 0 ≤ r.x ∧ r.x < P ∧ 0 ≤ r.y ∧ r.y < P) (hn : r = turnP P q) (w : World) (hF : Far w) :
    Calls Tryd.prog 62 #[.agg #[.int .i64 P, .int .i64 A, .int .i64 B], .agg #[.int .i64 q.x, .int .i64 q.y, .bool q.f], .agg #[.int .i64 r.x, .int .i64 r.y, .bool r.f]] w fun e w' => e = .returned (.agg #[.int .i64 farP.x, .int .i64 farP.y, .bool farP.f]) ∧ Below w.heap.size w w' := by
  have hP := isM_le h
  have heq := fun W => eql34 W q ⟨0, 0, true⟩
  rw [decide_eq_false hq] at heq
  simp only at heq
  have heq2 := fun W => eql34 W r ⟨0, 0, true⟩
  rw [decide_eq_false hr] at heq2
  simp only at heq2
  have heq3 := fun W => eql34 W r (turnP P q)
  rw [decide_eq_true hn] at heq3
  simp only [turnP] at heq3
  have HT := Lib.hid (fun W => turned_any P A B q h bq W)
  obtain ⟨Y, hY⟩ : ∃ Y, (-q.y) % P = Y := ⟨_, rfl⟩
  rw [hY] at HT heq3
  have HFa := Lib.hid hF
  obtain ⟨W0, hW0⟩ : ∃ W0, ((((w.alloc (.cells #[.int .i64 P, .int .i64 A, .int .i64 B] 30)).alloc (.cells #[.int .i64 q.x, .int .i64 q.y, .bool q.f] 34)).alloc (.cells #[.int .i64 r.x, .int .i64 r.y, .bool r.f] 34)).alloc (.cells #[.int .i64 0, .int .i64 0, .bool false] 34)) = W0 := ⟨_, rfl⟩
  obtain ⟨hc, hd, he, hr4, hf4, hsz⟩ := blocks4 w _ _ _ _ _ _ _ _ _ _ _ _ _ _ _ _ W0 hW0.symm
  have hb4 := below4 w (.cells #[.int .i64 P, .int .i64 A, .int .i64 B] 30) (.cells #[.int .i64 q.x, .int .i64 q.y, .bool q.f] 34) (.cells #[.int .i64 r.x, .int .i64 r.y, .bool r.f] 34) (.cells #[.int .i64 0, .int .i64 0, .bool false] 34)
  rw [hW0] at hb4
  have HB := Lib.hid hb4
  have HC := Lib.hid hc
  have HD := Lib.hid hd
  have HE := Lib.hid he
  have HR4 := Lib.hid hr4
  have HF4 := Lib.hid hf4
  have HZ := Lib.hid hsz
  have HN := Lib.hid (fun (W1 W2 : World) (hb : Below W1.heap.size W1 W2) (h : W1.cell? ⟨w.heap.size, 0, none⟩ = some (.int .i64 P) ∧ W1.cell? ⟨w.heap.size, 1, none⟩ = some (.int .i64 A) ∧ W1.cell? ⟨w.heap.size, 2, none⟩ = some (.int .i64 B) ∧ W1.cell? ⟨w.heap.size + 1, 0, none⟩ = some (.int .i64 q.x) ∧ W1.cell? ⟨w.heap.size + 1, 1, none⟩ = some (.int .i64 q.y) ∧ W1.cell? ⟨w.heap.size + 1, 2, none⟩ = some (.bool q.f) ∧ W1.cell? ⟨w.heap.size + 1 + 1, 0, none⟩ = some (.int .i64 r.x) ∧ W1.cell? ⟨w.heap.size + 1 + 1, 1, none⟩ = some (.int .i64 r.y) ∧ W1.cell? ⟨w.heap.size + 1 + 1, 2, none⟩ = some (.bool r.f) ∧ BelF W0.heap.size W0 W1) => (show W2.cell? ⟨w.heap.size, 0, none⟩ = some (.int .i64 P) ∧ W2.cell? ⟨w.heap.size, 1, none⟩ = some (.int .i64 A) ∧ W2.cell? ⟨w.heap.size, 2, none⟩ = some (.int .i64 B) ∧ W2.cell? ⟨w.heap.size + 1, 0, none⟩ = some (.int .i64 q.x) ∧ W2.cell? ⟨w.heap.size + 1, 1, none⟩ = some (.int .i64 q.y) ∧ W2.cell? ⟨w.heap.size + 1, 2, none⟩ = some (.bool q.f) ∧ W2.cell? ⟨w.heap.size + 1 + 1, 0, none⟩ = some (.int .i64 r.x) ∧ W2.cell? ⟨w.heap.size + 1 + 1, 1, none⟩ = some (.int .i64 r.y) ∧ W2.cell? ⟨w.heap.size + 1 + 1, 2, none⟩ = some (.bool r.f) ∧ BelF W0.heap.size W0 W2 from ⟨cell_later h.1 hb, cell_later h.2.1 hb, cell_later h.2.2.1 hb, cell_later h.2.2.2.1 hb, cell_later h.2.2.2.2.1 hb, cell_later h.2.2.2.2.2.1 hb, cell_later h.2.2.2.2.2.2.1 hb, cell_later h.2.2.2.2.2.2.2.1 hb, cell_later h.2.2.2.2.2.2.2.2.1 hb, h.2.2.2.2.2.2.2.2.2.next hb⟩))
  have HBS := Lib.hid (fun (W1 : World) (h : W1.cell? ⟨w.heap.size, 0, none⟩ = some (.int .i64 P) ∧ W1.cell? ⟨w.heap.size, 1, none⟩ = some (.int .i64 A) ∧ W1.cell? ⟨w.heap.size, 2, none⟩ = some (.int .i64 B) ∧ W1.cell? ⟨w.heap.size + 1, 0, none⟩ = some (.int .i64 q.x) ∧ W1.cell? ⟨w.heap.size + 1, 1, none⟩ = some (.int .i64 q.y) ∧ W1.cell? ⟨w.heap.size + 1, 2, none⟩ = some (.bool q.f) ∧ W1.cell? ⟨w.heap.size + 1 + 1, 0, none⟩ = some (.int .i64 r.x) ∧ W1.cell? ⟨w.heap.size + 1 + 1, 1, none⟩ = some (.int .i64 r.y) ∧ W1.cell? ⟨w.heap.size + 1 + 1, 2, none⟩ = some (.bool r.f) ∧ BelF W0.heap.size W0 W1) => (show Below W0.heap.size W0 W1 from h.2.2.2.2.2.2.2.2.2.to))
  have HS0 := Lib.hid (show W0.cell? ⟨w.heap.size, 0, none⟩ = some (.int .i64 P) ∧ W0.cell? ⟨w.heap.size, 1, none⟩ = some (.int .i64 A) ∧ W0.cell? ⟨w.heap.size, 2, none⟩ = some (.int .i64 B) ∧ W0.cell? ⟨w.heap.size + 1, 0, none⟩ = some (.int .i64 q.x) ∧ W0.cell? ⟨w.heap.size + 1, 1, none⟩ = some (.int .i64 q.y) ∧ W0.cell? ⟨w.heap.size + 1, 2, none⟩ = some (.bool q.f) ∧ W0.cell? ⟨w.heap.size + 1 + 1, 0, none⟩ = some (.int .i64 r.x) ∧ W0.cell? ⟨w.heap.size + 1 + 1, 1, none⟩ = some (.int .i64 r.y) ∧ W0.cell? ⟨w.heap.size + 1 + 1, 2, none⟩ = some (.bool r.f) ∧ BelF W0.heap.size W0 W0 from ⟨hc.1, hc.2.1, hc.2.2, hd.1, hd.2.1, hd.2.2, he.1, he.2.1, he.2.2, BelF.begin W0⟩)
  clear h hA hq hr hn hY hF hc hd he hr4 hf4 hsz hb4
  obtain ⟨f0, f1, f2, f3⟩ := HFa.out.below HB.out
  obtain ⟨c0, c1, c2⟩ := HC.out
  obtain ⟨d0, d1, d2⟩ := HD.out
  obtain ⟨e0, e1, e2⟩ := HE.out
  obtain ⟨bq0, bq1, bq2, bq3⟩ := bq
  obtain ⟨br0, br1, br2, br3⟩ := br
  go_enter Tryd.func62, Tryd.ntmps62
  go_wp2
  go_region_held3 (fun W => W.cell? ⟨w.heap.size, 0, none⟩ = some (.int .i64 P) ∧ W.cell? ⟨w.heap.size, 1, none⟩ = some (.int .i64 A) ∧ W.cell? ⟨w.heap.size, 2, none⟩ = some (.int .i64 B) ∧ W.cell? ⟨w.heap.size + 1, 0, none⟩ = some (.int .i64 q.x) ∧ W.cell? ⟨w.heap.size + 1, 1, none⟩ = some (.int .i64 q.y) ∧ W.cell? ⟨w.heap.size + 1, 2, none⟩ = some (.bool q.f) ∧ W.cell? ⟨w.heap.size + 1 + 1, 0, none⟩ = some (.int .i64 r.x) ∧ W.cell? ⟨w.heap.size + 1 + 1, 1, none⟩ = some (.int .i64 r.y) ∧ W.cell? ⟨w.heap.size + 1 + 1, 2, none⟩ = some (.bool r.f) ∧ BelF W0.heap.size W0 W)
    (first | exact HS0.out | exact HN.out _ _ hbt (by assumption) | exact HN.out _ _ (drew_below _) (by assumption) | exact HN.out _ _ (drew_below _) HS0.out)
    ((first
      | (go_at_call 82; refine (HT.out _).mono ?_; rintro e wx ⟨rfl, hbt⟩)))
  all_goals
    refine at_world (S := fun W => W.cell? ⟨w.heap.size, 0, none⟩ = some (.int .i64 P) ∧ W.cell? ⟨w.heap.size, 1, none⟩ = some (.int .i64 A) ∧ W.cell? ⟨w.heap.size, 2, none⟩ = some (.int .i64 B) ∧ W.cell? ⟨w.heap.size + 1, 0, none⟩ = some (.int .i64 q.x) ∧ W.cell? ⟨w.heap.size + 1, 1, none⟩ = some (.int .i64 q.y) ∧ W.cell? ⟨w.heap.size + 1, 2, none⟩ = some (.bool q.f) ∧ W.cell? ⟨w.heap.size + 1 + 1, 0, none⟩ = some (.int .i64 r.x) ∧ W.cell? ⟨w.heap.size + 1 + 1, 1, none⟩ = some (.int .i64 r.y) ∧ W.cell? ⟨w.heap.size + 1 + 1, 2, none⟩ = some (.bool r.f) ∧ BelF W0.heap.size W0 W) (G := fun W => Exit.then _ _ _ _ W) (by assumption) ?_
    intro w3 hS
    clear c0 c1 c2 d0 d1 d2 e0 e1 e2
    obtain ⟨c0, c1, c2, d0, d1, d2, e0, e1, e2, hs3⟩ := hS
    have hb3 := hs3.to
    have hlt4 : w.heap.size + 1 + 1 + 1 < W0.heap.size := by have := HZ.out; omega
    have HB3 := Lib.hid (HB.out.trans (hb3.mono HB.out.size))
    obtain ⟨k0, k1, k2⟩ := HR4.out.below hlt4 hb3
    obtain ⟨z0, z1, z2⟩ := HF4.out.below hlt4 hb3
    obtain ⟨g0, g1, g2, g3⟩ := HFa.out.below HB3.out
    clear hs3 hb3 f0 f1 f2 f3 hW0 hlt4
    go_wp2
    exact bodyPost_ret (v := .agg #[.int .i64 0, .int .i64 0, .bool true]) (by simp [results, Tryd.results62, go_sem, k0, k1, k2]) rfl ⟨rfl, set3 HB3.out (by omega) _ _ _⟩

set_option maxHeartbeats 8000000 in
set_option maxRecDepth 100000 in
theorem sum_gen (P A B : Int) (q r : Pt) (h : isM P = true) (hA : 0 ≤ A ∧ A ≤ 31) (hq : ¬ q = farP) (hr : ¬ r = farP) (bq : 0 ≤ q.x ∧ q.x < P ∧ 0 ≤ q.y ∧ q.y < P) (br : 0 ≤ r.x ∧ r.x < P ∧ 0 ≤ r.y ∧ r.y < P) (hn : ¬ r = turnP P q) (hs : 0 ≤ slopeP P A q r ∧ slopeP P A q r < P) (hnn : (q = r → ¬ P ∣ 2 * q.y) ∧ (q ≠ r → ¬ P ∣ q.x - r.x)) (S : Pt) (hS : S = ⟨thirdX P q r (slopeP P A q r), thirdY P q r (slopeP P A q r), false⟩) (w : World) (hF : Far w) :
    Calls Tryd.prog 62 #[.agg #[.int .i64 P, .int .i64 A, .int .i64 B], .agg #[.int .i64 q.x, .int .i64 q.y, .bool q.f], .agg #[.int .i64 r.x, .int .i64 r.y, .bool r.f]] w fun e w' => e = .returned (.agg #[.int .i64 S.x, .int .i64 S.y, .bool S.f]) ∧ Below w.heap.size w w' := by
  have hP := isM_le h
  have heq := fun W => eql34 W q ⟨0, 0, true⟩
  rw [decide_eq_false hq] at heq
  simp only at heq
  have heq2 := fun W => eql34 W r ⟨0, 0, true⟩
  rw [decide_eq_false hr] at heq2
  simp only at heq2
  have heq3 := fun W => eql34 W r (turnP P q)
  rw [decide_eq_false hn] at heq3
  simp only [turnP] at heq3
  have HT := Lib.hid (fun W => turned_any P A B q h bq W)
  obtain ⟨Y, hY⟩ : ∃ Y, (-q.y) % P = Y := ⟨_, rfl⟩
  rw [hY] at HT heq3
  have HFa := Lib.hid hF
  have HSL := Lib.hid (fun W => slope_any P A B q r h hA bq br hnn W)
  have HRE := Lib.hid (fun n W => rest_any n P (by omega) (by omega) W)
  obtain ⟨s, hsl⟩ : ∃ s, slopeP P A q r = s := ⟨_, rfl⟩
  rw [hsl] at HSL hs hS
  obtain ⟨X, hX⟩ : ∃ X, thirdX P q r s = X := ⟨_, rfl⟩
  obtain ⟨V, hV⟩ : ∃ V, thirdY P q r s = V := ⟨_, rfl⟩
  rw [hX, hV] at hS
  have hXi : 0 ≤ X ∧ X < P := by rw [← hX]; exact mod_in h _
  have HX := Lib.hid (fun W => HRE.out (s * s - q.x - r.x) W)
  have hx2 : (s * s - q.x - r.x) % P = X := hX
  rw [hx2] at HX
  have HV := Lib.hid (fun W => HRE.out (s * (q.x - X) - q.y) W)
  have hv2 : (s * (q.x - X) - q.y) % P = V := by rw [← hX, ← hV]; rfl
  rw [hv2] at HV
  obtain ⟨a0, a1⟩ := mul_in (a := s) (b := s) 31 31 hs.1 (by omega) hs.1 (by omega)
  have hm : s * (q.x - X) ≤ 961 ∧ -961 ≤ s * (q.x - X) := by
    have h1 := Int.mul_le_mul_of_nonneg_left (show q.x - X ≤ 31 by omega) hs.1
    have h2 := Int.mul_le_mul_of_nonneg_left (show -31 ≤ q.x - X by omega) hs.1
    omega
  obtain ⟨m0, m1⟩ := hm
  subst hS
  obtain ⟨W0, hW0⟩ : ∃ W0, ((((w.alloc (.cells #[.int .i64 P, .int .i64 A, .int .i64 B] 30)).alloc (.cells #[.int .i64 q.x, .int .i64 q.y, .bool q.f] 34)).alloc (.cells #[.int .i64 r.x, .int .i64 r.y, .bool r.f] 34)).alloc (.cells #[.int .i64 0, .int .i64 0, .bool false] 34)) = W0 := ⟨_, rfl⟩
  obtain ⟨hc, hd, he, hr4, hf4, hsz⟩ := blocks4 w _ _ _ _ _ _ _ _ _ _ _ _ _ _ _ _ W0 hW0.symm
  have hb4 := below4 w (.cells #[.int .i64 P, .int .i64 A, .int .i64 B] 30) (.cells #[.int .i64 q.x, .int .i64 q.y, .bool q.f] 34) (.cells #[.int .i64 r.x, .int .i64 r.y, .bool r.f] 34) (.cells #[.int .i64 0, .int .i64 0, .bool false] 34)
  rw [hW0] at hb4
  have HB := Lib.hid hb4
  have HC := Lib.hid hc
  have HD := Lib.hid hd
  have HE := Lib.hid he
  have HR4 := Lib.hid hr4
  have HF4 := Lib.hid hf4
  have HZ := Lib.hid hsz
  have HN := Lib.hid (fun (W1 W2 : World) (hb : Below W1.heap.size W1 W2) (h : W1.cell? ⟨w.heap.size, 0, none⟩ = some (.int .i64 P) ∧ W1.cell? ⟨w.heap.size, 1, none⟩ = some (.int .i64 A) ∧ W1.cell? ⟨w.heap.size, 2, none⟩ = some (.int .i64 B) ∧ W1.cell? ⟨w.heap.size + 1, 0, none⟩ = some (.int .i64 q.x) ∧ W1.cell? ⟨w.heap.size + 1, 1, none⟩ = some (.int .i64 q.y) ∧ W1.cell? ⟨w.heap.size + 1, 2, none⟩ = some (.bool q.f) ∧ W1.cell? ⟨w.heap.size + 1 + 1, 0, none⟩ = some (.int .i64 r.x) ∧ W1.cell? ⟨w.heap.size + 1 + 1, 1, none⟩ = some (.int .i64 r.y) ∧ W1.cell? ⟨w.heap.size + 1 + 1, 2, none⟩ = some (.bool r.f) ∧ BelF W0.heap.size W0 W1) => (show W2.cell? ⟨w.heap.size, 0, none⟩ = some (.int .i64 P) ∧ W2.cell? ⟨w.heap.size, 1, none⟩ = some (.int .i64 A) ∧ W2.cell? ⟨w.heap.size, 2, none⟩ = some (.int .i64 B) ∧ W2.cell? ⟨w.heap.size + 1, 0, none⟩ = some (.int .i64 q.x) ∧ W2.cell? ⟨w.heap.size + 1, 1, none⟩ = some (.int .i64 q.y) ∧ W2.cell? ⟨w.heap.size + 1, 2, none⟩ = some (.bool q.f) ∧ W2.cell? ⟨w.heap.size + 1 + 1, 0, none⟩ = some (.int .i64 r.x) ∧ W2.cell? ⟨w.heap.size + 1 + 1, 1, none⟩ = some (.int .i64 r.y) ∧ W2.cell? ⟨w.heap.size + 1 + 1, 2, none⟩ = some (.bool r.f) ∧ BelF W0.heap.size W0 W2 from ⟨cell_later h.1 hb, cell_later h.2.1 hb, cell_later h.2.2.1 hb, cell_later h.2.2.2.1 hb, cell_later h.2.2.2.2.1 hb, cell_later h.2.2.2.2.2.1 hb, cell_later h.2.2.2.2.2.2.1 hb, cell_later h.2.2.2.2.2.2.2.1 hb, cell_later h.2.2.2.2.2.2.2.2.1 hb, h.2.2.2.2.2.2.2.2.2.next hb⟩))
  have HBS := Lib.hid (fun (W1 : World) (h : W1.cell? ⟨w.heap.size, 0, none⟩ = some (.int .i64 P) ∧ W1.cell? ⟨w.heap.size, 1, none⟩ = some (.int .i64 A) ∧ W1.cell? ⟨w.heap.size, 2, none⟩ = some (.int .i64 B) ∧ W1.cell? ⟨w.heap.size + 1, 0, none⟩ = some (.int .i64 q.x) ∧ W1.cell? ⟨w.heap.size + 1, 1, none⟩ = some (.int .i64 q.y) ∧ W1.cell? ⟨w.heap.size + 1, 2, none⟩ = some (.bool q.f) ∧ W1.cell? ⟨w.heap.size + 1 + 1, 0, none⟩ = some (.int .i64 r.x) ∧ W1.cell? ⟨w.heap.size + 1 + 1, 1, none⟩ = some (.int .i64 r.y) ∧ W1.cell? ⟨w.heap.size + 1 + 1, 2, none⟩ = some (.bool r.f) ∧ BelF W0.heap.size W0 W1) => (show Below W0.heap.size W0 W1 from h.2.2.2.2.2.2.2.2.2.to))
  have HS0 := Lib.hid (show W0.cell? ⟨w.heap.size, 0, none⟩ = some (.int .i64 P) ∧ W0.cell? ⟨w.heap.size, 1, none⟩ = some (.int .i64 A) ∧ W0.cell? ⟨w.heap.size, 2, none⟩ = some (.int .i64 B) ∧ W0.cell? ⟨w.heap.size + 1, 0, none⟩ = some (.int .i64 q.x) ∧ W0.cell? ⟨w.heap.size + 1, 1, none⟩ = some (.int .i64 q.y) ∧ W0.cell? ⟨w.heap.size + 1, 2, none⟩ = some (.bool q.f) ∧ W0.cell? ⟨w.heap.size + 1 + 1, 0, none⟩ = some (.int .i64 r.x) ∧ W0.cell? ⟨w.heap.size + 1 + 1, 1, none⟩ = some (.int .i64 r.y) ∧ W0.cell? ⟨w.heap.size + 1 + 1, 2, none⟩ = some (.bool r.f) ∧ BelF W0.heap.size W0 W0 from ⟨hc.1, hc.2.1, hc.2.2, hd.1, hd.2.1, hd.2.2, he.1, he.2.1, he.2.2, BelF.begin W0⟩)
  clear h hq hr hn hY hF hc hd he hr4 hf4 hsz hb4 hnn hsl hX hV hx2 hv2
  obtain ⟨f0, f1, f2, f3⟩ := HFa.out.below HB.out
  obtain ⟨c0, c1, c2⟩ := HC.out
  obtain ⟨d0, d1, d2⟩ := HD.out
  obtain ⟨e0, e1, e2⟩ := HE.out
  obtain ⟨bq0, bq1, bq2, bq3⟩ := bq
  obtain ⟨br0, br1, br2, br3⟩ := br
  go_enter Tryd.func62, Tryd.ntmps62
  go_wp2
  go_region_held3 (fun W => W.cell? ⟨w.heap.size, 0, none⟩ = some (.int .i64 P) ∧ W.cell? ⟨w.heap.size, 1, none⟩ = some (.int .i64 A) ∧ W.cell? ⟨w.heap.size, 2, none⟩ = some (.int .i64 B) ∧ W.cell? ⟨w.heap.size + 1, 0, none⟩ = some (.int .i64 q.x) ∧ W.cell? ⟨w.heap.size + 1, 1, none⟩ = some (.int .i64 q.y) ∧ W.cell? ⟨w.heap.size + 1, 2, none⟩ = some (.bool q.f) ∧ W.cell? ⟨w.heap.size + 1 + 1, 0, none⟩ = some (.int .i64 r.x) ∧ W.cell? ⟨w.heap.size + 1 + 1, 1, none⟩ = some (.int .i64 r.y) ∧ W.cell? ⟨w.heap.size + 1 + 1, 2, none⟩ = some (.bool r.f) ∧ BelF W0.heap.size W0 W)
    (first | exact HS0.out | exact HN.out _ _ hbt (by assumption) | exact HN.out _ _ (drew_below _) (by assumption) | exact HN.out _ _ (drew_below _) HS0.out)
    ((first
      | (go_at_call 82; refine (HT.out _).mono ?_; rintro e wx ⟨rfl, hbt⟩)))
  all_goals
    refine at_world (S := fun W => W.cell? ⟨w.heap.size, 0, none⟩ = some (.int .i64 P) ∧ W.cell? ⟨w.heap.size, 1, none⟩ = some (.int .i64 A) ∧ W.cell? ⟨w.heap.size, 2, none⟩ = some (.int .i64 B) ∧ W.cell? ⟨w.heap.size + 1, 0, none⟩ = some (.int .i64 q.x) ∧ W.cell? ⟨w.heap.size + 1, 1, none⟩ = some (.int .i64 q.y) ∧ W.cell? ⟨w.heap.size + 1, 2, none⟩ = some (.bool q.f) ∧ W.cell? ⟨w.heap.size + 1 + 1, 0, none⟩ = some (.int .i64 r.x) ∧ W.cell? ⟨w.heap.size + 1 + 1, 1, none⟩ = some (.int .i64 r.y) ∧ W.cell? ⟨w.heap.size + 1 + 1, 2, none⟩ = some (.bool r.f) ∧ BelF W0.heap.size W0 W) (G := fun W => Exit.then _ _ _ _ W) (by assumption) ?_
    intro w3 hS
    clear c0 c1 c2 d0 d1 d2 e0 e1 e2
    obtain ⟨c0, c1, c2, d0, d1, d2, e0, e1, e2, hs3⟩ := hS
    have hb3 := hs3.to
    have hlt4 : w.heap.size + 1 + 1 + 1 < W0.heap.size := by have := HZ.out; omega
    have HB3 := Lib.hid (HB.out.trans (hb3.mono HB.out.size))
    have HC3 := Lib.hid (show C3 w.heap.size (.int .i64 P) (.int .i64 A) (.int .i64 B) w3 from ⟨c0, c1, c2⟩)
    have HD3 := Lib.hid (show C3 (w.heap.size + 1) (.int .i64 q.x) (.int .i64 q.y) (.bool q.f) w3 from ⟨d0, d1, d2⟩)
    have HE3 := Lib.hid (show C3 (w.heap.size + 1 + 1) (.int .i64 r.x) (.int .i64 r.y) (.bool r.f) w3 from ⟨e0, e1, e2⟩)
    have HRX := Lib.hid (HR4.out.below hlt4 hb3)
    have HFX := Lib.hid (HF4.out.below hlt4 hb3)
    have HLX := Lib.hid (Nat.lt_of_lt_of_le hlt4 hb3.size)
    clear hs3 hb3 f0 f1 f2 f3 hW0 hlt4
    go_wp2_with fail
    refine (HSL.out _).mono ?_
    rintro e w4 ⟨rfl, hb⟩
    have HB4 := Lib.hid (HB3.out.trans (hb.mono HB3.out.size))
    obtain ⟨k0, k1, k2⟩ := HRX.out.later hb
    obtain ⟨z0, z1, z2⟩ := HFX.out.below HLX.out hb
    clear c0 c1 c2 d0 d1 d2 e0 e1 e2
    obtain ⟨c0, c1, c2⟩ := HC3.out.later hb
    obtain ⟨d0, d1, d2⟩ := HD3.out.later hb
    obtain ⟨e0, e1, e2⟩ := HE3.out.later hb
    clear hb
    go_wp2_with fail
    refine (HX.out _).mono ?_
    rintro e w5 ⟨rfl, rfl⟩
    go_wp2_with fail
    refine (HV.out _).mono ?_
    rintro e w5 ⟨rfl, rfl⟩
    go_wp2
    exact bodyPost_ret (v := .agg #[.int .i64 X, .int .i64 V, .bool false]) (by simp [results, Tryd.results62, go_sem, k0, k1, k2]) rfl ⟨rfl, set3 HB4.out (by omega) _ _ _⟩

theorem sum_any (P A B : Int) (q r : Pt) (hv : vB P A B = true) (hq : onB P A B q = true) (hr : onB P A B r = true) (w : World) (hF : Far w) :
    Calls Tryd.prog 62 #[.agg #[.int .i64 P, .int .i64 A, .int .i64 B], .agg #[.int .i64 q.x, .int .i64 q.y, .bool q.f], .agg #[.int .i64 r.x, .int .i64 r.y, .bool r.f]] w fun e w' => e = .returned (.agg #[.int .i64 (sumP P A q r).x, .int .i64 (sumP P A q r).y, .bool (sumP P A q r).f]) ∧ Below w.heap.size w w' := by
  have h := (vB_iff.1 hv).1
  have hA := (vB_le hv).2.1
  by_cases nq : q = farP
  · have e : sumP P A q r = r := by unfold sumP; rw [if_pos nq]
    rw [e]; exact sum_far P A B q r nq w hF
  · by_cases nr : r = farP
    · have e : sumP P A q r = q := by unfold sumP; rw [if_neg nq, if_pos nr]
      rw [e]; exact sum_far2 P A B q r nq nr w hF
    · obtain ⟨fq, cq⟩ := (on_cases hq).resolve_left nq
      obtain ⟨fr, cr⟩ := (on_cases hr).resolve_left nr
      by_cases hn : r = turnP P q
      · have e : sumP P A q r = farP := by unfold sumP; rw [if_neg nq, if_neg nr, if_pos hn]
        rw [e]
        exact sum_opp P A B q r h hA nq nr ⟨cq.1.1, cq.1.2, cq.2.1.1, cq.2.1.2⟩ ⟨cr.1.1, cr.1.2, cr.2.1.1, cr.2.1.2⟩ hn w hF
      · have e : sumP P A q r = ⟨thirdX P q r (slopeP P A q r), thirdY P q r (slopeP P A q r), false⟩ := by unfold sumP; rw [if_neg nq, if_neg nr, if_neg hn]
        obtain ⟨hs, hl⟩ := slope_line h cq cr fq fr hn
        refine sum_gen P A B q r h hA nq nr ⟨cq.1.1, cq.1.2, cq.2.1.1, cq.2.1.2⟩ ⟨cr.1.1, cr.1.2, cr.2.1.1, cr.2.1.2⟩ hn hs ⟨?_, ?_⟩ _ e w hF
        · rintro rfl
          rcases hl with ⟨k1, -⟩ | ⟨-, -, k3, -⟩
          · exact absurd ⟨0, by omega⟩ k1
          · exact k3
        · intro hne
          rcases hl with ⟨k1, -⟩ | ⟨k1, k2, -, -⟩
          · exact k1
          · refine absurd ?_ hne
            obtain ⟨x1, y1, f1⟩ := q
            obtain ⟨x2, y2, f2⟩ := r
            simp only at k1 k2 fq fr
            rw [k1, k2, fq, fr]
end Go.Proofs.YtoepghlkjbpkfaaDoor
