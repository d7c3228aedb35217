/- The walks of the reference's Left, Twice, Share and Needless. Condition: the slice is a system that lies in memory. -/
import Derived.Test.YtanhjgneaaenpaaRefT
namespace Go.Proofs.Ytanhjgneaaenpaa
open Go.RowKit
attribute [local go_sem] Oper.semAt_some
set_option maxRecDepth 100000 in
set_option maxHeartbeats 8000000 in
theorem refLeft_any (a : Option Addr) (n c : Nat) (xs : List (Int × Int)) (w : World) (h : Prs w a n xs) (hs : Sys xs) (r1 r2 : Int) (hr : leftF xs = (r1, r2)) :
    Calls Try.prog 21 #[.slice a n c] w fun e w' => e = .returned (.tuple #[.int .i64 r1, .int .i64 r2]) ∧ Below w.heap.size w w' := by
  have HT := Lib.hid (refTimes_any a n c xs w h hs)
  have hW2 := hs.wl2
  unfold leftF at hr
  obtain ⟨W, hWl⟩ : ∃ W, wl xs = W := ⟨_, rfl⟩
  rw [hWl] at HT hW2 hr
  have HR := Lib.hid hr
  clear h hs hr hWl
  go_enter Try.func21, Try.ntmps21
  go_wp2_with fail
  refine HT.out.mono ?_
  rintro e w1 ⟨g, rfl, ht, hb⟩
  have HTT := Lib.hid ht
  have HB := Lib.hid hb
  clear ht hb HT
  go_wp2
  go_loopg [4, 5, 9] W (fun gk s4 s5 s9 wr => ∃ (d : Nat), d + gk = W ∧ s9 = .int .i64 (d : Int) ∧ lst (fun n => decide (tm (n : Int) xs = 0)) d gk = (r1, r2) ∧ wr = w1)
  case atStart => exact ⟨0, by omega, rfl, HR.out, rfl⟩
  case round =>
    obtain ⟨d, hd, rfl, hl, hww⟩ := hrel
    subst hww
    have HD := Lib.hid hd
    have HL := Lib.hid hl
    clear hl
    cases gk with
    | zero =>
      have hge : ¬ (d : Int) < (W : Int) := by omega
      have hge2 : ¬ d < W := by omega
      have e := HL.out
      rw [lst_end] at e
      obtain ⟨rfl, rfl⟩ : r1 = 0 ∧ r2 = 4 := by simp at e; omega
      clear e hd
      go_wp2
      go_ret2
      exact ⟨rfl, HB.out⟩
    | succ k =>
      have hlt : (d : Int) < (W : Int) := by omega
      have hlt2 : d < W := by omega
      have d0 : (0 : Int) ≤ (d : Int) := by omega
      have hcd := HTT.out.cell hlt2
      obtain ⟨T, hT⟩ : ∃ T, tm (d : Int) xs = T := ⟨_, rfl⟩
      rw [hT] at hcd
      have HTE := Lib.hid hT
      have d1 : (d : Int) ≤ 10080 := by omega
      clear hd hT
      by_cases hp : T = 0
      · have e := HL.out
        rw [lst_yes k (by rw [HTE.out]; exact decide_eq_true hp)] at e
        obtain ⟨rfl, rfl⟩ : (d : Int) = r1 ∧ (0 : Int) = r2 := by simpa using e
        have hq1 : ((T : Int) == 0) = true := by simp; omega
        skip
        clear e
        go_wp2
        go_ret2
        exact ⟨rfl, HB.out⟩
      · have e := HL.out
        rw [lst_no k (by rw [HTE.out]; exact decide_eq_false hp)] at e
        have HE := Lib.hid e
        have hq1 : ((T : Int) == 0) = false := by simp; omega
        skip
        clear e
        go_wp2
        go_roundg k
        case rel => exact ⟨d + 1, by have := HD.out; omega, by go_num, HE.out, rfl⟩
        case measure => omega
set_option maxRecDepth 100000 in
set_option maxHeartbeats 8000000 in
theorem refTwice_any (a : Option Addr) (n c : Nat) (xs : List (Int × Int)) (w : World) (h : Prs w a n xs) (hs : Sys xs) (r1 r2 : Int) (hr : twiceF xs = (r1, r2)) :
    Calls Try.prog 22 #[.slice a n c] w fun e w' => e = .returned (.tuple #[.int .i64 r1, .int .i64 r2]) ∧ Below w.heap.size w w' := by
  have HT := Lib.hid (refTimes_any a n c xs w h hs)
  have hW2 := hs.wl2
  unfold twiceF at hr
  obtain ⟨W, hWl⟩ : ∃ W, wl xs = W := ⟨_, rfl⟩
  rw [hWl] at HT hW2 hr
  have HR := Lib.hid hr
  clear h hs hr hWl
  go_enter Try.func22, Try.ntmps22
  go_wp2_with fail
  refine HT.out.mono ?_
  rintro e w1 ⟨g, rfl, ht, hb⟩
  have HTT := Lib.hid ht
  have HB := Lib.hid hb
  clear ht hb HT
  go_wp2
  go_loopg [4, 5, 9] W (fun gk s4 s5 s9 wr => ∃ (d : Nat), d + gk = W ∧ s9 = .int .i64 (d : Int) ∧ lst (fun n => decide (1 < tm (n : Int) xs)) d gk = (r1, r2) ∧ wr = w1)
  case atStart => exact ⟨0, by omega, rfl, HR.out, rfl⟩
  case round =>
    obtain ⟨d, hd, rfl, hl, hww⟩ := hrel
    subst hww
    have HD := Lib.hid hd
    have HL := Lib.hid hl
    clear hl
    cases gk with
    | zero =>
      have hge : ¬ (d : Int) < (W : Int) := by omega
      have hge2 : ¬ d < W := by omega
      have e := HL.out
      rw [lst_end] at e
      obtain ⟨rfl, rfl⟩ : r1 = 0 ∧ r2 = 4 := by simp at e; omega
      clear e hd
      go_wp2
      go_ret2
      exact ⟨rfl, HB.out⟩
    | succ k =>
      have hlt : (d : Int) < (W : Int) := by omega
      have hlt2 : d < W := by omega
      have d0 : (0 : Int) ≤ (d : Int) := by omega
      have hcd := HTT.out.cell hlt2
      obtain ⟨T, hT⟩ : ∃ T, tm (d : Int) xs = T := ⟨_, rfl⟩
      rw [hT] at hcd
      have HTE := Lib.hid hT
      have d1 : (d : Int) ≤ 10080 := by omega
      clear hd hT
      by_cases hp : 1 < T
      · have e := HL.out
        rw [lst_yes k (by rw [HTE.out]; exact decide_eq_true hp)] at e
        obtain ⟨rfl, rfl⟩ : (d : Int) = r1 ∧ (0 : Int) = r2 := by simpa using e
        have hq1 : decide ((1 : Int) < (T : Int)) = true := by simp; omega
        have hq2 : (1 : Int) < (T : Int) := by omega
        clear e
        go_wp2
        go_ret2
        exact ⟨rfl, HB.out⟩
      · have e := HL.out
        rw [lst_no k (by rw [HTE.out]; exact decide_eq_false hp)] at e
        have HE := Lib.hid e
        have hq1 : decide ((1 : Int) < (T : Int)) = false := by simp; omega
        have hq2 : ¬ (1 : Int) < (T : Int) := by omega
        clear e
        go_wp2
        go_roundg k
        case rel => exact ⟨d + 1, by have := HD.out; omega, by go_num, HE.out, rfl⟩
        case measure => omega
set_option maxRecDepth 100000 in
set_option maxHeartbeats 8000000 in
theorem refShare_any (a : Option Addr) (n c : Nat) (xs : List (Int × Int)) (w : World) (h : Prs w a n xs) (hs : Sys xs) (u v : Int) (hu : numF xs = u) (hv : denF xs = v) :
    Calls Try.prog 23 #[.slice a n c] w fun e w' => e = .returned (.agg #[.int .i64 u, .int .i64 v]) ∧ Below w.heap.size w w' := by
  have hb0 : Below w.heap.size w (w.alloc (.cells #[.int .i64 0, .int .i64 0] 28)) := (Below.refl _ _).alloc (Nat.le_refl _) _
  have HT := Lib.hid (refTimes_any a n c xs _ (h.below hb0) hs)
  have HB0 := Lib.hid hb0
  have hW1 := hs.wl1
  have hW2 := hs.wl2
  unfold numF at hu
  unfold denF at hv
  obtain ⟨W, hWl⟩ : ∃ W, wl xs = W := ⟨_, rfl⟩
  rw [hWl] at HT hW1 hW2 hu hv
  have hCle : covF xs W ≤ W := cnt_le _ _
  obtain ⟨C, hC⟩ : ∃ C, covF xs W = C := ⟨_, rfl⟩
  rw [hC] at hu hv hCle
  have HC := Lib.hid hC
  have hG := fun w => gcdR_any C W (by omega) (by omega) w
  have hg1 := Nat.gcd_pos_of_pos_right C (show 0 < W by omega)
  have hg2 := Nat.le_of_dvd (show 0 < W by omega) (Nat.gcd_dvd_right C W)
  obtain ⟨G, hGG⟩ : ∃ G, Nat.gcd C W = G := ⟨_, rfl⟩
  rw [hGG] at hu hv hG hg1 hg2
  rw [Int.natCast_ediv] at hu hv
  have HG := Lib.hid hG
  have g0 : ¬ (G : Int) = 0 := by omega
  have g1 : (0 : Int) < (G : Int) := by omega
  have q1 : wrap64 ((C : Int) / (G : Int)) = u := by
    rw [← hu]
    exact IntWalk.wrap64_in _ (by
      rw [← Int.natCast_ediv]
      have := Nat.div_le_self C G
      generalize C / G = t at this ⊢
      omega)
  have q2 : wrap64 ((W : Int) / (G : Int)) = v := by
    rw [← hv]
    exact IntWalk.wrap64_in _ (by
      rw [← Int.natCast_ediv]
      have := Nat.div_le_self W G
      generalize W / G = t at this ⊢
      omega)
  have HU := Lib.hid hu
  have HV := Lib.hid hv
  have HQ1 := Lib.hid q1
  have HQ2 := Lib.hid q2
  have HRS := Lib.hid (fun w1 => res2 (w := w) (w1 := w1))
  clear h hs hu hv hC hWl hb0 hG hGG q1 q2
  go_enter Try.func23, Try.ntmps23
  go_wp2_with fail
  refine HT.out.mono ?_
  rintro e w1 ⟨g, rfl, ht, hb⟩
  have HTT := Lib.hid ht
  have HX := Lib.hid hb
  clear ht hb HT
  go_wp2
  go_loopg [3, 4, 6, 11] W (fun gk s3 s4 s6 s11 wr => ∃ (d : Nat), d + gk = W ∧ s11 = .int .i64 (d : Int) ∧ s4 = .int .i64 (d : Int) ∧ s3 = .int .i64 ((covF xs d : Nat) : Int) ∧ wr = w1)
  case atStart => exact ⟨0, by omega, rfl, rfl, rfl, rfl⟩
  case round =>
    obtain ⟨d, hd, rfl, rfl, rfl, hww⟩ := hrel
    subst hww
    have HD := Lib.hid hd
    by_cases hdW : d = W
    · subst hdW
      have hge : ¬ (d : Int) < (d : Int) := by omega
      have hge2 : ¬ d < d := by omega
      rw [HC.out]
      clear hd
      go_wp2_with fail
      refine (HG.out _).mono ?_
      rintro e w2 ⟨rfl, q, rfl⟩
      obtain ⟨c0, c1, f0, f1⟩ := HRS.out _ HX.out
      have HB := Lib.hid (below_drewN (HB0.out.trans (HX.out.mono HB0.out.size)) (q + 1))
      have q1 := HQ1.out
      have q2 := HQ2.out
      go_wp2
      go_region
      go_wp2
      exact bodyPost_ret (v := .agg #[.int .i64 u, .int .i64 v]) (by simp [results, Try.results23, go_sem, c0, c1]) rfl ⟨rfl, (HB.out.setCell (p := ⟨w.heap.size, 0, none⟩) (Nat.le_refl _) _).setCell (p := ⟨w.heap.size, 1, none⟩) (Nat.le_refl _) _⟩
    · have hlt : (d : Int) < (W : Int) := by omega
      have hlt2 : d < W := by omega
      have d0 : (0 : Int) ≤ (d : Int) := by omega
      have hcd := HTT.out.cell hlt2
      have hsc : covF xs (d + 1) = covF xs d + if decide (0 < tm (d : Int) xs) = true then 1 else 0 := rfl
      have hle : covF xs d ≤ d := cnt_le _ _
      obtain ⟨T, hT⟩ : ∃ T, tm (d : Int) xs = T := ⟨_, rfl⟩
      rw [hT] at hcd hsc
      obtain ⟨K, hK⟩ : ∃ K, covF xs d = K := ⟨_, rfl⟩
      rw [hK] at hsc hle ⊢
      have HS := Lib.hid hsc
      have d1 : (d : Int) ≤ 10080 := by omega
      have kk1 : (K : Int) ≤ 10080 := by omega
      clear hd hT hdW hK hsc
      by_cases hp : 0 < T
      · have hTi : (0 : Int) < (T : Int) := by omega
        have hS2 := Lib.hid (show covF xs (d + 1) = K + 1 by rw [HS.out, decide_eq_true hp, if_pos rfl])
        go_wp2
        go_roundg (W - d - 1)
        case rel => exact ⟨d + 1, by have := HD.out; omega, by go_num, by go_num, by rw [hS2.out]; go_num, rfl⟩
        case measure => have := HD.out; omega
      · have hTi : ¬ (0 : Int) < (T : Int) := by omega
        have hS2 := Lib.hid (show covF xs (d + 1) = K by rw [HS.out, decide_eq_false hp, if_neg (by decide), Nat.add_zero])
        go_wp2
        go_roundg (W - d - 1)
        case rel => exact ⟨d + 1, by have := HD.out; omega, by go_num, by go_num, by rw [hS2.out], rfl⟩
        case measure => have := HD.out; omega

theorem cell_pair2 (W : World) (x y : Value) (t : TypeId) : (W.alloc (.cells #[x, y] t)).cell? ⟨W.heap.size, 0, none⟩ = some x ∧ (W.alloc (.cells #[x, y] t)).cell? ⟨W.heap.size, 1, none⟩ = some y := by
  constructor
  · unfold World.cell?; rw [heap_alloc_last]; rfl
  · unfold World.cell?; rw [heap_alloc_last]; rfl
theorem wo_tm {L : List (Int × Int)} {i : Nat} (hi : i < L.length) (n : Int) : tm n L = tm n (wo L i) + if cvB n (nth L i) = true then 1 else 0 := by
  have e : L = L.take i ++ [nth L i] ++ L.drop (i + 1) := by rw [← take_succ2 hi, List.take_append_drop]
  conv => lhs; rw [e]
  unfold wo
  rw [tm_app, tm_app, tm_app]
  simp only [tm]
  omega
theorem need_iff {L : List (Int × Int)} {i : Nat} (hi : i < L.length) : needB L i = true ↔ ∀ n : Nat, n < wl L → cvB (n : Int) (nth L i) = true → 1 < tm (n : Int) L := by
  unfold needB
  rw [decide_eq_true_eq, cnt_zero]
  constructor
  · intro h n hn hc
    have h1 := h n hn
    have h2 := wo_tm hi (n : Int)
    rw [if_pos hc] at h2
    unfold missB at h1
    apply Classical.byContradiction
    intro hlt
    have h3 : 0 < tm (n : Int) L := by omega
    have h4 : tm (n : Int) (wo L i) = 0 := by omega
    rw [decide_eq_true h3, decide_eq_true h4] at h1
    cases h1
  · intro h n hn
    have h2 := wo_tm hi (n : Int)
    unfold missB
    by_cases hc : cvB (n : Int) (nth L i) = true
    · have := h n hn hc
      rw [if_pos hc] at h2
      rw [decide_eq_false (show ¬ tm (n : Int) (wo L i) = 0 by omega), Bool.and_false]
    · rw [if_neg hc] at h2
      by_cases h0 : 0 < tm (n : Int) L
      · rw [decide_eq_false (show ¬ tm (n : Int) (wo L i) = 0 by omega), Bool.and_false]
      · rw [decide_eq_false h0, Bool.false_and]
/-- The reference's loop over the numbers that a pair covers. -/
def okF (xs : List (Int × Int)) (X Y t : Nat) : Bool := (List.range t).all fun s => decide (1 < tm ((X + s * Y : Nat) : Int) xs)
theorem okF_succ (xs : List (Int × Int)) (X Y t : Nat) : okF xs X Y (t + 1) = (okF xs X Y t && decide (1 < tm ((X + t * Y : Nat) : Int) xs)) := by
  unfold okF
  rw [List.range_succ, List.all_append]; simp
theorem okF_need {L : List (Int × Int)} {i X Y t : Nat} (hi : i < L.length) (hp : nth L i = ((X : Int), (Y : Int))) (hXY : X < Y) (h1 : wl L ≤ X + t * Y) (h2 : ∀ s, s < t → X + s * Y < wl L) : okF L X Y t = needB L i := by
  rw [Bool.eq_iff_iff, need_iff hi, hp]
  unfold okF
  simp only [List.all_eq_true, List.mem_range, decide_eq_true_eq]
  constructor
  · intro h n hn hc
    rw [cv_mod (by omega) (by omega)] at hc
    have hc' : n % Y = X := by simpa using hc
    have hdm := Nat.div_add_mod n Y
    rw [hc', Nat.mul_comm] at hdm
    have hs : n / Y < t := by
      rcases Nat.lt_or_ge (n / Y) t with hh | hh
      · exact hh
      · have := Nat.mul_le_mul_right Y hh; omega
    have := h (n / Y) hs
    rw [show X + n / Y * Y = n by omega] at this
    exact this
  · intro h s hs
    refine h _ (h2 s hs) ?_
    rw [cv_mod (by omega) (by omega)]
    simp only [Int.toNat_natCast, decide_eq_true_eq]
    rw [Nat.add_mul_mod_self_right, Nat.mod_eq_of_lt hXY]
set_option maxRecDepth 100000 in
set_option maxHeartbeats 8000000 in
theorem refNeedless_any (a : Option Addr) (n c : Nat) (xs : List (Int × Int)) (w : World) (h : Prs w a n xs) (hs : Sys xs) :
    Calls Try.prog 25 #[.slice a n c] w fun e w' => ∃ v, e = .returned v ∧ RowI w.heap.size v (needL xs n) w' ∧ Below w.heap.size w w' := by
  have H := Lib.hid h
  have HL := Lib.hid h.1
  have HY := Lib.hid hs
  have hn : n ≤ 10 := by have := hs.len2; have := h.1; omega
  have HT := Lib.hid (refTimes_any a n c xs w h hs)
  have hW2 := hs.wl2
  obtain ⟨i0, hi, hz0, hz1, hz2⟩ := info_parts info3
  have HI := Lib.hid (And.intro hi (And.intro hz0 (And.intro hz1 hz2)))
  obtain ⟨W, hWl⟩ : ∃ W, wl xs = W := ⟨_, rfl⟩
  have HWL := Lib.hid hWl
  rw [hWl] at HT hW2
  clear h hs hi hz0 hz1 hz2 hWl
  go_enter Try.func25, Try.ntmps25
  go_wp2_with fail
  refine HT.out.mono ?_
  rintro e w1 ⟨g, rfl, ht, hb⟩
  have HTT := Lib.hid ht
  have HB1 := Lib.hid hb
  have hgle := ht.le
  have hglt := ht.lt
  obtain ⟨B1, hB1⟩ : ∃ B1, w1.heap.size = B1 := ⟨_, rfl⟩
  have HB1S := Lib.hid hB1
  have hwB : w.heap.size ≤ B1 := by rw [← hB1]; exact hb.size
  rw [hB1] at hglt
  clear ht hb HT hB1
  go_wp2
  go_loopg [3, 5, 6, 7, 8, 13] n (fun gk s3 s5 s6 s7 s8 s13 wr => ∃ (i : Nat), i + gk = n ∧ s13 = .int .i64 (i : Int) ∧ RowI B1 s3 (needL xs i) wr ∧ Below B1 w1 wr)
  case atStart => exact ⟨0, by omega, rfl, World.ownsRow_nil _ _ _ _, Below.refl _ _⟩
  case round =>
    obtain ⟨i, hii, rfl, ho, hb⟩ := hrel
    have HO := Lib.hid ho
    have HB := Lib.hid hb
    have HII := Lib.hid hii
    clear ho hb
    by_cases hin : i = n
    · have hge : ¬ (i : Int) < (n : Int) := by omega
      have hge2 : ¬ i < n := by omega
      have ho := HO.out
      rw [hin] at ho
      have HF := Lib.hid (own_base ho hwB)
      have HBF := Lib.hid (HB1.out.trans (HB.out.mono hwB))
      clear hin hii ho
      go_wp2
      go_ret
      exact ⟨_, rfl, HF.out, HBF.out⟩
    · have hlt : (i : Int) < (n : Int) := by omega
      have hlt2 : i < n := by omega
      have j0 : (0 : Int) ≤ (i : Int) := by omega
      have hBw := HB1.out.trans (HB.out.mono hwB)
      obtain ⟨b, off, rfl, hbl, hc⟩ := (H.out.below hBw).at (by omega)
      obtain ⟨c0, c1⟩ := hc i hlt2
      obtain ⟨k1, k2, k3, k4⟩ := HY.out.nth (j := i) (by have := HL.out; omega)
      obtain ⟨x, hx⟩ : ∃ x, (nth xs i).1 = x := ⟨_, rfl⟩
      obtain ⟨y, hy⟩ : ∃ y, (nth xs i).2 = y := ⟨_, rfl⟩
      have hpn : nth xs i = (x, y) := by rw [← hx, ← hy]
      rw [hx] at c0 k3 k4
      rw [hy] at c1 k1 k2 k4
      obtain ⟨X, rfl⟩ := Int.eq_ofNat_of_zero_le k3
      obtain ⟨Y, rfl⟩ := Int.eq_ofNat_of_zero_le (show 0 ≤ y by omega)
      have HPN := Lib.hid hpn
      have HXB := Lib.hid ((HB.out.alloc (show B1 ≤ wr.heap.size by rw [← HB1S.out]; exact Nat.le_trans (Nat.le_of_eq rfl) (by have := HB.out.size; exact this)) (.cells #[.int .i64 (X : Int), .int .i64 (Y : Int)] 44)))
      have HOX := Lib.hid (World.ownsRow.alloc (h := HO.out) (.cells #[.int .i64 (X : Int), .int .i64 (Y : Int)] 44))
      have hcp := cell_pair2 wr (.int .i64 (X : Int)) (.int .i64 (Y : Int)) 44
      obtain ⟨gx, hgx⟩ : ∃ gx, wr.heap.size = gx := ⟨_, rfl⟩
      obtain ⟨W2, hW2'⟩ : ∃ W2, wr.alloc (.cells #[.int .i64 (X : Int), .int .i64 (Y : Int)] 44) = W2 := ⟨_, rfl⟩
      rw [hgx] at hcp
      rw [hW2'] at HXB HOX hcp
      have HCP := Lib.hid hcp
      have HG := Lib.hid hgx
      have HW2 := Lib.hid hW2'
      clear hin hii hBw hc hx hy hpn hgx hW2' hcp
      have HNB := Lib.hid (fun t => okF_need (L := xs) (i := i) (X := X) (Y := Y) (t := t) (by have := HL.out; omega) HPN.out (by omega))
      have hXW : (X : Int) ≤ 60 := by omega
      have Y0 : (0 : Int) < (Y : Int) := by omega
      have Y60 : (Y : Int) ≤ 60 := by omega
      go_wp2
      rw [HG.out, HW2.out]
      have hc0 := HCP.out.1
      have hc1 := HCP.out.2
      go_wp2
      go_loopg [7, 8] (W + 100) (fun gk s7 s8 wr => ∃ (t N : Nat), N = X + t * Y ∧ N + gk = W + 100 + X ∧ s8 = .int .i64 (N : Int) ∧ s7 = .bool (okF xs X Y t) ∧ (∀ s, s < t → X + s * Y < W) ∧ wr = W2)
      case atStart => exact ⟨0, X, by omega, by omega, rfl, rfl, fun s hs => by omega, rfl⟩
      case round =>
        obtain ⟨t, N, hN, hgk, rfl, rfl, hall, hww⟩ := hrel
        subst hww
        have HN := Lib.hid hN
        have HGK := Lib.hid hgk
        have HALL := Lib.hid hall
        obtain ⟨K, hK⟩ : ∃ K, okF xs X Y t = K := ⟨_, rfl⟩
        rw [hK]
        have HK := Lib.hid hK
        clear hall hK
        by_cases hNW : N < W
        · have hNlt : (N : Int) < (W : Int) := by omega
          have N0 : (0 : Int) ≤ (N : Int) := by omega
          have hcd := (HXB.out.cell (p := ⟨g, N, none⟩) hglt).trans (HTT.out.cell hNW)
          have hle := tm_le (N : Int) xs
          obtain ⟨T, hT⟩ : ∃ T, tm (N : Int) xs = T := ⟨_, rfl⟩
          rw [hT] at hcd hle
          have HS := Lib.hid (show okF xs X Y (t + 1) = (K && decide (1 < T)) by rw [okF_succ, HK.out, ← HN.out, hT])
          have HAL := Lib.hid (show ∀ s, s < t + 1 → X + s * Y < W from fun s hs => by
            by_cases e : s = t
            · subst e; rw [← HN.out]; exact hNW
            · exact HALL.out s (by omega))
          have HNN := Lib.hid (show N + Y = X + (t + 1) * Y by rw [HN.out, Nat.succ_mul]; omega)
          have N1 : (N : Int) ≤ 10080 := by omega
          clear hN hgk hT hle
          cases K with
          | false =>
            go_wp2
            go_roundg (W + 100 + X - (N + Y))
            case rel => exact ⟨t + 1, N + Y, HNN.out, by have := HGK.out; omega, by go_num, by rw [HS.out, Bool.false_and], HAL.out, rfl⟩
            case measure => have := HGK.out; omega
          | true =>
            by_cases h1 : 1 < T
            · have h1i : (1 : Int) < (T : Int) := by omega
              have h1d : decide ((1 : Int) < (T : Int)) = true := by simpa using h1i
              have HS2 := Lib.hid (show okF xs X Y (t + 1) = true by rw [HS.out, decide_eq_true h1]; rfl)
              go_wp2
              go_roundg (W + 100 + X - (N + Y))
              case rel => exact ⟨t + 1, N + Y, HNN.out, by have := HGK.out; omega, by go_num, by rw [HS2.out], HAL.out, rfl⟩
              case measure => have := HGK.out; omega
            · have h1i : ¬ (1 : Int) < (T : Int) := by omega
              have h1d : decide ((1 : Int) < (T : Int)) = false := by simpa using h1i
              have HS2 := Lib.hid (show okF xs X Y (t + 1) = false by rw [HS.out, decide_eq_false h1]; rfl)
              go_wp2
              go_roundg (W + 100 + X - (N + Y))
              case rel => exact ⟨t + 1, N + Y, HNN.out, by have := HGK.out; omega, by go_num, by rw [HS2.out], HAL.out, rfl⟩
              case measure => have := HGK.out; omega
        · have hNge : ¬ (N : Int) < (W : Int) := by omega
          have hKB : K = needB xs i := by
            rw [← HK.out]
            exact HNB.out t (by rw [HWL.out, ← HN.out]; omega) (by rw [HWL.out]; exact HALL.out)
          have HNS := Lib.hid (needL_succ xs i)
          have HNL := Lib.hid (needL_len xs i)
          clear hN hgk
          cases K with
          | false =>
            have HNI := Lib.hid (show RowI B1 u3 (needL xs (i + 1)) wr by rw [HNS.out, ← hKB]; simp only [Bool.false_eq_true, if_false, List.append_nil]; exact HOX.out)
            clear hKB
            go_wp2
            go_roundg (n - i - 1)
            case rel => exact ⟨i + 1, by have := HII.out; omega, by go_num, HNI.out, HXB.out⟩
            case measure => have := HII.out; omega
          | true =>
            have HS2 := Lib.hid (show needL xs (i + 1) = needL xs i ++ [(i : Int)] by rw [HNS.out, ← hKB]; rfl)
            obtain ⟨hi, hz0, hz1, hz2⟩ := HI.out
            have ho := HOX.out
            unfold RowI at ho
            have hsz := HXB.out.size
            rw [HB1S.out] at hsz
            have hnl := HNL.out
            clear hKB
            go_wp2_with (at_builtin; refine wpList_append_own _ rfl _ _ 31 rfl B1 3 i0 (.int .i64 0) 1 8 Try.underlying31 hi hz0 hz1 hz2 rfl (by decide) _ _ _ rfl (World.ownsRow.alloc (h := ho) _) ⟨wr.heap.size, 0, none⟩ 1 1 [.int .i64 (i : Int)] rfl rfl (cell_one_new _ _ _) (by simp [Value.oneCell']) (by unfold maxLen; omega) (by omega) (by simp; omega) ?_; intro v' w5 hown' hgrow _)
            have hb5 : Below B1 w1 w5 := (HXB.out.alloc hsz _).grown hgrow (by simp; omega) (fun j e => (ho.lt j e).1)
            have HX5 := Lib.hid hb5
            have HN5 := Lib.hid (show RowI B1 v' (needL xs (i + 1)) w5 by
              unfold RowI
              rw [HS2.out, List.length_append, List.map_append]
              exact hown')
            clear hown' hgrow hb5
            go_roundg (n - i - 1)
            case rel => exact ⟨i + 1, by have := HII.out; omega, by go_num, HN5.out, HX5.out⟩
            case measure => have := HII.out; omega
end Go.Proofs.Ytanhjgneaaenpaa
