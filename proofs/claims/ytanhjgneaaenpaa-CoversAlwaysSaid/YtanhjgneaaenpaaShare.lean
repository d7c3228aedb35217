/- The walks of fraction, covered and covers.Share. Condition: the slice of pairs lies in memory. -/
import Derived.Test.YtanhjgneaaenpaaLeft
namespace Go.Proofs.Ytanhjgneaaenpaa
open Go.RowKit
attribute [local go_sem] Oper.semAt_some

set_option maxHeartbeats 2000000 in
theorem covered_any (a : Option Addr) (n c : Nat) (xs : List (Int × Int)) (k : Nat) (w : World) (h : Prs w a n xs) (hok : Ok xs) (hn : n ≤ 10) (hk : k ≤ 10080) :
    Calls Try.prog 51 #[.slice a n c, .int .i64 (k : Int)] w fun e w' => e = .returned (.int .i64 ((covF xs k : Nat) : Int)) ∧ Below w.heap.size w w' := by
  have H := Lib.hid h
  have HOK := Lib.hid hok
  clear h hok
  go_enter Try.func51, Try.ntmps51
  go_wp2
  go_loopg [5, 8] k (fun gk s5 s8 wr => ∃ (d : Nat), d + gk = k ∧ s8 = .int .i64 (d : Int) ∧ s5 = .int .i64 ((covF xs d : Nat) : Int) ∧ Below w.heap.size w wr)
  case atStart => exact ⟨0, by omega, rfl, rfl, Below.refl _ _⟩
  case round =>
    obtain ⟨d, hd, rfl, rfl, hb⟩ := hrel
    have HB := Lib.hid hb
    have HD := Lib.hid hd
    clear hb
    by_cases hdk : d = k
    · have hge : ¬ (d : Int) < (k : Int) := by omega
      clear hd
      subst hdk
      go_wp2
      go_ret
      exact ⟨rfl, HB.out⟩
    · have hlt : (d : Int) < (k : Int) := by omega
      have hT := times_any a n c xs d wr (H.out.below HB.out) HOK.out (by omega) (by omega)
      have hs : covF xs (d + 1) = covF xs d + if decide (0 < tm d xs) = true then 1 else 0 := rfl
      obtain ⟨T, ht⟩ : ∃ T, tm d xs = T := ⟨_, rfl⟩
      rw [ht] at hT hs
      have hle : covF xs d ≤ d := cnt_le _ _
      obtain ⟨C, hC⟩ : ∃ C, covF xs d = C := ⟨_, rfl⟩
      rw [hC] at hs hle ⊢
      have HS := Lib.hid hs
      have HT := Lib.hid hT
      have d1 : (d : Int) ≤ 10080 := by omega
      have c1 : (C : Int) ≤ 10080 := by omega
      clear hdk hd hT hs ht hC
      go_wp2_with fail
      refine HT.out.mono ?_
      rintro e w1 ⟨rfl, hb1⟩
      have HB1 := Lib.hid (HB.out.trans (hb1.mono HB.out.size))
      clear hb1 HT
      by_cases hT0 : 0 < T
      · have hTi : (0 : Int) < (T : Int) := by omega
        have hS := Lib.hid (show covF xs (d + 1) = C + 1 by rw [HS.out, decide_eq_true hT0, if_pos rfl])
        clear HS hT0
        go_wp2
        go_roundg (gk - 1)
        case rel => exact ⟨d + 1, by have := HD.out; omega, by go_num, by rw [hS.out]; go_num, HB1.out⟩
        case measure => have := HD.out; omega
      · have hTi : ¬ (0 : Int) < (T : Int) := by omega
        have hS := Lib.hid (show covF xs (d + 1) = C by rw [HS.out, decide_eq_false hT0, if_neg (by decide), Nat.add_zero])
        clear HS hT0
        go_wp2
        go_roundg (gk - 1)
        case rel => exact ⟨d + 1, by have := HD.out; omega, by go_num, by rw [hS.out], HB1.out⟩
        case measure => have := HD.out; omega

set_option maxHeartbeats 2000000 in
theorem fraction_any (u v : Nat) (hu : u ≤ 1000000) (hv : v ≤ 1000000) (h0 : 0 < v) (w : World) :
    Calls Try.prog 50 #[.int .i64 (u : Int), .int .i64 (v : Int)] w fun e w' => e = .returned (.agg #[.int .i64 ((u / Nat.gcd u v : Nat) : Int), .int .i64 ((v / Nat.gcd u v : Nat) : Int)]) ∧ Below w.heap.size w w' := by
  have hG := fun w => gcd_any u v (by omega) (by omega) w
  have hg1 := Nat.gcd_pos_of_pos_right u h0
  have hg2 := Nat.le_of_dvd h0 (Nat.gcd_dvd_right u v)
  obtain ⟨g, hg⟩ : ∃ g, Nat.gcd u v = g := ⟨_, rfl⟩
  rw [hg] at hG hg1 hg2 ⊢
  rw [Int.natCast_ediv, Int.natCast_ediv]
  have HG := Lib.hid hG
  have g0 : ¬ (g : Int) = 0 := by omega
  have g1 : (0 : Int) < (g : Int) := by omega
  clear hG hg
  have q1 : wrap64 ((u : Int) / (g : Int)) = (u : Int) / (g : Int) := IntWalk.wrap64_in _ (by
    rw [← Int.natCast_ediv]
    have := Nat.div_le_self u g
    generalize u / g = t at this ⊢
    omega)
  have q2 : wrap64 ((v : Int) / (g : Int)) = (v : Int) / (g : Int) := IntWalk.wrap64_in _ (by
    rw [← Int.natCast_ediv]
    have := Nat.div_le_self v g
    generalize v / g = t at this ⊢
    omega)
  go_enter Try.func50, Try.ntmps50
  go_wp2_with fail
  refine (HG.out _).mono ?_
  rintro e w1 ⟨rfl, q, rfl⟩
  go_wp2
  go_region
  go_wp2
  exact bodyPost_ret (v := .agg #[.int .i64 ((u : Int) / (g : Int)), .int .i64 ((v : Int) / (g : Int))]) (by simp [results, Try.results50, go_sem]) rfl ⟨rfl, (below_drewN ((Below.refl _ _).alloc (Nat.le_refl _) _) (q + 1)).setCell (p := ⟨w.heap.size, 0, none⟩) (Nat.le_refl _) _ |>.setCell (p := ⟨w.heap.size, 1, none⟩) (Nat.le_refl _) _⟩

/-- What Share answers: both parts of the fraction, and the error. -/
def shareR (xs : List (Int × Int)) : Int × Int × Int := if isS xs = true then (numF xs, denF xs, 0) else (0, 0, 2)


/-- The two cells of a result that lie in a block of their own. -/
theorem res2 {w w1 : World} (hb : Below (w.alloc (.cells #[.int .i64 0, .int .i64 0] 28)).heap.size (w.alloc (.cells #[.int .i64 0, .int .i64 0] 28)) w1) :
    w1.cell? ⟨w.heap.size, 0, none⟩ = some (.int .i64 0) ∧ w1.cell? ⟨w.heap.size, 1, none⟩ = some (.int .i64 0) ∧ w1.frozen? ⟨w.heap.size, 0, none⟩ = false ∧ w1.frozen? ⟨w.heap.size, 1, none⟩ = false := by
  have hl : w.heap.size < (w.alloc (.cells #[.int .i64 0, .int .i64 0] 28)).heap.size := by simp
  have h0 := heap_alloc_last w (.cells #[.int .i64 0, .int .i64 0] 28)
  refine ⟨(hb.cell (p := ⟨w.heap.size, 0, none⟩) hl).trans ?_, (hb.cell (p := ⟨w.heap.size, 1, none⟩) hl).trans ?_, (hb.frozen (p := ⟨w.heap.size, 0, none⟩) hl).trans ?_, (hb.frozen (p := ⟨w.heap.size, 1, none⟩) hl).trans ?_⟩
  · unfold World.cell?; rw [h0]; rfl
  · unfold World.cell?; rw [h0]; rfl
  · unfold World.frozen?; rw [h0]; simp
  · unfold World.frozen?; rw [h0]; simp

set_option maxHeartbeats 2000000 in
theorem Share_any (a : Option Addr) (n c : Nat) (xs : List (Int × Int)) (w : World) (h : Prs w a n xs) (hn : n ≤ 4611686018427387904) :
    Calls Try.prog 17 #[.slice a n c] w fun e w' => e = .returned (.tuple #[.agg #[.int .i64 (shareR xs).1, .int .i64 (shareR xs).2.1], .int .i64 (shareR xs).2.2]) ∧ Below w.heap.size w w' := by
  have hb0 : Below w.heap.size w (w.alloc (.cells #[.int .i64 0, .int .i64 0] 28)) := (Below.refl _ _).alloc (Nat.le_refl _) _
  have hh : Prs (w.alloc (.cells #[.int .i64 0, .int .i64 0] 28)) a n xs := h.below hb0
  have HV := Lib.hid (valid_any a n c xs _ hh hn)
  have HB0 := Lib.hid hb0
  have HH := Lib.hid hh
  have HL := Lib.hid h.1
  have HR := Lib.hid (fun w1 => res2 (w := w) (w1 := w1))
  clear hb0 hh h
  cases hs : isS xs with
  | false =>
    have e : shareR xs = (0, 0, 2) := by unfold shareR; rw [hs]; rfl
    rw [hs] at HV
    rw [e]
    clear e hs
    go_enter Try.func17, Try.ntmps17
    go_wp2_with fail
    refine HV.out.mono ?_
    rintro e w1 ⟨rfl, hb1⟩
    obtain ⟨c0, c1, f0, f1⟩ := HR.out w1 hb1
    have HB1 := Lib.hid (HB0.out.trans (hb1.mono HB0.out.size))
    clear hb1
    go_wp2
    exact bodyPost_ret (v := .tuple #[.agg #[.int .i64 0, .int .i64 0], .int .i64 2]) (by simp [results, Try.results17, go_sem, c0, c1]) rfl ⟨rfl, (HB1.out.setCell (p := ⟨w.heap.size, 0, none⟩) (Nat.le_refl _) _).setCell (p := ⟨w.heap.size, 1, none⟩) (Nat.le_refl _) _⟩
  | true =>
    have hS := isS_spec.1 hs
    have e : shareR xs = (numF xs, denF xs, 0) := by unfold shareR; rw [hs]; rfl
    rw [hs] at HV
    rw [e]
    unfold numF denF
    have HS := Lib.hid hS
    clear e hs
    have hn2 : n ≤ 10 := by have := hS.len2; have := HL.out; omega
    have hW := fun w h => whole_any a n c xs w h hS.ok hn2
    have hC := fun w h => covered_any a n c xs (wl xs) w h hS.ok hn2 hS.wl2
    have hF := fun w => fraction_any (covF xs (wl xs)) (wl xs) (Nat.le_trans (cnt_le _ _) (by have := hS.wl2; omega)) (by have := hS.wl2; omega) hS.wl1 w
    obtain ⟨W, hWl⟩ : ∃ W, wl xs = W := ⟨_, rfl⟩
    rw [hWl] at hW hC hF ⊢
    obtain ⟨C, hCl⟩ : ∃ C, covF xs W = C := ⟨_, rfl⟩
    rw [hCl] at hC hF ⊢
    obtain ⟨X, hX⟩ : ∃ X, C / Nat.gcd C W = X := ⟨_, rfl⟩
    obtain ⟨Y, hY⟩ : ∃ Y, W / Nat.gcd C W = Y := ⟨_, rfl⟩
    rw [hX, hY] at hF ⊢
    have HW := Lib.hid hW
    have HC := Lib.hid hC
    have HF := Lib.hid hF
    clear hW hC hF hX hY hCl hWl hS
    go_enter Try.func17, Try.ntmps17
    go_wp2_with fail
    refine HV.out.mono ?_
    rintro e w1 ⟨rfl, hb1⟩
    have HX1 := Lib.hid hb1
    clear hb1
    go_wp2_with fail
    refine (HW.out _ (HH.out.below HX1.out)).mono ?_
    rintro e w2 ⟨rfl, hb2⟩
    have HX2 := Lib.hid (HX1.out.trans (hb2.mono HX1.out.size))
    clear hb2
    go_wp2_with fail
    refine (HC.out _ (HH.out.below HX2.out)).mono ?_
    rintro e w3 ⟨rfl, hb3⟩
    have HX3 := Lib.hid (HX2.out.trans (hb3.mono HX2.out.size))
    clear hb3
    go_wp2_with fail
    refine (HW.out _ (HH.out.below HX3.out)).mono ?_
    rintro e w4 ⟨rfl, hb4⟩
    have HX4 := Lib.hid (HX3.out.trans (hb4.mono HX3.out.size))
    clear hb4
    go_wp2_with fail
    refine (HF.out _).mono ?_
    rintro e w5 ⟨rfl, hb5⟩
    have HX5 := Lib.hid (HX4.out.trans (hb5.mono HX4.out.size))
    clear hb5
    obtain ⟨c0, c1, f0, f1⟩ := HR.out w5 HX5.out
    have HB1 := Lib.hid (HB0.out.trans (HX5.out.mono HB0.out.size))
    go_wp2
    exact bodyPost_ret (v := .tuple #[.agg #[.int .i64 (X : Int), .int .i64 (Y : Int)], .int .i64 0]) (by simp [results, Try.results17, go_sem, c0, c1]) rfl ⟨rfl, (HB1.out.setCell (p := ⟨w.heap.size, 0, none⟩) (Nat.le_refl _) _).setCell (p := ⟨w.heap.size, 1, none⟩) (Nat.le_refl _) _⟩
end Go.Proofs.Ytanhjgneaaenpaa
