/- The walks of gherkinref01.Solve, of slices.Equal on two slices of pairs that hold the same, and of the law PellSolves in every case. -/
import Derived.Test.YtbdadckedhcibaaSolve
import Derived.Test.YtbdadckedhcibaaPairs
import Derived.BigQuiet
import Derived.Deep.QuietTactic
namespace Go.Proofs.Ytbdadckedhcibaa
open Go.RowKit

def fl (S : List (Int × Int)) : List Value := S.flatMap fun p => [.int .i64 p.1, .int .i64 p.2]
theorem fl_len (S : List (Int × Int)) : (fl S).length = S.length * 2 := by
  induction S with
  | nil => rfl
  | cons a t ih => simp [fl] at ih ⊢; omega
theorem fl_app (S T : List (Int × Int)) : fl (S ++ T) = fl S ++ fl T := by simp [fl]
theorem fl_at : ∀ (S : List (Int × Int)) (j : Nat), j < S.length → (fl S)[j * 2]? = some (.int .i64 (nth S j).1) ∧ (fl S)[j * 2 + 1]? = some (.int .i64 (nth S j).2)
  | [], j, h => by simp at h
  | a :: t, 0, h => by simp [fl, nth]
  | a :: t, j + 1, h => by
    have ih := fl_at t j (by simpa using h)
    have e : fl (a :: t) = .int .i64 a.1 :: .int .i64 a.2 :: fl t := by simp [fl]
    rw [e, show (j + 1) * 2 = j * 2 + 1 + 1 by omega]
    simpa [nth, List.getD] using ih

set_option maxRecDepth 100000 in
set_option maxHeartbeats 2000000 in
theorem refSolve_yes (d n : Int) (hd : isD d = true) (hn : isN n = true) (M : Nat) (hM : M ≤ 100000) (w : World) :
    Calls Try.prog 28 #[.int .i64 d, .int .i64 n, .int .i64 (M : Int)] w fun e w' => ∃ v, e = .returned v ∧ w'.ownsRow w.heap.size 44 2 v (solL d n (M + 1)).length (fl (solL d n (M + 1))) ∧ Below w.heap.size w w' := by
  obtain ⟨i0, hi, hz0, hz1, hz2⟩ := info_parts info44
  have HI := Lib.hid (And.intro hi (And.intro hz0 (And.intro hz1 hz2)))
  clear hi hz0 hz1 hz2
  have hd2 := isD_bd hd
  obtain ⟨n1, n2, n3⟩ := isN_bd hn
  have HD := Lib.hid hd
  have HN := Lib.hid hn
  clear hd hn n3
  go_enter Try.func28, Try.ntmps28
  go_wp2_with fail
  go_loopg [7, 12] (M + 1) (fun gk out i wr => ∃ y : Nat, y + gk = M + 1 ∧ i = .int .i64 (y : Int) ∧ wr.ownsRow w.heap.size 44 2 out (solL d n y).length (fl (solL d n y)) ∧ Below w.heap.size w wr)
  case atStart => exact ⟨0, by omega, rfl, World.ownsRow_nil _ _ _ _, Below.refl _ _⟩
  case round =>
    obtain ⟨y, hy, rfl, ho, hb⟩ := hrel
    have HO := Lib.hid ho
    have HB := Lib.hid hb
    clear ho hb
    by_cases hyM : y = M + 1
    · have hge : (M : Int) + 1 ≤ (y : Int) := by omega
      have hfin := HO.out
      rw [hyM] at hfin
      have HF := Lib.hid hfin
      clear hfin hyM HO
      go_wp2
      go_ret
      exact ⟨_, rfl, HF.out, HB.out⟩
    · have hlt : (y : Int) < (M : Int) + 1 := by omega
      obtain ⟨s1, s2, s3, s4, s5, s6⟩ := sq_bd HD.out HN.out (y := y) (by omega)
      have es : n + d * (y : Int) * (y : Int) = sqOf d n y := by unfold sqOf; omega
      by_cases hh : isHit d n y = true
      · have h0 : 0 ≤ sqOf d n y := by
          by_cases h : sqOf d n y < 0
          · have hq : rootF (sqOf d n y) * rootF (sqOf d n y) = sqOf d n y := by simpa [isHit] using hh
            have := sq_nonneg (rootF (sqOf d n y))
            omega
          · omega
        obtain ⟨r0, r1, -⟩ := rootF_spec (sqOf d n y) h0 (by omega)
        have r2 := sq_nonneg (rootF (sqOf d n y))
        have hq : (rootF (sqOf d n y) * rootF (sqOf d n y) == sqOf d n y) = true := hh
        have hln : (solL d n y).length ≤ 100001 := by have := solL_len d n y; omega
        have HH := Lib.hid hh
        clear hh
        obtain ⟨hi, hz0, hz1, hz2⟩ := HI.out
        have ho := HO.out
        have hsz := HB.out.size
        go_wp2_with (first | (go_at_call 45; refine (refRoot_any _ _).mono ?_; rintro e w' ⟨rfl, rfl⟩) | (at_builtin; refine wpList_append_own _ rfl _ _ 40 rfl w.heap.size 44 i0 (.agg #[.int .i64 0, .int .i64 0]) 2 16 Try.underlying40 hi hz0 hz1 hz2 rfl (by decide) _ _ _ rfl (ho.alloc _) ⟨wr.heap.size, 0, none⟩ 1 1 [.int .i64 (rootF (sqOf d n y)), .int .i64 (y : Int)] rfl rfl (cell_two_new _ _ _ _) (by simp [Value.oneCell']) (by unfold maxLen; omega) (by omega) (by simp; omega) ?_; intro v' w1 hown' hgrow _))
        have hb1 : Below w.heap.size w w1 := (HB.out.alloc hsz _).grown hgrow (by simp; omega) (fun j e => (ho.lt j e).1)
        have HB1 := Lib.hid hb1
        have hown2 : w1.ownsRow w.heap.size 44 2 v' (solL d n (y + 1)).length (fl (solL d n (y + 1))) := by
          rw [solL_hit HH.out, fl_app]
          simpa [fl] using hown'
        go_roundg (gk - 1)
        case rel => exact ⟨y + 1, by omega, by go_num, hown2, HB1.out⟩
        case measure => omega
      · have hh' : isHit d n y = false := by simpa using hh
        have HH := Lib.hid hh'
        by_cases h0 : sqOf d n y < 0
        · have hneg := rootF_neg _ h0
          have hle : rootF (sqOf d n y) ≤ -1 := by omega
          have hge : -1 ≤ rootF (sqOf d n y) := by omega
          clear hh hh' hneg
          go_wp2_with (go_at_call 45; refine (refRoot_any _ _).mono ?_; rintro e w' ⟨rfl, rfl⟩)
          go_roundg (gk - 1)
          case rel => exact ⟨y + 1, by omega, by go_num, by rw [solL_miss HH.out]; exact HO.out, HB.out⟩
          case measure => omega
        · obtain ⟨r0, r1, -⟩ := rootF_spec (sqOf d n y) (by omega) (by omega)
          have r2 := sq_nonneg (rootF (sqOf d n y))
          have hq : (rootF (sqOf d n y) * rootF (sqOf d n y) == sqOf d n y) = false := hh'
          clear hh hh'
          go_wp2_with (go_at_call 45; refine (refRoot_any _ _).mono ?_; rintro e w' ⟨rfl, rfl⟩)
          go_roundg (gk - 1)
          case rel => exact ⟨y + 1, by omega, by go_num, by rw [solL_miss HH.out]; exact HO.out, HB.out⟩
          case measure => omega

/-- The cells from a on hold the pairs of a list. -/
def Cells2 (w : World) (g : Nat) (L : List (Int × Int)) : Prop := ∀ j, j < L.length → w.cell? ⟨g, j * 2, none⟩ = some (.int .i64 (nth L j).1) ∧ w.cell? ⟨g, j * 2 + 1, none⟩ = some (.int .i64 (nth L j).2)

set_option maxHeartbeats 1000000 in
theorem equal2_nil (a1 a2 : Option Addr) (c1 c2 : Nat) (w : World) :
    Calls Try.prog 27 #[.slice a1 0 c1, .slice a2 0 c2] w fun e w' => e = .returned (.bool true) ∧ ∃ q, w' = w.drewN q := by
  go_enter Try.func27, Try.ntmps27
  go_wp2
  go_loopg [13] 0 (fun gk i wr => i = .int .i64 0 ∧ wr = w)
  case atStart => exact ⟨rfl, rfl⟩
  case round =>
    obtain ⟨rfl, rfl⟩ := hrel
    go_wp2
    go_ret
    exact ⟨rfl, 0, rfl⟩

set_option maxRecDepth 100000 in
set_option maxHeartbeats 1000000 in
theorem equal2_same (L : List (Int × Int)) (hL : L.length ≤ 200000) (g1 g2 c1 c2 : Nat) (w : World) (h1 : Cells2 w g1 L) (h2 : Cells2 w g2 L) :
    Calls Try.prog 27 #[.slice (some ⟨g1, 0, none⟩) L.length c1, .slice (some ⟨g2, 0, none⟩) L.length c2] w fun e w' => e = .returned (.bool true) ∧ ∃ q, w' = w.drewN q := by
  obtain ⟨n, hn⟩ : ∃ n, L.length = n := ⟨_, rfl⟩
  rw [hn]
  have H1 := Lib.hid h1
  have H2 := Lib.hid h2
  have HN := Lib.hid hn
  rw [hn] at hL
  clear h1 h2 hn
  go_enter Try.func27, Try.ntmps27
  go_wp2
  go_loopg [13] n (fun gk i wr => ∃ (y : Nat) (q : Nat), y + gk = n ∧ i = .int .i64 (y : Int) ∧ wr = w.drewN q)
  case atStart => exact ⟨0, 0, by omega, rfl, rfl⟩
  case round =>
    obtain ⟨y, q, hy, rfl, rfl⟩ := hrel
    by_cases hyn : y = n
    · have hge : (n : Int) ≤ (y : Int) := by omega
      have hge2 : n ≤ y := by omega
      clear hyn
      go_wp2
      go_ret
      exact ⟨rfl, q, rfl⟩
    · have hlt : (y : Int) < (n : Int) := by omega
      have hlt2 : y < n := by omega
      obtain ⟨a1, a2⟩ := H1.out y (by have := HN.out; omega)
      obtain ⟨b1, b2⟩ := H2.out y (by have := HN.out; omega)
      have y0 : (0 : Int) ≤ (y : Int) := by omega
      clear hyn
      have g44 := guard44
      have n44 := neq44
      go_wp2
      go_quiet (fail)
      go_wp2
      go_roundg (gk - 1)
      case rel => exact ⟨y + 1, q + nq, by omega, by go_num, rfl⟩
      case measure => omega

/-- A slice that holds the pairs of L, in blocks that the call made. -/
def SRow (L : List (Int × Int)) (ao : Option Addr) (w W : World) : Prop :=
  Below w.heap.size w W ∧ (L.length = 0 ∨ ∃ g, ao = some ⟨g, 0, none⟩ ∧ w.heap.size ≤ g ∧ g < W.heap.size ∧ Cells2 W g L)
theorem SRow.later {L : List (Int × Int)} {ao : Option Addr} {w W W' : World} (h : SRow L ao w W) (hb : Below W.heap.size W W') : SRow L ao w W' := by
  refine ⟨h.1.trans (hb.mono h.1.size), h.2.imp id ?_⟩
  rintro ⟨g, e, h1, h2, h3⟩
  exact ⟨g, e, h1, Nat.lt_of_lt_of_le h2 hb.size, fun j hj => ⟨(hb.cell (p := ⟨g, j * 2, none⟩) h2).trans (h3 j hj).1, (hb.cell (p := ⟨g, j * 2 + 1, none⟩) h2).trans (h3 j hj).2⟩⟩
theorem srow_of {L : List (Int × Int)} {v : Value} {w W : World} (ho : W.ownsRow w.heap.size 44 2 v L.length (fl L)) (hb : Below w.heap.size w W) :
    ∃ ao cap, v = .slice ao L.length cap ∧ L.length ≤ cap ∧ cap ≤ maxLen ∧ SRow L ao w W := by
  rcases ho.2 with ⟨rfl, h0⟩ | ⟨g, cap, cur, rfl, hbg, hg, hc, hm, _, _⟩
  · exact ⟨none, 0, by rw [h0], by omega, by unfold maxLen; omega, hb, .inl h0⟩
  · refine ⟨_, cap, rfl, hc, hm, hb, .inr ⟨g, rfl, hbg, (Array.getElem?_eq_some_iff.1 hg).1, fun j hj => ?_⟩⟩
    obtain ⟨f1, f2⟩ := fl_at L j hj
    exact ⟨by rw [ho.cellAt (j * 2) (by omega)]; exact f1, by rw [ho.cellAt (j * 2 + 1) (by omega)]; exact f2⟩

theorem Solve_row (d n : Int) (hd : isD d = true) (hn : isN n = true) (M : Nat) (hM : M ≤ 5000) (L : List (Int × Int)) (hL : L = solL d n (M + 1)) (w : World) :
    Calls Try.prog 25 #[.int .i64 d, .int .i64 n, .int .i64 (M : Int)] w fun e w' => ∃ ao cap, e = .returned (.tuple #[.slice ao L.length cap, .int .i64 0]) ∧ L.length ≤ cap ∧ cap ≤ maxLen ∧ SRow L ao w w' := by
  subst hL
  refine (Solve_yes d n hd hn M hM w).mono ?_
  rintro e w' ⟨v, rfl, ho, hb⟩
  rw [flat_all] at ho
  obtain ⟨ao, cap, rfl, h1, h2, h3⟩ := srow_of ho hb
  exact ⟨ao, cap, rfl, h1, h2, h3⟩
theorem refSolve_row (d n : Int) (hd : isD d = true) (hn : isN n = true) (M : Nat) (hM : M ≤ 100000) (L : List (Int × Int)) (hL : L = solL d n (M + 1)) (w : World) :
    Calls Try.prog 28 #[.int .i64 d, .int .i64 n, .int .i64 (M : Int)] w fun e w' => ∃ ao cap, e = .returned (.slice ao L.length cap) ∧ L.length ≤ cap ∧ cap ≤ maxLen ∧ SRow L ao w w' := by
  subst hL
  refine (refSolve_yes d n hd hn M hM w).mono ?_
  rintro e w' ⟨v, rfl, ho, hb⟩
  obtain ⟨ao, cap, rfl, h1, h2, h3⟩ := srow_of ho hb
  exact ⟨ao, cap, rfl, h1, h2, h3⟩

theorem equal2_row (L : List (Int × Int)) (hL : L.length ≤ 200000) (a1 a2 : Option Addr) (c1 c2 : Nat) (u1 u2 w : World) (h1 : SRow L a1 u1 w) (h2 : SRow L a2 u2 w) :
    Calls Try.prog 27 #[.slice a1 L.length c1, .slice a2 L.length c2] w fun e w' => e = .returned (.bool true) ∧ ∃ q, w' = w.drewN q := by
  rcases h1.2 with h0 | ⟨g1, rfl, _, _, k1⟩
  · rw [h0]; exact equal2_nil a1 a2 c1 c2 w
  · rcases h2.2 with h0 | ⟨g2, rfl, _, _, k2⟩
    · rw [h0]; exact equal2_nil _ a2 c1 c2 w
    · exact equal2_same L hL g1 g2 c1 c2 w k1 k2

set_option maxRecDepth 100000 in
set_option maxHeartbeats 1000000 in
theorem lawSolves_yes (d n : Int) (hd : isD d = true) (hn : isN n = true) (M : Nat) (hM : M ≤ 5000) (w : World) :
    Calls Try.prog 5 #[.int .i64 d, .int .i64 n, .int .i64 (M : Int)] w fun e w' => e = .returned (.bool true) ∧ Below w.heap.size w w' := by
  obtain ⟨L, hL⟩ : ∃ L, L = solL d n (M + 1) := ⟨_, rfl⟩
  have hlen : L.length ≤ 5001 := by rw [hL]; have := solL_len d n (M + 1); omega
  have HL := Lib.hid hL
  have HD := Lib.hid hd
  have HN := Lib.hid hn
  have k1 : decide ((M : Int) < 0) = false := by simp
  have k2 : decide (5000 < (M : Int)) = false := by simp; omega
  clear hL hd hn
  go_enter Try.func5, Try.ntmps5
  go_wp2_with fail
  refine (Solve_row d n HD.out HN.out M hM L HL.out _).mono ?_
  rintro e w1 ⟨ao, cap, rfl, hc1, hc2, hr1⟩
  unfold maxLen at hc2
  have R1 := Lib.hid hr1
  clear hr1
  go_wp2_with fail
  refine (Valid_any _ _).mono ?_
  rintro e w' ⟨rfl, rfl⟩
  rw [HD.out]
  go_wp2_with fail
  refine (Number_any _ _).mono ?_
  rintro e w' ⟨rfl, rfl⟩
  rw [HN.out]
  go_wp2_with fail
  refine (refSolve_row d n HD.out HN.out M (by omega) L HL.out _).mono ?_
  rintro e w2 ⟨ao2, cap2, rfl, hd1, hd2, hr2⟩
  unfold maxLen at hd2
  have R2 := Lib.hid (R1.out.later hr2.1)
  have S2 := Lib.hid hr2
  clear hr2 R1
  go_wp2_with fail
  refine (equal2_row L (by omega) ao ao2 cap cap2 _ _ w2 R2.out S2.out).mono ?_
  rintro e w3 ⟨rfl, q3, rfl⟩
  go_wp2_with fail
  refine (awake_any _).mono ?_
  rintro e w4 ⟨rfl, hb4⟩
  have R4 := Lib.hid (R2.out.later (W' := w4) ((below_drewN (Below.refl _ _) q3).trans hb4))
  clear hb4 R2 S2
  go_wp2
  go_ret
  exact ⟨rfl, R4.out.1⟩

set_option maxRecDepth 100000 in
set_option maxHeartbeats 1000000 in
theorem lawSolves_no (d n m : Int) (h : isD d = false ∨ isN n = false ∨ m < 0 ∨ 5000 < m) (w : World) :
    Calls Try.prog 5 #[.int .i64 d, .int .i64 n, .int .i64 m] w fun e w' => e = .returned (.bool true) ∧ Below w.heap.size w w' := by
  have H := Lib.hid h
  by_cases hd : isD d = true
  · have HD := Lib.hid hd
    by_cases hn : isN n = true
    · have h' : m < 0 ∨ 5000 < m := by simpa [hd, hn] using h
      have HN := Lib.hid hn
      clear hd hn h
      rcases h' with h' | h'
      · have k1 : decide (m < 0) = true := by simpa using h'
        go_enter Try.func5, Try.ntmps5
        go_wp2_with fail
        refine (Solve_no _ _ _ H.out _).mono ?_
        rintro e w' ⟨rfl, rfl⟩
        go_wp2_with fail
        refine (Valid_any _ _).mono ?_
        rintro e w' ⟨rfl, rfl⟩
        rw [HD.out]
        go_wp2_with fail
        refine (Number_any _ _).mono ?_
        rintro e w' ⟨rfl, rfl⟩
        rw [HN.out]
        go_wp2_with fail
        refine (awake_any _).mono ?_
        rintro e w' ⟨rfl, hb⟩
        go_wp2
        go_ret
        exact ⟨rfl, hb⟩
      · have k1 : decide (m < 0) = false := by simp; omega
        have k2 : decide (5000 < m) = true := by simpa using h'
        go_enter Try.func5, Try.ntmps5
        go_wp2_with fail
        refine (Solve_no _ _ _ H.out _).mono ?_
        rintro e w' ⟨rfl, rfl⟩
        go_wp2_with fail
        refine (Valid_any _ _).mono ?_
        rintro e w' ⟨rfl, rfl⟩
        rw [HD.out]
        go_wp2_with fail
        refine (Number_any _ _).mono ?_
        rintro e w' ⟨rfl, rfl⟩
        rw [HN.out]
        go_wp2_with fail
        refine (awake_any _).mono ?_
        rintro e w' ⟨rfl, hb⟩
        go_wp2
        go_ret
        exact ⟨rfl, hb⟩
    · have hn' : isN n = false := by simpa using hn
      have HN := Lib.hid hn'
      clear hd hn hn' h
      go_enter Try.func5, Try.ntmps5
      go_wp2_with fail
      refine (Solve_no _ _ _ H.out _).mono ?_
      rintro e w' ⟨rfl, rfl⟩
      go_wp2_with fail
      refine (Valid_any _ _).mono ?_
      rintro e w' ⟨rfl, rfl⟩
      rw [HD.out]
      go_wp2_with fail
      refine (Number_any _ _).mono ?_
      rintro e w' ⟨rfl, rfl⟩
      rw [HN.out]
      go_wp2_with fail
      refine (awake_any _).mono ?_
      rintro e w' ⟨rfl, hb⟩
      go_wp2
      go_ret
      exact ⟨rfl, hb⟩
  · have hd' : isD d = false := by simpa using hd
    have HD := Lib.hid hd'
    clear hd hd' h
    go_enter Try.func5, Try.ntmps5
    go_wp2_with fail
    refine (Solve_no _ _ _ H.out _).mono ?_
    rintro e w' ⟨rfl, rfl⟩
    go_wp2_with fail
    refine (Valid_any _ _).mono ?_
    rintro e w' ⟨rfl, rfl⟩
    rw [HD.out]
    go_wp2_with fail
    refine (awake_any _).mono ?_
    rintro e w' ⟨rfl, hb⟩
    go_wp2
    go_ret
    exact ⟨rfl, hb⟩

theorem lawSolves_any (d n m : Int) (w : World) :
    Calls Try.prog 5 #[.int .i64 d, .int .i64 n, .int .i64 m] w fun e w' => e = .returned (.bool true) ∧ Below w.heap.size w w' := by
  by_cases h : isD d = false ∨ isN n = false ∨ m < 0 ∨ 5000 < m
  · exact lawSolves_no d n m h w
  · have hd : isD d = true := by
      cases e : isD d with
      | true => rfl
      | false => exact (h (.inl e)).elim
    have hn : isN n = true := by
      cases e : isN n with
      | true => rfl
      | false => exact (h (.inr (.inl e))).elim
    obtain ⟨M, rfl⟩ := Int.eq_ofNat_of_zero_le (show 0 ≤ m by omega)
    exact lawSolves_yes d n hd hn M (by omega) w
end Go.Proofs.Ytbdadckedhcibaa
