/- The law PellRatios: its walk in every case. No condition on its arguments. -/
import Derived.Test.YtbdadckedhcibaaRatioList
import Derived.Test.YtbdadckedhcibaaOrder
namespace Go.Proofs.Ytbdadckedhcibaa
open Go.RowKit Go.Shelf
attribute [local go_sem] Oper.semAt_some

/-- Neighbours differ by 1 crosswise, as the machine counts. -/
def crossOk (d : Int) (k : Nat) : Bool := k == 0 || decide (wrap64 (wrap64 (cvP d (k + 1) * cvQ d k) - wrap64 (cvP d k * cvQ d (k + 1))) = 1 - 2 * ((k + 1 : Int) % 2))
def crossCheck : Bool := allBelow 101 fun d => !isD d || allBelow (rN d) (crossOk d)
theorem crossCheck_ok : crossCheck = true := by decide +kernel
theorem cross_at {d : Int} (hd : isD d = true) {k : Nat} (h1 : 0 < k) (hk : k < rN d) : wrap64 (wrap64 (cvP d (k + 1) * cvQ d k) - wrap64 (cvP d k * cvQ d (k + 1))) = 1 - 2 * ((k + 1 : Int) % 2) := by
  have hb := isD_bd hd
  have h := allBelow_at crossCheck_ok (k := d.toNat) (by omega)
  rw [Int.toNat_of_nonneg (by omega), hd] at h
  simp only [Bool.not_true, Bool.false_or] at h
  have h := allBelow_at h hk
  unfold crossOk at h
  simp only [Bool.or_eq_true, beq_iff_eq, decide_eq_true_eq] at h
  rcases h with h | h
  · omega
  · exact h

theorem own_later {B : Nat} {e : TypeId} {k : Nat} {v : Value} {n : Nat} {xs : List Value} {w w' : World} (h : w.ownsRow B e k v n xs) (hb : Below w.heap.size w w') : w'.ownsRow B e k v n xs := by
  refine ⟨h.1, h.2.imp id ?_⟩
  rintro ⟨g, cap, cur, h1, h2, h3, h4⟩
  exact ⟨g, cap, cur, h1, h2, (hb.block g (Array.getElem?_eq_some_iff.1 h3).1).trans h3, h4⟩
theorem own_form {base size n : Nat} {e : TypeId} {v : Value} {xs : List Value} {w : World} (h : w.ownsRow base e size v n xs) (hn : 0 < n) : ∃ g cap, v = .slice (some ⟨g, 0, none⟩) n cap := by
  rcases h.2 with ⟨_, h⟩ | ⟨g, cap, _, h, _⟩
  · omega
  · exact ⟨g, cap, h⟩
theorem fl_take {S : List (Int × Int)} {k : Nat} (h : k < S.length) : fl (S.take (k + 1)) = fl (S.take k) ++ [.int .i64 (nth S k).1, .int .i64 (nth S k).2] := flat_succ h

theorem contains_hit2 (L : List (Int × Int)) (n : Nat) (hn : L.length = n) (hL : L.length ≤ 1000) (g c : Nat) (x y : Int) (k : Nat) (hk : k < L.length) (hm : nth L k = (x, y)) (w : World) (h1 : Cells2 w g L) :
    Calls Try.prog 40 #[.slice (some ⟨g, 0, none⟩) n c, .agg #[.int .i64 x, .int .i64 y]] w fun e w' => e = .returned (.bool true) ∧ Below w.heap.size w w' := by
  subst hn
  exact contains_hit L hL g c x y k hk hm w h1
theorem Solve_5000 (d n : Int) (hd : isD d = true) (hn : isN n = true) (L : List (Int × Int)) (hL : L = solL d n 5001) (w : World) :
    Calls Try.prog 25 #[.int .i64 d, .int .i64 n, .int .i64 5000] w fun e w' => ∃ ao cap, e = .returned (.tuple #[.slice ao L.length cap, .int .i64 0]) ∧ L.length ≤ cap ∧ cap ≤ maxLen ∧ SRow L ao w w' :=
  Solve_row d n hd hn 5000 (by omega) L hL w
theorem Cells2.below {w w' : World} {g : Nat} {L : List (Int × Int)} (h : Cells2 w g L) (hg : g < w.heap.size) (hb : Below w.heap.size w w') : Cells2 w' g L :=
  fun j hj => ⟨(hb.cell (p := ⟨g, j * 2, none⟩) hg).trans (h j hj).1, (hb.cell (p := ⟨g, j * 2 + 1, none⟩) hg).trans (h j hj).2⟩
/-- The slice of the convergents, in a world that is w's or later. -/
structure CRow (d : Int) (g : Nat) (w W : World) : Prop where
  b : Below w.heap.size w W
  lt : g < W.heap.size
  c : Cells2 W g (rL d)
theorem CRow.later {d : Int} {g : Nat} {w W W' : World} (h : CRow d g w W) (hb : Below W.heap.size W W') : CRow d g w W' :=
  ⟨h.b.trans (hb.mono h.b.size), Nat.lt_of_lt_of_le h.lt hb.size, h.c.below h.lt hb⟩

theorem drewN_two (w : World) (a b : Nat) : (w.drewN a).drewN b = w.drewN (a + b) := World.drewN_drewN w a b

set_option maxRecDepth 100000 in
set_option maxHeartbeats 4000000 in
theorem lawRatios_yes (d m n : Int) (hd : isD d = true) (w : World) :
    Calls Try.prog 10 #[.int .i64 d, .int .i64 m, .int .i64 n] w fun e w' => e = .returned (.bool true) ∧ Below w.heap.size w w' := by
  obtain ⟨i0, hi, hz0, hz1, hz2⟩ := info_parts info44
  have HI := Lib.hid (And.intro hi (And.intro hz0 (And.intro hz1 hz2)))
  clear hi hz0 hz1 hz2
  have hd2 := isD_bd hd
  obtain ⟨rn1, rn2⟩ := rN_bd hd
  obtain ⟨N, hN⟩ : ∃ N, rN d = N := ⟨_, rfl⟩
  rw [hN] at rn1 rn2
  have HN := Lib.hid hN
  have HD := Lib.hid hd
  clear hd hN
  go_enter Try.func10, Try.ntmps10
  go_wp2_with fail
  refine (Expand_row d HD.out (pL d + 1) rfl _).mono ?_
  rintro e w1 ⟨g, cap, rfl, -, -, hr1⟩
  have HB1 := Lib.hid hr1.2.2.1
  clear hr1
  go_wp2_with fail
  go_loopg [9, 36] 22 (fun gk out i wr => ∃ k : Nat, k + gk = 22 ∧ k ≤ N ∧ i = .int .i64 (k : Int) ∧ wr.ownsRow w.heap.size 44 2 out k (fl ((rL d).take k)) ∧ Below w.heap.size w wr)
  case atStart => exact ⟨0, by omega, by omega, rfl, World.ownsRow_nil _ _ _ _, HB1.out⟩
  case round =>
    obtain ⟨k, hy, hkN, rfl, ho, hb⟩ := hrel
    have HO := Lib.hid ho
    have HB := Lib.hid hb
    clear ho hb
    by_cases hk : k < N
    · have hlt : (k : Int) < 21 := by omega
      have hlt2 : k < 21 := by omega
      have hcv : cvt d k = (cvP d (k + 1), cvQ d (k + 1), 0) := by
        unfold cvt
        rw [if_pos]
        have := HN.out
        unfold rN at this
        omega
      have HCV := Lib.hid hcv
      clear hcv
      go_wp2_with fail
      refine (Convergent_yes d HD.out k (by omega) _).mono ?_
      rintro e w2 ⟨rfl, hb2⟩
      rw [HCV.out]
      dsimp only []
      have ho := own_later HO.out hb2
      have HB2 := Lib.hid (HB.out.trans (hb2.mono HB.out.size))
      have hsz := HB2.out.size
      clear hb2 HO
      have HNX := Lib.hid (fl_take (S := rL d) (k := k) (by rw [rL_len, HN.out]; exact hk))
      have HAT := Lib.hid (rL_at d (j := k) (by rw [HN.out]; exact hk))
      obtain ⟨hi, hz0, hz1, hz2⟩ := HI.out
      by_cases hk0 : k = 0
      · have hkk : decide ((0 : Int) < (k : Int)) = false := by simp; omega
        have hkk2 : decide (0 < k) = false := by simp; omega
        clear hk0
        go_wp2_with (at_builtin; refine wpList_append_own _ rfl _ _ 40 rfl w.heap.size 44 i0 (.agg #[.int .i64 0, .int .i64 0]) 2 16 Try.underlying40 hi hz0 hz1 hz2 rfl (by decide) _ _ _ rfl (ho.alloc _) ⟨w2.heap.size, 0, none⟩ 1 1 [.int .i64 (cvP d (k + 1)), .int .i64 (cvQ d (k + 1))] rfl rfl (cell_two_new _ _ _ _) (by simp [Value.oneCell']) (by unfold maxLen; omega) (by omega) (by simp; omega) ?_; intro v' w3 hown' hgrow _)
        have hb3 : Below w.heap.size w w3 := (HB2.out.alloc hsz _).grown hgrow (by simp; omega) (fun j e => (ho.lt j e).1)
        have HB3 := Lib.hid hb3
        have hown2 : w3.ownsRow w.heap.size 44 2 v' (k + 1) (fl ((rL d).take (k + 1))) := by
          rw [HNX.out, HAT.out]
          exact hown'
        go_roundg (gk - 1)
        case rel => exact ⟨k + 1, by omega, by omega, by go_num, hown2, HB3.out⟩
        case measure => omega
      · have hkk : decide ((0 : Int) < (k : Int)) = true := by simp; omega
        have hkk2 : decide (0 < k) = true := by simp; omega
        obtain ⟨j, hj⟩ : ∃ j, k = j + 1 := ⟨k - 1, by omega⟩
        obtain ⟨gl, capl, rfl⟩ := own_form ho (by omega)
        have hcr := cross_at HD.out (k := k) (by omega) (by rw [HN.out]; exact hk)
        have a1 := ho.cellAt (j * 2) (by omega)
        have a2 := ho.cellAt (j * 2 + 1) (by omega)
        have hjt : j < ((rL d).take k).length := by rw [List.length_take, rL_len, HN.out]; omega
        obtain ⟨f1, f2⟩ := fl_at ((rL d).take k) j hjt
        have f3 : nth ((rL d).take k) j = (cvP d k, cvQ d k) := by
          have : nth ((rL d).take k) j = nth (rL d) j := by
            unfold nth
            simp only [List.getD, List.getElem?_take]
            rw [if_pos (by omega)]
          rw [this, rL_at d (by rw [HN.out]; omega), hj]
        rw [f1, f3] at a1
        rw [f2, f3] at a2
        dsimp only at a1 a2
        have hidx : (k : Int) - 1 = (j : Int) := by omega
        have ho2 := ho.alloc (.cells #[.int .i64 (cvP d k), .int .i64 (cvQ d k)] 44)
        have hj2 : (j : Int) < (k : Int) := by omega
        have hj3 : j < k := by omega
        have hcr2 : (wrap64 (wrap64 (cvP d (k + 1) * cvQ d k) - wrap64 (cvP d k * cvQ d (k + 1))) != 1 - 2 * (((k : Int) + 1) % 2)) = false := by
          rw [bne_eq_false_iff_eq]
          exact hcr
        have HJ := Lib.hid hj
        clear hk0 f1 f2 f3 hjt hj hcr
        go_wp2_with (at_builtin; refine wpList_append_own _ rfl _ _ 40 rfl w.heap.size 44 i0 (.agg #[.int .i64 0, .int .i64 0]) 2 16 Try.underlying40 hi hz0 hz1 hz2 rfl (by decide) _ _ _ rfl (ho2.alloc _) ⟨w2.heap.size + 1, 0, none⟩ 1 1 [.int .i64 (cvP d (k + 1)), .int .i64 (cvQ d (k + 1))] rfl rfl (by rw [show w2.heap.size + 1 = (w2.alloc (.cells #[.int .i64 (cvP d k), .int .i64 (cvQ d k)] 44)).heap.size by simp]; exact cell_two_new _ _ _ _) (by simp [Value.oneCell']) (by unfold maxLen; omega) (by omega) (by simp; omega) ?_; intro v' w3 hown' hgrow _)
        have hb3 : Below w.heap.size w w3 := ((HB2.out.alloc hsz _).alloc (by simp; omega) _).grown hgrow (by simp; omega) (fun j e => (ho.lt j e).1)
        have HB3 := Lib.hid hb3
        have hown2 : w3.ownsRow w.heap.size 44 2 v' (k + 1) (fl ((rL d).take (k + 1))) := by
          rw [HNX.out, HAT.out]
          exact hown'
        go_roundg (gk - 1)
        case rel => exact ⟨k + 1, by omega, by omega, by go_num, hown2, HB3.out⟩
        case measure => omega
    · have hkN2 : k = N := by omega
      have hN0 := HN.out
      have hcut : k = 21 ∨ (k < 21 ∧ cvt d k = (0, 0, 6)) := by
        unfold rN at hN0
        by_cases h : k = 21
        · exact .inl h
        · refine .inr ⟨by omega, ?_⟩
          unfold cvt
          rw [if_neg (by omega)]
      have ho := HO.out
      have hkl : (rL d).length = k := by rw [rL_len]; omega
      rw [List.take_of_length_le (by omega)] at ho
      obtain ⟨gl, capl, rfl⟩ := own_form ho (by omega)
      have hcr : CRow d gl w wr := by
        refine ⟨HB.out, ?_, fun j hj => ?_⟩
        · rcases ho.2 with ⟨_, h⟩ | ⟨g', cap', cur, h, h1, h2, h3⟩
          · omega
          · cases h
            exact (Array.getElem?_eq_some_iff.1 h2).1
        · obtain ⟨f1, f2⟩ := fl_at (rL d) j hj
          exact ⟨by rw [ho.cellAt (j * 2) (by omega)]; exact f1, by rw [ho.cellAt (j * 2 + 1) (by omega)]; exact f2⟩
      have HC := Lib.hid hcr
      have HKL := Lib.hid hkl
      have HL2 := Lib.hid (show (rL d).length ≤ 1000 by omega)
      have hk1' : 1 ≤ k := by omega
      clear hcr ho HO HB hkl hN0 hk hkN hkN2
      rcases hcut with h21 | ⟨h21, hcv⟩
      case' inl =>
        have hge : (21 : Int) ≤ (k : Int) := by omega
        have hge2 : 21 ≤ k := by omega
        have HK := Lib.hid h21
        have HC2 := Lib.hid HC.out
        clear h21 HC
        go_wp2_with fail
      case' inr =>
        have hlt : (k : Int) < 21 := by omega
        have hlt2 : k < 21 := by omega
        have hk1 : ((k : Int) == 0) = false := by simp; omega
        have HCV := Lib.hid hcv
        have HK20 := Lib.hid (show k ≤ 20 by omega)
        clear hcv
        go_wp2_with fail
        refine (Convergent_yes d HD.out k HK20.out _).mono ?_
        rintro e w2 ⟨rfl, hb2⟩
        rw [HCV.out]
        dsimp only []
        have HC2 := Lib.hid (HC.out.later hb2)
        clear hb2 HC
        go_wp2_with fail
      all_goals
        refine (Best_any d m HD.out _).mono ?_
        rintro e w3 ⟨p, q, f, rfl, hb3, hpq⟩
        have HC3 := Lib.hid (HC2.out.later hb3)
        clear hb3 HC2
        rcases hpq with ⟨rfl, jj, hj1, hj2⟩ | rfl
        case' inl =>
          have J1 := Lib.hid hj1
          have J2 := Lib.hid hj2
          clear hj1 hj2
          go_wp2_with fail
          refine (contains_hit2 (rL d) _ HKL.out HL2.out gl capl p q jj J1.out J2.out _ HC3.out.c).mono ?_
          rintro e w4 ⟨rfl, hb4⟩
          have HC4 := Lib.hid (HC3.out.later hb4)
          clear hb4 HC3 J1 J2
          go_wp2_with fail
        case' inr =>
          have HC4 := Lib.hid HC3.out
          clear HC3
          go_wp2_with fail
        all_goals
          by_cases hn : isN n = true
          case neg =>
            have hn' : isN n = false := by simpa using hn
            refine (Solve_no d n 5000 (.inr (.inl hn')) _).mono ?_
            rintro e w5 ⟨rfl, rfl⟩
            go_wp2_with fail
            refine (awake_any _).mono ?_
            rintro e w6 ⟨rfl, hb6⟩
            have HC5 := Lib.hid (HC4.out.later hb6)
            clear hb6 HC4
            go_wp2
            go_ret
            exact ⟨rfl, HC5.out.b⟩
          obtain ⟨A, hA⟩ : ∃ A, A = solL d n 5001 := ⟨_, rfl⟩
          have hlenA : A.length ≤ 5001 := by rw [hA]; exact solL_len d n 5001
          obtain ⟨n1, n2, -⟩ := isN_bd hn
          have HA := Lib.hid hA
          have HNN := Lib.hid hn
          clear hA hn
          refine (Solve_5000 d n HD.out HNN.out A HA.out _).mono ?_
          rintro e w5 ⟨ao, cap5, rfl, hc1, hc2, hr5⟩
          obtain ⟨wS, hr5⟩ : ∃ wS, SRow A ao wS w5 ∧ Below wS.heap.size wS w5 ∧ CRow d gl w w5 := ⟨_, hr5, hr5.1, HC4.out.later hr5.1⟩
          unfold maxLen at hc2
          have HC5 := Lib.hid hr5.2.2
          have R5 := Lib.hid hr5.1
          clear hr5 HC4
          obtain ⟨na, hna⟩ : ∃ na, A.length = na := ⟨_, rfl⟩
          rw [hna] at hc1 hlenA
          rw [hna]
          have HNA := Lib.hid hna
          clear hna
          go_wp2_with fail
          go_loopg [115] na (fun gk i wr => ∃ y : Nat, y + gk = na ∧ i = .int .i64 (y : Int) ∧ SRow A ao wS wr ∧ CRow d gl w wr)
          case atStart => exact ⟨0, by omega, rfl, R5.out, HC5.out⟩
          case round =>
            obtain ⟨y, hy, rfl, ra, rc⟩ := hrel
            have RA := Lib.hid ra
            have RC := Lib.hid rc
            clear ra rc R5 HC5
            by_cases hyn : y = na
            · have hge : (na : Int) ≤ (y : Int) := by omega
              have hge2 : na ≤ y := by omega
              clear hyn
              go_wp2_with fail
              refine (awake_any _).mono ?_
              rintro e w6 ⟨rfl, hb6⟩
              have RC6 := Lib.hid (RC.out.later hb6)
              clear hb6
              go_wp2
              go_ret
              exact ⟨rfl, RC6.out.b⟩
            · have hlt : (y : Int) < (na : Int) := by omega
              have hlt2 : y < na := by omega
              have hyA : y < (solL d n 5001).length := by rw [← HA.out]; have := HNA.out; omega
              obtain ⟨f1, f2, f3, f4, f5⟩ := sol_facts HD.out HNN.out (by omega) hyA
              rw [← HA.out] at f1 f2 f3 f4 f5
              obtain ⟨ga, hao, -, -, ca⟩ : ∃ g, ao = some ⟨g, 0, none⟩ ∧ wS.heap.size ≤ g ∧ g < wr.heap.size ∧ Cells2 wr g A := by
                rcases RA.out.2 with h | h
                · have := HNA.out; omega
                · exact h
              subst hao
              obtain ⟨b1, b2⟩ := ca y (by have := HNA.out; omega)
              obtain ⟨X, hX⟩ : ∃ X : Nat, (nth A y).1 = (X : Int) := ⟨(nth A y).1.toNat, by omega⟩
              obtain ⟨Y, hY⟩ : ∃ Y : Nat, (nth A y).2 = (Y : Int) := ⟨(nth A y).2.toNat, by omega⟩
              rw [hX] at f1 f2 f5 b1
              rw [hY] at f3 f4 f5 b2
              have hX2 : X ≤ 2000000 := by omega
              have hY2 : Y ≤ 5000 := by omega
              have F5 := Lib.hid f5
              have y0 : (0 : Int) ≤ (y : Int) := by omega
              clear hyn f1 f2 f3 f4 f5 hyA ca hX hY
              go_wp2_with fail
              go_quiet (fail)
              go_wp2
              go_loopg [22, 23] Y (fun gk a b wr2 => ∃ (P : Nat) (q : Nat), a = .int .i64 (P : Int) ∧ b = .int .i64 (gk : Int) ∧ P ≤ 2000000 ∧ gk ≤ 5000 ∧ Nat.gcd P gk = Nat.gcd X Y ∧ wr2 = (wr.alloc (.cells #[.int .i64 (X : Int), .int .i64 (Y : Int)] 44)).drewN q)
              case atStart => exact ⟨X, _, rfl, rfl, hX2, hY2, rfl, rfl⟩
              case round =>
                obtain ⟨P, q, rfl, rfl, hP, hG, hgcd, rfl⟩ := hrel
                have HGC := Lib.hid hgcd
                have P0 : (0 : Int) ≤ (P : Int) := by omega
                clear hgcd
                by_cases hg0 : gk = 0
                · have hgt : ((gk : Int) != 0) = false := by simp; omega
                  have hgt2 : ((gk : Int) == 0) = true := by simp; omega
                  have hPg : P = Nat.gcd X Y := by
                    have := HGC.out
                    rw [hg0, Nat.gcd_zero_right] at this
                    exact this
                  have HPG := Lib.hid hPg
                  have hnn0 : 0 ≤ n * n := sq_nonneg n
                  have hnn1 : n * n ≤ 10000 := by
                    by_cases h : 0 ≤ n
                    · exact sq_le (b := 100) h n2
                    · have := sq_le (a := -n) (b := 100) (by omega) (by omega)
                      rw [Int.neg_mul_neg] at this
                      exact this
                  have hbq : Below wr.heap.size wr ((wr.alloc (.cells #[.int .i64 (X : Int), .int .i64 (Y : Int)] 44)).drewN q) := below_drewN ((Below.refl _ _).alloc (Nat.le_refl _) _) q
                  have c0 : ((wr.alloc (.cells #[.int .i64 (X : Int), .int .i64 (Y : Int)] 44)).drewN q).cell? ⟨wr.heap.size, 0, none⟩ = some (.int .i64 (X : Int)) := by simp [go_sem]
                  have c1 : ((wr.alloc (.cells #[.int .i64 (X : Int), .int .i64 (Y : Int)] 44)).drewN q).cell? ⟨wr.heap.size, 1, none⟩ = some (.int .i64 (Y : Int)) := by simp [go_sem]
                  have ra := RA.out.later hbq
                  have rc := RC.out.later hbq
                  have RA2 := Lib.hid ra
                  have RC2 := Lib.hid rc
                  have HYN := Lib.hid (show y + 1 ≤ na by omega)
                  obtain ⟨WQ, hWQ⟩ : ∃ WQ, ((wr.alloc (.cells #[.int .i64 (X : Int), .int .i64 (Y : Int)] 44)).drewN q) = WQ := ⟨_, rfl⟩
                  clear hPg hg0 hbq ra rc
                  rw [hWQ] at c0 c1 RA2 RC2 ⊢
                  clear hWQ
                  by_cases hlt3 : n * n < d
                  · by_cases hY0 : (0 : Int) < (Y : Int)
                    · by_cases hP1 : P = 1
                      · have hP2 : ((P : Int) == 1) = true := by simp; omega
                        have hmem : ∃ j, j < (rL d).length ∧ nth (rL d) j = ((X : Int), (Y : Int)) := by
                          refine rL_mem (prim_conv (n := n) HD.out (scan_all HD.out) (by omega) hY0 (by omega) ?_ hlt3 ?_)
                          · rw [← Int.mul_assoc]; exact F5.out
                          · rw [← hP1, HPG.out]; rfl
                        obtain ⟨jj, hj1, hj2⟩ := hmem
                        have J1 := Lib.hid hj1
                        have J2 := Lib.hid hj2
                        clear hj1 hj2 hP1
                        go_wp2_with fail
                        refine (contains_hit2 (rL d) _ HKL.out HL2.out gl capl (X : Int) (Y : Int) jj J1.out J2.out _ RC2.out.c).mono ?_
                        rintro e w7 ⟨rfl, hb7⟩
                        have RA3 := Lib.hid (RA2.out.later hb7)
                        have RC3 := Lib.hid (RC2.out.later hb7)
                        clear hb7
                        go_wp2_with fail
                        go_roundg (na - y - 1)
                        case rel => exact ⟨y + 1, by have := HYN.out; omega, by go_num, RA3.out, RC3.out⟩
                        case measure => have := HYN.out; omega
                      · have hP2 : ((P : Int) == 1) = false := by simp; omega
                        clear hP1
                        go_wp2_with fail
                        go_roundg (na - y - 1)
                        case rel => exact ⟨y + 1, by have := HYN.out; omega, by go_num, RA2.out, RC2.out⟩
                        case measure => have := HYN.out; omega
                    · go_wp2_with fail
                      go_roundg (na - y - 1)
                      case rel => exact ⟨y + 1, by have := HYN.out; omega, by go_num, RA2.out, RC2.out⟩
                      case measure => have := HYN.out; omega
                  · go_wp2_with fail
                    go_roundg (na - y - 1)
                    case rel => exact ⟨y + 1, by have := HYN.out; omega, by go_num, RA2.out, RC2.out⟩
                    case measure => have := HYN.out; omega
                · have hgt : ((gk : Int) != 0) = true := by simp; omega
                  have hgt2 : ((gk : Int) == 0) = false := by simp; omega
                  have hgp : (0 : Int) < (gk : Int) := by omega
                  have hmod : Int.tmod (P : Int) (gk : Int) = ((P % gk : Nat) : Int) := by
                    rw [Int.tmod_eq_emod_of_nonneg P0]; rfl
                  have HGP := Lib.hid (show 0 < gk by omega)
                  clear hg0
                  go_wp2_with fail
                  go_quiet (fail)
                  go_wp2
                  go_roundg (P % gk)
                  case rel =>
                    have hlt := Nat.mod_lt P HGP.out
                    refine ⟨gk, q + nq, rfl, by rw [Int.natCast_emod], by omega, by omega, ?_, drewN_two _ _ _⟩
                    rw [← HGC.out, Nat.gcd_comm gk, ← Nat.gcd_rec, Nat.gcd_comm]
                  case measure => exact Nat.mod_lt P HGP.out

set_option maxHeartbeats 1000000 in
theorem lawRatios_no (d m n : Int) (hd : isD d = false) (w : World) :
    Calls Try.prog 10 #[.int .i64 d, .int .i64 m, .int .i64 n] w fun e w' => e = .returned (.bool true) ∧ Below w.heap.size w w' := by
  have HD := Lib.hid hd
  clear hd
  go_enter Try.func10, Try.ntmps10
  go_wp2_with fail
  refine (Expand_no d HD.out _).mono ?_
  rintro e w1 ⟨rfl, rfl⟩
  go_wp2_with fail
  refine (awake_any _).mono ?_
  rintro e w2 ⟨rfl, hb2⟩
  have HB := Lib.hid hb2
  clear hb2
  go_wp2
  go_ret
  exact ⟨rfl, HB.out⟩

theorem lawRatios_any (d m n : Int) (w : World) :
    Calls Try.prog 10 #[.int .i64 d, .int .i64 m, .int .i64 n] w fun e w' => e = .returned (.bool true) ∧ Below w.heap.size w w' := by
  by_cases hd : isD d = true
  · exact lawRatios_yes d m n hd w
  · exact lawRatios_no d m n (by simpa using hd) w
end Go.Proofs.Ytbdadckedhcibaa
