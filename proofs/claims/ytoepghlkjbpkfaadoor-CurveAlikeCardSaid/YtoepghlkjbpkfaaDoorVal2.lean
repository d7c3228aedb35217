/- The walks of the reference's Valid, of valid and fine. Conditions as stated in each theorem. -/
import Derived.Test.YtoepghlkjbpkfaaDoorVal
namespace Go.Proofs.YtoepghlkjbpkfaaDoor
open Go.RowKit
attribute [local go_sem] Oper.semAt_some

theorem disc_in {P A B : Int} (hP : 5 ≤ P ∧ P ≤ 31) (hA : 0 ≤ A ∧ A < P) (hB : 0 ≤ B ∧ B < P) :
    (0 ≤ 4 * A ∧ 4 * A ≤ 124) ∧ (0 ≤ 4 * A * A ∧ 4 * A * A ≤ 3844) ∧ (0 ≤ 4 * A * A * A ∧ 4 * A * A * A ≤ 119164) ∧ (0 ≤ 27 * B ∧ 27 * B ≤ 837) ∧ (0 ≤ 27 * B * B ∧ 27 * B * B ≤ 25947) := by
  have a := mul_in (a := 4 * A) (b := A) 124 31 (by omega) (by omega) hA.1 (by omega)
  have b := mul_in (a := 4 * A * A) (b := A) 3844 31 a.1 (by omega) hA.1 (by omega)
  have c := mul_in (a := 27 * B) (b := B) 837 31 (by omega) (by omega) hB.1 (by omega)
  omega

set_option maxHeartbeats 4000000 in
theorem validR_any (P A B : Int) (w : World) :
    Calls Tryd.prog 21 #[.agg #[.int .i64 P, .int .i64 A, .int .i64 B]] w fun e w' => e = .returned (.bool (vB P A B)) ∧ Below w.heap.size w w' := by
  have HB := Lib.hid (below1 w (.cells #[.int .i64 P, .int .i64 A, .int .i64 B] 23))
  have HX := Lib.hid (fun W => primeR_any P W)
  unfold vB
  cases hm : isM P
  · rw [hm] at HX
    clear hm
    go_enter Tryd.func21, Tryd.ntmps21
    go_wp2_with fail
    refine (HX.out _).mono ?_
    rintro e w1 ⟨rfl, rfl⟩
    go_wp2
    go_ret
    exact ⟨ret_bool rfl, HB.out⟩
  · rw [hm] at HX
    obtain ⟨P0, P1⟩ := isM_le hm
    clear hm
    unfold isR
    by_cases x0 : 0 ≤ A
    · by_cases x1 : A < P
      · by_cases y0 : 0 ≤ B
        · by_cases y1 : B < P
          · rw [decide_eq_true x0, decide_eq_true x1, decide_eq_true y0, decide_eq_true y1]
            obtain ⟨⟨a0, a1⟩, ⟨b0, b1⟩, ⟨c0, c1⟩, ⟨d0, d1⟩, ⟨e0, e1⟩⟩ := disc_in ⟨P0, P1⟩ ⟨x0, x1⟩ ⟨y0, y1⟩
            have hne : ¬ P = 0 := by omega
            have ht : ((4 * A * A * A + 27 * B * B) % P == 0) = disc P A B := rfl
            obtain ⟨b, hb⟩ : ∃ b, disc P A B = b := ⟨_, rfl⟩
            rw [hb] at ht ⊢
            clear hb
            have ht2 : ((4 * A * A * A + 27 * B * B) % P != 0) = !b := by rw [← ht]; rfl
            go_enter Tryd.func21, Tryd.ntmps21
            go_wp2_with fail
            refine (HX.out _).mono ?_
            rintro e w1 ⟨rfl, rfl⟩
            go_wp2
            go_ret
            exact ⟨ret_bool (by simp [ht2]), HB.out⟩
          · rw [decide_eq_true x0, decide_eq_true x1, decide_eq_true y0, decide_eq_false y1]
            go_enter Tryd.func21, Tryd.ntmps21
            go_wp2_with fail
            refine (HX.out _).mono ?_
            rintro e w1 ⟨rfl, rfl⟩
            go_wp2
            go_ret
            exact ⟨ret_bool (by simp), HB.out⟩
        · rw [decide_eq_true x0, decide_eq_true x1, decide_eq_false y0]
          go_enter Tryd.func21, Tryd.ntmps21
          go_wp2_with fail
          refine (HX.out _).mono ?_
          rintro e w1 ⟨rfl, rfl⟩
          go_wp2
          go_ret
          exact ⟨ret_bool (by simp), HB.out⟩
      · rw [decide_eq_true x0, decide_eq_false x1]
        go_enter Tryd.func21, Tryd.ntmps21
        go_wp2_with fail
        refine (HX.out _).mono ?_
        rintro e w1 ⟨rfl, rfl⟩
        go_wp2
        go_ret
        exact ⟨ret_bool (by simp), HB.out⟩
    · rw [decide_eq_false x0]
      go_enter Tryd.func21, Tryd.ntmps21
      go_wp2_with fail
      refine (HX.out _).mono ?_
      rintro e w1 ⟨rfl, rfl⟩
      go_wp2
      go_ret
      exact ⟨ret_bool (by simp), HB.out⟩

theorem all_false {S : List Pt} {P A B : Int} {k : Nat} (h : k < S.length) (h2 : onB P A B (nth3 S k) = false) : S.all (onB P A B) = false := by
  rw [List.all_eq_false]
  refine ⟨S[k], List.getElem_mem h, ?_⟩
  rw [show S[k] = nth3 S k by simp [nth3, List.getD, h], h2]
  decide
theorem all_true {S : List Pt} {P A B : Int} (h : ∀ j, j < S.length → onB P A B (nth3 S j) = true) : S.all (onB P A B) = true := by
  rw [List.all_eq_true]
  intro q hq
  obtain ⟨j, hj, rfl⟩ := List.getElem_of_mem hq
  rw [show S[j] = nth3 S j by simp [nth3, List.getD, hj]]
  exact h j hj

set_option maxHeartbeats 4000000 in
set_option maxRecDepth 100000 in
theorem valid_any (P A B : Int) (a : Option Addr) (n c : Nat) (S : List Pt) (w : World) (h : AgP w a n S) (hn : n ≤ 100) (hF : Far w) :
    Calls Tryd.prog 58 #[.agg #[.int .i64 P, .int .i64 A, .int .i64 B], .slice a n c] w fun e w' => e = .returned (.bool (vB P A B && S.all (onB P A B))) ∧ Below w.heap.size w w' := by
  have HB := Lib.hid (below1 w (.cells #[.int .i64 P, .int .i64 A, .int .i64 B] 30))
  have HX := Lib.hid (fun W => isModulus_any P W)
  have HSL := Lib.hid h.1
  unfold vB
  cases hm : isM P
  · rw [hm] at HX
    clear hm h hF
    go_enter Tryd.func58, Tryd.ntmps58
    go_wp2_with fail
    refine (HX.out _).mono ?_
    rintro e w1 ⟨rfl, rfl⟩
    go_wp2
    go_ret
    exact ⟨ret_bool rfl, HB.out⟩
  · rw [hm] at HX
    obtain ⟨P0, P1⟩ := isM_le hm
    clear hm
    have HA := Lib.hid (fun W => isRest_any A P W)
    cases hA : isR A P
    · rw [hA] at HA
      clear hA h hF
      go_enter Tryd.func58, Tryd.ntmps58
      go_wp2_with fail
      refine (HX.out _).mono ?_
      rintro e w1 ⟨rfl, rfl⟩
      go_wp2_with fail
      refine (HA.out _).mono ?_
      rintro e w1 ⟨rfl, rfl⟩
      go_wp2
      go_ret
      exact ⟨ret_bool rfl, HB.out⟩
    · rw [hA] at HA
      obtain ⟨x0, x1⟩ := isR_iff.1 hA
      clear hA
      have HY := Lib.hid (fun W => isRest_any B P W)
      cases hBB : isR B P
      · rw [hBB] at HY
        clear hBB h hF
        go_enter Tryd.func58, Tryd.ntmps58
        go_wp2_with fail
        refine (HX.out _).mono ?_
        rintro e w1 ⟨rfl, rfl⟩
        go_wp2_with fail
        refine (HA.out _).mono ?_
        rintro e w1 ⟨rfl, rfl⟩
        go_wp2_with fail
        refine (HY.out _).mono ?_
        rintro e w1 ⟨rfl, rfl⟩
        go_wp2
        go_ret
        exact ⟨ret_bool rfl, HB.out⟩
      · rw [hBB] at HY
        obtain ⟨y0, y1⟩ := isR_iff.1 hBB
        clear hBB
        obtain ⟨⟨a0, a1⟩, ⟨b0, b1⟩, ⟨c0, c1⟩, ⟨d0, d1⟩, ⟨e0, e1⟩⟩ := disc_in ⟨P0, P1⟩ ⟨x0, x1⟩ ⟨y0, y1⟩
        have hne : ¬ P = 0 := by omega
        have ht : ((4 * A * A * A + 27 * B * B) % P == 0) = disc P A B := rfl
        obtain ⟨b, hb⟩ : ∃ b, disc P A B = b := ⟨_, rfl⟩
        rw [hb] at ht ⊢
        clear hb
        cases b
        · have HH := Lib.hid (fun q W hF => has_any P A B q ⟨P0, P1⟩ ⟨x0, by omega⟩ ⟨y0, by omega⟩ W hF)
          have HAg := Lib.hid h
          have HFa := Lib.hid hF
          have HC := Lib.hid (C3.new w (.int .i64 P) (.int .i64 A) (.int .i64 B) 30)
          clear h hF
          go_enter Tryd.func58, Tryd.ntmps58
          go_wp2_with fail
          refine (HX.out _).mono ?_
          rintro e w1 ⟨rfl, rfl⟩
          go_wp2_with fail
          refine (HA.out _).mono ?_
          rintro e w1 ⟨rfl, rfl⟩
          go_wp2_with fail
          refine (HY.out _).mono ?_
          rintro e w1 ⟨rfl, rfl⟩
          go_wp2
          clear ht a0 a1 b0 b1 c0 c1 d0 d1 e0 e1
          go_loopg [6, 51] n (fun gk s6 s51 wr => ∃ k : Nat, k + gk = n ∧ s51 = .int .i64 (k : Int) ∧ RowKit.Hid (∀ j, j < k → onB P A B (nth3 S j) = true) ∧ C3 w.heap.size (.int .i64 P) (.int .i64 A) (.int .i64 B) wr ∧ Below w.heap.size w wr)
          case atStart => exact ⟨0, by omega, rfl, Lib.hid (fun j hj => by omega), HC.out, HB.out⟩
          case round =>
            obtain ⟨k, hk, rfl, HP, hC, hb⟩ := hrel
            have HK := Lib.hid hk
            have HBB := Lib.hid hb
            have HCC := Lib.hid hC
            obtain ⟨q0, q1, q2⟩ := hC
            by_cases hlt : k < n
            · have l1 : (k : Int) < (n : Int) := by omega
              have l0 : (0 : Int) ≤ (k : Int) := by omega
              obtain ⟨b, o, rfl, -, hcc⟩ := (HAg.out.later hb).pos (by omega)
              obtain ⟨t0, t1, t2⟩ := hcc k hlt
              obtain ⟨⟨x, y, f⟩, hx⟩ : ∃ x, nth3 S k = x := ⟨_, rfl⟩
              rw [hx] at t0 t1 t2
              simp only at t0 t1 t2
              have HO := Lib.hid (fun W hF => HH.out ⟨x, y, f⟩ W hF)
              have HFw := Lib.hid ((HFa.out.below hb).below (below1 wr (.cells #[.int .i64 x, .int .i64 y, .bool f] 34)))
              have HB2 := Lib.hid (hb.trans ((below1 wr (.cells #[.int .i64 x, .int .i64 y, .bool f] 34)).mono hb.size))
              have HC2 := Lib.hid (HCC.out.later (below1 wr (.cells #[.int .i64 x, .int .i64 y, .bool f] 34)))
              have hql := HCC.out.lt
              obtain ⟨v, hv⟩ : ∃ v, onB P A B ⟨x, y, f⟩ = v := ⟨_, rfl⟩
              rw [hv] at HO
              have HV := Lib.hid (And.intro hx hv)
              clear hx hv hcc hb hk
              go_wp2_with fail
              refine (HO.out _ HFw.out).mono ?_
              rintro e w1 ⟨rfl, hb⟩
              have HB3 := Lib.hid (HB2.out.trans (hb.mono HB2.out.size))
              have HC3 := Lib.hid (HC2.out.later hb)
              clear hb
              cases v
              · have HF := Lib.hid (all_false (S := S) (P := P) (A := A) (B := B) (k := k) (by rw [HSL.out]; exact hlt) (by rw [HV.out.1, HV.out.2]))
                go_wp2
                go_ret
                exact ⟨ret_bool (by rw [HF.out]; rfl), HB3.out⟩
              · have HP2 := Lib.hid (show ∀ j, j < k + 1 → onB P A B (nth3 S j) = true from fun j hj => by
                  by_cases hjk : j = k
                  · subst hjk; rw [HV.out.1, HV.out.2]
                  · exact HP.out j (by omega))
                go_wp2
                go_roundg (gk - 1)
                case rel => exact ⟨k + 1, by have := HK.out; omega, by go_num, HP2, HC3.out, HB3.out⟩
                case measure => have := HK.out; omega
            · have l1 : ¬ (k : Int) < (n : Int) := by omega
              have HF := Lib.hid (all_true (S := S) (P := P) (A := A) (B := B) fun j hj => HP.out j (by rw [HSL.out] at hj; omega))
              clear hk hb
              go_wp2
              go_ret
              exact ⟨ret_bool (by simp [HF.out]), HBB.out⟩
        · clear h hF
          go_enter Tryd.func58, Tryd.ntmps58
          go_wp2_with fail
          refine (HX.out _).mono ?_
          rintro e w1 ⟨rfl, rfl⟩
          go_wp2_with fail
          refine (HA.out _).mono ?_
          rintro e w1 ⟨rfl, rfl⟩
          go_wp2_with fail
          refine (HY.out _).mono ?_
          rintro e w1 ⟨rfl, rfl⟩
          go_wp2
          go_ret
          exact ⟨ret_bool rfl, HB.out⟩
end Go.Proofs.YtoepghlkjbpkfaaDoor
