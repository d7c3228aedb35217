/- The walk of counts. Condition: the number is a prime from 5 to 31, the far point lies in memory. -/
import Derived.Test.YtoepghlkjbpkfaaDoorCnt
import Derived.Test.YtoepghlkjbpkfaaDoorVal2
namespace Go.Proofs.YtoepghlkjbpkfaaDoor
open Go.RowKit
attribute [local go_sem] Oper.semAt_some

set_option maxHeartbeats 8000000 in
set_option maxRecDepth 100000 in
theorem counts_any (N : Nat) (hP : 5 ≤ N ∧ N ≤ 31) (w : World) (hF : Far w) :
    Calls Tryd.prog 76 #[.int .i64 (N : Int)] w fun e w' => (∃ v', e = .returned v' ∧ RowQ w.heap.size v' (cntL N) w') ∧ Below w.heap.size w w' := by
  have HFa := Lib.hid hF
  clear hF
  have HL := Lib.hid (cntL_len hP.2)
  have HV := Lib.hid (fun a b (W : World) (hF : Far W) => valid_any (N : Int) a b none 0 0 [] W ⟨rfl, .inl rfl⟩ (Nat.zero_le _) hF)
  have HP := Lib.hid (fun (a b : Int) ha hb (W : World) (hF : Far W) => points_any N a b hP ha hb W hF)
  obtain ⟨i0, hi, hz0, hz1, hz2⟩ := info_parts info3
  obtain ⟨i1, hi1, hy0, hy1, hy2⟩ := info_parts info78
  obtain ⟨M, hM⟩ : ∃ M, 2 * N + 2 = M := ⟨_, rfl⟩
  have m0 : 2 * (N : Int) + 2 = (M : Int) := by omega
  have m1 : M ≤ 64 := by omega
  have HM := Lib.hid hM
  have HPP := Lib.hid hP
  clear hM
  go_enter Tryd.func76, Tryd.ntmps76
  go_wp2_with (at_make; refine wpList_make_full _ rfl _ _ 126 rfl w.heap.size 3 i0 (.int .i64 0) 1 Tryd.underlying126 hi hz0 hz1 _ _ _ _ M rfl rfl (by omega) (by omega) (by rw [hz2]; omega) (by unfold maxLen; omega) (Nat.le_refl _) ?_; intro w1 hown hgrow)
  have S0 := Lib.hid (CoState.made hown ((Below.refl w.heap.size w).grown hgrow (Nat.le_refl _) (fun k e => by cases e)))
  obtain ⟨g, hg⟩ : ∃ g, g = w.heap.size := ⟨_, rfl⟩
  rw [← hg] at S0 ⊢
  clear hown hgrow hg
  go_wp2
  go_loopg [4, 5, 6, 15, 19] N (fun gk s4 s5 s6 s15 s19 wr => ∃ k : Nat, k + gk = N ∧ s15 = .int .i64 (k : Int) ∧ CoState g M (fun n => ((cnA N k n : Nat) : Int)) w wr)
  case atStart => exact ⟨0, by omega, rfl, S0.out.congr (fun j _ => rfl)⟩
  case round =>
    clear S0
    obtain ⟨k, hk, rfl, hs⟩ := hrel
    have HK := Lib.hid hk
    have HS := Lib.hid hs
    by_cases hlt : k < N
    · have l1 : (k : Int) < (N : Int) := by omega
      clear hk hs
      go_wp2
      obtain ⟨GK, hGK⟩ : ∃ G, gk = G := ⟨_, rfl⟩
      have HGK := Lib.hid hGK
      obtain ⟨W0, hW0⟩ : ∃ W0, W0 = wr := ⟨_, rfl⟩
      rw [← hW0] at HS ⊢
      clear hGK hW0
      go_loopg [5, 6, 19] N (fun gk s5 s6 s19 wr => ∃ j : Nat, j + gk = N ∧ s19 = .int .i64 (j : Int) ∧ CoState g M (fun n => ((cnA N k n + cnB N k j n : Nat) : Int)) w wr)
      case atStart => exact ⟨0, by omega, rfl, HS.out.congr (fun j _ => rfl)⟩
      case round =>
        clear HS
        obtain ⟨j, hj, rfl, hs⟩ := hrel
        have HJ := Lib.hid hj
        have HS := Lib.hid hs
        by_cases hlj : j < N
        · have m2 : (j : Int) < (N : Int) := by omega
          have HX := Lib.hid (C3.new wr (.int .i64 (N : Int)) (.int .i64 (k : Int)) (.int .i64 (j : Int)) 30)
          have hb1 := below1 wr (.cells #[.int .i64 (N : Int), .int .i64 (k : Int), .int .i64 (j : Int)] 30)
          have HS1 := Lib.hid (HS.out.later hb1)
          have HF1 := Lib.hid (HFa.out.below HS1.out.b)
          have HQ := Lib.hid (HP.out (k : Int) (j : Int) ⟨by omega, by have := HPP.out; omega⟩ ⟨by omega, by have := HPP.out; omega⟩)
          have HVV := Lib.hid (HV.out (k : Int) (j : Int))
          have hll := @len_lt N (k : Int) (j : Int)
          have hst : ∀ n, cnB N k (j + 1) n = cnB N k j n + if (vB N k j && (ptsL N k j).length == n) then 1 else 0 := fun _ => rfl
          obtain ⟨v, hv⟩ : ∃ v, vB (N : Int) (k : Int) (j : Int) = v := ⟨_, rfl⟩
          rw [hv] at HVV hll hst
          have hLE : ∀ n, cnA N k n + cnB N k j n ≤ 961 := fun n => cn_le HPP.out.2 hlt (Nat.le_of_lt hlj)
          have HLE := Lib.hid hLE
          have HST := Lib.hid hst
          clear hv hst hs hb1 hj hLE
          go_wp2_with fail
          refine (HVV.out _ HF1.out).mono ?_
          rintro e w2 ⟨rfl, hb⟩
          have HS2 := Lib.hid (HS1.out.later hb)
          have HX2 := Lib.hid (HX.out.later hb)
          have HF2 := Lib.hid (HF1.out.below hb)
          clear hb
          obtain ⟨x0, x1, x2⟩ := HX2.out
          cases v
          · have HS3 := Lib.hid (HS2.out.congr (f' := fun n => ((cnA N k n + cnB N k (j + 1) n : Nat) : Int)) (fun n _ => by rw [HST.out n]; simp))
            clear hll
            go_wp2
            go_roundg (gk - 1)
            case rel => exact ⟨j + 1, by have := HJ.out; omega, by go_num, HS3.out⟩
            case measure => have := HJ.out; omega
          · have hll2 := hll rfl
            obtain ⟨Q, hQ⟩ : ∃ Q, ptsL (N : Int) (k : Int) (j : Int) = Q := ⟨_, rfl⟩
            rw [hQ] at hll2 HQ HST
            obtain ⟨q, hq⟩ : ∃ q, Q.length = q := ⟨_, rfl⟩
            have HQQ := Lib.hid hq
            clear hll hQ
            go_wp2_with fail
            refine (HQ.out _ HF2.out).mono ?_
            rintro e w3 ⟨⟨v', rfl, hrow⟩, hb⟩
            obtain ⟨a, c, rfl, -, -, -⟩ := AgP.of hrow
            have HS3 := Lib.hid (HS2.out.later hb)
            rw [hq] at hll2 ⊢
            have hqM : q < M := by have := HM.out; omega
            have hcq := HS3.out.cell hqM
            have hfq := HS3.out.frozen q
            obtain ⟨z, hz⟩ : ∃ z, cnA N k q + cnB N k j q = z := ⟨_, rfl⟩
            have hz961 : z ≤ 961 := by rw [← hz]; exact HLE.out q
            rw [hz] at hcq
            have hzw : wrap64 ((z : Int) + 1) = (z : Int) + 1 := IntWalk.wrap64_in _ (by omega)
            have HS4 := Lib.hid ((HS3.out.put q ((z : Int) + 1)).congr (f' := fun n => ((cnA N k n + cnB N k (j + 1) n : Nat) : Int)) (fun n _ => by
              rw [HST.out n, HQQ.out]
              by_cases hn : n = q
              · subst hn
                rw [if_pos rfl, if_pos (by simp)]
                omega
              · have : ¬ q = n := fun e => hn e.symm
                simp [hn, this]))
            clear hb hrow hq hz
            go_wp2
            go_roundg (gk - 1)
            case rel => exact ⟨j + 1, by have := HJ.out; omega, by go_num, HS4.out⟩
            case measure => have := HJ.out; omega
        · have m2 : ¬ (j : Int) < (N : Int) := by omega
          have hjN : j = N := by omega
          have HS3 := Lib.hid (HS.out.congr (f' := fun n => ((cnA N (k + 1) n : Nat) : Int)) (fun n _ => by rw [hjN]; rfl))
          clear hs hj hjN
          go_wp2
          go_roundg (GK - 1)
          case rel => exact ⟨k + 1, by have := HK.out; have := HGK.out; omega, by go_num, HS3.out⟩
          case measure => have := HK.out; have := HGK.out; omega
    · have l1 : ¬ (k : Int) < (N : Int) := by omega
      have hkN : k = N := by omega
      have HSN := Lib.hid (show CoState g M (fun n => ((cnA N N n : Nat) : Int)) w wr by rw [hkN] at hs; exact hs)
      obtain ⟨W0, hW0⟩ : ∃ W0, W0 = wr := ⟨_, rfl⟩
      rw [← hW0] at HSN ⊢
      clear hk hs hkN hW0 HS
      have hgw : w.heap.size ≤ g := HSN.out.le
      go_wp2
      go_loopg [7, 8, 9, 40] M (fun gk s7 s8 s9 s40 wr => ∃ j : Nat, j + gk = M ∧ s40 = .int .i64 (j : Int) ∧ RowQ W0.heap.size s7 (outN (cnA N N) j) wr ∧ Below W0.heap.size W0 wr)
      case atStart => exact ⟨0, by omega, rfl, RowQ.nil _ _, Below.refl _ _⟩
      case round =>
        obtain ⟨j, hj, rfl, hr, hb⟩ := hrel
        have HJ := Lib.hid hj
        have HR := Lib.hid hr
        have HBB := Lib.hid hb
        by_cases hlj : j < M
        · have m2 : (j : Int) < (M : Int) := by omega
          have hcj := (HSN.out.later hb).cell hlj
          have hst : outN (cnA N N) (j + 1) = outN (cnA N N) j ++ if 0 < cnA N N j then [((j : Int), (cnA N N j : Int))] else [] := rfl
          obtain ⟨z, hz⟩ : ∃ z, cnA N N j = z := ⟨_, rfl⟩
          rw [hz] at hcj hst
          have HST := Lib.hid hst
          by_cases z0 : 0 < z
          · have z1 : (0 : Int) < (z : Int) := by omega
            have hz2 : z ≤ 961 := by rw [← hz]; exact Nat.le_trans (cnA_le N N j) (Nat.mul_le_mul HPP.out.2 HPP.out.2)
            have hln : (outN (cnA N N) j).length ≤ 64 := Nat.le_trans (outN_len _ _) (by omega)
            have hr2 := HR.out
            unfold RowQ at hr2
            have hsz := HBB.out.size
            obtain ⟨Q, hQ⟩ : ∃ Q, (outN (cnA N N) j).length = Q := ⟨_, rfl⟩
            rw [hQ] at hr2 hln
            have HQ := Lib.hid hQ
            rw [if_pos z0] at HST
            clear hQ hz hst hr hb hj
            go_wp2_with (at_builtin; refine wpList_append_own _ rfl _ _ 73 rfl W0.heap.size 78 i1 (.agg #[.int .i64 0, .int .i64 0]) 2 16 Tryd.underlying73 hi1 hy0 hy1 hy2 rfl (by decide) _ _ _ rfl (World.ownsRow.alloc (h := hr2) _) ⟨wr.heap.size, 0, none⟩ 1 1 (fl2 [((j : Int), (z : Int))]) rfl rfl (by have := cell2_new wr ((j : Int), (z : Int)) 78; simpa using this) (fl2_one _) (by unfold maxLen; omega) (by omega) (by simp; omega) ?_; intro v' w3 hown' hgrow _)
            have hb3 : Below W0.heap.size W0 w3 := (HBB.out.alloc hsz _).grown hgrow (by first | (simp; done) | (simp; omega)) (fun j e => (World.ownsRow.lt hr2 j e).1)
            have hrow : RowQ W0.heap.size v' (outN (cnA N N) (j + 1)) w3 := by
              unfold RowQ
              rw [HST.out, List.length_append, HQ.out, fl2_app]
              exact hown'
            have HF := Lib.hid (And.intro hrow hb3)
            clear hown' hgrow hrow hb3 hr2
            go_wp2
            go_roundg (gk - 1)
            case rel => exact ⟨j + 1, by have := HJ.out; omega, by go_num, HF.out.1, HF.out.2⟩
            case measure => have := HJ.out; omega
          · have z1 : ¬ (0 : Int) < (z : Int) := by omega
            have HR3 := Lib.hid (show RowQ W0.heap.size u7 (outN (cnA N N) (j + 1)) wr by rw [HST.out, if_neg z0, List.append_nil]; exact HR.out)
            clear hz hst hr hb hj
            go_wp2
            go_roundg (gk - 1)
            case rel => exact ⟨j + 1, by have := HJ.out; omega, by go_num, HR3.out, HBB.out⟩
            case measure => have := HJ.out; omega
        · have m2 : ¬ (j : Int) < (M : Int) := by omega
          have hjM : j = M := by omega
          have HF := Lib.hid (show RowQ w.heap.size u7 (cntL N) wr ∧ Below w.heap.size w wr from
            ⟨(show RowQ W0.heap.size u7 (cntL N) wr by have := HR.out; rw [hjM, ← HM.out] at this; exact this).mono HSN.out.b.size, HSN.out.b.trans (HBB.out.mono HSN.out.b.size)⟩)
          clear hr hb hj hjM
          go_wp2
          go_ret
          exact ⟨⟨_, rfl, HF.out.1⟩, HF.out.2⟩
end Go.Proofs.YtoepghlkjbpkfaaDoor
