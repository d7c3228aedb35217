/- The points of a curve: the walks of points and of the reference's Points. Condition: the numbers are within their bounds. -/
import Derived.Test.YtoepghlkjbpkfaaDoorVal2
namespace Go.Proofs.YtoepghlkjbpkfaaDoor
open Go.RowKit
attribute [local go_sem] Oper.semAt_some

def ptsY (P A B : Int) (x : Nat) : Nat → List Pt
  | 0 => []
  | j + 1 => ptsY P A B x j ++ (if onB P A B ⟨x, j, false⟩ then [⟨x, j, false⟩] else [])
def ptsX (P A B : Int) (N : Nat) : Nat → List Pt
  | 0 => []
  | k + 1 => ptsX P A B N k ++ ptsY P A B k N
/-- all points, in order -/
def ptsL (P A B : Int) : List Pt := ptsX P A B P.toNat P.toNat ++ [⟨0, 0, true⟩]
theorem ptsY_len (P A B : Int) (x : Nat) : ∀ j, (ptsY P A B x j).length ≤ j
  | 0 => Nat.le_refl _
  | j + 1 => by
    have := ptsY_len P A B x j
    unfold ptsY
    rw [List.length_append]
    split <;> simp <;> omega
theorem ptsX_len (P A B : Int) (N : Nat) : ∀ k, (ptsX P A B N k).length ≤ k * N
  | 0 => Nat.zero_le _
  | k + 1 => by
    have := ptsX_len P A B N k
    have h2 := ptsY_len P A B k N
    unfold ptsX
    rw [List.length_append, Nat.succ_mul]
    omega
theorem pts_len2 {P A B : Int} {N k : Nat} (hN : N ≤ 31) (hk : k ≤ N) : (ptsX P A B N k).length ≤ 961 :=
  Nat.le_trans (ptsX_len P A B N k) (Nat.le_trans (Nat.mul_le_mul hk (Nat.le_refl N)) (Nat.mul_le_mul hN hN))
theorem ptsL_len {P A B : Int} (h : vB P A B = true) : (ptsL P A B).length ≤ 962 := by
  have := vB_le h
  unfold ptsL
  rw [List.length_append]
  have := pts_len2 (P := P) (A := A) (B := B) (N := P.toNat) (k := P.toNat) (by omega) (Nat.le_refl _)
  simp
  omega

set_option maxHeartbeats 8000000 in
set_option maxRecDepth 100000 in
theorem points_any (N : Nat) (A B : Int) (hP : 5 ≤ N ∧ N ≤ 31) (hA : 0 ≤ A ∧ A ≤ 31) (hB : 0 ≤ B ∧ B ≤ 31) (w : World) (hF : Far w) :
    Calls Tryd.prog 59 #[.agg #[.int .i64 (N : Int), .int .i64 A, .int .i64 B]] w fun e w' => (∃ v', e = .returned v' ∧ RowP 34 w.heap.size v' (ptsL N A B) w') ∧ Below w.heap.size w w' := by
  have HB := Lib.hid (below1 w (.cells #[.int .i64 (N : Int), .int .i64 A, .int .i64 B] 30))
  have HZ := Lib.hid (show (w.alloc (.cells #[.int .i64 (N : Int), .int .i64 A, .int .i64 B] 30)).heap.size = w.heap.size + 1 by simp)
  have HC := Lib.hid (C3.new w (.int .i64 (N : Int)) (.int .i64 A) (.int .i64 B) 30)
  have HO := Lib.hid (fun q W hF => has_any (N : Int) A B q (by omega) hA hB W hF)
  have HFa := Lib.hid hF
  clear hF
  obtain ⟨i0, hi, hz0, hz1, hz2⟩ := info_parts info34
  go_enter Tryd.func59, Tryd.ntmps59
  go_wp2
  go_loopg [3, 4, 5, 6, 9, 14] N (fun gk s3 s4 s5 s6 s9 s14 wr => ∃ k : Nat, k + gk = N ∧ s9 = .int .i64 (k : Int) ∧ RowP 34 (w.heap.size + 1) s3 (ptsX N A B N k) wr ∧ Below (w.heap.size + 1) (w.alloc (.cells #[.int .i64 (N : Int), .int .i64 A, .int .i64 B] 30)) wr)
  case atStart => exact ⟨0, by omega, rfl, RowP.nil _ _ _, Below.refl _ _⟩
  case round =>
    obtain ⟨k, hk, rfl, hr, hb⟩ := hrel
    have hC := HC.out.below (by simp) hb
    have HK := Lib.hid hk
    have HRR := Lib.hid hr
    have HCC := Lib.hid hC
    have HBB := Lib.hid hb
    obtain ⟨q0, q1, q2⟩ := hC
    by_cases hlt : k < N
    · have l1 : (k : Int) < (N : Int) := by omega
      clear hk hr hb
      go_wp2
      obtain ⟨GK, hGK⟩ : ∃ G, gk = G := ⟨_, rfl⟩
      have HGK := Lib.hid hGK
      obtain ⟨W0, hW0⟩ : ∃ W0, W0 = wr := ⟨_, rfl⟩
      rw [← hW0] at HRR HCC HBB q0 q1 q2 ⊢
      clear hGK hW0
      go_loopg [3, 5, 6, 14] N (fun gk s3 s5 s6 s14 wr => ∃ j : Nat, j + gk = N ∧ s14 = .int .i64 (j : Int) ∧ RowP 34 (w.heap.size + 1) s3 (ptsX N A B N k ++ ptsY N A B k j) wr ∧ Below (w.heap.size + 1) (w.alloc (.cells #[.int .i64 (N : Int), .int .i64 A, .int .i64 B] 30)) wr)
      case atStart => exact ⟨0, by omega, rfl, by have := HRR.out; simpa [ptsY] using this, HBB.out⟩
      case round =>
        clear HRR HCC HBB q0 q1 q2
        obtain ⟨j, hj, rfl, hr, hb⟩ := hrel
        have hC := HC.out.below (by simp) hb
        have HJ := Lib.hid hj
        have HRR := Lib.hid hr
        have HCC := Lib.hid hC
        have HBB := Lib.hid hb
        obtain ⟨q0, q1, q2⟩ := hC
        by_cases hlj : j < N
        · have m1 : (j : Int) < (N : Int) := by omega
          have HX := Lib.hid (C3.new wr (.int .i64 (k : Int)) (.int .i64 (j : Int)) (.bool false) 34)
          have hb1 := below1 wr (.cells #[.int .i64 (k : Int), .int .i64 (j : Int), .bool false] 34)
          have HR1 := Lib.hid (HRR.out.later hb1)
          have HB1 := Lib.hid (HBB.out.trans (hb1.mono (by have := HBB.out.size; rw [HZ.out] at this; exact this)))
          have HF1 := Lib.hid (HFa.out.below (HB.out.trans (HB1.out.mono (Nat.le_succ _))))
          have hql := HCC.out.lt
          have HQ := Lib.hid (fun W hF => HO.out ⟨(k : Int), (j : Int), false⟩ W hF)
          have hst : ptsY N A B k (j + 1) = ptsY N A B k j ++ (if onB N A B ⟨k, j, false⟩ then [⟨k, j, false⟩] else []) := rfl
          obtain ⟨v, hv⟩ : ∃ v, onB (N : Int) A B ⟨(k : Int), (j : Int), false⟩ = v := ⟨_, rfl⟩
          rw [hv] at HQ hst
          have HST := Lib.hid hst
          clear hv hst hr hb hb1 hj
          go_wp2_with fail
          refine (HQ.out _ HF1.out).mono ?_
          rintro e w1 ⟨rfl, hb⟩
          have HR2 := Lib.hid (HR1.out.later hb)
          have HB2 := Lib.hid (HB1.out.trans (hb.mono (by have := HB1.out.size; rw [HZ.out] at this; exact this)))
          have HX2 := Lib.hid (HX.out.later hb)
          clear hb
          cases v
          · have HR3 := Lib.hid (show RowP 34 (w.heap.size + 1) u3 (ptsX N A B N k ++ ptsY N A B k (j + 1)) w1 by rw [HST.out]; simpa using HR2.out)
            go_wp2
            go_roundg (gk - 1)
            case rel => exact ⟨j + 1, by have := HJ.out; omega, by go_num, HR3.out, HB2.out⟩
            case measure => have := HJ.out; omega
          · obtain ⟨y0, y1, y2⟩ := HX2.out
            have hr2 := HR2.out
            unfold RowP at hr2
            have hsz := HB2.out.size
            rw [HZ.out] at hsz
            have hln : (ptsX N A B N k ++ ptsY N A B k j).length ≤ 1000 := by
              rw [List.length_append]
              have := pts_len2 (P := N) (A := A) (B := B) hP.2 (Nat.le_of_lt hlt)
              have := ptsY_len N A B k j
              omega
            obtain ⟨Q, hQ⟩ : ∃ Q, (ptsX N A B N k ++ ptsY N A B k j).length = Q := ⟨_, rfl⟩
            rw [hQ] at hr2 hln
            have HQ := Lib.hid hQ
            clear hQ
            go_wp2_with (at_builtin; refine wpList_append_own _ rfl _ _ 26 rfl (w.heap.size + 1) 34 i0 (.agg #[.int .i64 0, .int .i64 0, .bool false]) 3 24 Tryd.underlying26 hi hz0 hz1 hz2 rfl (by decide) _ _ _ rfl (World.ownsRow.alloc (h := hr2) _) ⟨w1.heap.size, 0, none⟩ 1 1 (fl3 [⟨(k : Int), (j : Int), false⟩]) rfl rfl (by have := cell3_new w1 ⟨(k : Int), (j : Int), false⟩ 34; simpa using this) (fl3_one _) (by unfold maxLen; omega) (by omega) (by simp; omega) ?_; intro v' w3 hown' hgrow _)
            have hb3 : Below (w.heap.size + 1) (w.alloc (.cells #[.int .i64 (N : Int), .int .i64 A, .int .i64 B] 30)) w3 := (HB2.out.alloc hsz _).grown hgrow (by first | (simp; done) | (simp; omega)) (fun j e => (World.ownsRow.lt hr2 j e).1)
            have hrow : RowP 34 (w.heap.size + 1) v' (ptsX N A B N k ++ ptsY N A B k (j + 1)) w3 := by
              unfold RowP
              rw [HST.out, if_pos trivial, ← List.append_assoc, List.length_append, HQ.out, fl3_app]
              exact hown'
            have HF := Lib.hid (And.intro hrow hb3)
            clear hown' hgrow hrow hb3 hr2
            go_wp2
            go_roundg (gk - 1)
            case rel => exact ⟨j + 1, by have := HJ.out; omega, by go_num, HF.out.1, HF.out.2⟩
            case measure => have := HJ.out; omega
        · have m1 : ¬ (j : Int) < (N : Int) := by omega
          have hjN : j = N := by omega
          have HR3 := Lib.hid (show RowP 34 (w.heap.size + 1) u3 (ptsX N A B N (k + 1)) wr by have := HRR.out; rw [hjN] at this; exact this)
          clear hr hb hj hjN
          go_wp2
          go_roundg (GK - 1)
          case rel => exact ⟨k + 1, by have := HK.out; have := HGK.out; omega, by go_num, HR3.out, HBB.out⟩
          case measure => have := HK.out; have := HGK.out; omega
    · have l1 : ¬ (k : Int) < (N : Int) := by omega
      have hkN : k = N := by omega
      have hln : (ptsX N A B N k).length ≤ 961 := pts_len2 hP.2 (by omega)
      have HL := Lib.hid (show ptsL (N : Int) A B = ptsX N A B N k ++ [⟨0, 0, true⟩] by rw [ptsL, Int.toNat_natCast, hkN])
      have HF1 := Lib.hid (HFa.out.below (HB.out.trans (HBB.out.mono (Nat.le_succ _))))
      obtain ⟨z3, z0, z1, z2⟩ := HF1.out
      have hr2 := HRR.out
      unfold RowP at hr2
      have hsz := HBB.out.size
      rw [HZ.out] at hsz
      obtain ⟨Q, hQ⟩ : ∃ Q, (ptsX N A B N k).length = Q := ⟨_, rfl⟩
      rw [hQ] at hr2 hln
      have HQ := Lib.hid hQ
      clear hQ hk hr hb hkN
      go_wp2_with (at_builtin; refine wpList_append_own _ rfl _ _ 26 rfl (w.heap.size + 1) 34 i0 (.agg #[.int .i64 0, .int .i64 0, .bool false]) 3 24 Tryd.underlying26 hi hz0 hz1 hz2 rfl (by decide) _ _ _ rfl (World.ownsRow.alloc (h := hr2) _) ⟨wr.heap.size, 0, none⟩ 1 1 (fl3 [⟨0, 0, true⟩]) rfl rfl (by have := cell3_new wr ⟨0, 0, true⟩ 34; simpa using this) (fl3_one _) (by unfold maxLen; omega) (by omega) (by simp; omega) ?_; intro v' w3 hown' hgrow _)
      have hb3 : Below (w.heap.size + 1) (w.alloc (.cells #[.int .i64 (N : Int), .int .i64 A, .int .i64 B] 30)) w3 := (HBB.out.alloc hsz _).grown hgrow (by first | (simp; done) | (simp; omega)) (fun j e => (World.ownsRow.lt hr2 j e).1)
      have hrow : RowP 34 w.heap.size v' (ptsL N A B) w3 := by
        refine RowP.mono (B := w.heap.size + 1) ?_ (Nat.le_succ _)
        unfold RowP
        rw [HL.out, List.length_append, HQ.out, fl3_app]
        exact hown'
      have HF := Lib.hid (And.intro hrow (HB.out.trans (hb3.mono (Nat.le_succ _))))
      clear hown' hgrow hrow hb3 hr2
      go_wp2
      go_ret
      exact ⟨⟨_, rfl, HF.out.1⟩, HF.out.2⟩

set_option maxHeartbeats 8000000 in
set_option maxRecDepth 100000 in
theorem pointsR_any (N : Nat) (A B : Int) (hP : 5 ≤ N ∧ N ≤ 31) (hA : 0 ≤ A ∧ A ≤ 31) (hB : 0 ≤ B ∧ B ≤ 31) (w : World) :
    Calls Tryd.prog 25 #[.agg #[.int .i64 (N : Int), .int .i64 A, .int .i64 B]] w fun e w' => (∃ v', e = .returned v' ∧ RowP 25 w.heap.size v' (ptsL N A B) w') ∧ Below w.heap.size w w' := by
  have HB := Lib.hid (below1 w (.cells #[.int .i64 (N : Int), .int .i64 A, .int .i64 B] 23))
  have HZ := Lib.hid (show (w.alloc (.cells #[.int .i64 (N : Int), .int .i64 A, .int .i64 B] 23)).heap.size = w.heap.size + 1 by simp)
  have HC := Lib.hid (C3.new w (.int .i64 (N : Int)) (.int .i64 A) (.int .i64 B) 23)
  have HO := Lib.hid (fun q W => onR_any (N : Int) A B q (by omega) hA hB W)
  obtain ⟨i0, hi, hz0, hz1, hz2⟩ := info_parts info25
  go_enter Tryd.func25, Tryd.ntmps25
  go_wp2
  go_loopg [3, 4, 5, 6, 9, 14] N (fun gk s3 s4 s5 s6 s9 s14 wr => ∃ k : Nat, k + gk = N ∧ s9 = .int .i64 (k : Int) ∧ RowP 25 (w.heap.size + 1) s3 (ptsX N A B N k) wr ∧ Below (w.heap.size + 1) (w.alloc (.cells #[.int .i64 (N : Int), .int .i64 A, .int .i64 B] 23)) wr)
  case atStart => exact ⟨0, by omega, rfl, RowP.nil _ _ _, Below.refl _ _⟩
  case round =>
    obtain ⟨k, hk, rfl, hr, hb⟩ := hrel
    have hC := HC.out.below (by simp) hb
    have HK := Lib.hid hk
    have HRR := Lib.hid hr
    have HCC := Lib.hid hC
    have HBB := Lib.hid hb
    obtain ⟨q0, q1, q2⟩ := hC
    by_cases hlt : k < N
    · have l1 : (k : Int) < (N : Int) := by omega
      clear hk hr hb
      go_wp2
      obtain ⟨GK, hGK⟩ : ∃ G, gk = G := ⟨_, rfl⟩
      have HGK := Lib.hid hGK
      obtain ⟨W0, hW0⟩ : ∃ W0, W0 = wr := ⟨_, rfl⟩
      rw [← hW0] at HRR HCC HBB q0 q1 q2 ⊢
      clear hGK hW0
      go_loopg [3, 5, 6, 14] N (fun gk s3 s5 s6 s14 wr => ∃ j : Nat, j + gk = N ∧ s14 = .int .i64 (j : Int) ∧ RowP 25 (w.heap.size + 1) s3 (ptsX N A B N k ++ ptsY N A B k j) wr ∧ Below (w.heap.size + 1) (w.alloc (.cells #[.int .i64 (N : Int), .int .i64 A, .int .i64 B] 23)) wr)
      case atStart => exact ⟨0, by omega, rfl, by have := HRR.out; simpa [ptsY] using this, HBB.out⟩
      case round =>
        clear HRR HCC HBB q0 q1 q2
        obtain ⟨j, hj, rfl, hr, hb⟩ := hrel
        have hC := HC.out.below (by simp) hb
        have HJ := Lib.hid hj
        have HRR := Lib.hid hr
        have HCC := Lib.hid hC
        have HBB := Lib.hid hb
        obtain ⟨q0, q1, q2⟩ := hC
        by_cases hlj : j < N
        · have m1 : (j : Int) < (N : Int) := by omega
          have HX := Lib.hid (C3.new wr (.int .i64 (k : Int)) (.int .i64 (j : Int)) (.bool false) 25)
          have hb1 := below1 wr (.cells #[.int .i64 (k : Int), .int .i64 (j : Int), .bool false] 25)
          have HR1 := Lib.hid (HRR.out.later hb1)
          have HB1 := Lib.hid (HBB.out.trans (hb1.mono (by have := HBB.out.size; rw [HZ.out] at this; exact this)))
          
          have hql := HCC.out.lt
          have HQ := Lib.hid (fun W => HO.out ⟨(k : Int), (j : Int), false⟩ W)
          have hst : ptsY N A B k (j + 1) = ptsY N A B k j ++ (if onB N A B ⟨k, j, false⟩ then [⟨k, j, false⟩] else []) := rfl
          obtain ⟨v, hv⟩ : ∃ v, onB (N : Int) A B ⟨(k : Int), (j : Int), false⟩ = v := ⟨_, rfl⟩
          rw [hv] at HQ hst
          have HST := Lib.hid hst
          clear hv hst hr hb hb1 hj
          go_wp2_with fail
          refine (HQ.out _).mono ?_
          rintro e w1 ⟨rfl, hb⟩
          have HR2 := Lib.hid (HR1.out.later hb)
          have HB2 := Lib.hid (HB1.out.trans (hb.mono (by have := HB1.out.size; rw [HZ.out] at this; exact this)))
          have HX2 := Lib.hid (HX.out.later hb)
          clear hb
          cases v
          · have HR3 := Lib.hid (show RowP 25 (w.heap.size + 1) u3 (ptsX N A B N k ++ ptsY N A B k (j + 1)) w1 by rw [HST.out]; simpa using HR2.out)
            go_wp2
            go_roundg (gk - 1)
            case rel => exact ⟨j + 1, by have := HJ.out; omega, by go_num, HR3.out, HB2.out⟩
            case measure => have := HJ.out; omega
          · obtain ⟨y0, y1, y2⟩ := HX2.out
            have hr2 := HR2.out
            unfold RowP at hr2
            have hsz := HB2.out.size
            rw [HZ.out] at hsz
            have hln : (ptsX N A B N k ++ ptsY N A B k j).length ≤ 1000 := by
              rw [List.length_append]
              have := pts_len2 (P := N) (A := A) (B := B) hP.2 (Nat.le_of_lt hlt)
              have := ptsY_len N A B k j
              omega
            obtain ⟨Q, hQ⟩ : ∃ Q, (ptsX N A B N k ++ ptsY N A B k j).length = Q := ⟨_, rfl⟩
            rw [hQ] at hr2 hln
            have HQ := Lib.hid hQ
            clear hQ
            go_wp2_with (at_builtin; refine wpList_append_own _ rfl _ _ 39 rfl (w.heap.size + 1) 25 i0 (.agg #[.int .i64 0, .int .i64 0, .bool false]) 3 24 Tryd.underlying39 hi hz0 hz1 hz2 rfl (by decide) _ _ _ rfl (World.ownsRow.alloc (h := hr2) _) ⟨w1.heap.size, 0, none⟩ 1 1 (fl3 [⟨(k : Int), (j : Int), false⟩]) rfl rfl (by have := cell3_new w1 ⟨(k : Int), (j : Int), false⟩ 25; simpa using this) (fl3_one _) (by unfold maxLen; omega) (by omega) (by simp; omega) ?_; intro v' w3 hown' hgrow _)
            have hb3 : Below (w.heap.size + 1) (w.alloc (.cells #[.int .i64 (N : Int), .int .i64 A, .int .i64 B] 23)) w3 := (HB2.out.alloc hsz _).grown hgrow (by first | (simp; done) | (simp; omega)) (fun j e => (World.ownsRow.lt hr2 j e).1)
            have hrow : RowP 25 (w.heap.size + 1) v' (ptsX N A B N k ++ ptsY N A B k (j + 1)) w3 := by
              unfold RowP
              rw [HST.out, if_pos trivial, ← List.append_assoc, List.length_append, HQ.out, fl3_app]
              exact hown'
            have HF := Lib.hid (And.intro hrow hb3)
            clear hown' hgrow hrow hb3 hr2
            go_wp2
            go_roundg (gk - 1)
            case rel => exact ⟨j + 1, by have := HJ.out; omega, by go_num, HF.out.1, HF.out.2⟩
            case measure => have := HJ.out; omega
        · have m1 : ¬ (j : Int) < (N : Int) := by omega
          have hjN : j = N := by omega
          have HR3 := Lib.hid (show RowP 25 (w.heap.size + 1) u3 (ptsX N A B N (k + 1)) wr by have := HRR.out; rw [hjN] at this; exact this)
          clear hr hb hj hjN
          go_wp2
          go_roundg (GK - 1)
          case rel => exact ⟨k + 1, by have := HK.out; have := HGK.out; omega, by go_num, HR3.out, HBB.out⟩
          case measure => have := HK.out; have := HGK.out; omega
    · have l1 : ¬ (k : Int) < (N : Int) := by omega
      have hkN : k = N := by omega
      have hln : (ptsX N A B N k).length ≤ 961 := pts_len2 hP.2 (by omega)
      have HL := Lib.hid (show ptsL (N : Int) A B = ptsX N A B N k ++ [⟨0, 0, true⟩] by rw [ptsL, Int.toNat_natCast, hkN])
      clear hk hr hb
      go_wp2_with fail
      refine (farR_any _).mono ?_
      rintro e w1 ⟨rfl, hb⟩
      have HR2 := Lib.hid (HRR.out.later hb)
      have HB2 := Lib.hid (HBB.out.trans (hb.mono (by have := HBB.out.size; rw [HZ.out] at this; exact this)))
      have hr2 := HR2.out
      unfold RowP at hr2
      have hsz := HB2.out.size
      rw [HZ.out] at hsz
      obtain ⟨Q, hQ⟩ : ∃ Q, (ptsX N A B N k).length = Q := ⟨_, rfl⟩
      rw [hQ] at hr2 hln
      have HQ := Lib.hid hQ
      clear hQ hb hkN
      go_wp2_with (at_builtin; refine wpList_append_own _ rfl _ _ 39 rfl (w.heap.size + 1) 25 i0 (.agg #[.int .i64 0, .int .i64 0, .bool false]) 3 24 Tryd.underlying39 hi hz0 hz1 hz2 rfl (by decide) _ _ _ rfl (World.ownsRow.alloc (h := hr2) _) ⟨w1.heap.size, 0, none⟩ 1 1 (fl3 [⟨0, 0, true⟩]) rfl rfl (by have := cell3_new w1 ⟨0, 0, true⟩ 25; simpa using this) (fl3_one _) (by unfold maxLen; omega) (by omega) (by simp; omega) ?_; intro v' w3 hown' hgrow _)
      have hb3 : Below (w.heap.size + 1) (w.alloc (.cells #[.int .i64 (N : Int), .int .i64 A, .int .i64 B] 23)) w3 := (HB2.out.alloc hsz _).grown hgrow (by first | (simp; done) | (simp; omega)) (fun j e => (World.ownsRow.lt hr2 j e).1)
      have hrow : RowP 25 w.heap.size v' (ptsL N A B) w3 := by
        refine RowP.mono (B := w.heap.size + 1) ?_ (Nat.le_succ _)
        unfold RowP
        rw [HL.out, List.length_append, HQ.out, fl3_app]
        exact hown'
      have HF := Lib.hid (And.intro hrow (HB.out.trans (hb3.mono (Nat.le_succ _))))
      clear hown' hgrow hrow hb3 hr2
      go_wp2
      go_ret
      exact ⟨⟨_, rfl, HF.out.1⟩, HF.out.2⟩
end Go.Proofs.YtoepghlkjbpkfaaDoor
