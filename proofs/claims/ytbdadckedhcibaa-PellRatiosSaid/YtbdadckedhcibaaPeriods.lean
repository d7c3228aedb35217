/- The law PellPeriods: its walk in every case. No condition on the argument. -/
import Derived.Test.YtbdadckedhcibaaConvergent
import Derived.BigQuiet
import Derived.Deep.QuietTactic
import Derived.Lib.OwnBridge
namespace Go.Proofs.Ytbdadckedhcibaa
open Go.RowKit Go.Sort Go.Lib

/-- The period but its last number. -/
def md (d : Int) : List Int := (List.range (pL d - 1)).map fun j => cfA d (j + 1)
theorem md_len (d : Int) : (md d).length = pL d - 1 := by simp [md]
theorem md_at (d : Int) {j : Nat} (h : j < pL d - 1) : (md d).getD j 0 = cfA d (j + 1) := by simp [md, List.getD, h]
def qCheck : Bool := allBelow 101 fun d => !isD d || (decide ((md d).reverse = md d) && decide (uK d + 1 = pL d) && (if uN d = -1 then decide (pL d % 2 = 1) else decide (uN d = 1) && decide (pL d % 2 = 0)))
theorem qCheck_ok : qCheck = true := by decide +kernel
theorem q_all {d : Int} (hd : isD d = true) : (md d).reverse = md d ∧ uK d + 1 = pL d ∧ ((uN d = -1 ∧ pL d % 2 = 1) ∨ (uN d = 1 ∧ pL d % 2 = 0)) := by
  have hb := isD_bd hd
  have h := allBelow_at qCheck_ok (k := d.toNat) (by omega)
  rw [Int.toNat_of_nonneg (by omega), hd] at h
  simp only [Bool.not_true, Bool.false_or, Bool.and_eq_true, decide_eq_true_eq] at h
  refine ⟨h.1.1, h.1.2, ?_⟩
  have h2 := h.2
  split at h2
  · exact .inl ⟨by assumption, by simpa using h2⟩
  · simp only [Bool.and_eq_true, decide_eq_true_eq] at h2
    exact .inr h2

theorem rev_any {w : World} {base g cap n : Nat} {zs : List Int} (h : w.ownsRow base 3 1 (.slice (some ⟨g, 0, none⟩) n cap) n (zs.map (Value.int .i64))) (hz : zs.length = n) (hn : n ≤ 1000) (hb : base ≤ g) :
    Calls Try.prog 39 #[.slice (some ⟨g, 0, none⟩) n cap] w fun e w' => e = .returned (.tuple #[]) ∧ Below base w w' ∧ ∀ j, j < zs.length → w'.cell? ⟨g, 0 + j, none⟩ = some (.int .i64 (zs.reverse.getD j 0)) := by
  have hH : Holds (Value.int .i64) w g 0 zs.toArray := by
    intro j hj
    have hj' : j < n := by simpa [hz] using hj
    have hc := h.cellAt j (by omega)
    have hf := h.frozenAt j
    have e1 : zs[j]? = some zs.toArray[j]! := by
      have hj2 : j < zs.length := by omega
      rw [List.getElem?_eq_getElem hj2]
      have hs : j < zs.toArray.size := by simpa using hj2
      rw [getElem!_pos zs.toArray j hs]
      simp
    rw [List.getElem?_map, e1] at hc
    rw [Nat.zero_add]
    exact ⟨hc, hf⟩
  subst hz
  refine (Try.slices_Reverse_int g 0 cap zs w hH (by omega)).mono ?_
  rintro e w' ⟨rfl, q, rfl⟩
  refine ⟨rfl, below_putRow (Below.refl _ _) hb, fun j hj => ?_⟩
  have hH2 : Holds (Value.int .i64) (putRow (Value.int .i64) (Sort.ahead w q) g 0 zs.reverse.toArray) g 0 zs.reverse.toArray :=
    holds_putRow (Value.int .i64) (Sort.ahead w q) g 0 zs.toArray zs.reverse.toArray hH (by simp)
  have := (hH2 j (by simpa using hj)).1
  rw [this]
  have hs : j < zs.reverse.toArray.size := by simpa using hj
  rw [getElem!_pos _ j hs]
  simp [List.getD, hj]

/-- What the law knows of its slice: its cells, in whatever world leaves it alone. -/
def LRow (d : Int) (n : Nat) (g : Nat) (w W : World) : Prop := w.heap.size ≤ g ∧ g < W.heap.size ∧ Below w.heap.size w W ∧ ∀ j, j < n → W.cell? ⟨g, j, none⟩ = some (.int .i64 (cfA d j))
theorem LRow.later {d : Int} {n g : Nat} {w W W' : World} (h : LRow d n g w W) (hb : Below W.heap.size W W') : LRow d n g w W' :=
  ⟨h.1, Nat.lt_of_lt_of_le h.2.1 hb.size, h.2.2.1.trans (hb.mono (by have := h.1; have := h.2.1; omega)), fun j hj => (hb.cell (p := ⟨g, j, none⟩) h.2.1).trans (h.2.2.2 j hj)⟩

theorem Expand_row (d : Int) (hd : isD d = true) (n : Nat) (hn : n = pL d + 1) (w : World) :
    Calls Try.prog 14 #[.int .i64 d] w fun e w' => ∃ g cap, e = .returned (.tuple #[.slice (some ⟨g, 0, none⟩) n cap, .int .i64 0]) ∧ n ≤ cap ∧ cap ≤ maxLen ∧ LRow d n g w w' := by
  subst hn
  refine (Expand_yes d hd w).mono ?_
  rintro e w' ⟨v, rfl, ho, hb⟩
  rcases ho.2 with ⟨_, h0⟩ | ⟨g, cap, cur, rfl, hbg, hg, hc, hm, _, _⟩
  · omega
  · refine ⟨g, cap, rfl, hc, hm, hbg, (Array.getElem?_eq_some_iff.1 hg).1, hb, fun j hj => ?_⟩
    rw [ho.cellAt j (by omega)]
    exact cfRow_at d hj

set_option maxRecDepth 100000 in
set_option maxHeartbeats 4000000 in
theorem lawPeriods_yes (d : Int) (hd : isD d = true) (w : World) :
    Calls Try.prog 9 #[.int .i64 d] w fun e w' => e = .returned (.bool true) ∧ Below w.heap.size w w' := by
  obtain ⟨pa, pb, pc, pd⟩ := p_all hd
  obtain ⟨qa, qb, qc⟩ := q_all hd
  obtain ⟨ua, ub, -, -⟩ := u_all hd
  obtain ⟨n, hn⟩ : ∃ n, n = pL d + 1 := ⟨_, rfl⟩
  have hn2 : 2 ≤ n := by omega
  have hn20 : n ≤ 20 := by omega
  have HN := Lib.hid hn
  have HD := Lib.hid hd
  have HU := Lib.hid (show cvt d (uK d) = (uX d, uY d, 0) by unfold cvt; rw [if_pos (by omega)]; rfl)
  have HPC := Lib.hid pc
  have HQA := Lib.hid qa
  have HQB := Lib.hid qb
  have hd2 := isD_bd hd
  obtain ⟨f1, f2, f3, f4, f5, f6, f7⟩ := uU hd
  have s0 : 0 ≤ uX d * uX d := sq_nonneg _
  have s1 : 0 ≤ d * uY d := Int.mul_nonneg (by omega) (by omega)
  have s2 : 0 ≤ d * uY d * uY d := Int.mul_nonneg s1 (by omega)
  have s3 : 0 ≤ 2 * uX d * uY d := Int.mul_nonneg (by omega) (by omega)
  have s4 : 2 * uX d * uY d ≤ 6000000 * 300000 := Int.mul_le_mul (by omega) (by omega) (by omega) (by omega)
  have hidx : (n : Int) - 2 = (uK d : Int) := by omega
  have HI := Lib.hid hidx
  have HUK := Lib.hid (show uK d ≤ 20 by omega)
  clear hn hd pc pd qa qb hidx ua ub pa pb
  rcases qc with ⟨hu, hp⟩ | ⟨hu, hp⟩
  · have ex : rtX d = uX d * uX d + d * uY d * uY d := if_neg (by omega)
    have ey : rtY d = 2 * uX d * uY d := if_neg (by omega)
    have b1 : (uN d == -1) = true := by simp [hu]
    have b2 : ((n : Int) % 2 == 0) = true := by have := HN.out; simp; omega
    have b3 : (uX d * uX d - d * uY d * uY d != uN d) = false := by simp [uX, uY, uN, nrm]
    have EX := Lib.hid ex
    have EY := Lib.hid ey
    clear hu hp ex ey
    go_enter Try.func9, Try.ntmps9
    go_wp2_with fail
    refine (Expand_row d HD.out n HN.out _).mono ?_
    rintro e w1 ⟨g, cap, rfl, hc1, hc2, hr1⟩
    unfold maxLen at hc2
    go_wp2_with fail
    refine (Unit_yes _ HD.out _).mono ?_
    rintro e w2 ⟨rfl, hb2⟩
    have hr2 := Lib.hid (hr1.later hb2)
    clear hr1 hb2
    go_wp2_with fail
    refine (Right_yes _ HD.out _).mono ?_
    rintro e w3 ⟨rfl, hb3⟩
    have R3 := Lib.hid (hr2.out.later hb3)
    clear hr2 hb3
    rw [EX.out, EY.out]
    have cl := R3.out.2.2.2 (n - 1) (by omega)
    have c0 := R3.out.2.2.2 0 (by omega)
    have eP : n - 1 = pL d := by have := HN.out; omega
    rw [eP, HPC.out, ← eP] at cl
    clear eP
    obtain ⟨-, -, -, -, x5, x6, -⟩ := cf_facts HD.out (k := 0) (by omega)
    have i1 : (0 : Int) ≤ (n : Int) - 1 := by omega
    have i3 : decide ((n : Int) < 2) = false := by simp; omega
    have i4 : decide (n < 2) = false := by simp; omega
    have i2 : (n : Int) - 1 < (n : Int) := by omega
    go_wp2_with fail
    go_quiet (fail)
    go_wp2_with fail
    rw [HI.out]
    have hcv := Convergent_yes d HD.out (uK d) HUK.out (w3.drewN nq)
    rw [HU.out] at hcv
    refine hcv.mono ?_
    clear hcv
    rintro e w4 ⟨rfl, hb4⟩
    have R4 := Lib.hid (R3.out.later (W' := w4) ((below_drewN (Below.refl _ _) nq).trans hb4))
    clear hb4 cl c0 R3
    go_wp2_with fail
    have hml : (md d).length = n - 1 - 1 := by rw [md_len]; have := HN.out; omega
    have htk : (md d).take (n - 1 - 1) = md d := List.take_of_length_le (by omega)
    have hrow : ∀ (W : World), LRow d n g w W → ∀ j, j < (md d).length → W.cell? ⟨g, 1 + j, none⟩ = some (.int .i64 ((md d).getD j 0)) := fun W h j hj => by
      rw [h.2.2.2 (1 + j) (by omega), md_at d (by have := HN.out; omega), Nat.add_comm 1 j]
    have HR := Lib.hid hrow
    have hcl := Try.slices_Clone_int g 1 (n - 1 - 1) (cap - 1) (md d) w4 (by omega) (by omega) (HR.out w4 R4.out)
    rw [htk] at hcl
    have HML := Lib.hid hml
    have HTK := Lib.hid htk
    clear hrow hml htk
    refine hcl.mono ?_
    clear hcl
    rintro e w5 ⟨v', rfl, ho5, hnn, hb5⟩
    obtain ⟨g2, cap2, rfl, hg2⟩ : ∃ g2 cap2, v' = .slice (some ⟨g2, 0, none⟩) (n - 1 - 1) cap2 ∧ w4.heap.size ≤ g2 := by
      rcases ho5.2 with ⟨h, _⟩ | ⟨g2, cap2, _, h, hb, _⟩
      · exact (hnn h).elim
      · exact ⟨g2, cap2, h, hb⟩
    clear hnn
    go_wp2_with fail
    refine (rev_any ho5 HML.out (by omega) hg2).mono ?_
    rintro e w6 ⟨rfl, hb6, hc6⟩
    have R6 := Lib.hid (R4.out.later (hb5.trans hb6))
    have hc6' := Lib.hid hc6
    have hg6 := Lib.hid hg2
    clear hb5 hb6 ho5 hc6 R4 hg2
    go_wp2_with fail
    have heq := Try.slices_Equal_int g2 0 (n - 1 - 1) cap2 g 1 (n - 1 - 1) (cap - 1) (md d) (md d) w6 (by have := HML.out; omega) (by have := HML.out; omega) (by omega) (by omega)
      (fun j hj => by have h := hc6'.out j hj; rw [HQA.out] at h; exact h) (HR.out w6 R6.out)
    have e1 : ((md d).take (n - 1 - 1) == (md d).take (n - 1 - 1)) = true := by simp
    rw [e1] at heq
    refine heq.mono ?_
    clear heq e1
    rintro e w7 ⟨rfl, q7, rfl⟩
    go_wp2_with fail
    refine (awake_any _).mono ?_
    rintro e w8 ⟨rfl, hb8⟩
    have R8 := Lib.hid (R6.out.later (W' := w8) ((below_drewN (Below.refl _ _) q7).trans hb8))
    clear hb8 R6
    go_wp2
    go_ret
    exact ⟨rfl, R8.out.2.2.1⟩
  · have ex : rtX d = uX d := if_pos hu
    have ey : rtY d = uY d := if_pos hu
    have b1 : (uN d == -1) = false := by simp [hu]
    have b2 : ((n : Int) % 2 == 0) = false := by have := HN.out; simp; omega
    have b3 : (uX d * uX d - d * uY d * uY d != uN d) = false := by simp [uX, uY, uN, nrm]
    have EX := Lib.hid ex
    have EY := Lib.hid ey
    clear hu hp ex ey
    go_enter Try.func9, Try.ntmps9
    go_wp2_with fail
    refine (Expand_row d HD.out n HN.out _).mono ?_
    rintro e w1 ⟨g, cap, rfl, hc1, hc2, hr1⟩
    unfold maxLen at hc2
    go_wp2_with fail
    refine (Unit_yes _ HD.out _).mono ?_
    rintro e w2 ⟨rfl, hb2⟩
    have hr2 := Lib.hid (hr1.later hb2)
    clear hr1 hb2
    go_wp2_with fail
    refine (Right_yes _ HD.out _).mono ?_
    rintro e w3 ⟨rfl, hb3⟩
    have R3 := Lib.hid (hr2.out.later hb3)
    clear hr2 hb3
    rw [EX.out, EY.out]
    have cl := R3.out.2.2.2 (n - 1) (by omega)
    have c0 := R3.out.2.2.2 0 (by omega)
    have eP : n - 1 = pL d := by have := HN.out; omega
    rw [eP, HPC.out, ← eP] at cl
    clear eP
    obtain ⟨-, -, -, -, x5, x6, -⟩ := cf_facts HD.out (k := 0) (by omega)
    have i1 : (0 : Int) ≤ (n : Int) - 1 := by omega
    have i3 : decide ((n : Int) < 2) = false := by simp; omega
    have i4 : decide (n < 2) = false := by simp; omega
    have i2 : (n : Int) - 1 < (n : Int) := by omega
    go_wp2_with fail
    go_quiet (fail)
    go_wp2_with fail
    rw [HI.out]
    have hcv := Convergent_yes d HD.out (uK d) HUK.out (w3.drewN nq)
    rw [HU.out] at hcv
    refine hcv.mono ?_
    clear hcv
    rintro e w4 ⟨rfl, hb4⟩
    have R4 := Lib.hid (R3.out.later (W' := w4) ((below_drewN (Below.refl _ _) nq).trans hb4))
    clear hb4 cl c0 R3
    go_wp2_with fail
    have hml : (md d).length = n - 1 - 1 := by rw [md_len]; have := HN.out; omega
    have htk : (md d).take (n - 1 - 1) = md d := List.take_of_length_le (by omega)
    have hrow : ∀ (W : World), LRow d n g w W → ∀ j, j < (md d).length → W.cell? ⟨g, 1 + j, none⟩ = some (.int .i64 ((md d).getD j 0)) := fun W h j hj => by
      rw [h.2.2.2 (1 + j) (by omega), md_at d (by have := HN.out; omega), Nat.add_comm 1 j]
    have HR := Lib.hid hrow
    have hcl := Try.slices_Clone_int g 1 (n - 1 - 1) (cap - 1) (md d) w4 (by omega) (by omega) (HR.out w4 R4.out)
    rw [htk] at hcl
    have HML := Lib.hid hml
    have HTK := Lib.hid htk
    clear hrow hml htk
    refine hcl.mono ?_
    clear hcl
    rintro e w5 ⟨v', rfl, ho5, hnn, hb5⟩
    obtain ⟨g2, cap2, rfl, hg2⟩ : ∃ g2 cap2, v' = .slice (some ⟨g2, 0, none⟩) (n - 1 - 1) cap2 ∧ w4.heap.size ≤ g2 := by
      rcases ho5.2 with ⟨h, _⟩ | ⟨g2, cap2, _, h, hb, _⟩
      · exact (hnn h).elim
      · exact ⟨g2, cap2, h, hb⟩
    clear hnn
    go_wp2_with fail
    refine (rev_any ho5 HML.out (by omega) hg2).mono ?_
    rintro e w6 ⟨rfl, hb6, hc6⟩
    have R6 := Lib.hid (R4.out.later (hb5.trans hb6))
    have hc6' := Lib.hid hc6
    have hg6 := Lib.hid hg2
    clear hb5 hb6 ho5 hc6 R4 hg2
    go_wp2_with fail
    have heq := Try.slices_Equal_int g2 0 (n - 1 - 1) cap2 g 1 (n - 1 - 1) (cap - 1) (md d) (md d) w6 (by have := HML.out; omega) (by have := HML.out; omega) (by omega) (by omega)
      (fun j hj => by have h := hc6'.out j hj; rw [HQA.out] at h; exact h) (HR.out w6 R6.out)
    have e1 : ((md d).take (n - 1 - 1) == (md d).take (n - 1 - 1)) = true := by simp
    rw [e1] at heq
    refine heq.mono ?_
    clear heq e1
    rintro e w7 ⟨rfl, q7, rfl⟩
    go_wp2_with fail
    refine (awake_any _).mono ?_
    rintro e w8 ⟨rfl, hb8⟩
    have R8 := Lib.hid (R6.out.later (W' := w8) ((below_drewN (Below.refl _ _) q7).trans hb8))
    clear hb8 R6
    go_wp2
    go_ret
    exact ⟨rfl, R8.out.2.2.1⟩

set_option maxRecDepth 100000 in
set_option maxHeartbeats 1000000 in
theorem lawPeriods_no (d : Int) (hd : isD d = false) (w : World) :
    Calls Try.prog 9 #[.int .i64 d] w fun e w' => e = .returned (.bool true) ∧ Below w.heap.size w w' := by
  have HD := Lib.hid hd
  clear hd
  go_enter Try.func9, Try.ntmps9
  go_wp2_with fail
  refine (Expand_no _ HD.out _).mono ?_
  rintro e w' ⟨rfl, rfl⟩
  go_wp2_with fail
  refine (Unit_no _ HD.out _).mono ?_
  rintro e w' ⟨rfl, rfl⟩
  go_wp2_with fail
  refine (Right_no _ HD.out _).mono ?_
  rintro e w' ⟨rfl, rfl⟩
  go_wp2_with fail
  refine (awake_any _).mono ?_
  rintro e w' ⟨rfl, hb⟩
  go_wp2
  go_ret
  exact ⟨rfl, hb⟩

theorem lawPeriods_any (d : Int) (w : World) :
    Calls Try.prog 9 #[.int .i64 d] w fun e w' => e = .returned (.bool true) ∧ Below w.heap.size w w' := by
  by_cases hd : isD d = true
  · exact lawPeriods_yes d hd w
  · exact lawPeriods_no d (by simpa using hd) w
end Go.Proofs.Ytbdadckedhcibaa
