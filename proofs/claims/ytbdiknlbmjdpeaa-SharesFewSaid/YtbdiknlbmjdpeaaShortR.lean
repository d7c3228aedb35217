/- The walks of the reference's short and Short. Conditions: the numbers are in range. -/
import Derived.Test.YtbdiknlbmjdpeaaShort
namespace Go.Proofs.Ytbdiknlbmjdpeaa
open Go.RowKit
attribute [local go_sem] Oper.semAt_some


/-- A round of the reference's search. -/
def rsR (most t a b d : Nat) : Option (List Nat) := if a * d ≤ b ∨ (t + 2) * b < a * d then none else fnR 1 most t a b d
theorem rs_eq {most t a b above : Nat} (ha : 0 < a) : fnd 1 most (t + 1) a b (above + 1) = fs (rsR most t a b) (above + 1) (most + 1 - (above + 1)) := by
  have hin : ∀ d, max (above + 1) (b / a + 1) ≤ d → d < max (above + 1) (b / a + 1) + (min most ((t + 2) * b / a) + 1 - max (above + 1) (b / a + 1)) → b < a * d ∧ a * d ≤ (t + 2) * b := by
    intro d h1 h2
    have h3 : b / a < d := by omega
    have h4 : d ≤ (t + 2) * b / a := by omega
    exact ⟨(lt_div ha).1 h3, (le_divs ha).1 h4⟩
  have e1 : fnd 1 most (t + 1) a b (above + 1) = fs (rsR most t a b) (max (above + 1) (b / a + 1)) (min most ((t + 2) * b / a) + 1 - max (above + 1) (b / a + 1)) := by
    conv => lhs; unfold fnd
    refine fs_congr fun d h1 h2 => ?_
    have := hin d h1 h2
    unfold rsR
    rw [if_neg (by omega)]
    rfl
  rw [e1]
  refine fs_range (fun d h1 h2 h3 => ?_) (fun d h1 h2 h3 => ?_)
  · exfalso
    apply h3
    omega
  · unfold rsR
    rw [if_pos]
    apply Decidable.byContradiction
    intro hn
    apply h3
    have h4 : b < a * d := by omega
    have h5 : a * d ≤ (t + 2) * b := by omega
    have h6 := (lt_div ha).2 h4
    have h7 := (le_divs ha).2 h5
    omega
theorem rs_stop {most t a b d k : Nat} (h : (t + 2) * b < a * d) : fs (rsR most t a b) d k = none := by
  apply fs_none
  intro e h1 _
  unfold rsR
  rw [if_pos]
  right
  exact Nat.lt_of_lt_of_le h (Nat.mul_le_mul_left a h1)
/-- What is left of the fraction is no greater than so many. -/
theorem less_small {a b d x y t : Nat} (hb : 0 < b) (hd : 0 < d) (h : a * d ≤ (t + 2) * b) (e : x * (b * d) = (a * d - b) * y) : x ≤ (t + 1) * y := by
  have h1 : a * d - b ≤ (t + 1) * b := by
    have : (t + 2) * b = (t + 1) * b + b := by rw [show t + 2 = t + 1 + 1 by omega, Nat.add_mul, Nat.one_mul]
    omega
  have h2 : x * (b * d) ≤ ((t + 1) * y) * (b * d) := by
    rw [e]
    refine Nat.le_trans (Nat.mul_le_mul_right y h1) ?_
    rw [Nat.mul_right_comm]
    exact Nat.mul_le_mul_left _ (Nat.le_mul_of_pos_right _ hd)
  exact Nat.le_of_mul_le_mul_right h2 (Nat.mul_pos hb hd)
theorem fit_next {t b d y most : Nat} (hm : d ≤ 300) (hy : y ≤ b * d) (h : b * 300 ^ (t + 1) * (t + 1 + 2) ≤ 100000000000000) : y * 300 ^ t * (t + 2) ≤ 100000000000000 := by
  refine Nat.le_trans ?_ h
  refine Nat.mul_le_mul ?_ (by omega)
  refine Nat.le_trans (Nat.mul_le_mul_right _ hy) ?_
  have e : b * d * 300 ^ t = b * (300 ^ t * d) := by rw [Nat.mul_assoc, Nat.mul_comm d]
  rw [e, Nat.pow_succ]
  exact Nat.mul_le_mul_left b (Nat.mul_le_mul_left _ hm)

theorem fit_b {b t : Nat} (h : b * 300 ^ (t + 1) * (t + 1 + 2) ≤ 100000000000000) : b ≤ 400000000000 := by
  have h1 : b * 300 * 1 ≤ b * 300 ^ (t + 1) * (t + 1 + 2) := Nat.mul_le_mul (Nat.mul_le_mul_left b (by rw [Nat.pow_succ]; exact Nat.le_mul_of_pos_left _ (Nat.pow_pos (by decide)))) (by omega)
  have h2 := Nat.le_trans h1 h
  clear h1 h
  omega
set_option maxHeartbeats 16000000 in
set_option maxRecDepth 100000 in
theorem shortR_any (most : Nat) (hm : most ≤ 300) : ∀ (t a b above : Nat) (w : World), t ≤ 10 → 0 < a → 0 < b → a ≤ (t + 1) * b → b * 300 ^ t * (t + 2) ≤ 100000000000000 → above ≤ 300 →
    Calls Try.prog 43 #[.int .i64 (a : Int), .int .i64 (b : Int), .int .i64 ((t + 1 : Nat) : Int), .int .i64 (most : Int), .int .i64 (above : Int)] w fun e w' => Fnd (fnd 1 most t a b (above + 1)) w.heap.size e w' ∧ Below w.heap.size w w' := by
  intro t
  induction t with
  | zero =>
    intro a b above w _ ha hb hab hfit hab2
    have hb4 : b ≤ 100000000000000 := by
      refine Nat.le_trans ?_ hfit
      rw [Nat.pow_zero, Nat.mul_one]; exact Nat.le_mul_of_pos_right _ (by omega)
    have ha4 : a ≤ 100000000000000 := by omega
    have u1 : ((b : Int) / (a : Int)) = ((b / a : Nat) : Int) := by rw [Int.natCast_ediv]
    have u2 : ((b : Int) % (a : Int)) = ((b % a : Nat) : Int) := by rw [Int.natCast_emod]
    have hle := Nat.div_le_self b a
    have hle2 := Nat.mod_lt b ha
    obtain ⟨R, hR⟩ : ∃ R, fnd 1 most 0 a b (above + 1) = R := ⟨_, rfl⟩
    rw [hR]
    unfold fnd at hR
    obtain ⟨D, hD⟩ : ∃ D, b / a = D := ⟨_, rfl⟩
    obtain ⟨M, hM⟩ : ∃ M, b % a = M := ⟨_, rfl⟩
    rw [hD] at u1 hR hle
    rw [hM] at u2 hR hle2
    have u3 : (D : Int) ≤ 4000000000000000000 := by omega
    have u4 : (M : Int) ≤ 4000000000000000000 := by omega
    have n0 : (0 : Int) < (a : Int) := by omega
    have n1 : ¬ (a : Int) = 0 := by omega
    have HRR := Lib.hid hR
    clear hR hD hM hle hle2 hfit hab hb4 ha4
    by_cases k1 : M = 0
    · by_cases k2 : above < D
      · by_cases k3 : D ≤ most
        · have hr := HRR.out
          rw [if_pos ⟨k1, k2, k3⟩] at hr
          have HR2 := Lib.hid hr
          have b1 : ((M : Int) == 0) = true := by simp; omega
          have b2 : (above : Int) < (D : Int) := by omega
          have b3 : (D : Int) ≤ (most : Int) := by omega
          have HL := Lib.hid (row_lit w (D : Int))
          clear k1 k2 k3 hr
          go_enter Try.func43, Try.ntmps43
          go_wp2
          go_ret
          refine ⟨?_, (Below.refl _ _).alloc (Nat.le_refl _) _⟩
          rw [← HR2.out]
          exact ⟨_, _, rfl, HL.out⟩
        · have hr := HRR.out
          rw [if_neg (by omega)] at hr
          have HR2 := Lib.hid hr
          have b1 : ((M : Int) == 0) = true := by simp; omega
          have b2 : (above : Int) < (D : Int) := by omega
          have b3 : ¬ (D : Int) ≤ (most : Int) := by omega
          clear k1 k2 k3 hr
          go_enter Try.func43, Try.ntmps43
          go_wp2
          go_ret
          refine ⟨?_, Below.refl _ _⟩
          rw [← HR2.out]
          exact rfl
      · have hr := HRR.out
        rw [if_neg (by omega)] at hr
        have HR2 := Lib.hid hr
        have b1 : ((M : Int) == 0) = true := by simp; omega
        have b2 : ¬ (above : Int) < (D : Int) := by omega
        clear k1 k2 hr
        go_enter Try.func43, Try.ntmps43
        go_wp2
        go_ret
        refine ⟨?_, Below.refl _ _⟩
        rw [← HR2.out]
        exact rfl
    · have hr := HRR.out
      rw [if_neg (by omega)] at hr
      have HR2 := Lib.hid hr
      have b1 : ((M : Int) == 0) = false := by simp; omega
      clear k1 hr
      go_enter Try.func43, Try.ntmps43
      go_wp2
      go_ret
      refine ⟨?_, Below.refl _ _⟩
      rw [← HR2.out]
      exact rfl
  | succ t ih =>
    intro a b above w ht10 ha hb hab hfit hab2
    have HIH := Lib.hid ih
    clear ih
    have hbb : b ≤ 400000000000 := fit_b hfit
    have hTb : (t + 2) * b ≤ 4800000000000 := Nat.le_trans (Nat.mul_le_mul (show t + 2 ≤ 12 by omega) hbb) (by decide)
    have ha4 : a ≤ 4800000000000 := Nat.le_trans hab hTb
    have hstop := fun d k h => rs_stop (most := most) (t := t) (a := a) (b := b) (d := d) (k := k) h
    have hsmall := fun d x y h0 h e => less_small (a := a) (b := b) (d := d) (x := x) (y := y) (t := t) hb h0 h e
    obtain ⟨R, hR⟩ : ∃ R, fnd 1 most (t + 1) a b (above + 1) = R := ⟨_, rfl⟩
    rw [hR]
    rw [rs_eq ha] at hR
    obtain ⟨T, hT⟩ : ∃ T, t + 2 = T := ⟨_, rfl⟩
    rw [show t + 1 + 1 = T from hT]
    rw [hT] at hTb
    simp only [hT] at hstop hsmall
    obtain ⟨P, hP⟩ : ∃ P, T * b = P := ⟨_, rfl⟩
    rw [hP] at hTb
    simp only [hP] at hstop hsmall
    have W1 := Lib.hid (wrap_mul hP (Nat.le_trans hTb (by decide)))
    have t1 : ((T : Int) == 1) = false := by rw [beq_eq_false_iff_ne]; omega
    have t2 : (2 : Int) ≤ (T : Int) := by omega
    have t3 : (T : Int) ≤ 12 := by omega
    have p3 : (P : Int) ≤ 4800000000000 := Int.ofNat_le.2 hTb
    have HR := Lib.hid hR
    have HT := Lib.hid hT
    have HP := Lib.hid hP
    have HST := Lib.hid hstop
    have HSM := Lib.hid hsmall
    have HFIT := Lib.hid hfit
    clear hR hT hP hstop hsmall hfit hab
    go_enter Try.func43, Try.ntmps43
    go_wp2
    go_loopg [11] (most + 1 - (above + 1)) (fun gk s11 wr => ∃ d : Nat, s11 = .int .i64 (d : Int) ∧ gk = most + 1 - d ∧ above + 1 ≤ d ∧ d ≤ 301 ∧ fs (rsR most t a b) d gk = R ∧ Below w.heap.size w wr)
    case atStart => exact ⟨above + 1, by go_num, rfl, Nat.le_refl _, by omega, HR.out, Below.refl _ _⟩
    case round =>
      obtain ⟨d, rfl, hgk, hlo, hd3, hfs, hb0⟩ := hrel
      have HFS := Lib.hid hfs
      have HB := Lib.hid hb0
      have HGK := Lib.hid hgk
      have HLO := Lib.hid hlo
      clear hfs hb0
      by_cases hdm : d ≤ most
      · obtain ⟨k, rfl⟩ : ∃ k, gk = k + 1 := ⟨gk - 1, by omega⟩
        have l1 : (d : Int) ≤ (most : Int) := by omega
        have hd300 : d ≤ 300 := by omega
        have hd0 : 0 < d := by omega
        have had : a * d ≤ 1440000000000000 := Nat.le_trans (Nat.mul_le_mul ha4 hd300) (by decide)
        have hbd : b * d ≤ 120000000000000 := Nat.le_trans (Nat.mul_le_mul hbb hd300) (by decide)
        have hrs : rsR most t a b d = if a * d ≤ b ∨ P < a * d then none else fnR 1 most t a b d := by unfold rsR; rw [HT.out, HP.out]
        have hstop := HST.out d (k + 1)
        have hsmall := fun x y h e => HSM.out d x y hd0 h e
        have hLS := fun w (h : b ≤ a * d) => less_any a b d hb hd0 h (Nat.le_trans hbb (by decide)) (Nat.le_trans hd300 (by decide)) (Nat.le_trans (Nat.mul_le_mul_left a (Nat.div_le_self _ _)) (Nat.le_trans had (by decide))) (Nat.le_trans (Nat.mul_le_mul_left b (Nat.div_le_self _ _)) (Nat.le_trans hbd (by decide))) w
        have hfn : b < a * d → ∀ x y, IsLess a b d x y → 0 < x ∧ fnR 1 most t a b d = (fnd 1 most t x y (d + 1)).map (d :: ·) := by
          intro h x y hl
          have hx : 0 < x := by
            rcases Nat.eq_zero_or_pos x with e | e
            · have := hl.2.1
              rw [e, Nat.zero_mul] at this
              have h2 := Nat.mul_pos (show 0 < a * d - b by omega) hl.1
              omega
            · exact e
          refine ⟨hx, ?_⟩
          unfold fnR
          rw [fnd_scale 1 most t (show 0 < a * d - b by omega) (Nat.mul_pos hb hd0) hx hl.1 hl.2.1.symm]
        obtain ⟨Q, hQ⟩ : ∃ Q, a * d = Q := ⟨_, rfl⟩
        rw [hQ] at had hrs hstop hfn
        simp only [hQ] at hsmall hLS
        have W2 := Lib.hid (wrap_mul hQ (Nat.le_trans had (by decide)))
        have q3 : (Q : Int) ≤ 1440000000000000 := Int.ofNat_le.2 had
        have HRS := Lib.hid hrs
        have HSTOP := Lib.hid hstop
        have HSMALL := Lib.hid hsmall
        have HFN := Lib.hid hfn
        have HLS := Lib.hid hLS
        have HQ := Lib.hid hQ
        clear hgk hlo hrs hstop hsmall hfn hLS hQ
        by_cases hc1 : Q ≤ b
        · have c1 : (Q : Int) ≤ (b : Int) := by omega
          have hfs := HFS.out
          rw [fs_no k (by rw [HRS.out, if_pos (.inl hc1)])] at hfs
          have HFX := Lib.hid hfs
          clear hfs
          have w2 := W2.out
          go_wp2
          clear w2
          go_roundg k
          case rel => exact ⟨d + 1, by go_num, by have := HGK.out; omega, by have := HLO.out; omega, by omega, HFX.out, HB.out⟩
          case measure => omega
        · have c1 : ¬ (Q : Int) ≤ (b : Int) := by omega
          by_cases hc2 : P < Q
          · have c2 : (P : Int) < (Q : Int) := by omega
            have hfs := HFS.out
            rw [HSTOP.out hc2] at hfs
            have HFX := Lib.hid hfs
            clear hfs
            have w1 := W1.out
            have w2 := W2.out
            go_wp2
            go_ret
            refine ⟨?_, HB.out⟩
            rw [← HFX.out]
            exact rfl
          · have c2 : ¬ (P : Int) < (Q : Int) := by omega
            have hrs2 := HRS.out
            rw [if_neg (by omega)] at hrs2
            have HRS2 := Lib.hid hrs2
            have hL := fun w => HLS.out w (by omega)
            have HL := Lib.hid hL
            have hQP : Q ≤ P := by omega
            have hbQ : b < Q := by omega
            clear hrs2 hL hc1 hc2
            have w1 := W1.out
            have w2 := W2.out
            go_wp2_with fail
            refine (HL.out _).mono ?_
            rintro e w3 ⟨⟨x, y, hl, rfl⟩, q, rfl⟩
            clear w1 w2
            obtain ⟨hx0, hfn⟩ := HFN.out hbQ x y hl
            have hx2 := HSMALL.out x y hQP (by have := hl.2.1; rw [HQ.out] at this; exact this)
            have hyb : y ≤ b * d := hl.2.2.1
            have hI := HIH.out x y d (wr.drewN q) (by omega) hx0 hl.1 hx2 (fit_next (most := most) hd300 hyb HFIT.out) hd300
            obtain ⟨T1, hT1⟩ : ∃ T1, t + 1 = T1 := ⟨_, rfl⟩
            rw [hT1] at hI
            have v1 : (T : Int) - 1 = (T1 : Int) := by have := HT.out; omega
            have x4 : (x : Int) ≤ 4000000000000000000 := by
              have h1 : x ≤ 12 * 120000000000000 := Nat.le_trans hx2 (Nat.mul_le_mul (show t + 1 ≤ 12 by omega) (Nat.le_trans hyb hbd))
              exact Int.ofNat_le.2 (Nat.le_trans h1 (by decide))
            have y4 : (y : Int) ≤ 4000000000000000000 := Int.ofNat_le.2 (Nat.le_trans hyb (Nat.le_trans hbd (by decide)))
            obtain ⟨R', hR'⟩ : ∃ R', fnd 1 most t x y (d + 1) = R' := ⟨_, rfl⟩
            have hlen : ∀ L, R' = some L → L.length = t + 1 := fun L h => (fnd_sound 1 most t hx0 hl.1 (hR'.trans h)).1
            rw [hR'] at hfn hI
            have HLN := Lib.hid hlen
            have HI := Lib.hid hI
            have HFN2 := Lib.hid (HRS2.out.trans hfn)
            have HB1 := Lib.hid (below_drewN HB.out q)
            obtain ⟨wq, hwq⟩ : ∃ wq, wr.drewN q = wq := ⟨_, rfl⟩
            rw [hwq] at HI HB1
            have HWQ := Lib.hid hwq
            clear hl hx0 hfn hx2 hyb hI hT1 hR' hlen
            go_wp2_with fail
            refine HI.out.mono ?_
            rintro e w2 ⟨hf, hb2⟩
            have HB2 := Lib.hid (HB1.out.trans (hb2.mono HB1.out.size))
            have hsz := Nat.le_trans HB1.out.size hb2.size
            have hsz1 := HB1.out.size
            clear hb2
            cases R' with
            | none =>
              have he : e = .returned (.slice none 0 0) := hf
              subst he
              have hfs := HFS.out
              rw [fs_no k (by rw [HFN2.out]; rfl)] at hfs
              have HFX := Lib.hid hfs
              clear hf hfs hwq
              go_wp2
              go_roundg k
              case rel => exact ⟨d + 1, by go_num, by have := HGK.out; omega, by have := HLO.out; omega, by omega, HFX.out, HB2.out⟩
              case measure => omega
            | some L =>
              obtain ⟨g2, c2, rfl, hrow⟩ := hf
              have hfs := HFS.out
              rw [fs_yes k (by rw [HFN2.out]; rfl)] at hfs
              have HFX := Lib.hid hfs
              have hLen := HLN.out L rfl
              obtain ⟨N, hN⟩ : ∃ N, L.length = N := ⟨_, rfl⟩
              rw [hN] at hrow hLen
              have hN12 : N ≤ 12 := by omega
              rw [hN]
              have HN := Lib.hid hN
              obtain ⟨i0, hi9, hz0, hz1, hz2⟩ := info_parts info3
              have hba2 : Below w2.heap.size w2 (w2.alloc (.cells #[.int .i64 (d : Int)] 3)) := (Below.refl w2.heap.size w2).alloc (Nat.le_refl _) (.cells #[.int .i64 (d : Int)] 3)
              have hrow2 := nats_cells (hrow.later hba2)
              clear hfs hLen hN hwq hrow
              go_wp2_with (at_builtin; refine wpList_append_own _ rfl _ _ 22 rfl w2.heap.size 3 i0 (.int .i64 0) 1 8 Try.underlying22 hi9 hz0 hz1 hz2 rfl (by decide) _ _ _ rfl (row_lit w2 (d : Int)) ⟨g2, 0, none⟩ N c2 ((nats L).map (Value.int .i64)) rfl ?c1 hrow2 ?c2 ?c3 ?c4 ?c5 ?_)
              case c1 => rw [List.length_map, nats_len, HN.out, Nat.mul_one]
              case c2 => intro u hu; obtain ⟨y, -, rfl⟩ := List.mem_map.1 hu; rfl
              case c3 => unfold maxLen; omega
              case c4 => omega
              case c5 => simp
              intro v' w3 hown' hgrow hnil
              obtain ⟨g3, cc3, rfl⟩ := own_form hown' (by omega)
              have hrow3 : Row w.heap.size (.slice (some ⟨g3, 0, none⟩) (d :: L).length cc3) (nats (d :: L)) w3 := by
                have e : (d :: L).length = 1 + N := by rw [List.length_cons, HN.out]; omega
                rw [e]
                unfold Row
                rw [nats_len, e]
                exact own_mono hown' hsz
              have hb3 : Below w2.heap.size w2 w3 := hba2.grown hgrow (by simp) (fun j e => by
                have : w2.heap.size = j := by simpa [Value.ownBlock] using e
                omega)
              have hb4 : Below w.heap.size w w3 := HB2.out.trans (hb3.mono hsz)
              have HF := Lib.hid (And.intro hrow3 hb4)
              have hfx := HFX.out
              have e1N : (1 : Nat) + N = (d :: L).length := by rw [List.length_cons, HN.out]; omega
              rw [e1N]
              subst hfx
              clear hown' hgrow hnil hrow2 hba2 hrow3 hb3 hb4 e1N
              go_wp2
              go_ret
              exact ⟨⟨g3, cc3, rfl, HF.out.1⟩, HF.out.2⟩
      · have l1 : ¬ (d : Int) ≤ (most : Int) := by omega
        obtain rfl : gk = 0 := by omega
        have hfs := HFS.out
        rw [fs_zero] at hfs
        have HFX := Lib.hid hfs
        clear hgk hfs
        go_wp2
        go_ret
        refine ⟨?_, HB.out⟩
        rw [← HFX.out]
        exact rfl
end Go.Proofs.Ytbdiknlbmjdpeaa
