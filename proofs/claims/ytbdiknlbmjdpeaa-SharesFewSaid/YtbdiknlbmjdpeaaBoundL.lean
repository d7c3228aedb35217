/- The walks of the reference's Bound and of the law SharesBounds. No condition. -/
import Derived.Test.YtbdiknlbmjdpeaaBoundR
namespace Go.Proofs.Ytbdiknlbmjdpeaa
open Go.RowKit
attribute [local go_sem] Oper.semAt_some


set_option maxHeartbeats 4000000 in
set_option maxRecDepth 100000 in
theorem BoundRef_1 (a b : Nat) (ha : 0 < a) (hab : a < b) (hb : b ≤ 60) (w : World) :
    Calls Try.prog 36 #[.int .i64 (a : Int), .int .i64 (b : Int), .int .i64 1] w fun e w' => BRes (bndO 0 a b) e ∧ ∃ q, w' = w.drewN q := by
  have hb0 : 0 < b := by omega
  obtain ⟨R, hR⟩ : ∃ R, bndO 0 a b = R := ⟨_, rfl⟩
  rw [hR]
  have hR' : (if b % a = 0 ∧ 1 ≤ b / a ∧ b / a ≤ maxI then some (b / a) else none) = R := by
    have h : (fnd 1 maxI 0 a b 1).map (·.headD 0) = R := hR
    rw [← h]
    unfold fnd
    split <;> rfl
  have hmx : b / a ≤ maxI := le_maxI (Nat.le_trans (Nat.div_le_self _ _) (Nat.le_trans hb (by decide)))
  have h1 : 1 ≤ b / a := Nat.div_pos (Nat.le_of_lt hab) ha
  have hdm := Nat.div_add_mod b a
  have c1 : ((b : Int) / (a : Int)) = ((b / a : Nat) : Int) := by rw [Int.natCast_ediv]
  have hdl := Nat.div_le_self b a
  obtain ⟨D, hD⟩ : ∃ D, b / a = D := ⟨_, rfl⟩
  rw [hD] at hR' hmx h1 hdm c1 hdl
  have hmod : b % a = 0 ↔ a * D = b := by
    constructor
    · intro h; omega
    · intro h; omega
  have had : a * D ≤ 3600 := Nat.le_trans (Nat.mul_le_mul (show a ≤ 60 by omega) (show D ≤ 60 by omega)) (by decide)
  have hLS := fun w (h : b ≤ a * D) => less_any a b D hb0 h1 h (Nat.le_trans hb (by decide)) (Nat.le_trans hdl (Nat.le_trans hb (by decide))) (Nat.le_trans (Nat.mul_le_mul_left a (Nat.div_le_self _ _)) (Nat.le_trans had (by decide))) (Nat.le_trans (Nat.mul_le_mul hb (Nat.le_trans (Nat.div_le_self _ _) (Nat.le_trans hdl hb))) (by decide)) w
  have hx0 : ∀ x y, a * D = b → IsLess a b D x y → x = 0 := by
    intro x y h hl
    have h2 := hl.2.1
    rw [h, Nat.sub_self, Nat.zero_mul] at h2
    rcases Nat.mul_eq_zero.1 h2 with h3 | h3
    · exact h3
    · have := Nat.mul_pos hb0 h1
      omega
  have hle : a * D ≤ b := by omega
  obtain ⟨P, hP⟩ : ∃ P, a * D = P := ⟨_, rfl⟩
  rw [hP] at hmod had hle
  simp only [hP] at hLS hx0
  have W1 := Lib.hid (wrap_mul hP (Nat.le_trans had (by decide)))
  have p3 : (P : Int) ≤ 3600 := Int.ofNat_le.2 had
  have d3 : (D : Int) ≤ 60 := Int.ofNat_le.2 (Nat.le_trans hdl hb)
  have n0 : (0 : Int) < (a : Int) := by omega
  have n1 : ¬ (a : Int) = 0 := by omega
  have b3 : (b : Int) ≤ 60 := Int.ofNat_le.2 hb
  have HPA := Lib.hid hP
  have HR := Lib.hid hR'
  have HMOD := Lib.hid hmod
  have HMX := Lib.hid hmx
  have HLS := Lib.hid hLS
  have HX0 := Lib.hid hx0
  clear hR hR' hmod hdm hLS hx0 hP hD hdl had hmx
  go_enter Try.func36, Try.ntmps36
  go_wp2
  go_loopg [8] 0 (fun gk s8 wr => s8 = .int .i64 (D : Int) ∧ wr = w)
  case atStart => exact ⟨rfl, rfl⟩
  case round =>
    obtain ⟨rfl, hww⟩ := hrel
    have hww2 := hww.symm
    subst hww2
    clear hww
    by_cases k1 : 2 ≤ D
    · have l1 : (2 : Int) ≤ (D : Int) := by omega
      by_cases k2 : P = b
      · have g1 : decide ((P : Int) < (b : Int)) = false := by simp; omega
        have g1b : ¬ (P : Int) < (b : Int) := by omega
        have g1c : (P : Int) = (b : Int) := by omega
        have g1c := Lib.hid g1c
        have g2 : ((P : Int) == (b : Int)) = true := by rw [beq_iff_eq]; omega
        have hr := HR.out
        rw [if_pos ⟨HMOD.out.2 k2, h1, HMX.out⟩] at hr
        have HRR := Lib.hid hr
        have hL := fun w => HLS.out w (by omega)
        have HL := Lib.hid hL
        have HK := Lib.hid k2
        have w1 := W1.out
        clear hr hL k2 hle k1
        go_wp2_with fail
        refine (HL.out _).mono ?_
        rintro e w2 ⟨⟨x, y, hl, rfl⟩, q, rfl⟩
        obtain rfl := HX0.out x y HK.out hl
        clear w1 hl
        go_wp2_with fail
        refine (sumR_0 0 y D _).mono ?_
        rintro e w3 ⟨rfl, rfl⟩
        go_wp2
        go_ret2
        refine ⟨?_, q, rfl⟩
        rw [← HRR.out]
        exact rfl
      · have g1 : decide ((P : Int) < (b : Int)) = true := by simp; omega
        have g1b : (P : Int) < (b : Int) := by omega
        have hr := HR.out
        rw [if_neg (fun h => k2 (HMOD.out.1 h.1))] at hr
        have HRR := Lib.hid hr
        have w1 := W1.out
        clear hr k2 hle k1
        go_wp2
        go_ret2
        refine ⟨?_, 0, rfl⟩
        rw [← HRR.out]
        exact rfl
    · have l1 : ¬ (2 : Int) ≤ (D : Int) := by omega
      have hr := HR.out
      have hD1 : D = 1 := by omega
      have hP1 : ¬ P = b := fun h => by
        have h2 := HPA.out
        rw [hD1, Nat.mul_one] at h2
        omega
      rw [if_neg (fun h => hP1 (HMOD.out.1 h.1))] at hr
      have HRR := Lib.hid hr
      clear hr hP1 hD1 hle k1
      go_wp2
      go_ret2
      refine ⟨?_, 0, rfl⟩
      rw [← HRR.out]
      exact rfl

set_option maxHeartbeats 8000000 in
set_option maxRecDepth 100000 in
theorem BoundRef_more (t a b : Nat) (ht : t ≤ 1) (ha : 0 < a) (hab : a < b) (hb : b ≤ 60) (w : World) :
    Calls Try.prog 36 #[.int .i64 (a : Int), .int .i64 (b : Int), .int .i64 ((t + 2 : Nat) : Int)] w fun e w' => BRes (bndO (t + 1) a b) e ∧ ∃ q, w' = w.drewN q := by
  have hb0 : 0 < b := by omega
  obtain ⟨R, hR⟩ : ∃ R, bndO (t + 1) a b = R := ⟨_, rfl⟩
  rw [hR]
  have hR' : (fdn (fnR 1 maxI t a b) (b / a) ((t + 2) * b / a - b / a)).map (·.headD 0) = R := hR
  have h1 : 1 ≤ b / a := Nat.div_pos (Nat.le_of_lt hab) ha
  have c1 : ((b : Int) / (a : Int)) = ((b / a : Nat) : Int) := by rw [Int.natCast_ediv]
  have hlt := fun d => lt_div (num := a) (den := b) (d := d) ha
  have hles := fun d => le_divs (num := a) (x := (t + 2) * b) (d := d) ha
  have hDH : b / a ≤ (t + 2) * b / a := Nat.div_le_div_right (Nat.le_mul_of_pos_left b (show 0 < t + 2 by omega))
  have hHle := Nat.div_le_self ((t + 2) * b) a
  have hP180 : (t + 2) * b ≤ 180 := Nat.le_trans (Nat.mul_le_mul (show t + 2 ≤ 3 by omega) hb) (by decide)
  obtain ⟨T, hT⟩ : ∃ T, t + 2 = T := ⟨_, rfl⟩
  rw [hT] at hR' hDH hHle hP180 ⊢
  simp only [hT] at hles
  obtain ⟨D, hD⟩ : ∃ D, b / a = D := ⟨_, rfl⟩
  rw [hD] at hR' h1 c1 hDH
  simp only [hD] at hlt
  obtain ⟨P, hP⟩ : ∃ P, T * b = P := ⟨_, rfl⟩
  rw [hP] at hR' hDH hHle hP180
  simp only [hP] at hles
  have c2 : ((P : Int) / (a : Int)) = ((P / a : Nat) : Int) := by rw [Int.natCast_ediv]
  obtain ⟨H, hH⟩ : ∃ H, P / a = H := ⟨_, rfl⟩
  rw [hH] at hR' hDH hHle c2
  simp only [hH] at hles
  have W1 := Lib.hid (wrap_mul hP (Nat.le_trans hP180 (by decide)))
  have p3 : (P : Int) ≤ 180 := Int.ofNat_le.2 hP180
  have n0 : (0 : Int) < (a : Int) := by omega
  have n1 : ¬ (a : Int) = 0 := by omega
  have b3 : (b : Int) ≤ 60 := Int.ofNat_le.2 hb
  have t1 : (2 : Int) ≤ (T : Int) := by omega
  have t2 : (T : Int) ≤ 3 := by omega
  have hH180 : H ≤ 180 := Nat.le_trans hHle hP180
  have HR := Lib.hid hR'
  have HLT := Lib.hid hlt
  have HLE := Lib.hid hles
  have HT := Lib.hid hT
  have C1 := Lib.hid c1
  clear hR hR' hlt hles hT hP hD hH c1 hHle
  have w1 := W1.out
  go_enter Try.func36, Try.ntmps36
  go_wp2
  clear w1 c2
  go_loopg [8] (H - D) (fun gk s8 wr => ∃ (q : Nat) (L : Option (List Nat)), s8 = .int .i64 ((D + gk : Nat) : Int) ∧ gk ≤ H - D ∧ fdn (fnR 1 maxI t a b) D gk = L ∧ L.map (·.headD 0) = R ∧ wr = w.drewN q)
  case atStart => exact ⟨0, _, by congr 1; omega, Nat.le_refl _, rfl, HR.out, rfl⟩
  case round =>
    obtain ⟨q, L, rfl, hgk, hfs, hL, rfl⟩ := hrel
    have HFS := Lib.hid hfs
    have HL := Lib.hid hL
    clear hfs hL
    obtain ⟨d, hdd⟩ : ∃ d, D + gk = d := ⟨_, rfl⟩
    rw [hdd]
    have hd180 : d ≤ 180 := by omega
    have had : a * d ≤ 10800 := Nat.le_trans (Nat.mul_le_mul (show a ≤ 60 by omega) hd180) (by decide)
    have hbd : b * d ≤ 10800 := Nat.le_trans (Nat.mul_le_mul hb hd180) (by decide)
    have hlt := HLT.out d
    obtain ⟨Q, hQ⟩ : ∃ Q, a * d = Q := ⟨_, rfl⟩
    have HQ := Lib.hid hQ
    rw [hQ] at had hlt
    have W2 := Lib.hid (wrap_mul hQ (Nat.le_trans had (by decide)))
    have q3 : (Q : Int) ≤ 10800 := Int.ofNat_le.2 had
    have d3 : (d : Int) ≤ 180 := Int.ofNat_le.2 hd180
    clear hQ
    cases gk with
    | zero =>
      have hQb : Q ≤ b := by
        have h : ¬ D < d := by omega
        rw [hlt] at h
        omega
      have hL2 : none = L := HFS.out
      have hR2 : none = R := by rw [← HL.out, ← hL2]; rfl
      have HRR := Lib.hid hR2
      have hg : Q < b ∨ Q = b := by omega
      clear hL2 hR2 hlt hdd hgk hQb
      by_cases k1 : 2 ≤ d
      · have l1 : (2 : Int) ≤ (d : Int) := by omega
        rcases hg with hg | hg
        · have g1 : decide ((Q : Int) < (b : Int)) = true := by simp; omega
          have g1b : (Q : Int) < (b : Int) := by omega
          have w2 := W2.out
          clear hg k1
          go_wp2
          go_ret2
          refine ⟨?_, q, rfl⟩
          rw [← HRR.out]
          exact rfl
        · have g1 : decide ((Q : Int) < (b : Int)) = false := by simp; omega
          have g1b : ¬ (Q : Int) < (b : Int) := by omega
          have g2 : ((Q : Int) == (b : Int)) = true := by rw [beq_iff_eq]; omega
          have g3 : (1 : Int) < (T : Int) := by omega
          have w2 := W2.out
          clear hg k1
          go_wp2
          go_ret2
          refine ⟨?_, q, rfl⟩
          rw [← HRR.out]
          exact rfl
      · have l1 : ¬ (2 : Int) ≤ (d : Int) := by omega
        clear hg k1
        go_wp2
        go_ret2
        refine ⟨?_, q, rfl⟩
        rw [← HRR.out]
        exact rfl
    | succ k =>
      have hDd : D < d := by omega
      have hQb : b < Q := hlt.1 hDd
      have l1 : (2 : Int) ≤ (d : Int) := by omega
      have g1 : decide ((Q : Int) < (b : Int)) = false := by simp; omega
      have g1b : ¬ (Q : Int) < (b : Int) := by omega
      have g2 : ((Q : Int) == (b : Int)) = false := by rw [beq_eq_false_iff_ne]; omega
      have hdk : d = D + k + 1 := by omega
      have hd0 : 0 < d := by omega
      have hLS := fun w => less_any a b d hb0 hd0 (by rw [HQ.out]; omega) (Nat.le_trans hb (by decide)) (Nat.le_trans hd180 (by decide)) (Nat.le_trans (Nat.mul_le_mul_left a (Nat.div_le_self _ _)) (by rw [HQ.out]; exact Nat.le_trans had (by decide))) (Nat.le_trans (Nat.mul_le_mul_left b (Nat.div_le_self _ _)) (Nat.le_trans hbd (by decide))) w
      have hX0 : 0 < a * d - b := by rw [HQ.out]; omega
      have hfn : ∀ X Y, IsLess a b d X Y → 0 < X ∧ fnR 1 maxI t a b d = (fnd 1 maxI t X Y (d + 1)).map (d :: ·) := by
        intro X Y hl
        have hX : 0 < X := by
          rcases Nat.eq_zero_or_pos X with e | e
          · have := hl.2.1
            rw [e, Nat.zero_mul] at this
            have h2 := Nat.mul_pos hX0 hl.1
            omega
          · exact e
        refine ⟨hX, ?_⟩
        unfold fnR
        rw [fnd_scale 1 maxI t hX0 (Nat.mul_pos hb0 hd0) hX hl.1 hl.2.1.symm]
      have hxY : ∀ X Y, IsLess a b d X Y → X ≤ 10800 ∧ Y ≤ 10800 := fun X Y hl => ⟨Nat.le_trans hl.2.2.2.1 (Nat.le_trans (Nat.sub_le _ _) (by rw [HQ.out]; exact had)), Nat.le_trans hl.2.2.1 hbd⟩
      have HLS := Lib.hid hLS
      have HFN := Lib.hid hfn
      have HXY := Lib.hid hxY
      have HDK := Lib.hid hdk
      have HGK := Lib.hid hgk
      have w2 := W2.out
      clear hlt hdd hgk hDd hQb hLS hX0 hfn hxY hdk
      go_wp2_with fail
      refine (HLS.out _).mono ?_
      rintro e w2 ⟨⟨X, Y, hl, rfl⟩, q2, rfl⟩
      clear w2
      obtain ⟨hX0, hfn⟩ := HFN.out X Y hl
      obtain ⟨hX1, hY1⟩ := HXY.out X Y hl
      have hY0 := hl.1
      have hS : ∀ w, Calls Try.prog 53 #[.int .i64 (X : Int), .int .i64 (Y : Int), .int .i64 ((t + 1 : Nat) : Int), .int .i64 (d : Int)] w fun e w' => e = .returned (.bool (fnd 1 maxI t X Y (d + 1)).isSome) ∧ ∃ q, w' = w.drewN q := by
        intro w
        match t, ht with
        | 0, _ => exact (sumR_1 X Y d hX0 (Nat.le_trans hX1 (by decide)) (Nat.le_trans hY1 (by decide)) w).mono fun e w' h => ⟨h.1, 0, h.2.symm⟩
        | 1, _ => exact sumR_2 X Y d hX0 hY0 (Nat.le_trans hX1 (by decide)) (Nat.le_trans hY1 (by decide)) (Nat.le_trans hd180 (by decide)) w
      obtain ⟨T1, hT1⟩ : ∃ T1, t + 1 = T1 := ⟨_, rfl⟩
      rw [hT1] at hS
      have v1 : (T : Int) - 1 = (T1 : Int) := by have := HT.out; omega
      obtain ⟨R', hR'⟩ : ∃ R', fnd 1 maxI t X Y (d + 1) = R' := ⟨_, rfl⟩
      simp only [hR'] at hS
      rw [hR'] at hfn
      have u5 : (X : Int) ≤ 10800 := Int.ofNat_le.2 hX1
      have u6 : (Y : Int) ≤ 10800 := Int.ofNat_le.2 hY1
      have hfs := HFS.out
      cases R' with
      | none =>
        rw [fdn_no (by rw [← HDK.out, hfn]; rfl)] at hfs
        have HFX := Lib.hid hfs
        have HS := Lib.hid hS
        clear hl hX0 hX1 hY1 hY0 hS hT1 hR' hfn hfs
        go_wp2_with fail
        refine (HS.out _).mono ?_
        rintro e w3 ⟨rfl, q3, rfl⟩
        go_wp2
        go_roundg k
        case rel => exact ⟨_, L, by have := HDK.out; congr 1; omega, by have := HGK.out; omega, HFX.out, HL.out, by first | rfl | rw [World.drewN_drewN, World.drewN_drewN]⟩
        case measure => omega
      | some M =>
        rw [fdn_yes (x := d :: M) (by rw [← HDK.out, hfn]; rfl)] at hfs
        have hR2 : some d = R := by rw [← HL.out, ← hfs]; rfl
        have HRR := Lib.hid hR2
        have HS := Lib.hid hS
        clear hl hX0 hX1 hY1 hY0 hS hT1 hR' hfn hfs hR2
        go_wp2_with fail
        refine (HS.out _).mono ?_
        rintro e w3 ⟨rfl, q3, rfl⟩
        go_wp2
        go_ret2
        refine ⟨?_, _, by first | rfl | rw [World.drewN_drewN, World.drewN_drewN]⟩
        rw [← HRR.out]
        exact rfl
end Go.Proofs.Ytbdiknlbmjdpeaa
