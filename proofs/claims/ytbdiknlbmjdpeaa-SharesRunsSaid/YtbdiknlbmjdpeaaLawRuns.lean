/- The walk of the law SharesRuns. No condition. -/
import Derived.Test.YtbdiknlbmjdpeaaRunMath
namespace Go.Proofs.Ytbdiknlbmjdpeaa
open Go.RowKit
attribute [local go_sem] Oper.semAt_some


set_option maxHeartbeats 32000000 in
set_option maxRecDepth 100000 in
theorem lawRuns_any (a b : Int) (w : World) : Calls Try.prog 9 #[.int .i64 a, .int .i64 b] w fun e w' => e = .returned (.bool true) ∧ Below w.heap.size w w' := by
  cases hs : isSh a b with
  | false =>
    have HG := Lib.hid (fun w => Greedy_no a b hs w)
    have HE := Lib.hid (fun w => Engel_no a b hs w)
    clear hs
    go_enter Try.func9, Try.ntmps9
    go_wp2_with fail
    refine (HG.out _).mono ?_
    rintro e w1 ⟨rfl, rfl⟩
    go_wp2_with fail
    refine (HE.out _).mono ?_
    rintro e w1 ⟨rfl, rfl⟩
    go_wp2_with fail
    refine (awake_any _).mono ?_
    rintro e w1 ⟨rfl, hb⟩
    have HB := Lib.hid hb
    clear hb
    go_wp2
    go_ret
    exact ⟨rfl, HB.out⟩
  | true =>
    obtain ⟨x, y, rfl, rfl, h1, h2, h3⟩ := share_nat hs
    have HG := Lib.hid (fun w => Greedy_yes x y h1 h2 h3 w)
    have HE := Lib.hid (fun w => Engel_yes x y h1 h2 h3 w)
    have HCK := Lib.hid (fun ad n c xs w h hn => Check_yes (x : Int) (y : Int) hs ad n c xs w h hn)
    have hV := fun w => validR_any (x : Int) (y : Int) w
    rw [hs] at hV
    have HV := Lib.hid hV
    have hel := eng_len x x y (by omega)
    have hgf := fun L h => grd_facts (a := x) (b := y) (L := L) h1 h2 h
    obtain ⟨U, hU⟩ : ∃ U, eng x x y = U := ⟨_, rfl⟩
    obtain ⟨R, hR⟩ : ∃ R, grd x x y = R := ⟨_, rfl⟩
    have HUE := Lib.hid hU.symm
    rw [hU] at HE hel
    rw [hR] at HG hgf
    have HGF := Lib.hid hgf
    obtain ⟨N, hN⟩ : ∃ N, U.length = N := ⟨_, rfl⟩
    have HUN := Lib.hid hN
    have hNx : (N : Int) ≤ (x : Int) := by omega
    have HNX := Lib.hid hNx
    have hy0 : 0 < y := by omega
    have N60 : N ≤ 60 := by omega
    clear hV hs hU hR hgf hel hN hNx
    go_enter Try.func9, Try.ntmps9
    go_wp2_with fail
    refine (HG.out _).mono ?_
    rintro e w1 ⟨hg, hb⟩
    have HB1 := Lib.hid hb
    clear hb
    cases R with
    | none =>
      have he : e = .returned (.tuple #[.slice none 0 0, .int .i64 6]) := hg
      subst he
      clear hg
      go_wp2_with fail
      refine (HE.out _).mono ?_
      rintro e w2 ⟨⟨u, rfl, hu⟩, hb⟩
      obtain ⟨ua, un, uc, rfl, hui, hul⟩ := hu.ints
      rw [nats_len, HUN.out] at hul
      have hul2 := hul.symm
      subst hul2
      clear hul
      have HBC := Lib.hid (HB1.out.trans (hb.mono HB1.out.size))
      have HUI := Lib.hid hui
      clear hb hu hui
      obtain ⟨WC, hWC⟩ : ∃ WC, w2 = WC := ⟨_, rfl⟩
      rw [hWC] at HBC HUI ⊢
      clear hWC
      go_wp2_with fail
      refine (HV.out _).mono ?_
      rintro e w3 ⟨rfl, rfl⟩
      go_wp2
      go_loopg [14, 132] x (fun gk s14 s132 wr => ∃ (i left q pv : Nat), s132 = .int .i64 (i : Int) ∧ s14 = .int .i64 (left : Int) ∧ left ≤ gk ∧ left ≤ x ∧ U.drop i = eng gk left y ∧ i + (eng gk left y).length = U.length ∧ (0 < i → U.getD (i - 1) 0 = pv) ∧ (0 < i → 0 < left → pv ≤ ceilD left y) ∧ wr = WC.drewN q)
      case atStart => exact ⟨0, x, 0, 0, rfl, rfl, Nat.le_refl _, Nat.le_refl _, by rw [HUE.out]; rfl, by rw [HUE.out]; omega, fun h => by omega, fun h => by omega, rfl⟩
      case round =>
        obtain ⟨i, left, q, pv, rfl, rfl, hlg, hlx, hdr, hlen, hpv, hpr, rfl⟩ := hrel
        have HDR := Lib.hid hdr
        have HLEN := Lib.hid hlen
        have HPV := Lib.hid hpv
        have HPR := Lib.hid hpr
        have HLG := Lib.hid hlg
        clear hdr hlen hpv hpr
        by_cases hl0 : left = 0
        · subst hl0
          have hlen := HLEN.out
          rw [eng_zero] at hlen
          have hin : i = N := by have := HUN.out; simp at hlen; omega
          subst hin
          have m1 : ¬ (i : Int) < (i : Int) := by omega
          have hNx : (i : Int) ≤ (x : Int) := HNX.out
          clear hlen hlg hlx
          have HBX := Lib.hid (below_drewN HBC.out q)
          obtain ⟨wz, hwz⟩ : ∃ wz, WC.drewN q = wz := ⟨_, rfl⟩
          rw [hwz] at HBX ⊢
          clear hwz
          go_wp2_with fail
          refine (awake_any _).mono ?_
          rintro e w8 ⟨rfl, hb8⟩
          have HB8 := Lib.hid (HBX.out.trans (hb8.mono HBX.out.size))
          clear hb8
          go_wp2
          go_ret
          exact ⟨rfl, HB8.out⟩
        · have hpos : 0 < left := by omega
          obtain ⟨k, rfl⟩ : ∃ k, gk = k + 1 := ⟨gk - 1, by omega⟩
          have hst := eng_step (k := k) (b := y) hpos
          have hlen := HLEN.out
          rw [hst] at hlen
          have hin : i < N := by have := HUN.out; simp at hlen; omega
          have hdr := HDR.out
          rw [hst, dropN (by have := HUN.out; omega)] at hdr
          have hx0 : U.getD i 0 = ceilD left y := by injection hdr
          have hdr2 : U.drop (i + 1) = eng k (left * ceilD left y - y) y := by injection hdr
          have hcl := ceil_left (den := y) hpos hy0
          have hok := ceil_ok (den := y) hpos
          have hcu : ceilD left y ≤ y := (ceil_le hpos).2 (Nat.le_mul_of_pos_left _ hpos)
          have hc2 : 2 ≤ ceilD left y := by
            apply Decidable.byContradiction
            intro hn
            have := (ceil_le (num := left) (den := y) (d := 1) hpos).1 (by omega)
            omega
          have hri := fun h0 => ceil_rise (l := left) (l' := left * ceilD left y - y) (b := y) h0 (Nat.le_of_lt hcl)
          have hpp := fun h => HPR.out h hpos
          obtain ⟨c, hc⟩ : ∃ c, ceilD left y = c := ⟨_, rfl⟩
          rw [hc] at hx0 hdr2 hcl hok hcu hc2 hri hpp
          obtain ⟨bq, oq, hab, hbl, hcc⟩ := (HUI.out.below (drew_below2 WC q)).at (by omega)
          have hcj := hcc i hin
          rw [nats_at (by have := HUN.out; omega), hx0] at hcj
          have hcp : 0 < i → (WC.drewN q).cell? ⟨bq, oq + (i - 1), none⟩ = some (.int .i64 (pv : Int)) := fun h => by
            have := hcc (i - 1) (by omega)
            rw [nats_at (by have := HUN.out; omega), HPV.out h] at this
            exact this
          subst hab
          have m1 : (i : Int) < (N : Int) := by omega
          have j0 : (0 : Int) ≤ (i : Int) := by omega
          have c2 : (2 : Int) ≤ (c : Int) := by omega
          have c60 : (c : Int) ≤ 60 := by omega
          have l1 : (1 : Int) ≤ (left : Int) := by omega
          have hP : left * c ≤ 10000 := Nat.le_trans (Nat.mul_le_mul (show left ≤ 60 by omega) (show c ≤ 60 by omega)) (by decide)
          obtain ⟨P, hPe⟩ : ∃ P, left * c = P := ⟨_, rfl⟩
          rw [hPe] at hP hcl hok hdr2 hri
          have hPI : (left : Int) * (c : Int) = (P : Int) := by rw [← hPe, Int.natCast_mul]
          have q1 : (0 : Int) ≤ (left : Int) * (c : Int) := by rw [hPI]; exact Int.natCast_nonneg _
          have q2 : (left : Int) * (c : Int) ≤ 10000 := by rw [hPI]; exact Int.ofNat_le.2 hP
          obtain ⟨X, hX⟩ : ∃ X, P - y = X := ⟨_, rfl⟩
          rw [hX] at hcl hdr2 hri
          have e2 : (left : Int) * (c : Int) - (y : Int) = (X : Int) := by rw [hPI, ← hX, Int.natCast_sub hok]
          have x0 : (0 : Int) ≤ (X : Int) := by omega
          have x1 : (X : Int) < (y : Int) := by omega
          have y60 : (y : Int) ≤ 60 := by omega
          have l60 : (left : Int) ≤ 60 := by omega
          have HNEXT := Lib.hid (And.intro hdr2 (And.intro hx0 hri))
          have HCL := Lib.hid hcl
          have hl2 : i + 1 + (eng k X y).length = U.length := by simp [hc, hPe, hX] at hlen; omega
          have HL2 := Lib.hid hl2
          have HB := Lib.hid hbl
          have HHL := Lib.hid (And.intro hlg hlx)
          clear hst hlen hdr hcc hx0 hdr2 hcl hok hcu hc2 hri hP hPe hPI hX hc hl2 hlg hlx hin hbl
          by_cases hi0 : 0 < i
          · have g1 : (0 : Int) < (i : Int) := by omega
            have g1d : decide ((0 : Int) < (i : Int)) = true := by simpa using g1
            have hcp := hcp hi0
            have g2 : ¬ (c : Int) < (pv : Int) := by have := hpp hi0; omega
            obtain ⟨h, hh⟩ : ∃ h, i = h + 1 := ⟨i - 1, by omega⟩
            have ei : (i : Int) - 1 = (h : Int) := by omega
            have eh : i - 1 = h := by omega
            rw [eh] at hcp
            have hN : (h : Int) < (N : Int) := by omega
            have hh0 : (0 : Int) ≤ (h : Int) := by omega
            have HHH := Lib.hid hh
            clear hpp eh hh
            go_wp2
            go_roundg k
            case rel => exact ⟨i + 1, X, _, c, by go_num, rfl, by have := HHL.out; have := HCL.out; omega, by have := HHL.out; have := HCL.out; omega, HNEXT.out.1, HL2.out, fun _ => HNEXT.out.2.1, fun _ h => HNEXT.out.2.2 h, by first | rfl | rw [World.drewN_drewN]⟩
            case measure => omega
          · have g1 : ¬ (0 : Int) < (i : Int) := by omega
            have g1d : decide ((0 : Int) < (i : Int)) = false := by simpa using g1
            clear hpp hcp hi0
            go_wp2
            go_roundg k
            case rel => exact ⟨i + 1, X, _, c, by go_num, rfl, by have := HHL.out; have := HCL.out; omega, by have := HHL.out; have := HCL.out; omega, HNEXT.out.1, HL2.out, fun _ => HNEXT.out.2.1, fun _ h => HNEXT.out.2.2 h, by first | rfl | rw [World.drewN_drewN]⟩
            case measure => omega

    | some L =>
      obtain ⟨v, rfl, hv⟩ := hg
      have hF := HGF.out L rfl
      obtain ⟨la, ln, lc, rfl, hli, hll⟩ := hv.ints
      rw [nats_len] at hll
      obtain ⟨M, hM⟩ : ∃ M, L.length = M := ⟨_, rfl⟩
      rw [hM] at hll
      have hll2 := hll.symm
      subst hll2
      clear hll
      have HM := Lib.hid hM
      have HF := Lib.hid hF
      have HLI := Lib.hid hli
      have M1 : 1 ≤ M := by have := hF.len1; omega
      have Mx : M ≤ x := by have := hF.len2; omega
      have M1i : (1 : Int) ≤ (M : Int) := by omega
      have Mxi : (M : Int) ≤ (x : Int) := by omega
      clear hv hF hM hli
      go_wp2_with fail
      refine (HE.out _).mono ?_
      rintro e w2 ⟨⟨u, rfl, hu⟩, hb⟩
      obtain ⟨ua, un, uc, rfl, hui, hul⟩ := hu.ints
      rw [nats_len, HUN.out] at hul
      have hul2 := hul.symm
      subst hul2
      clear hul
      have HB2 := Lib.hid (HB1.out.trans (hb.mono HB1.out.size))
      have HU2 := Lib.hid hui
      have HL2 := Lib.hid (HLI.out.below hb)
      clear hb hu hui HLI
      go_wp2_with fail
      refine (HV.out _).mono ?_
      rintro e w3 ⟨rfl, rfl⟩
      go_wp2
      go_loopg [9, 50] M (fun gk s9 s50 wr => ∃ i q : Nat, s50 = .int .i64 (i : Int) ∧ i + gk = M ∧ s9 = .bool (greatB (L.take i)) ∧ wr = w2.drewN q)
      case atStart => exact ⟨0, 0, rfl, by omega, rfl, rfl⟩
      case round =>
        obtain ⟨i, q, rfl, hi, rfl, rfl⟩ := hrel
        have HII := Lib.hid hi
        by_cases hiM : i < M
        · have m1 : (i : Int) < (M : Int) := by omega
          have j0 : (0 : Int) ≤ (i : Int) := by omega
          obtain ⟨bq, oq, hab, hbl, hcc⟩ := (HL2.out.below (drew_below2 w2 q)).at (by omega)
          have hcj := hcc i hiM
          rw [nats_at (by have := HM.out; omega)] at hcj
          have hel := HF.out.el i (by have := HM.out; omega)
          have hgs := greatB_snoc (L.take i) (L.getD i 0)
          rw [← takeN (by have := HM.out; omega)] at hgs
          obtain ⟨d, hd⟩ : ∃ d, L.getD i 0 = d := ⟨_, rfl⟩
          rw [hd] at hcj hel hgs
          obtain ⟨G, hG⟩ : ∃ G, greatB (L.take i) = G := ⟨_, rfl⟩
          rw [hG] at hgs ⊢
          have HGS := Lib.hid hgs
          have d2 : (2 : Int) ≤ (d : Int) := by omega
          have d3 : (d : Int) ≤ 1000000000000 := Int.ofNat_le.2 hel.2
          have d2f : decide ((d : Int) < 2) = false := by simp; omega
          have d3f : decide (1000000000000 < (d : Int)) = false := decide_eq_false (fun h => absurd (Int.lt_of_lt_of_le h d3) (Int.lt_irrefl _))
          have hprev : ∀ h, i = h + 1 → ∃ p : Nat, (w2.drewN q).cell? ⟨bq, oq + h, none⟩ = some (.int .i64 (p : Int)) ∧ p * (p - 1) < d ∧ p ≤ 3000000000 ∧ 2 ≤ p := by
            intro h hh
            subst hh
            have hc := hcc h (by omega)
            rw [nats_at (by have := HM.out; omega)] at hc
            have h1 := HF.out.st h (by have := HM.out; omega)
            rw [hd] at h1
            exact ⟨_, hc, h1, HF.out.small (by have := HM.out; omega), (HF.out.el h (by have := HM.out; omega)).1⟩
          subst hab
          clear hcc hel hgs hd hG hbl hi
          have key : ∀ (GG : Bool) (NG : Bool), G = GG → (GG || decide (1000000 < d)) = NG → True := fun _ _ _ _ => trivial
          clear key
          by_cases hi0 : 0 < i
          · have g1 : (0 : Int) < (i : Int) := by omega
            have g1d : decide ((0 : Int) < (i : Int)) = true := by simpa using g1
            have g1n : decide (0 < i) = true := by simpa using hi0
            obtain ⟨h, hh⟩ : ∃ h, i = h + 1 := ⟨i - 1, by omega⟩
            obtain ⟨p, hcp, hp1, hp2, hp3⟩ := hprev h hh
            have hcp2 : w2.cell? ⟨bq, oq + h, none⟩ = some (.int .i64 (p : Int)) := hcp
            have e1 : IntKind.i64.wrap ((i : Int) - 1) = (h : Int) := by
              have e : (i : Int) - 1 = (h : Int) := by omega
              rw [e]; exact IntWalk.i64_in _ (by omega)
            have hN : (h : Int) < (M : Int) := by omega
            have hh0 : (0 : Int) ≤ (h : Int) := by omega
            have p1 : ¬ 3000000000 < (p : Int) := by omega
            have p1d : decide (3000000000 < (p : Int)) = false := by simp; omega
            obtain ⟨p', hp'⟩ : ∃ p', p - 1 = p' := ⟨_, rfl⟩
            have e2 : IntKind.i64.wrap ((p : Int) - 1) = (p' : Int) := by
              have e : (p : Int) - 1 = (p' : Int) := by omega
              rw [e]; exact IntWalk.i64_in _ (by omega)
            rw [hp'] at hp1
            have hpp : p * p' ≤ 1000000000000 := by have := Int.ofNat_le.1 d3; omega
            obtain ⟨Q, hQ⟩ : ∃ Q, p * p' = Q := ⟨_, rfl⟩
            have e3 := wrapI_mul hQ (by rw [← hQ]; exact Nat.le_trans hpp (by decide))
            have q1 : ¬ (d : Int) ≤ (Q : Int) := by rw [hQ] at hp1; omega
            have q1d : decide ((d : Int) ≤ (Q : Int)) = false := decide_eq_false q1
            clear hprev hp1 hp2 hp3 hp' hpp hQ hh
            go_wp2
            go_quiet (fail)
            cases G with
            | true =>
              go_wp2
              go_roundg (gk - 1)
              case rel => exact ⟨i + 1, _, by go_num, by have := HII.out; omega, by rw [HGS.out]; rfl, by first | rfl | rw [World.drewN_drewN]⟩
              case measure => have := HII.out; omega
            | false =>
              by_cases hgr : 1000000 < d
              · have g3 : (1000000 : Int) < (d : Int) := by omega
                have g3d : decide ((1000000 : Int) < (d : Int)) = true := by simp; omega
                have HGS2 := Lib.hid (show greatB (L.take (i + 1)) = true by rw [HGS.out, decide_eq_true hgr]; rfl)
                clear hgr
                go_wp2
                go_roundg (gk - 1)
                case rel => exact ⟨i + 1, _, by go_num, by have := HII.out; omega, by rw [HGS2.out], by first | rfl | rw [World.drewN_drewN]⟩
                case measure => have := HII.out; omega
              · have g3 : ¬ (1000000 : Int) < (d : Int) := by omega
                have g3d : decide ((1000000 : Int) < (d : Int)) = false := by simp; omega
                have HGS2 := Lib.hid (show greatB (L.take (i + 1)) = false by rw [HGS.out, decide_eq_false hgr]; rfl)
                clear hgr
                go_wp2
                go_roundg (gk - 1)
                case rel => exact ⟨i + 1, _, by go_num, by have := HII.out; omega, by rw [HGS2.out], by first | rfl | rw [World.drewN_drewN]⟩
                case measure => have := HII.out; omega
          · have g1 : ¬ (0 : Int) < (i : Int) := by omega
            have g1d : decide ((0 : Int) < (i : Int)) = false := by simpa using g1
            have g1n : decide (0 < i) = false := by simpa using hi0
            clear hprev hi0
            go_wp2
            go_quiet (fail)
            cases G with
            | true =>
              go_wp2
              go_roundg (gk - 1)
              case rel => exact ⟨i + 1, _, by go_num, by have := HII.out; omega, by rw [HGS.out]; rfl, by first | rfl | rw [World.drewN_drewN]⟩
              case measure => have := HII.out; omega
            | false =>
              by_cases hgr : 1000000 < d
              · have g3 : (1000000 : Int) < (d : Int) := by omega
                have g3d : decide ((1000000 : Int) < (d : Int)) = true := by simp; omega
                have HGS2 := Lib.hid (show greatB (L.take (i + 1)) = true by rw [HGS.out, decide_eq_true hgr]; rfl)
                clear hgr
                go_wp2
                go_roundg (gk - 1)
                case rel => exact ⟨i + 1, _, by go_num, by have := HII.out; omega, by rw [HGS2.out], by first | rfl | rw [World.drewN_drewN]⟩
                case measure => have := HII.out; omega
              · have g3 : ¬ (1000000 : Int) < (d : Int) := by omega
                have g3d : decide ((1000000 : Int) < (d : Int)) = false := by simp; omega
                have HGS2 := Lib.hid (show greatB (L.take (i + 1)) = false by rw [HGS.out, decide_eq_false hgr]; rfl)
                clear hgr
                go_wp2
                go_roundg (gk - 1)
                case rel => exact ⟨i + 1, _, by go_num, by have := HII.out; omega, by rw [HGS2.out], by first | rfl | rw [World.drewN_drewN]⟩
                case measure => have := HII.out; omega
        · skip
          have hGe : L.take i = L := List.take_of_length_le (by have := HM.out; omega)
          have hck := HF.out.ck
          rw [hGe]
          have hiM2 : i = M := by omega
          subst hiM2
          have m1 : ¬ (i : Int) < (i : Int) := by omega
          obtain ⟨G, hG⟩ : ∃ G, greatB L = G := ⟨_, rfl⟩
          rw [hG, HM.out] at hck
          rw [hG]
          have HCKB := Lib.hid hck
          clear hck hG hGe hi hiM
          have HLQ := Lib.hid (HL2.out.below (drew_below2 w2 q))
          have HBQ := Lib.hid (below_drewN HB2.out q)
          have HUQ := Lib.hid (HU2.out.below (drew_below2 w2 q))
          obtain ⟨wq, hwq⟩ : ∃ wq, w2.drewN q = wq := ⟨_, rfl⟩
          rw [hwq] at HLQ HBQ HUQ ⊢
          clear hwq
          go_wp2_with fail
          refine (clone_any la i lc (nats L) wq HLQ.out (by omega)).mono ?_
          rintro e w5 ⟨ao, co, rfl, how, hc1, hc2, hb5⟩
          have HBR := Lib.hid (HBQ.out.trans (hb5.mono HBQ.out.size))
          have HUR := Lib.hid (HUQ.out.below hb5)
          have HCI := Lib.hid (Ints.own how).1
          clear how hc1 hc2 hb5
          go_wp2_with fail
          refine (HCK.out ao i co (nats L) w5 HCI.out (by omega)).mono ?_
          rintro e w6 ⟨rfl, hb6⟩
          have HBC := Lib.hid (HBR.out.trans (hb6.mono HBR.out.size))
          have HUI := Lib.hid (HUR.out.below hb6)
          rw [HCKB.out]
          clear hb6
          obtain ⟨WC, hWC⟩ : ∃ WC, w6 = WC := ⟨_, rfl⟩
          rw [hWC] at HBC HUI ⊢
          clear hWC
          have i1 : ¬ (i : Int) < 1 := by omega
          have i2 : ¬ (x : Int) < (i : Int) := by omega
          have i1d : decide ((i : Int) < 1) = false := decide_eq_false i1
          have i2d : decide ((x : Int) < (i : Int)) = false := decide_eq_false i2
          have i3d : decide (i < 1) = false := decide_eq_false (by omega)
          have i4d : decide (x < i) = false := decide_eq_false (by omega)
          have neqb : ∀ (p : Bool) (w : World), (binOp .neq 4 (.bool p) (.bool p)).run Try.prog w = .ok (.bool false) w := fun p w => by cases p <;> kernel_rfl
          cases G with
          | true =>
            rw [Bool.not_true, Bool.false_and]
            go_wp2
            go_loopg [14, 132] x (fun gk s14 s132 wr => ∃ (i left q pv : Nat), s132 = .int .i64 (i : Int) ∧ s14 = .int .i64 (left : Int) ∧ left ≤ gk ∧ left ≤ x ∧ U.drop i = eng gk left y ∧ i + (eng gk left y).length = U.length ∧ (0 < i → U.getD (i - 1) 0 = pv) ∧ (0 < i → 0 < left → pv ≤ ceilD left y) ∧ wr = WC.drewN q)
            case atStart => exact ⟨0, x, 0, 0, rfl, rfl, Nat.le_refl _, Nat.le_refl _, by rw [HUE.out]; rfl, by rw [HUE.out]; omega, fun h => by omega, fun h => by omega, rfl⟩
            case round =>
              obtain ⟨i, left, q, pv, rfl, rfl, hlg, hlx, hdr, hlen, hpv, hpr, rfl⟩ := hrel
              have HDR := Lib.hid hdr
              have HLEN := Lib.hid hlen
              have HPV := Lib.hid hpv
              have HPR := Lib.hid hpr
              have HLG := Lib.hid hlg
              clear hdr hlen hpv hpr
              by_cases hl0 : left = 0
              · subst hl0
                have hlen := HLEN.out
                rw [eng_zero] at hlen
                have hin : i = N := by have := HUN.out; simp at hlen; omega
                subst hin
                have m1 : ¬ (i : Int) < (i : Int) := by omega
                have hNx : (i : Int) ≤ (x : Int) := HNX.out
                clear hlen hlg hlx
                have HBX := Lib.hid (below_drewN HBC.out q)
                obtain ⟨wz, hwz⟩ : ∃ wz, WC.drewN q = wz := ⟨_, rfl⟩
                rw [hwz] at HBX ⊢
                clear hwz
                go_wp2_with fail
                refine (awake_any _).mono ?_
                rintro e w8 ⟨rfl, hb8⟩
                have HB8 := Lib.hid (HBX.out.trans (hb8.mono HBX.out.size))
                clear hb8
                go_wp2
                go_ret
                exact ⟨rfl, HB8.out⟩
              · have hpos : 0 < left := by omega
                obtain ⟨k, rfl⟩ : ∃ k, gk = k + 1 := ⟨gk - 1, by omega⟩
                have hst := eng_step (k := k) (b := y) hpos
                have hlen := HLEN.out
                rw [hst] at hlen
                have hin : i < N := by have := HUN.out; simp at hlen; omega
                have hdr := HDR.out
                rw [hst, dropN (by have := HUN.out; omega)] at hdr
                have hx0 : U.getD i 0 = ceilD left y := by injection hdr
                have hdr2 : U.drop (i + 1) = eng k (left * ceilD left y - y) y := by injection hdr
                have hcl := ceil_left (den := y) hpos hy0
                have hok := ceil_ok (den := y) hpos
                have hcu : ceilD left y ≤ y := (ceil_le hpos).2 (Nat.le_mul_of_pos_left _ hpos)
                have hc2 : 2 ≤ ceilD left y := by
                  apply Decidable.byContradiction
                  intro hn
                  have := (ceil_le (num := left) (den := y) (d := 1) hpos).1 (by omega)
                  omega
                have hri := fun h0 => ceil_rise (l := left) (l' := left * ceilD left y - y) (b := y) h0 (Nat.le_of_lt hcl)
                have hpp := fun h => HPR.out h hpos
                obtain ⟨c, hc⟩ : ∃ c, ceilD left y = c := ⟨_, rfl⟩
                rw [hc] at hx0 hdr2 hcl hok hcu hc2 hri hpp
                obtain ⟨bq, oq, hab, hbl, hcc⟩ := (HUI.out.below (drew_below2 WC q)).at (by omega)
                have hcj := hcc i hin
                rw [nats_at (by have := HUN.out; omega), hx0] at hcj
                have hcp : 0 < i → (WC.drewN q).cell? ⟨bq, oq + (i - 1), none⟩ = some (.int .i64 (pv : Int)) := fun h => by
                  have := hcc (i - 1) (by omega)
                  rw [nats_at (by have := HUN.out; omega), HPV.out h] at this
                  exact this
                subst hab
                have m1 : (i : Int) < (N : Int) := by omega
                have j0 : (0 : Int) ≤ (i : Int) := by omega
                have c2 : (2 : Int) ≤ (c : Int) := by omega
                have c60 : (c : Int) ≤ 60 := by omega
                have l1 : (1 : Int) ≤ (left : Int) := by omega
                have hP : left * c ≤ 10000 := Nat.le_trans (Nat.mul_le_mul (show left ≤ 60 by omega) (show c ≤ 60 by omega)) (by decide)
                obtain ⟨P, hPe⟩ : ∃ P, left * c = P := ⟨_, rfl⟩
                rw [hPe] at hP hcl hok hdr2 hri
                have hPI : (left : Int) * (c : Int) = (P : Int) := by rw [← hPe, Int.natCast_mul]
                have q1 : (0 : Int) ≤ (left : Int) * (c : Int) := by rw [hPI]; exact Int.natCast_nonneg _
                have q2 : (left : Int) * (c : Int) ≤ 10000 := by rw [hPI]; exact Int.ofNat_le.2 hP
                obtain ⟨X, hX⟩ : ∃ X, P - y = X := ⟨_, rfl⟩
                rw [hX] at hcl hdr2 hri
                have e2 : (left : Int) * (c : Int) - (y : Int) = (X : Int) := by rw [hPI, ← hX, Int.natCast_sub hok]
                have x0 : (0 : Int) ≤ (X : Int) := by omega
                have x1 : (X : Int) < (y : Int) := by omega
                have y60 : (y : Int) ≤ 60 := by omega
                have l60 : (left : Int) ≤ 60 := by omega
                have HNEXT := Lib.hid (And.intro hdr2 (And.intro hx0 hri))
                have HCL := Lib.hid hcl
                have hl2 : i + 1 + (eng k X y).length = U.length := by simp [hc, hPe, hX] at hlen; omega
                have HL2 := Lib.hid hl2
                have HB := Lib.hid hbl
                have HHL := Lib.hid (And.intro hlg hlx)
                clear hst hlen hdr hcc hx0 hdr2 hcl hok hcu hc2 hri hP hPe hPI hX hc hl2 hlg hlx hin hbl
                by_cases hi0 : 0 < i
                · have g1 : (0 : Int) < (i : Int) := by omega
                  have g1d : decide ((0 : Int) < (i : Int)) = true := by simpa using g1
                  have hcp := hcp hi0
                  have g2 : ¬ (c : Int) < (pv : Int) := by have := hpp hi0; omega
                  obtain ⟨h, hh⟩ : ∃ h, i = h + 1 := ⟨i - 1, by omega⟩
                  have ei : (i : Int) - 1 = (h : Int) := by omega
                  have eh : i - 1 = h := by omega
                  rw [eh] at hcp
                  have hN : (h : Int) < (N : Int) := by omega
                  have hh0 : (0 : Int) ≤ (h : Int) := by omega
                  have HHH := Lib.hid hh
                  clear hpp eh hh
                  go_wp2
                  go_roundg k
                  case rel => exact ⟨i + 1, X, _, c, by go_num, rfl, by have := HHL.out; have := HCL.out; omega, by have := HHL.out; have := HCL.out; omega, HNEXT.out.1, HL2.out, fun _ => HNEXT.out.2.1, fun _ h => HNEXT.out.2.2 h, by first | rfl | rw [World.drewN_drewN]⟩
                  case measure => omega
                · have g1 : ¬ (0 : Int) < (i : Int) := by omega
                  have g1d : decide ((0 : Int) < (i : Int)) = false := by simpa using g1
                  clear hpp hcp hi0
                  go_wp2
                  go_roundg k
                  case rel => exact ⟨i + 1, X, _, c, by go_num, rfl, by have := HHL.out; have := HCL.out; omega, by have := HHL.out; have := HCL.out; omega, HNEXT.out.1, HL2.out, fun _ => HNEXT.out.2.1, fun _ h => HNEXT.out.2.2 h, by first | rfl | rw [World.drewN_drewN]⟩
                  case measure => omega
          | false =>
            rw [Bool.not_false, Bool.true_and]
            by_cases h8 : i ≤ 8
            · have h8i : (i : Int) ≤ 8 := by omega
              have h8d : decide ((i : Int) ≤ 8) = true := decide_eq_true h8i
              rw [decide_eq_true h8]
              go_wp2
              go_loopg [14, 132] x (fun gk s14 s132 wr => ∃ (i left q pv : Nat), s132 = .int .i64 (i : Int) ∧ s14 = .int .i64 (left : Int) ∧ left ≤ gk ∧ left ≤ x ∧ U.drop i = eng gk left y ∧ i + (eng gk left y).length = U.length ∧ (0 < i → U.getD (i - 1) 0 = pv) ∧ (0 < i → 0 < left → pv ≤ ceilD left y) ∧ wr = WC.drewN q)
              case atStart => exact ⟨0, x, 0, 0, rfl, rfl, Nat.le_refl _, Nat.le_refl _, by rw [HUE.out]; rfl, by rw [HUE.out]; omega, fun h => by omega, fun h => by omega, rfl⟩
              case round =>
                obtain ⟨i, left, q, pv, rfl, rfl, hlg, hlx, hdr, hlen, hpv, hpr, rfl⟩ := hrel
                have HDR := Lib.hid hdr
                have HLEN := Lib.hid hlen
                have HPV := Lib.hid hpv
                have HPR := Lib.hid hpr
                have HLG := Lib.hid hlg
                clear hdr hlen hpv hpr
                by_cases hl0 : left = 0
                · subst hl0
                  have hlen := HLEN.out
                  rw [eng_zero] at hlen
                  have hin : i = N := by have := HUN.out; simp at hlen; omega
                  subst hin
                  have m1 : ¬ (i : Int) < (i : Int) := by omega
                  have hNx : (i : Int) ≤ (x : Int) := HNX.out
                  clear hlen hlg hlx
                  have HBX := Lib.hid (below_drewN HBC.out q)
                  obtain ⟨wz, hwz⟩ : ∃ wz, WC.drewN q = wz := ⟨_, rfl⟩
                  rw [hwz] at HBX ⊢
                  clear hwz
                  go_wp2_with fail
                  refine (awake_any _).mono ?_
                  rintro e w8 ⟨rfl, hb8⟩
                  have HB8 := Lib.hid (HBX.out.trans (hb8.mono HBX.out.size))
                  clear hb8
                  go_wp2
                  go_ret
                  exact ⟨rfl, HB8.out⟩
                · have hpos : 0 < left := by omega
                  obtain ⟨k, rfl⟩ : ∃ k, gk = k + 1 := ⟨gk - 1, by omega⟩
                  have hst := eng_step (k := k) (b := y) hpos
                  have hlen := HLEN.out
                  rw [hst] at hlen
                  have hin : i < N := by have := HUN.out; simp at hlen; omega
                  have hdr := HDR.out
                  rw [hst, dropN (by have := HUN.out; omega)] at hdr
                  have hx0 : U.getD i 0 = ceilD left y := by injection hdr
                  have hdr2 : U.drop (i + 1) = eng k (left * ceilD left y - y) y := by injection hdr
                  have hcl := ceil_left (den := y) hpos hy0
                  have hok := ceil_ok (den := y) hpos
                  have hcu : ceilD left y ≤ y := (ceil_le hpos).2 (Nat.le_mul_of_pos_left _ hpos)
                  have hc2 : 2 ≤ ceilD left y := by
                    apply Decidable.byContradiction
                    intro hn
                    have := (ceil_le (num := left) (den := y) (d := 1) hpos).1 (by omega)
                    omega
                  have hri := fun h0 => ceil_rise (l := left) (l' := left * ceilD left y - y) (b := y) h0 (Nat.le_of_lt hcl)
                  have hpp := fun h => HPR.out h hpos
                  obtain ⟨c, hc⟩ : ∃ c, ceilD left y = c := ⟨_, rfl⟩
                  rw [hc] at hx0 hdr2 hcl hok hcu hc2 hri hpp
                  obtain ⟨bq, oq, hab, hbl, hcc⟩ := (HUI.out.below (drew_below2 WC q)).at (by omega)
                  have hcj := hcc i hin
                  rw [nats_at (by have := HUN.out; omega), hx0] at hcj
                  have hcp : 0 < i → (WC.drewN q).cell? ⟨bq, oq + (i - 1), none⟩ = some (.int .i64 (pv : Int)) := fun h => by
                    have := hcc (i - 1) (by omega)
                    rw [nats_at (by have := HUN.out; omega), HPV.out h] at this
                    exact this
                  subst hab
                  have m1 : (i : Int) < (N : Int) := by omega
                  have j0 : (0 : Int) ≤ (i : Int) := by omega
                  have c2 : (2 : Int) ≤ (c : Int) := by omega
                  have c60 : (c : Int) ≤ 60 := by omega
                  have l1 : (1 : Int) ≤ (left : Int) := by omega
                  have hP : left * c ≤ 10000 := Nat.le_trans (Nat.mul_le_mul (show left ≤ 60 by omega) (show c ≤ 60 by omega)) (by decide)
                  obtain ⟨P, hPe⟩ : ∃ P, left * c = P := ⟨_, rfl⟩
                  rw [hPe] at hP hcl hok hdr2 hri
                  have hPI : (left : Int) * (c : Int) = (P : Int) := by rw [← hPe, Int.natCast_mul]
                  have q1 : (0 : Int) ≤ (left : Int) * (c : Int) := by rw [hPI]; exact Int.natCast_nonneg _
                  have q2 : (left : Int) * (c : Int) ≤ 10000 := by rw [hPI]; exact Int.ofNat_le.2 hP
                  obtain ⟨X, hX⟩ : ∃ X, P - y = X := ⟨_, rfl⟩
                  rw [hX] at hcl hdr2 hri
                  have e2 : (left : Int) * (c : Int) - (y : Int) = (X : Int) := by rw [hPI, ← hX, Int.natCast_sub hok]
                  have x0 : (0 : Int) ≤ (X : Int) := by omega
                  have x1 : (X : Int) < (y : Int) := by omega
                  have y60 : (y : Int) ≤ 60 := by omega
                  have l60 : (left : Int) ≤ 60 := by omega
                  have HNEXT := Lib.hid (And.intro hdr2 (And.intro hx0 hri))
                  have HCL := Lib.hid hcl
                  have hl2 : i + 1 + (eng k X y).length = U.length := by simp [hc, hPe, hX] at hlen; omega
                  have HL2 := Lib.hid hl2
                  have HB := Lib.hid hbl
                  have HHL := Lib.hid (And.intro hlg hlx)
                  clear hst hlen hdr hcc hx0 hdr2 hcl hok hcu hc2 hri hP hPe hPI hX hc hl2 hlg hlx hin hbl
                  by_cases hi0 : 0 < i
                  · have g1 : (0 : Int) < (i : Int) := by omega
                    have g1d : decide ((0 : Int) < (i : Int)) = true := by simpa using g1
                    have hcp := hcp hi0
                    have g2 : ¬ (c : Int) < (pv : Int) := by have := hpp hi0; omega
                    obtain ⟨h, hh⟩ : ∃ h, i = h + 1 := ⟨i - 1, by omega⟩
                    have ei : (i : Int) - 1 = (h : Int) := by omega
                    have eh : i - 1 = h := by omega
                    rw [eh] at hcp
                    have hN : (h : Int) < (N : Int) := by omega
                    have hh0 : (0 : Int) ≤ (h : Int) := by omega
                    have HHH := Lib.hid hh
                    clear hpp eh hh
                    go_wp2
                    go_roundg k
                    case rel => exact ⟨i + 1, X, _, c, by go_num, rfl, by have := HHL.out; have := HCL.out; omega, by have := HHL.out; have := HCL.out; omega, HNEXT.out.1, HL2.out, fun _ => HNEXT.out.2.1, fun _ h => HNEXT.out.2.2 h, by first | rfl | rw [World.drewN_drewN]⟩
                    case measure => omega
                  · have g1 : ¬ (0 : Int) < (i : Int) := by omega
                    have g1d : decide ((0 : Int) < (i : Int)) = false := by simpa using g1
                    clear hpp hcp hi0
                    go_wp2
                    go_roundg k
                    case rel => exact ⟨i + 1, X, _, c, by go_num, rfl, by have := HHL.out; have := HCL.out; omega, by have := HHL.out; have := HCL.out; omega, HNEXT.out.1, HL2.out, fun _ => HNEXT.out.2.1, fun _ h => HNEXT.out.2.2 h, by first | rfl | rw [World.drewN_drewN]⟩
                    case measure => omega
            · have h8i : ¬ (i : Int) ≤ 8 := by omega
              have h8d : decide ((i : Int) ≤ 8) = false := by simp; omega
              rw [decide_eq_false h8]
              go_wp2
              go_loopg [14, 132] x (fun gk s14 s132 wr => ∃ (i left q pv : Nat), s132 = .int .i64 (i : Int) ∧ s14 = .int .i64 (left : Int) ∧ left ≤ gk ∧ left ≤ x ∧ U.drop i = eng gk left y ∧ i + (eng gk left y).length = U.length ∧ (0 < i → U.getD (i - 1) 0 = pv) ∧ (0 < i → 0 < left → pv ≤ ceilD left y) ∧ wr = WC.drewN q)
              case atStart => exact ⟨0, x, 0, 0, rfl, rfl, Nat.le_refl _, Nat.le_refl _, by rw [HUE.out]; rfl, by rw [HUE.out]; omega, fun h => by omega, fun h => by omega, rfl⟩
              case round =>
                obtain ⟨i, left, q, pv, rfl, rfl, hlg, hlx, hdr, hlen, hpv, hpr, rfl⟩ := hrel
                have HDR := Lib.hid hdr
                have HLEN := Lib.hid hlen
                have HPV := Lib.hid hpv
                have HPR := Lib.hid hpr
                have HLG := Lib.hid hlg
                clear hdr hlen hpv hpr
                by_cases hl0 : left = 0
                · subst hl0
                  have hlen := HLEN.out
                  rw [eng_zero] at hlen
                  have hin : i = N := by have := HUN.out; simp at hlen; omega
                  subst hin
                  have m1 : ¬ (i : Int) < (i : Int) := by omega
                  have hNx : (i : Int) ≤ (x : Int) := HNX.out
                  clear hlen hlg hlx
                  have HBX := Lib.hid (below_drewN HBC.out q)
                  obtain ⟨wz, hwz⟩ : ∃ wz, WC.drewN q = wz := ⟨_, rfl⟩
                  rw [hwz] at HBX ⊢
                  clear hwz
                  go_wp2_with fail
                  refine (awake_any _).mono ?_
                  rintro e w8 ⟨rfl, hb8⟩
                  have HB8 := Lib.hid (HBX.out.trans (hb8.mono HBX.out.size))
                  clear hb8
                  go_wp2
                  go_ret
                  exact ⟨rfl, HB8.out⟩
                · have hpos : 0 < left := by omega
                  obtain ⟨k, rfl⟩ : ∃ k, gk = k + 1 := ⟨gk - 1, by omega⟩
                  have hst := eng_step (k := k) (b := y) hpos
                  have hlen := HLEN.out
                  rw [hst] at hlen
                  have hin : i < N := by have := HUN.out; simp at hlen; omega
                  have hdr := HDR.out
                  rw [hst, dropN (by have := HUN.out; omega)] at hdr
                  have hx0 : U.getD i 0 = ceilD left y := by injection hdr
                  have hdr2 : U.drop (i + 1) = eng k (left * ceilD left y - y) y := by injection hdr
                  have hcl := ceil_left (den := y) hpos hy0
                  have hok := ceil_ok (den := y) hpos
                  have hcu : ceilD left y ≤ y := (ceil_le hpos).2 (Nat.le_mul_of_pos_left _ hpos)
                  have hc2 : 2 ≤ ceilD left y := by
                    apply Decidable.byContradiction
                    intro hn
                    have := (ceil_le (num := left) (den := y) (d := 1) hpos).1 (by omega)
                    omega
                  have hri := fun h0 => ceil_rise (l := left) (l' := left * ceilD left y - y) (b := y) h0 (Nat.le_of_lt hcl)
                  have hpp := fun h => HPR.out h hpos
                  obtain ⟨c, hc⟩ : ∃ c, ceilD left y = c := ⟨_, rfl⟩
                  rw [hc] at hx0 hdr2 hcl hok hcu hc2 hri hpp
                  obtain ⟨bq, oq, hab, hbl, hcc⟩ := (HUI.out.below (drew_below2 WC q)).at (by omega)
                  have hcj := hcc i hin
                  rw [nats_at (by have := HUN.out; omega), hx0] at hcj
                  have hcp : 0 < i → (WC.drewN q).cell? ⟨bq, oq + (i - 1), none⟩ = some (.int .i64 (pv : Int)) := fun h => by
                    have := hcc (i - 1) (by omega)
                    rw [nats_at (by have := HUN.out; omega), HPV.out h] at this
                    exact this
                  subst hab
                  have m1 : (i : Int) < (N : Int) := by omega
                  have j0 : (0 : Int) ≤ (i : Int) := by omega
                  have c2 : (2 : Int) ≤ (c : Int) := by omega
                  have c60 : (c : Int) ≤ 60 := by omega
                  have l1 : (1 : Int) ≤ (left : Int) := by omega
                  have hP : left * c ≤ 10000 := Nat.le_trans (Nat.mul_le_mul (show left ≤ 60 by omega) (show c ≤ 60 by omega)) (by decide)
                  obtain ⟨P, hPe⟩ : ∃ P, left * c = P := ⟨_, rfl⟩
                  rw [hPe] at hP hcl hok hdr2 hri
                  have hPI : (left : Int) * (c : Int) = (P : Int) := by rw [← hPe, Int.natCast_mul]
                  have q1 : (0 : Int) ≤ (left : Int) * (c : Int) := by rw [hPI]; exact Int.natCast_nonneg _
                  have q2 : (left : Int) * (c : Int) ≤ 10000 := by rw [hPI]; exact Int.ofNat_le.2 hP
                  obtain ⟨X, hX⟩ : ∃ X, P - y = X := ⟨_, rfl⟩
                  rw [hX] at hcl hdr2 hri
                  have e2 : (left : Int) * (c : Int) - (y : Int) = (X : Int) := by rw [hPI, ← hX, Int.natCast_sub hok]
                  have x0 : (0 : Int) ≤ (X : Int) := by omega
                  have x1 : (X : Int) < (y : Int) := by omega
                  have y60 : (y : Int) ≤ 60 := by omega
                  have l60 : (left : Int) ≤ 60 := by omega
                  have HNEXT := Lib.hid (And.intro hdr2 (And.intro hx0 hri))
                  have HCL := Lib.hid hcl
                  have hl2 : i + 1 + (eng k X y).length = U.length := by simp [hc, hPe, hX] at hlen; omega
                  have HL2 := Lib.hid hl2
                  have HB := Lib.hid hbl
                  have HHL := Lib.hid (And.intro hlg hlx)
                  clear hst hlen hdr hcc hx0 hdr2 hcl hok hcu hc2 hri hP hPe hPI hX hc hl2 hlg hlx hin hbl
                  by_cases hi0 : 0 < i
                  · have g1 : (0 : Int) < (i : Int) := by omega
                    have g1d : decide ((0 : Int) < (i : Int)) = true := by simpa using g1
                    have hcp := hcp hi0
                    have g2 : ¬ (c : Int) < (pv : Int) := by have := hpp hi0; omega
                    obtain ⟨h, hh⟩ : ∃ h, i = h + 1 := ⟨i - 1, by omega⟩
                    have ei : (i : Int) - 1 = (h : Int) := by omega
                    have eh : i - 1 = h := by omega
                    rw [eh] at hcp
                    have hN : (h : Int) < (N : Int) := by omega
                    have hh0 : (0 : Int) ≤ (h : Int) := by omega
                    have HHH := Lib.hid hh
                    clear hpp eh hh
                    go_wp2
                    go_roundg k
                    case rel => exact ⟨i + 1, X, _, c, by go_num, rfl, by have := HHL.out; have := HCL.out; omega, by have := HHL.out; have := HCL.out; omega, HNEXT.out.1, HL2.out, fun _ => HNEXT.out.2.1, fun _ h => HNEXT.out.2.2 h, by first | rfl | rw [World.drewN_drewN]⟩
                    case measure => omega
                  · have g1 : ¬ (0 : Int) < (i : Int) := by omega
                    have g1d : decide ((0 : Int) < (i : Int)) = false := by simpa using g1
                    clear hpp hcp hi0
                    go_wp2
                    go_roundg k
                    case rel => exact ⟨i + 1, X, _, c, by go_num, rfl, by have := HHL.out; have := HCL.out; omega, by have := HHL.out; have := HCL.out; omega, HNEXT.out.1, HL2.out, fun _ => HNEXT.out.2.1, fun _ h => HNEXT.out.2.2 h, by first | rfl | rw [World.drewN_drewN]⟩
                    case measure => omega
end Go.Proofs.Ytbdiknlbmjdpeaa
