/- The law SumsDegrees at n = 1. -/
import Derived.Test.YtopfcppmbkidgaaDegMath
import Derived.Test.YtopfcppmbkidgaaVal
namespace Go.Proofs.Ytopfcppmbkidgaa
open Go.RowKit
attribute [local go_sem] Oper.semAt_some

set_option maxHeartbeats 16000000 in
set_option maxRecDepth 100000 in
theorem deg_one (w : World) : Calls Try.prog 11 #[.int .i64 (1 : Int)] w fun e w' => e = .returned (.bool true) ∧ Below w.heap.size w w' := by
  have n1 : 1 ≤ 1 := by omega
  have n60 : 1 ≤ 60 := by omega
  have HC := Lib.hid (fun W => Cyclotomic_yes 1 n1 n60 W)
  have HD := Lib.hid (fun (d : Nat) (h1 : 1 ≤ d) (h2 : d ≤ 1) W => Cyclotomic_yes d h1 (by omega) W)
  have HA := Lib.hid (fun W => awake_any W)
  have HP := Lib.hid (fun W => phi_any 1 n1 (by omega) W)
  have HOK := Lib.hid (dg_ok n1 n60)
  have p1 := phF_le 1 1
  have hlen := HOK.out.1
  obtain ⟨F, hF⟩ : ∃ F, phF 1 1 = F := ⟨_, rfl⟩
  obtain ⟨K, hK⟩ : ∃ K, (cyT 1).length = K := ⟨_, rfl⟩
  rw [hF] at HP p1 hlen
  rw [hK] at hlen HC
  have HK := Lib.hid hK
  have HF := Lib.hid hF
  have a1 : ¬ (1 : Int) < 1 := by omega
  have a2 : ¬ (60 : Int) < (1 : Int) := by omega
  clear hK hF
  go_enter Try.func11, Try.ntmps11
  go_wp2_with fail
  refine (HC.out _).mono ?_
  rintro e v1 ⟨⟨g, rfl, hl⟩, hb⟩
  have HL := Lib.hid hl
  clear hl hb
  go_wp2
  go_loopg [5, 7, 43] K (fun gk s5 s7 s43 wr => ∃ k : Nat, k + gk = K ∧ s5 = .int .i64 (smW (cyT 1) k) ∧ s43 = .int .i64 (k : Int) ∧ RowKit.Hid (Lis g (cyT 1) w wr))
  case atStart => exact ⟨0, by omega, rfl, rfl, HL⟩
  case round =>
    obtain ⟨k, hk, rfl, rfl, HR⟩ := hrel
    have HKK := Lib.hid hk
    clear HL
    obtain ⟨s, hs⟩ : ∃ s, smW (cyT 1) k = s := ⟨_, rfl⟩
    rw [hs]
    have HS := Lib.hid hs
    clear hs
    by_cases hlt : k < K
    · have l1 : (k : Int) < (K : Int) := by omega
      have l0 : (0 : Int) ≤ (k : Int) := by omega
      have hc : wr.cell? ⟨g, k, none⟩ = some (.int .i64 ((cyT 1).getD k 0)) := CoState.cell HR.out (j := k) (by rw [HK.out]; exact hlt)
      obtain ⟨x, hx⟩ : ∃ x, (cyT 1).getD k 0 = x := ⟨_, rfl⟩
      rw [hx] at hc
      have HX := Lib.hid (show smW (cyT 1) (k + 1) = wrap64 (s + x) by rw [smW, HS.out, hx])
      have HLT := Lib.hid hlt
      clear hx hk hlt
      go_wp2
      go_roundg (gk - 1)
      case rel => exact ⟨k + 1, by have := HKK.out; have := HLT.out; omega, by rw [HX.out], by go_num, HR⟩
      case measure => have := HKK.out; have := HLT.out; omega
    · have l1 : ¬ (k : Int) < (K : Int) := by omega
      have hS : s = (pOf 1 : Int) := by rw [← HS.out, show k = K by omega, ← HK.out]; exact HOK.out.2.2.1
      have HSP := Lib.hid hS
      clear hk hS HKK HS hlt
      go_wp2
      clear l1
      go_loopg [8] 0 (fun gk s8 wq => s8 = .int .i64 2 ∧ wq = wr)
      case atStart => exact ⟨rfl, rfl⟩
      case round =>
        obtain ⟨rfl, rfl⟩ := hrel
        go_wp2
        go_loopg [9] 0 (fun gk s9 wq => s9 = .int .i64 1 ∧ wq = wr)
        case atStart => exact ⟨rfl, rfl⟩
        case round =>
          obtain ⟨rfl, rfl⟩ := hrel
          obtain rfl : s = 0 := by
            rw [HSP.out]
            rfl
          clear HSP
          obtain rfl : K = F + 1 := hlen
          have lF0 : (0 : Int) ≤ (F : Int) := by omega
          have lF1 : (F : Int) < (F : Int) + 1 := by omega
          have HFN := Lib.hid p1
          go_wp2_with fail
          refine (HP.out _).mono ?_
          rintro e v2 ⟨rfl, hb⟩
          have HR2 := Lib.hid (show Lis g (cyT 1) w v2 from CoState.kept HR.out hb)
          have hcF : v2.cell? ⟨g, F, none⟩ = some (.int .i64 1) := by
            have := CoState.cell HR2.out (j := F) (by rw [HK.out]; omega)
            rw [this]
            have h1 := HOK.out.2.1
            rw [HF.out] at h1
            exact congrArg (fun x => some (Value.int .i64 x)) h1
          have HG0 := Lib.hid (show Lis v2.heap.size (dgL 1 0) w (v2.alloc (.cells #[.int .i64 1] 3)) from
            CoState.of (HR2.out.b.alloc HR2.out.b.size _) HR2.out.b.size (by show 1 ≤ maxLen; unfold maxLen; omega) (heap_alloc_last v2 _))
          clear hb HR
          go_wp2
          clear hcF lF0 lF1
          go_loopg [10, 11, 12, 13, 14, 15, 16, 17, 18] 1 (fun gk s10 s11 s12 s13 s14 s15 s16 s17 s18 wq => ∃ d h m : Nat, d + gk = 1 ∧ s11 = .int .i64 ((d : Int) + 1) ∧ s10 = .slice (some ⟨h, 0, none⟩) m m ∧ (dgL 1 d).length = m ∧ RowKit.Hid (Lis h (dgL 1 d) w wq))
          case atStart => exact ⟨0, v2.heap.size, 1, by omega, rfl, rfl, rfl, HG0⟩
          case round =>
            obtain ⟨d, h, m, hd, rfl, rfl, hm, HL⟩ := hrel
            have HDD := Lib.hid (And.intro hd hm)
            clear HG0 HR2 HP
            have dw : wrap64 ((d : Int) + 1 + 1) = (d : Int) + 1 + 1 := IntWalk.wrap64_in _ (by omega)
            by_cases hlt : d < 1
            · have l3 : (d : Int) + 1 ≤ (1 : Int) := by omega
              have dne : ¬ (d : Int) + 1 = 0 := by omega
              have HLT := Lib.hid hlt
              by_cases hdv : 1 % (d + 1) = 0
              · have hd0 : (1 : Int) % ((d : Int) + 1) = 0 := by (obtain rfl : d = 0 := (by omega)); rfl
                obtain ⟨b1, b2, b3, b4⟩ := HOK.out.2.2.2.1 (d + 1) (by omega) (by omega) hdv
                rw [Nat.add_sub_cancel, hm] at b3 b4
                have hC := HD.out (d + 1) (by omega) (by omega)
                rw [show ((d + 1 : Nat) : Int) = (d : Int) + 1 by omega] at hC
                obtain ⟨q, hq⟩ : ∃ q, (cyT (d + 1)).length = q := ⟨_, rfl⟩
                rw [hq] at hC b1 b2
                have HC2 := Lib.hid hC
                have HQQ := Lib.hid hq
                have hstep : dgL 1 (d + 1) = prL (dgL 1 d) (cyT (d + 1)) := by rw [dgL, if_pos hdv]
                have HST := Lib.hid hstep
                clear hC hq hstep hdv hd hm hlt
                go_wp2_with fail
                refine (HC2.out _).mono ?_
                rintro e v3 ⟨⟨h2, rfl, hl⟩, hb⟩
                have HL1 := Lib.hid (show Lis h (dgL 1 d) w v3 from CoState.kept HL.out hb)
                have HL2 := Lib.hid (show Lis h2 (cyT (d + 1)) w v3 from CoState.rebase hl HL.out.b)
                clear hl hb HL HC2
                obtain ⟨i0, hi, hz0, hz1, hz2⟩ := info_parts info3
                obtain ⟨N, hN⟩ : ∃ N, m + q - 1 = N := ⟨_, rfl⟩
                have HNN := Lib.hid hN
                have eN : (m : Int) + (q : Int) - 1 = (N : Int) := by omega
                have eN2 : (m : Int) + (q : Int) = (N : Int) + 1 := by omega
                have N121 : N ≤ 121 := by omega
                have N0 : (0 : Int) ≤ (N : Int) := by omega
                have HBQ := Lib.hid (And.intro b1 (And.intro b2 (And.intro b3 b4)))
                clear hN b1 b3
                go_wp2_with (at_make; refine wpList_make_full _ rfl _ _ 22 rfl v3.heap.size 3 i0 (.int .i64 0) 1 Try.underlying22 hi hz0 hz1 _ _ _ _ N rfl rfl (by omega) (by omega) (by rw [hz2]; omega) (by unfold maxLen; omega) (Nat.le_refl _) ?_; intro w1 hown hgrow)
                have S0 := Lib.hid (CoState.made hown ((Below.refl v3.heap.size v3).grown hgrow (Nat.le_refl _) (fun k e => by cases e)))
                have hsz := S0.out.own.lt v3.heap.size rfl
                have HSZ := Lib.hid hsz
                clear hown hgrow hi hz0 hz1 hz2 hsz eN eN2
                obtain ⟨G, hg⟩ : ∃ G, v3.heap.size = G := ⟨_, rfl⟩
                rw [hg] at S0
                try rw [hg]
                have HGG := Lib.hid hg
                clear hg
                go_loopg [15, 16, 17, 18, 123] m (fun gk s15 s16 s17 s18 s123 wq => ∃ i : Nat, i + gk = m ∧ s123 = .int .i64 (i : Int) ∧ RowKit.Hid (CoState G N (mulW (fun j => (dgL 1 d).getD j 0) (fun j => (cyT (d + 1)).getD j 0) q i) v3 wq))
                case atStart => exact ⟨0, by omega, rfl, Lib.hid S0.out⟩
                case round =>
                  obtain ⟨i, hi, rfl, HI⟩ := hrel
                  have HII := Lib.hid hi
                  clear S0
                  by_cases hlti : i < m
                  · have l5 : (i : Int) < (m : Int) := by omega
                    have i00 : (0 : Int) ≤ (i : Int) := by omega
                    have HLTI := Lib.hid hlti
                    have hcx : wr.cell? ⟨h, i, none⟩ = some (.int .i64 ((dgL 1 d).getD i 0)) := CoState.cell (CoState.kept HL1.out HI.out.b) (j := i) (by rw [HDD.out.2]; exact hlti)
                    obtain ⟨x, hx⟩ : ∃ x, (dgL 1 d).getD i 0 = x := ⟨_, rfl⟩
                    rw [hx] at hcx
                    have HX := Lib.hid hx
                    have J0 := Lib.hid (show CoState G N (rowW (mulW (fun j => (dgL 1 d).getD j 0) (fun j => (cyT (d + 1)).getD j 0) q i) (fun j => (cyT (d + 1)).getD j 0) x i 0) v3 wr from HI.out.congr (fun t _ => by rw [rowW_zero]))
                    clear hx hi hlti HI
                    go_wp2
                    clear hcx
                    go_loopg [17, 18, 130] q (fun gk s17 s18 s130 wq => ∃ j : Nat, j + gk = q ∧ s130 = .int .i64 (j : Int) ∧ RowKit.Hid (CoState G N (rowW (mulW (fun j => (dgL 1 d).getD j 0) (fun j => (cyT (d + 1)).getD j 0) q i) (fun j => (cyT (d + 1)).getD j 0) x i j) v3 wq))
                    case atStart => exact ⟨0, by omega, rfl, J0⟩
                    case round =>
                      obtain ⟨j, hj, rfl, HJ⟩ := hrel
                      have HJJ := Lib.hid hj
                      clear J0
                      by_cases hltj : j < q
                      · have l6 : (j : Int) < (q : Int) := by omega
                        have j00 : (0 : Int) ≤ (j : Int) := by omega
                        have HLTJ := Lib.hid hltj
                        have hcy : wr.cell? ⟨h2, j, none⟩ = some (.int .i64 ((cyT (d + 1)).getD j 0)) := CoState.cell (CoState.kept HL2.out HJ.out.b) (j := j) (by rw [HQQ.out]; exact hltj)
                        obtain ⟨y, hy⟩ : ∃ y, (cyT (d + 1)).getD j 0 = y := ⟨_, rfl⟩
                        rw [hy] at hcy
                        obtain ⟨U, hU⟩ : ∃ U, i + j = U := ⟨_, rfl⟩
                        have U1 : U < N := by have := HNN.out; have := HLTI.out; omega
                        have eU : (i : Int) + (j : Int) = (U : Int) := by omega
                        have U00 : (0 : Int) ≤ (U : Int) := by omega
                        have U1' : (U : Int) < (N : Int) := by omega
                        have hcz := HJ.out.cell (j := U) U1
                        have hfz := HJ.out.frozen U
                        have hzz : rowW (mulW (fun j => (dgL 1 d).getD j 0) (fun j => (cyT (d + 1)).getD j 0) q i) (fun j => (cyT (d + 1)).getD j 0) x i j U = mulW (fun j => (dgL 1 d).getD j 0) (fun j => (cyT (d + 1)).getD j 0) q i U := by rw [← hU, rowW_at]
                        rw [hzz] at hcz
                        obtain ⟨z, hz⟩ : ∃ z, mulW (fun j => (dgL 1 d).getD j 0) (fun j => (cyT (d + 1)).getD j 0) q i U = z := ⟨_, rfl⟩
                        rw [hz] at hcz
                        have J2 := Lib.hid (show CoState G N (rowW (mulW (fun j => (dgL 1 d).getD j 0) (fun j => (cyT (d + 1)).getD j 0) q i) (fun j => (cyT (d + 1)).getD j 0) x i (j + 1)) v3 (wr.setCell ⟨G, U, none⟩ (.int .i64 (wrap64 (z + wrap64 (x * y))))) from
                          (HJ.out.put U _).congr (fun t _ => by rw [rowW_step, hU, hz, hy]))
                        clear hy hU hzz hz hj hltj HJ
                        go_wp2
                        go_roundg (gk - 1)
                        case rel => exact ⟨j + 1, by have := HJJ.out; have := HLTJ.out; omega, by go_num, J2⟩
                        case measure => have := HJJ.out; have := HLTJ.out; omega
                      · have l6 : ¬ (j : Int) < (q : Int) := by omega
                        have hjq : j = q := by omega
                        have J3 := Lib.hid (show CoState G N (mulW (fun j => (dgL 1 d).getD j 0) (fun j => (cyT (d + 1)).getD j 0) q (i + 1)) v3 wr from
                          HJ.out.congr (fun t _ => by rw [mulW, hjq, ← HX.out]))
                        clear hjq hj HJ hltj
                        go_wp2
                        go_roundg (m - i - 1)
                        case rel => exact ⟨i + 1, by have := HLTI.out; omega, by go_num, J3⟩
                        case measure => have := HII.out; have := HLTI.out; omega
                  · have l5 : ¬ (i : Int) < (m : Int) := by omega
                    have him : i = m := by omega
                    have hps := prL_spec (dgL 1 d) (cyT (d + 1)) (by rw [HQQ.out]; exact HBQ.out.1)
                    rw [HQQ.out, HDD.out.2, HNN.out] at hps
                    have HF2 := Lib.hid (show Lis G (dgL 1 (d + 1)) w wr from by
                      rw [HST.out]
                      exact Lis.of ((show CoState G N _ v3 wr from HI.out).rebase HL1.out.b) hps.1 (fun t ht => by rw [him]; exact hps.2 t ht))
                    have HF3 := Lib.hid (show (dgL 1 (d + 1)).length = N by rw [HST.out]; exact hps.1)
                    clear hps him hi hlti HI
                    go_wp2
                    go_roundg (1 - d - 1)
                    case rel => exact ⟨d + 1, G, N, by have := HLT.out; omega, by go_num, rfl, HF3.out, HF2⟩
                    case measure => have := HDD.out.1; have := HLT.out; omega
              · have hd0 : ¬ (1 : Int) % ((d : Int) + 1) = 0 := by (obtain rfl : d = 0 := (by omega)); exact absurd rfl hdv
                have hd2 : ((1 : Int) % ((d : Int) + 1) != 0) = true := by simpa using hd0
                have HF2 := Lib.hid (show Lis h (dgL 1 (d + 1)) w wr from by rw [dgL, if_neg hdv]; exact HL.out)
                have HF3 := Lib.hid (show (dgL 1 (d + 1)).length = m by rw [dgL, if_neg hdv]; exact hm)
                clear hdv hd hm hlt HL
                go_wp2
                go_roundg (gk - 1)
                case rel => exact ⟨d + 1, h, m, by have := HDD.out.1; have := HLT.out; omega, by go_num, rfl, HF3.out, HF2⟩
                case measure => have := HDD.out.1; have := HLT.out; omega
            · have l3 : ¬ (d : Int) + 1 ≤ (1 : Int) := by omega
              have hdn : d = 1 := by omega
              have hE : dgL 1 d = cyL 1 0 := by rw [hdn]; exact HOK.out.2.2.2.2
              obtain rfl : m = 1 + 1 := by rw [← hm, hE, cyL0_len]
              have HZ := Lib.hid (show Lis h (cyL 1 0) w wr by rw [← hE]; exact HL.out)
              have nw : wrap64 ((1 : Int) + 1) = (1 : Int) + 1 := IntWalk.wrap64_in _ (by omega)
              have n00 : (0 : Int) < (1 : Int) := by omega
              have nn0 : ((1 : Int) == 0) = false := beq_eq_false_iff_ne.2 (by omega)
              have nn0' : ((0 : Int) == (1 : Int)) = false := beq_eq_false_iff_ne.2 (by omega)
              clear hdn hE hd hm hlt HL HDD dw
              go_wp2
              clear l3 nw
              go_loopg [19, 20, 156] (1 + 1) (fun gk s19 s20 s156 wq => ∃ i : Nat, i + gk = 1 + 1 ∧ s156 = .int .i64 (i : Int) ∧ RowKit.Hid (Lis h (cyL 1 0) w wq))
              case atStart => exact ⟨0, by omega, rfl, HZ⟩
              case round =>
                obtain ⟨i, hi, rfl, HI⟩ := hrel
                have HII := Lib.hid hi
                clear HZ
                by_cases hlti : i < 1 + 1
                · have l5 : (i : Int) < (1 : Int) + 1 := by omega
                  have i00 : (0 : Int) ≤ (i : Int) := by omega
                  have HLTI := Lib.hid hlti
                  have hcx : wr.cell? ⟨h, i, none⟩ = some (.int .i64 ((cyL 1 0).getD i 0)) := CoState.cell HI.out (j := i) (by rw [cyL0_len]; exact hlti)
                  rw [← cyL0_at 1 i hlti n1] at hcx
                  by_cases i_n : i = 1
                  · obtain rfl : i = 1 := i_n
                    rw [if_pos rfl] at hcx
                    clear hi hlti
                    go_wp2
                    go_roundg (gk - 1)
                    case rel => exact ⟨2, by have := HII.out; have := HLTI.out; omega, by go_num, HI⟩
                    case measure => have := HII.out; have := HLTI.out; omega
                  · rw [if_neg i_n] at hcx
                    have b1 : ((i : Int) == (1 : Int)) = false := beq_eq_false_iff_ne.2 (by omega)
                    have b2 : (i : Int) < (1 : Int) := by omega
                    by_cases i0' : i = 0
                    · rw [if_pos i0'] at hcx
                      obtain rfl : i = 0 := i0'
                      clear hi hlti i_n
                      go_wp2
                      go_roundg (gk - 1)
                      case rel => exact ⟨1, by have := HII.out; omega, by go_num, HI⟩
                      case measure => have := HII.out; omega
                    · exfalso
                      omega
                · have l5 : ¬ (i : Int) < (1 : Int) + 1 := by omega
                  have HB9 := Lib.hid HI.out.b
                  clear hi hlti HI
                  go_wp2_with fail
                  refine (HA.out _).mono ?_
                  rintro e v9 ⟨rfl, hb⟩
                  have HB8 := Lib.hid (HB9.out.trans (hb.mono HB9.out.size))
                  clear hb HB9
                  go_wp2
                  go_ret
                  exact ⟨rfl, HB8.out⟩
end Go.Proofs.Ytopfcppmbkidgaa
