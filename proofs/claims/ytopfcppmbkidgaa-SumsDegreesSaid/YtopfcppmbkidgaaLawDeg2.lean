/- The law SumsDegrees: it returns true, whatever its argument is. -/
import Derived.Test.YtopfcppmbkidgaaDegMath
import Derived.Test.YtopfcppmbkidgaaVal
namespace Go.Proofs.Ytopfcppmbkidgaa
open Go.RowKit
attribute [local go_sem] Oper.semAt_some

theorem dv_facts {m p gk : Nat} (m1 : 1 ≤ m) (p2 : 2 ≤ p) (mg : m ≤ gk) (m60 : m ≤ 60) (hdv : m % p = 0) : ∃ v : Nat, (m : Int) % (p : Int) = 0 ∧ (m : Int) / (p : Int) = (v : Int) ∧ (m : Int).tdiv (p : Int) = (v : Int) ∧ wrap64 (v : Int) = (v : Int) ∧ 1 ≤ v ∧ v ≤ gk - 1 ∧ gk - 1 < gk ∧ v ≤ 60 ∧ dvF p gk m = dvF p (gk - 1) v := by
  obtain ⟨u, rfl⟩ : ∃ u, gk = u + 1 := ⟨gk - 1, by omega⟩
  obtain ⟨v, hv⟩ := Nat.dvd_of_mod_eq_zero hdv
  have hq : m / p = v := by rw [hv, Nat.mul_div_cancel_left _ (by omega)]
  have v2 : 2 * v ≤ p * v := Nat.mul_le_mul_right v p2
  have v1 : 1 ≤ v := by
    rcases Nat.eq_zero_or_pos v with h | h
    · subst h; omega
    · exact h
  have h3 : 2 * v ≤ m := by omega
  clear v2 hv
  have e2 : (m : Int) / (p : Int) = (v : Int) := by rw [← Int.natCast_ediv, hq]
  refine ⟨v, by rw [← Int.natCast_emod, hdv]; rfl, e2, by rw [Int.tdiv_eq_ediv_of_nonneg (Int.natCast_nonneg m), e2], ?_, v1, ?_, ?_, ?_, ?_⟩
  · clear e2 hq hdv; exact IntWalk.wrap64_in _ (by omega)
  · clear e2 hq hdv; omega
  · clear e2 hq hdv; omega
  · clear e2 hq hdv; omega
  · rw [Nat.add_sub_cancel, dvF, if_pos hdv, hq]

set_option maxHeartbeats 4000000 in
set_option maxRecDepth 100000 in
theorem deg_no (n : Int) (h : n < 1 ∨ 60 < n) (w : World) : Calls Try.prog 11 #[.int .i64 n] w fun e w' => e = .returned (.bool true) ∧ Below w.heap.size w w' := by
  have HC := Lib.hid (fun W => Cyclotomic_no n h W)
  have HA := Lib.hid (fun W => awake_any W)
  clear h
  go_enter Try.func11, Try.ntmps11
  go_wp2_with fail
  refine (HC.out _).mono ?_
  rintro e v1 ⟨rfl, hb⟩
  have KP := Lib.hid hb
  clear hb
  go_wp2_with fail
  refine (HA.out _).mono ?_
  rintro e v2 ⟨rfl, hb⟩
  have KQ := Lib.hid (KP.out.trans (hb.mono KP.out.size))
  clear hb KP
  go_wp2
  go_ret
  exact ⟨rfl, KQ.out⟩

set_option maxHeartbeats 16000000 in
set_option maxRecDepth 100000 in
theorem deg_yes (n : Nat) (nn : 2 ≤ n) (n60 : n ≤ 60) (w : World) : Calls Try.prog 11 #[.int .i64 (n : Int)] w fun e w' => e = .returned (.bool true) ∧ Below w.heap.size w w' := by
  have n1 : 1 ≤ n := by omega
  have HC := Lib.hid (fun W => Cyclotomic_yes n n1 n60 W)
  have HD := Lib.hid (fun (d : Nat) (h1 : 1 ≤ d) (h2 : d ≤ n) W => Cyclotomic_yes d h1 (by omega) W)
  have HA := Lib.hid (fun W => awake_any W)
  have HP := Lib.hid (fun W => phi_any n n1 (by omega) W)
  have HOK := Lib.hid (dg_ok n1 n60)
  have p1 := phF_le n n
  have hlen := HOK.out.1
  obtain ⟨F, hF⟩ : ∃ F, phF n n = F := ⟨_, rfl⟩
  obtain ⟨K, hK⟩ : ∃ K, (cyT n).length = K := ⟨_, rfl⟩
  rw [hF] at HP p1 hlen
  rw [hK] at hlen HC
  have HK := Lib.hid hK
  have HF := Lib.hid hF
  have a1 : ¬ (n : Int) < 1 := by omega
  have a2 : ¬ (60 : Int) < (n : Int) := by omega
  clear hK hF
  go_enter Try.func11, Try.ntmps11
  go_wp2_with fail
  refine (HC.out _).mono ?_
  rintro e v1 ⟨⟨g, rfl, hl⟩, hb⟩
  have HL := Lib.hid hl
  clear hl hb
  go_wp2
  go_loopg [5, 7, 43] K (fun gk s5 s7 s43 wr => ∃ k : Nat, k + gk = K ∧ s5 = .int .i64 (smW (cyT n) k) ∧ s43 = .int .i64 (k : Int) ∧ RowKit.Hid (Lis g (cyT n) w wr))
  case atStart => exact ⟨0, by omega, rfl, rfl, HL⟩
  case round =>
    obtain ⟨k, hk, rfl, rfl, HR⟩ := hrel
    have HKK := Lib.hid hk
    clear HL
    obtain ⟨s, hs⟩ : ∃ s, smW (cyT n) k = s := ⟨_, rfl⟩
    rw [hs]
    have HS := Lib.hid hs
    clear hs
    by_cases hlt : k < K
    · have l1 : (k : Int) < (K : Int) := by omega
      have l0 : (0 : Int) ≤ (k : Int) := by omega
      have hc : wr.cell? ⟨g, k, none⟩ = some (.int .i64 ((cyT n).getD k 0)) := CoState.cell HR.out (j := k) (by rw [HK.out]; exact hlt)
      obtain ⟨x, hx⟩ : ∃ x, (cyT n).getD k 0 = x := ⟨_, rfl⟩
      rw [hx] at hc
      have HX := Lib.hid (show smW (cyT n) (k + 1) = wrap64 (s + x) by rw [smW, HS.out, hx])
      have HLT := Lib.hid hlt
      clear hx hk hlt
      go_wp2
      go_roundg (gk - 1)
      case rel => exact ⟨k + 1, by have := HKK.out; have := HLT.out; omega, by rw [HX.out], by go_num, HR⟩
      case measure => have := HKK.out; have := HLT.out; omega
    · have l1 : ¬ (k : Int) < (K : Int) := by omega
      have hS : s = (pOf n : Int) := by rw [← HS.out, show k = K by omega, ← HK.out]; exact HOK.out.2.2.1
      have HSP := Lib.hid hS
      clear hk hS HKK HS hlt
      go_wp2
      clear l1
      go_loopg [8] n (fun gk s8 wq => ∃ p : Nat, p + gk = n + 2 ∧ 2 ≤ p ∧ (p ≤ n ∨ n = 1) ∧ RowKit.Hid (ldF n gk p = ldF n n 2) ∧ s8 = .int .i64 (p : Int) ∧ wq = wr)
      case atStart => exact ⟨2, by omega, Nat.le_refl _, by omega, Lib.hid rfl, rfl, rfl⟩
      case round =>
        obtain ⟨p, hpg, p2, hpn, HLD, rfl, rfl⟩ := hrel
        have HPG := Lib.hid (And.intro hpg hpn)
        by_cases hgo : 1 < n ∧ ¬ n % p = 0
        · have l1 : (1 : Int) < (n : Int) := by omega
          have l2 : ¬ (n : Int) % (p : Int) = 0 := by rw [← Int.natCast_emod]; omega
          have l3 : ((n : Int) % (p : Int) != 0) = true := by simpa using l2
          have pne : ¬ (p : Int) = 0 := by omega
          have hpn2 : p + 1 ≤ n := by
            rcases Nat.lt_or_ge p n with h | h
            · exact h
            · exact absurd (by rw [show p = n by omega]; exact Nat.mod_self n) hgo.2
          have HN2 := Lib.hid hpn2
          have HST := Lib.hid (show ldF n (gk - 1) (p + 1) = ldF n n 2 by
            rw [← HLD.out]
            obtain ⟨u, hu⟩ : ∃ u, gk = u + 1 := ⟨gk - 1, by omega⟩
            rw [hu, ldF, if_neg hgo.2]
            rfl)
          have pw : wrap64 ((p : Int) + 1) = (p : Int) + 1 := IntWalk.wrap64_in _ (by omega)
          clear hpg hpn hgo hpn2
          go_wp2
          go_roundg (gk - 1)
          case rel => exact ⟨p + 1, by have := HPG.out.1; have := HN2.out; omega, by omega, .inl HN2.out, HST, by go_num, rfl⟩
          case measure => have := HPG.out.1; have := HN2.out; omega
        · have hP2 : n % p = 0 ∧ p = ldF n n 2 := by
            have h2 : n % p = 0 := by
              rcases Nat.eq_zero_or_pos (n % p) with h | h
              · exact h
              · exact absurd ⟨by omega, by omega⟩ hgo
            refine ⟨h2, ?_⟩
            rw [← HLD.out]
            obtain ⟨u, hu⟩ : ∃ u, gk = u + 1 := ⟨gk - 1, by omega⟩
            rw [hu, ldF, if_pos h2]
          have HPP := Lib.hid hP2.2
          have pn60 : p ≤ 60 := by omega
          have pne : ¬ (p : Int) = 0 := by omega
          have l1 : (1 : Int) < (n : Int) := by omega
          have nn1 : ¬ (n : Int) = 1 := by omega
          have nn1b : ((n : Int) == 1) = false := beq_eq_false_iff_ne.2 nn1
          have e0 : (n : Int) % (p : Int) = 0 := by rw [← Int.natCast_emod, hP2.1]; rfl
          have e0b : ((n : Int) % (p : Int) != 0) = false := by simp [e0]
          clear hgo hpg hpn HLD HPG hP2
          go_wp2
          clear e0b e0
          go_loopg [9] n (fun gk s9 wq => ∃ m : Nat, 1 ≤ m ∧ m ≤ gk ∧ m ≤ 60 ∧ RowKit.Hid (dvF p gk m = dvF p n n) ∧ s9 = .int .i64 (m : Int) ∧ wq = wr)
          case atStart => exact ⟨n, n1, Nat.le_refl _, n60, Lib.hid rfl, rfl, rfl⟩
          case round =>
            obtain ⟨m, m1, mg, m60, HDV, rfl, rfl⟩ := hrel
            have HMG := Lib.hid mg
            have pne : ¬ (p : Int) = 0 := by omega
            by_cases hdv : m % p = 0
            · obtain ⟨v, e1, e2, e3, vw, v1, v2, v3, v60, hst⟩ := dv_facts m1 p2 mg m60 hdv
              have HST := Lib.hid (hst.symm.trans HDV.out)
              have HV := Lib.hid (And.intro v2 v3)
              clear hdv mg HDV HPP HMG hst v2 v3 e3 vw
              go_wp2
              go_roundg (gk - 1)
              case rel => exact ⟨v, v1, HV.out.1, v60, HST, by first | rfl | go_num, rfl⟩
              case measure => exact HV.out.2
            · have e1 : ¬ (m : Int) % (p : Int) = 0 := by rw [← Int.natCast_emod]; omega
              have e1b : ((m : Int) % (p : Int) == 0) = false := beq_eq_false_iff_ne.2 e1
              have HMV := Lib.hid (show m = dvF p n n by
                rw [← HDV.out]
                obtain ⟨u, hu⟩ : ∃ u, gk = u + 1 := ⟨gk - 1, by omega⟩
                rw [hu, dvF, if_neg hdv])
              clear hdv mg HDV HMG
              by_cases hm1 : 1 < m
              · have q1 : (1 : Int) < (m : Int) := by omega
                obtain rfl : s = 1 := by
                  rw [HSP.out]
                  unfold pOf
                  rw [if_neg (by omega), if_pos (by rw [← HPP.out, ← HMV.out]; exact hm1)]
                  rfl
                clear HPP HMV HSP hm1
                obtain rfl : K = F + 1 := hlen
                have lF0 : (0 : Int) ≤ (F : Int) := by omega
                have lF1 : (F : Int) < (F : Int) + 1 := by omega
                have HFN := Lib.hid p1
                go_wp2_with fail
                refine (HP.out _).mono ?_
                rintro e v2 ⟨rfl, hb⟩
                have HR2 := Lib.hid (show Lis g (cyT n) w v2 from CoState.kept HR.out hb)
                have hcF : v2.cell? ⟨g, F, none⟩ = some (.int .i64 1) := by
                  have := CoState.cell HR2.out (j := F) (by rw [HK.out]; omega)
                  rw [this]
                  have h1 := HOK.out.2.1
                  rw [HF.out] at h1
                  exact congrArg (fun x => some (Value.int .i64 x)) h1
                have HG0 := Lib.hid (show Lis v2.heap.size (dgL n 0) w (v2.alloc (.cells #[.int .i64 1] 3)) from
                  CoState.of (HR2.out.b.alloc HR2.out.b.size _) HR2.out.b.size (by show 1 ≤ maxLen; unfold maxLen; omega) (heap_alloc_last v2 _))
                clear hb HR
                go_wp2
                clear hcF lF0 lF1
                go_loopg [10, 11, 12, 13, 14, 15, 16, 17, 18] n (fun gk s10 s11 s12 s13 s14 s15 s16 s17 s18 wq => ∃ d h m : Nat, d + gk = n ∧ s11 = .int .i64 ((d : Int) + 1) ∧ s10 = .slice (some ⟨h, 0, none⟩) m m ∧ (dgL n d).length = m ∧ RowKit.Hid (Lis h (dgL n d) w wq))
                case atStart => exact ⟨0, v2.heap.size, 1, by omega, rfl, rfl, rfl, HG0⟩
                case round =>
                  obtain ⟨d, h, m, hd, rfl, rfl, hm, HL⟩ := hrel
                  have HDD := Lib.hid (And.intro hd hm)
                  clear HG0 HR2 HP
                  have dw : wrap64 ((d : Int) + 1 + 1) = (d : Int) + 1 + 1 := IntWalk.wrap64_in _ (by omega)
                  by_cases hlt : d < n
                  · have l3 : (d : Int) + 1 ≤ (n : Int) := by omega
                    have dne : ¬ (d : Int) + 1 = 0 := by omega
                    have HLT := Lib.hid hlt
                    by_cases hdv : n % (d + 1) = 0
                    · have hd0 : (n : Int) % ((d : Int) + 1) = 0 := by rw [show (d : Int) + 1 = ((d + 1 : Nat) : Int) by omega, ← Int.natCast_emod, hdv]; rfl
                      obtain ⟨b1, b2, b3, b4⟩ := HOK.out.2.2.2.1 (d + 1) (by omega) (by omega) hdv
                      rw [Nat.add_sub_cancel, hm] at b3 b4
                      have hC := HD.out (d + 1) (by omega) (by omega)
                      rw [show ((d + 1 : Nat) : Int) = (d : Int) + 1 by omega] at hC
                      obtain ⟨q, hq⟩ : ∃ q, (cyT (d + 1)).length = q := ⟨_, rfl⟩
                      rw [hq] at hC b1 b2
                      have HC2 := Lib.hid hC
                      have HQQ := Lib.hid hq
                      have hstep : dgL n (d + 1) = prL (dgL n d) (cyT (d + 1)) := by rw [dgL, if_pos hdv]
                      have HST := Lib.hid hstep
                      clear hC hq hstep hdv hd hm hlt
                      go_wp2_with fail
                      refine (HC2.out _).mono ?_
                      rintro e v3 ⟨⟨h2, rfl, hl⟩, hb⟩
                      have HL1 := Lib.hid (show Lis h (dgL n d) w v3 from CoState.kept HL.out hb)
                      have HL2 := Lib.hid (show Lis h2 (cyT (d + 1)) w v3 from CoState.rebase hl HL.out.b)
                      clear hl hb HL HC2
                      obtain ⟨i0, hi, hz0, hz1, hz2⟩ := info_parts info3
                      obtain ⟨N, hN⟩ : ∃ N, m + q - 1 = N := ⟨_, rfl⟩
                      have HNN := Lib.hid hN
                      have eN : (m : Int) + (q : Int) - 1 = (N : Int) := by omega
                      have eN2 : (m : Int) + (q : Int) = (N : Int) + 1 := by omega
                      have N121 : N ≤ 121 := by omega
                      have N0 : (0 : Int) ≤ (N : Int) := by omega
                      have HBQ := Lib.hid (And.intro b1 (And.intro b2 (And.intro b3 b4)))
                      clear hN b1 b3
                      go_wp2_with (at_make; refine wpList_make_full _ rfl _ _ 22 rfl v3.heap.size 3 i0 (.int .i64 0) 1 Try.underlying22 hi hz0 hz1 _ _ _ _ N rfl rfl (by omega) (by omega) (by rw [hz2]; omega) (by unfold maxLen; omega) (Nat.le_refl _) ?_; intro w1 hown hgrow)
                      have S0 := Lib.hid (CoState.made hown ((Below.refl v3.heap.size v3).grown hgrow (Nat.le_refl _) (fun k e => by cases e)))
                      have hsz := S0.out.own.lt v3.heap.size rfl
                      have HSZ := Lib.hid hsz
                      clear hown hgrow hi hz0 hz1 hz2 hsz eN eN2
                      obtain ⟨G, hg⟩ : ∃ G, v3.heap.size = G := ⟨_, rfl⟩
                      rw [hg] at S0
                      try rw [hg]
                      have HGG := Lib.hid hg
                      clear hg
                      go_loopg [15, 16, 17, 18, 123] m (fun gk s15 s16 s17 s18 s123 wq => ∃ i : Nat, i + gk = m ∧ s123 = .int .i64 (i : Int) ∧ RowKit.Hid (CoState G N (mulW (fun j => (dgL n d).getD j 0) (fun j => (cyT (d + 1)).getD j 0) q i) v3 wq))
                      case atStart => exact ⟨0, by omega, rfl, Lib.hid S0.out⟩
                      case round =>
                        obtain ⟨i, hi, rfl, HI⟩ := hrel
                        have HII := Lib.hid hi
                        clear S0
                        by_cases hlti : i < m
                        · have l5 : (i : Int) < (m : Int) := by omega
                          have i00 : (0 : Int) ≤ (i : Int) := by omega
                          have HLTI := Lib.hid hlti
                          have hcx : wr.cell? ⟨h, i, none⟩ = some (.int .i64 ((dgL n d).getD i 0)) := CoState.cell (CoState.kept HL1.out HI.out.b) (j := i) (by rw [HDD.out.2]; exact hlti)
                          obtain ⟨x, hx⟩ : ∃ x, (dgL n d).getD i 0 = x := ⟨_, rfl⟩
                          rw [hx] at hcx
                          have HX := Lib.hid hx
                          have J0 := Lib.hid (show CoState G N (rowW (mulW (fun j => (dgL n d).getD j 0) (fun j => (cyT (d + 1)).getD j 0) q i) (fun j => (cyT (d + 1)).getD j 0) x i 0) v3 wr from HI.out.congr (fun t _ => by rw [rowW_zero]))
                          clear hx hi hlti HI
                          go_wp2
                          clear hcx
                          go_loopg [17, 18, 130] q (fun gk s17 s18 s130 wq => ∃ j : Nat, j + gk = q ∧ s130 = .int .i64 (j : Int) ∧ RowKit.Hid (CoState G N (rowW (mulW (fun j => (dgL n d).getD j 0) (fun j => (cyT (d + 1)).getD j 0) q i) (fun j => (cyT (d + 1)).getD j 0) x i j) v3 wq))
                          case atStart => exact ⟨0, by omega, rfl, J0⟩
                          case round =>
                            obtain ⟨j, hj, rfl, HJ⟩ := hrel
                            have HJJ := Lib.hid hj
                            clear J0
                            by_cases hltj : j < q
                            · have l6 : (j : Int) < (q : Int) := by omega
                              have j00 : (0 : Int) ≤ (j : Int) := by omega
                              have HLTJ := Lib.hid hltj
                              have hcy : wr.cell? ⟨h2, j, none⟩ = some (.int .i64 ((cyT (d + 1)).getD j 0)) := CoState.cell (CoState.kept HL2.out HJ.out.b) (j := j) (by rw [HQQ.out]; exact hltj)
                              obtain ⟨y, hy⟩ : ∃ y, (cyT (d + 1)).getD j 0 = y := ⟨_, rfl⟩
                              rw [hy] at hcy
                              obtain ⟨U, hU⟩ : ∃ U, i + j = U := ⟨_, rfl⟩
                              have U1 : U < N := by have := HNN.out; have := HLTI.out; omega
                              have eU : (i : Int) + (j : Int) = (U : Int) := by omega
                              have U00 : (0 : Int) ≤ (U : Int) := by omega
                              have U1' : (U : Int) < (N : Int) := by omega
                              have hcz := HJ.out.cell (j := U) U1
                              have hfz := HJ.out.frozen U
                              have hzz : rowW (mulW (fun j => (dgL n d).getD j 0) (fun j => (cyT (d + 1)).getD j 0) q i) (fun j => (cyT (d + 1)).getD j 0) x i j U = mulW (fun j => (dgL n d).getD j 0) (fun j => (cyT (d + 1)).getD j 0) q i U := by rw [← hU, rowW_at]
                              rw [hzz] at hcz
                              obtain ⟨z, hz⟩ : ∃ z, mulW (fun j => (dgL n d).getD j 0) (fun j => (cyT (d + 1)).getD j 0) q i U = z := ⟨_, rfl⟩
                              rw [hz] at hcz
                              have J2 := Lib.hid (show CoState G N (rowW (mulW (fun j => (dgL n d).getD j 0) (fun j => (cyT (d + 1)).getD j 0) q i) (fun j => (cyT (d + 1)).getD j 0) x i (j + 1)) v3 (wr.setCell ⟨G, U, none⟩ (.int .i64 (wrap64 (z + wrap64 (x * y))))) from
                                (HJ.out.put U _).congr (fun t _ => by rw [rowW_step, hU, hz, hy]))
                              clear hy hU hzz hz hj hltj HJ
                              go_wp2
                              go_roundg (gk - 1)
                              case rel => exact ⟨j + 1, by have := HJJ.out; have := HLTJ.out; omega, by go_num, J2⟩
                              case measure => have := HJJ.out; have := HLTJ.out; omega
                            · have l6 : ¬ (j : Int) < (q : Int) := by omega
                              have hjq : j = q := by omega
                              have J3 := Lib.hid (show CoState G N (mulW (fun j => (dgL n d).getD j 0) (fun j => (cyT (d + 1)).getD j 0) q (i + 1)) v3 wr from
                                HJ.out.congr (fun t _ => by rw [mulW, hjq, ← HX.out]))
                              clear hjq hj HJ hltj
                              go_wp2
                              go_roundg (m - i - 1)
                              case rel => exact ⟨i + 1, by have := HLTI.out; omega, by go_num, J3⟩
                              case measure => have := HII.out; have := HLTI.out; omega
                        · have l5 : ¬ (i : Int) < (m : Int) := by omega
                          have him : i = m := by omega
                          have hps := prL_spec (dgL n d) (cyT (d + 1)) (by rw [HQQ.out]; exact HBQ.out.1)
                          rw [HQQ.out, HDD.out.2, HNN.out] at hps
                          have HF2 := Lib.hid (show Lis G (dgL n (d + 1)) w wr from by
                            rw [HST.out]
                            exact Lis.of ((show CoState G N _ v3 wr from HI.out).rebase HL1.out.b) hps.1 (fun t ht => by rw [him]; exact hps.2 t ht))
                          have HF3 := Lib.hid (show (dgL n (d + 1)).length = N by rw [HST.out]; exact hps.1)
                          clear hps him hi hlti HI
                          go_wp2
                          go_roundg (n - d - 1)
                          case rel => exact ⟨d + 1, G, N, by have := HLT.out; omega, by go_num, rfl, HF3.out, HF2⟩
                          case measure => have := HDD.out.1; have := HLT.out; omega
                    · have hd0 : ¬ (n : Int) % ((d : Int) + 1) = 0 := by rw [show (d : Int) + 1 = ((d + 1 : Nat) : Int) by omega, ← Int.natCast_emod]; omega
                      have hd2 : ((n : Int) % ((d : Int) + 1) != 0) = true := by simpa using hd0
                      have HF2 := Lib.hid (show Lis h (dgL n (d + 1)) w wr from by rw [dgL, if_neg hdv]; exact HL.out)
                      have HF3 := Lib.hid (show (dgL n (d + 1)).length = m by rw [dgL, if_neg hdv]; exact hm)
                      clear hdv hd hm hlt HL
                      go_wp2
                      go_roundg (gk - 1)
                      case rel => exact ⟨d + 1, h, m, by have := HDD.out.1; have := HLT.out; omega, by go_num, rfl, HF3.out, HF2⟩
                      case measure => have := HDD.out.1; have := HLT.out; omega
                  · have l3 : ¬ (d : Int) + 1 ≤ (n : Int) := by omega
                    have hdn : d = n := by omega
                    have hE : dgL n d = cyL n 0 := by rw [hdn]; exact HOK.out.2.2.2.2
                    obtain rfl : m = n + 1 := by rw [← hm, hE, cyL0_len]
                    have HZ := Lib.hid (show Lis h (cyL n 0) w wr by rw [← hE]; exact HL.out)
                    have nw : wrap64 ((n : Int) + 1) = (n : Int) + 1 := IntWalk.wrap64_in _ (by omega)
                    have n00 : (0 : Int) < (n : Int) := by omega
                    have nn0 : ((n : Int) == 0) = false := beq_eq_false_iff_ne.2 (by omega)
                    have nn0' : ((0 : Int) == (n : Int)) = false := beq_eq_false_iff_ne.2 (by omega)
                    clear hdn hE hd hm hlt HL HDD dw
                    go_wp2
                    clear l3 nw
                    go_loopg [19, 20, 156] (n + 1) (fun gk s19 s20 s156 wq => ∃ i : Nat, i + gk = n + 1 ∧ s156 = .int .i64 (i : Int) ∧ RowKit.Hid (Lis h (cyL n 0) w wq))
                    case atStart => exact ⟨0, by omega, rfl, HZ⟩
                    case round =>
                      obtain ⟨i, hi, rfl, HI⟩ := hrel
                      have HII := Lib.hid hi
                      clear HZ
                      by_cases hlti : i < n + 1
                      · have l5 : (i : Int) < (n : Int) + 1 := by omega
                        have i00 : (0 : Int) ≤ (i : Int) := by omega
                        have HLTI := Lib.hid hlti
                        have hcx : wr.cell? ⟨h, i, none⟩ = some (.int .i64 ((cyL n 0).getD i 0)) := CoState.cell HI.out (j := i) (by rw [cyL0_len]; exact hlti)
                        rw [← cyL0_at n i hlti n1] at hcx
                        by_cases i_n : i = n
                        · obtain rfl : i = n := i_n
                          rw [if_pos rfl] at hcx
                          clear hi hlti
                          go_wp2
                          go_roundg (gk - 1)
                          case rel => exact ⟨i + 1, by have := HII.out; have := HLTI.out; omega, by go_num, HI⟩
                          case measure => have := HII.out; have := HLTI.out; omega
                        · rw [if_neg i_n] at hcx
                          have b1 : ((i : Int) == (n : Int)) = false := beq_eq_false_iff_ne.2 (by omega)
                          have b2 : (i : Int) < (n : Int) := by omega
                          by_cases i0' : i = 0
                          · rw [if_pos i0'] at hcx
                            obtain rfl : i = 0 := i0'
                            clear hi hlti i_n
                            go_wp2
                            go_roundg (gk - 1)
                            case rel => exact ⟨1, by have := HII.out; omega, by go_num, HI⟩
                            case measure => have := HII.out; omega
                          · rw [if_neg i0'] at hcx
                            have b3 : ((i : Int) == 0) = false := beq_eq_false_iff_ne.2 (by omega)
                            have b4 : (0 : Int) < (i : Int) := by omega
                            clear hi hlti i_n i0'
                            go_wp2
                            go_roundg (gk - 1)
                            case rel => exact ⟨i + 1, by have := HII.out; have := HLTI.out; omega, by go_num, HI⟩
                            case measure => have := HII.out; have := HLTI.out; omega
                      · have l5 : ¬ (i : Int) < (n : Int) + 1 := by omega
                        have HB9 := Lib.hid HI.out.b
                        clear hi hlti HI
                        go_wp2_with fail
                        refine (HA.out _).mono ?_
                        rintro e v9 ⟨rfl, hb⟩
                        have HB8 := Lib.hid (HB9.out.trans (hb.mono HB9.out.size))
                        clear hb HB9
                        go_wp2
                        go_ret
                        exact ⟨rfl, HB8.out⟩

              · have q1 : ¬ (1 : Int) < (m : Int) := by omega
                obtain rfl : s = (p : Int) := by
                  rw [HSP.out]
                  unfold pOf
                  rw [if_neg (by omega), if_neg (by rw [← HPP.out, ← HMV.out]; exact hm1), ← HPP.out]
                clear HPP HMV HSP hm1
                obtain rfl : K = F + 1 := hlen
                have lF0 : (0 : Int) ≤ (F : Int) := by omega
                have lF1 : (F : Int) < (F : Int) + 1 := by omega
                have HFN := Lib.hid p1
                go_wp2_with fail
                refine (HP.out _).mono ?_
                rintro e v2 ⟨rfl, hb⟩
                have HR2 := Lib.hid (show Lis g (cyT n) w v2 from CoState.kept HR.out hb)
                have hcF : v2.cell? ⟨g, F, none⟩ = some (.int .i64 1) := by
                  have := CoState.cell HR2.out (j := F) (by rw [HK.out]; omega)
                  rw [this]
                  have h1 := HOK.out.2.1
                  rw [HF.out] at h1
                  exact congrArg (fun x => some (Value.int .i64 x)) h1
                have HG0 := Lib.hid (show Lis v2.heap.size (dgL n 0) w (v2.alloc (.cells #[.int .i64 1] 3)) from
                  CoState.of (HR2.out.b.alloc HR2.out.b.size _) HR2.out.b.size (by show 1 ≤ maxLen; unfold maxLen; omega) (heap_alloc_last v2 _))
                clear hb HR
                go_wp2
                clear hcF lF0 lF1
                go_loopg [10, 11, 12, 13, 14, 15, 16, 17, 18] n (fun gk s10 s11 s12 s13 s14 s15 s16 s17 s18 wq => ∃ d h m : Nat, d + gk = n ∧ s11 = .int .i64 ((d : Int) + 1) ∧ s10 = .slice (some ⟨h, 0, none⟩) m m ∧ (dgL n d).length = m ∧ RowKit.Hid (Lis h (dgL n d) w wq))
                case atStart => exact ⟨0, v2.heap.size, 1, by omega, rfl, rfl, rfl, HG0⟩
                case round =>
                  obtain ⟨d, h, m, hd, rfl, rfl, hm, HL⟩ := hrel
                  have HDD := Lib.hid (And.intro hd hm)
                  clear HG0 HR2 HP
                  have dw : wrap64 ((d : Int) + 1 + 1) = (d : Int) + 1 + 1 := IntWalk.wrap64_in _ (by omega)
                  by_cases hlt : d < n
                  · have l3 : (d : Int) + 1 ≤ (n : Int) := by omega
                    have dne : ¬ (d : Int) + 1 = 0 := by omega
                    have HLT := Lib.hid hlt
                    by_cases hdv : n % (d + 1) = 0
                    · have hd0 : (n : Int) % ((d : Int) + 1) = 0 := by rw [show (d : Int) + 1 = ((d + 1 : Nat) : Int) by omega, ← Int.natCast_emod, hdv]; rfl
                      obtain ⟨b1, b2, b3, b4⟩ := HOK.out.2.2.2.1 (d + 1) (by omega) (by omega) hdv
                      rw [Nat.add_sub_cancel, hm] at b3 b4
                      have hC := HD.out (d + 1) (by omega) (by omega)
                      rw [show ((d + 1 : Nat) : Int) = (d : Int) + 1 by omega] at hC
                      obtain ⟨q, hq⟩ : ∃ q, (cyT (d + 1)).length = q := ⟨_, rfl⟩
                      rw [hq] at hC b1 b2
                      have HC2 := Lib.hid hC
                      have HQQ := Lib.hid hq
                      have hstep : dgL n (d + 1) = prL (dgL n d) (cyT (d + 1)) := by rw [dgL, if_pos hdv]
                      have HST := Lib.hid hstep
                      clear hC hq hstep hdv hd hm hlt
                      go_wp2_with fail
                      refine (HC2.out _).mono ?_
                      rintro e v3 ⟨⟨h2, rfl, hl⟩, hb⟩
                      have HL1 := Lib.hid (show Lis h (dgL n d) w v3 from CoState.kept HL.out hb)
                      have HL2 := Lib.hid (show Lis h2 (cyT (d + 1)) w v3 from CoState.rebase hl HL.out.b)
                      clear hl hb HL HC2
                      obtain ⟨i0, hi, hz0, hz1, hz2⟩ := info_parts info3
                      obtain ⟨N, hN⟩ : ∃ N, m + q - 1 = N := ⟨_, rfl⟩
                      have HNN := Lib.hid hN
                      have eN : (m : Int) + (q : Int) - 1 = (N : Int) := by omega
                      have eN2 : (m : Int) + (q : Int) = (N : Int) + 1 := by omega
                      have N121 : N ≤ 121 := by omega
                      have N0 : (0 : Int) ≤ (N : Int) := by omega
                      have HBQ := Lib.hid (And.intro b1 (And.intro b2 (And.intro b3 b4)))
                      clear hN b1 b3
                      go_wp2_with (at_make; refine wpList_make_full _ rfl _ _ 22 rfl v3.heap.size 3 i0 (.int .i64 0) 1 Try.underlying22 hi hz0 hz1 _ _ _ _ N rfl rfl (by omega) (by omega) (by rw [hz2]; omega) (by unfold maxLen; omega) (Nat.le_refl _) ?_; intro w1 hown hgrow)
                      have S0 := Lib.hid (CoState.made hown ((Below.refl v3.heap.size v3).grown hgrow (Nat.le_refl _) (fun k e => by cases e)))
                      have hsz := S0.out.own.lt v3.heap.size rfl
                      have HSZ := Lib.hid hsz
                      clear hown hgrow hi hz0 hz1 hz2 hsz eN eN2
                      obtain ⟨G, hg⟩ : ∃ G, v3.heap.size = G := ⟨_, rfl⟩
                      rw [hg] at S0
                      try rw [hg]
                      have HGG := Lib.hid hg
                      clear hg
                      go_loopg [15, 16, 17, 18, 123] m (fun gk s15 s16 s17 s18 s123 wq => ∃ i : Nat, i + gk = m ∧ s123 = .int .i64 (i : Int) ∧ RowKit.Hid (CoState G N (mulW (fun j => (dgL n d).getD j 0) (fun j => (cyT (d + 1)).getD j 0) q i) v3 wq))
                      case atStart => exact ⟨0, by omega, rfl, Lib.hid S0.out⟩
                      case round =>
                        obtain ⟨i, hi, rfl, HI⟩ := hrel
                        have HII := Lib.hid hi
                        clear S0
                        by_cases hlti : i < m
                        · have l5 : (i : Int) < (m : Int) := by omega
                          have i00 : (0 : Int) ≤ (i : Int) := by omega
                          have HLTI := Lib.hid hlti
                          have hcx : wr.cell? ⟨h, i, none⟩ = some (.int .i64 ((dgL n d).getD i 0)) := CoState.cell (CoState.kept HL1.out HI.out.b) (j := i) (by rw [HDD.out.2]; exact hlti)
                          obtain ⟨x, hx⟩ : ∃ x, (dgL n d).getD i 0 = x := ⟨_, rfl⟩
                          rw [hx] at hcx
                          have HX := Lib.hid hx
                          have J0 := Lib.hid (show CoState G N (rowW (mulW (fun j => (dgL n d).getD j 0) (fun j => (cyT (d + 1)).getD j 0) q i) (fun j => (cyT (d + 1)).getD j 0) x i 0) v3 wr from HI.out.congr (fun t _ => by rw [rowW_zero]))
                          clear hx hi hlti HI
                          go_wp2
                          clear hcx
                          go_loopg [17, 18, 130] q (fun gk s17 s18 s130 wq => ∃ j : Nat, j + gk = q ∧ s130 = .int .i64 (j : Int) ∧ RowKit.Hid (CoState G N (rowW (mulW (fun j => (dgL n d).getD j 0) (fun j => (cyT (d + 1)).getD j 0) q i) (fun j => (cyT (d + 1)).getD j 0) x i j) v3 wq))
                          case atStart => exact ⟨0, by omega, rfl, J0⟩
                          case round =>
                            obtain ⟨j, hj, rfl, HJ⟩ := hrel
                            have HJJ := Lib.hid hj
                            clear J0
                            by_cases hltj : j < q
                            · have l6 : (j : Int) < (q : Int) := by omega
                              have j00 : (0 : Int) ≤ (j : Int) := by omega
                              have HLTJ := Lib.hid hltj
                              have hcy : wr.cell? ⟨h2, j, none⟩ = some (.int .i64 ((cyT (d + 1)).getD j 0)) := CoState.cell (CoState.kept HL2.out HJ.out.b) (j := j) (by rw [HQQ.out]; exact hltj)
                              obtain ⟨y, hy⟩ : ∃ y, (cyT (d + 1)).getD j 0 = y := ⟨_, rfl⟩
                              rw [hy] at hcy
                              obtain ⟨U, hU⟩ : ∃ U, i + j = U := ⟨_, rfl⟩
                              have U1 : U < N := by have := HNN.out; have := HLTI.out; omega
                              have eU : (i : Int) + (j : Int) = (U : Int) := by omega
                              have U00 : (0 : Int) ≤ (U : Int) := by omega
                              have U1' : (U : Int) < (N : Int) := by omega
                              have hcz := HJ.out.cell (j := U) U1
                              have hfz := HJ.out.frozen U
                              have hzz : rowW (mulW (fun j => (dgL n d).getD j 0) (fun j => (cyT (d + 1)).getD j 0) q i) (fun j => (cyT (d + 1)).getD j 0) x i j U = mulW (fun j => (dgL n d).getD j 0) (fun j => (cyT (d + 1)).getD j 0) q i U := by rw [← hU, rowW_at]
                              rw [hzz] at hcz
                              obtain ⟨z, hz⟩ : ∃ z, mulW (fun j => (dgL n d).getD j 0) (fun j => (cyT (d + 1)).getD j 0) q i U = z := ⟨_, rfl⟩
                              rw [hz] at hcz
                              have J2 := Lib.hid (show CoState G N (rowW (mulW (fun j => (dgL n d).getD j 0) (fun j => (cyT (d + 1)).getD j 0) q i) (fun j => (cyT (d + 1)).getD j 0) x i (j + 1)) v3 (wr.setCell ⟨G, U, none⟩ (.int .i64 (wrap64 (z + wrap64 (x * y))))) from
                                (HJ.out.put U _).congr (fun t _ => by rw [rowW_step, hU, hz, hy]))
                              clear hy hU hzz hz hj hltj HJ
                              go_wp2
                              go_roundg (gk - 1)
                              case rel => exact ⟨j + 1, by have := HJJ.out; have := HLTJ.out; omega, by go_num, J2⟩
                              case measure => have := HJJ.out; have := HLTJ.out; omega
                            · have l6 : ¬ (j : Int) < (q : Int) := by omega
                              have hjq : j = q := by omega
                              have J3 := Lib.hid (show CoState G N (mulW (fun j => (dgL n d).getD j 0) (fun j => (cyT (d + 1)).getD j 0) q (i + 1)) v3 wr from
                                HJ.out.congr (fun t _ => by rw [mulW, hjq, ← HX.out]))
                              clear hjq hj HJ hltj
                              go_wp2
                              go_roundg (m - i - 1)
                              case rel => exact ⟨i + 1, by have := HLTI.out; omega, by go_num, J3⟩
                              case measure => have := HII.out; have := HLTI.out; omega
                        · have l5 : ¬ (i : Int) < (m : Int) := by omega
                          have him : i = m := by omega
                          have hps := prL_spec (dgL n d) (cyT (d + 1)) (by rw [HQQ.out]; exact HBQ.out.1)
                          rw [HQQ.out, HDD.out.2, HNN.out] at hps
                          have HF2 := Lib.hid (show Lis G (dgL n (d + 1)) w wr from by
                            rw [HST.out]
                            exact Lis.of ((show CoState G N _ v3 wr from HI.out).rebase HL1.out.b) hps.1 (fun t ht => by rw [him]; exact hps.2 t ht))
                          have HF3 := Lib.hid (show (dgL n (d + 1)).length = N by rw [HST.out]; exact hps.1)
                          clear hps him hi hlti HI
                          go_wp2
                          go_roundg (n - d - 1)
                          case rel => exact ⟨d + 1, G, N, by have := HLT.out; omega, by go_num, rfl, HF3.out, HF2⟩
                          case measure => have := HDD.out.1; have := HLT.out; omega
                    · have hd0 : ¬ (n : Int) % ((d : Int) + 1) = 0 := by rw [show (d : Int) + 1 = ((d + 1 : Nat) : Int) by omega, ← Int.natCast_emod]; omega
                      have hd2 : ((n : Int) % ((d : Int) + 1) != 0) = true := by simpa using hd0
                      have HF2 := Lib.hid (show Lis h (dgL n (d + 1)) w wr from by rw [dgL, if_neg hdv]; exact HL.out)
                      have HF3 := Lib.hid (show (dgL n (d + 1)).length = m by rw [dgL, if_neg hdv]; exact hm)
                      clear hdv hd hm hlt HL
                      go_wp2
                      go_roundg (gk - 1)
                      case rel => exact ⟨d + 1, h, m, by have := HDD.out.1; have := HLT.out; omega, by go_num, rfl, HF3.out, HF2⟩
                      case measure => have := HDD.out.1; have := HLT.out; omega
                  · have l3 : ¬ (d : Int) + 1 ≤ (n : Int) := by omega
                    have hdn : d = n := by omega
                    have hE : dgL n d = cyL n 0 := by rw [hdn]; exact HOK.out.2.2.2.2
                    obtain rfl : m = n + 1 := by rw [← hm, hE, cyL0_len]
                    have HZ := Lib.hid (show Lis h (cyL n 0) w wr by rw [← hE]; exact HL.out)
                    have nw : wrap64 ((n : Int) + 1) = (n : Int) + 1 := IntWalk.wrap64_in _ (by omega)
                    have n00 : (0 : Int) < (n : Int) := by omega
                    have nn0 : ((n : Int) == 0) = false := beq_eq_false_iff_ne.2 (by omega)
                    have nn0' : ((0 : Int) == (n : Int)) = false := beq_eq_false_iff_ne.2 (by omega)
                    clear hdn hE hd hm hlt HL HDD dw
                    go_wp2
                    clear l3 nw
                    go_loopg [19, 20, 156] (n + 1) (fun gk s19 s20 s156 wq => ∃ i : Nat, i + gk = n + 1 ∧ s156 = .int .i64 (i : Int) ∧ RowKit.Hid (Lis h (cyL n 0) w wq))
                    case atStart => exact ⟨0, by omega, rfl, HZ⟩
                    case round =>
                      obtain ⟨i, hi, rfl, HI⟩ := hrel
                      have HII := Lib.hid hi
                      clear HZ
                      by_cases hlti : i < n + 1
                      · have l5 : (i : Int) < (n : Int) + 1 := by omega
                        have i00 : (0 : Int) ≤ (i : Int) := by omega
                        have HLTI := Lib.hid hlti
                        have hcx : wr.cell? ⟨h, i, none⟩ = some (.int .i64 ((cyL n 0).getD i 0)) := CoState.cell HI.out (j := i) (by rw [cyL0_len]; exact hlti)
                        rw [← cyL0_at n i hlti n1] at hcx
                        by_cases i_n : i = n
                        · obtain rfl : i = n := i_n
                          rw [if_pos rfl] at hcx
                          clear hi hlti
                          go_wp2
                          go_roundg (gk - 1)
                          case rel => exact ⟨i + 1, by have := HII.out; have := HLTI.out; omega, by go_num, HI⟩
                          case measure => have := HII.out; have := HLTI.out; omega
                        · rw [if_neg i_n] at hcx
                          have b1 : ((i : Int) == (n : Int)) = false := beq_eq_false_iff_ne.2 (by omega)
                          have b2 : (i : Int) < (n : Int) := by omega
                          by_cases i0' : i = 0
                          · rw [if_pos i0'] at hcx
                            obtain rfl : i = 0 := i0'
                            clear hi hlti i_n
                            go_wp2
                            go_roundg (gk - 1)
                            case rel => exact ⟨1, by have := HII.out; omega, by go_num, HI⟩
                            case measure => have := HII.out; omega
                          · rw [if_neg i0'] at hcx
                            have b3 : ((i : Int) == 0) = false := beq_eq_false_iff_ne.2 (by omega)
                            have b4 : (0 : Int) < (i : Int) := by omega
                            clear hi hlti i_n i0'
                            go_wp2
                            go_roundg (gk - 1)
                            case rel => exact ⟨i + 1, by have := HII.out; have := HLTI.out; omega, by go_num, HI⟩
                            case measure => have := HII.out; have := HLTI.out; omega
                      · have l5 : ¬ (i : Int) < (n : Int) + 1 := by omega
                        have HB9 := Lib.hid HI.out.b
                        clear hi hlti HI
                        go_wp2_with fail
                        refine (HA.out _).mono ?_
                        rintro e v9 ⟨rfl, hb⟩
                        have HB8 := Lib.hid (HB9.out.trans (hb.mono HB9.out.size))
                        clear hb HB9
                        go_wp2
                        go_ret
                        exact ⟨rfl, HB8.out⟩

end Go.Proofs.Ytopfcppmbkidgaa
