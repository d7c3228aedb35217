/- The walk of the law LatticeDuality. Condition: the table and the vector lie in memory. -/
import Derived.Test.YtgfenponlkmfmaaDual
import Derived.Test.YtgfenponlkmfmaaLawHas
namespace Go.Proofs.Ytgfenponlkmfmaa
open Go.RowKit
attribute [local go_sem] Oper.semAt_some

theorem dual_tab {n : Nat} {L : List (List Int)} (B : Bas n L) : tabB (matL n n (cof n (ent L))) 100000 = true := by
  refine tabB_spec.2 ⟨fun i hi => ?_, by rw [matL_len]; exact B.n1, by rw [matL_len]; exact B.n4⟩
  rw [matL_len] at hi ⊢
  refine inB_spec.2 ⟨by rw [matL_row hi]; simp, fun j hj => ?_⟩
  have h := matL_ent (Z := cof n (ent L)) hi hj
  have := cof_small B.n1 B.n4 hi hj B.small
  show -100000 ≤ ent (matL n n (cof n (ent L))) i j ∧ ent (matL n n (cof n (ent L))) i j ≤ 100000
  rw [h]
  omega
theorem dual_dot {n i j : Nat} {L : List (List Int)} (B : Bas n L) (hi : i < n) (hj : j < n) : dot n (nt (row L i)) (nt (row (matL n n (cof n (ent L))) j)) = if i = j then det n (ent L) else 0 := by
  have h := cof_row (i := j) (j := i) B.n1 B.n4 hj hi (ent L)
  have e : dot n (nt (row L i)) (nt (row (matL n n (cof n (ent L))) j)) = dot n (ent L i) (cof n (ent L) j) := sm_congr n fun k hk => by
    rw [← ent_nt, ← ent_nt, matL_ent hj hk]
  rw [e, h]
  by_cases hij : i = j
  · simp [hij]
  · simp [hij, show ¬ j = i from fun e => hij e.symm]
theorem dual_nu {n j : Nat} {L : List (List Int)} {v : List Int} (B : Bas n L) (hj : j < n) : dot n (nt v) (nt (row (matL n n (cof n (ent L))) j)) = nu n L v j := by
  unfold nu
  rw [← cof_sum n j B.n1 B.n4 hj]
  refine sm_congr n fun k hk => ?_
  rw [← ent_nt, matL_ent hj hk]
/-- What the law's whole says. -/
def WhB (b : Bool) (N : Nat → Int) (D : Int) (j : Nat) : Prop := b = true ↔ ∀ q, q < j → (N q).tmod D = 0
theorem exact_mul {x d : Int} (h : x.tmod d = 0) : x.tdiv d * d = x := by
  have := Int.mul_tdiv_add_tmod x d
  rw [h, Int.mul_comm] at this
  omega

set_option maxHeartbeats 4000000 in
set_option maxRecDepth 100000 in
theorem LawDua_any (a : Option Addr) (n c : Nat) (L : List (List Int)) (av : Option Addr) (m cv : Nat) (v : List Int) (W : World) (h : Tab W a n L) (hn : n ≤ 4611686018427387904) (hv : Ints W av m v) (hm : m ≤ 4611686018427387904) (hcv : m ≤ cv) (hcm : cv ≤ maxLen) :
    Calls Try.prog 17 #[.slice a n c, .slice av m cv] W fun e w' => e = .returned (.bool true) ∧ Below W.heap.size W w' := by
  have HT := Lib.hid (fun W' (hb : Below W.heap.size W W') => table2_any a n c L W' (h.below hb) hn)
  have HLI := Lib.hid (fun W' (hb : Below W.heap.size W W') => list3_any av m cv v W' (hv.below hb) hcv hcm)
  have H := Lib.hid h
  have HV := Lib.hid hv
  have HVR := Lib.hid (fun W' (hb : Below W.heap.size W W') => validR_any a n c L W' (h.below hb) hn)
  obtain ⟨t1, t2⟩ := tcut_small L
  have hk : (v.take 6).length ≤ 6 := by rw [List.length_take]; omega
  cases hA : isBasis L with
  | false =>
    have hA2 : isBasis (tcut L) = false := by rw [basis_cut]; exact hA
    obtain ⟨T, hT⟩ : ∃ T, tcut L = T := ⟨_, rfl⟩
    obtain ⟨tn, htn⟩ : ∃ tn, T.length = tn := ⟨_, rfl⟩
    rw [hT] at HT t1 t2 hA2
    rw [htn] at HT t1 t2
    have HD := Lib.hid (fun W' a' c' (ht : Tab W' a' tn T) => Dual_no a' tn c' T W' ht (by omega) (fun i hi => by have := t2 i hi; omega) hA2)
    have HE := Lib.hid (fun W' a' c' (ht : Tab W' a' tn T) => Det_no a' tn c' T W' ht (by omega) (fun i hi => by have := t2 i hi; omega) hA2)
    clear h hv t1 t2 hk hT htn hA2 hA HLI HVR
    go_enter Try.func17, Try.ntmps17
    go_wp2_with fail
    refine (HT.out _ (Below.refl _ _)).mono ?_
    rintro e w1 ⟨a1, c1, rfl, htab1, hb1⟩
    have HC2 := Lib.hid (HD.out w1 a1 c1 htab1)
    have HB1 := Lib.hid hb1
    clear htab1 hb1
    go_wp2_with fail
    refine HC2.out.mono ?_
    rintro e w2 ⟨rfl, hw2⟩
    subst hw2
    go_wp2_with fail
    refine (HT.out _ HB1.out).mono ?_
    rintro e w3 ⟨a3, c3, rfl, htab3, hb3⟩
    have HC4 := Lib.hid (HE.out w3 a3 c3 htab3)
    have HB3 := Lib.hid (HB1.out.trans (hb3.mono HB1.out.size))
    clear htab3 hb3
    go_wp2_with fail
    refine HC4.out.mono ?_
    rintro e w4 ⟨rfl, hw4⟩
    subst hw4
    have HAW := Lib.hid (awake_any w4)
    go_wp2_with fail
    refine HAW.out.mono ?_
    rintro e w8 ⟨rfl, hb8⟩
    go_wp2
    go_ret
    exact ⟨rfl, HB3.out.trans (hb8.mono HB3.out.size)⟩
  | true =>
    have B := bas_of h.1 hA
    have hL6 := basis_same hA
    rw [hL6, h.1] at HT
    rw [hA] at HVR
    have HDU := Lib.hid (fun W' a' c' (ht : Tab W' a' n L) => Dual_yes a' n c' L W' ht hA)
    have HDE := Lib.hid (fun W' a' c' (ht : Tab W' a' n L) => Det_yes a' n c' L W' ht hA)
    have HTB := Lib.hid (fun W' G (ht : Tab W' (some ⟨G, 0, none⟩) n (matL n n (cof n (ent L)))) => tableR_any (some ⟨G, 0, none⟩) n n _ 100000 W' ht hn (by omega) (by omega))
    rw [dual_tab B] at HTB
    have hn4 := B.n4
    have hn1 := B.n1
    have hD0 := B.det0
    have HBAS := Lib.hid B
    have hdb : -10000000 ≤ det n (ent L) ∧ det n (ent L) ≤ 10000000 := by
      have := (det_small (isBasis_spec.1 hA).1 h.1).1
      omega
    have HDOT := Lib.hid (fun (W' : World) (ar aj : Option Addr) (cr cj i j : Nat) (hi : i < n) (hj : j < n) (h1 : Ints W' ar n (row L i)) (h2 : Ints W' aj n (row (matL n n (cof n (ent L))) j)) => (by
      have := dotR_any ar aj n cr n cj _ _ W' h1 h2 (Nat.le_refl _) (by omega)
      rw [dual_dot HBAS.out hi hj, IntWalk.wrap64_in (if i = j then det n (ent L) else 0) (by split <;> omega)] at this
      exact this : Calls Try.prog 53 #[.slice ar n cr, .slice aj n cj] W' fun e w' => e = .returned (.int .i64 (if i = j then det n (ent L) else 0)) ∧ w' = W'))
    have hrl : ∀ i, i < n → (row (matL n n (cof n (ent L))) i).length = n := fun i hi => by rw [matL_row hi]; simp
    obtain ⟨D, hDD⟩ : ∃ D, det n (ent L) = D := ⟨_, rfl⟩
    obtain ⟨M, hMM⟩ : ∃ M, matL n n (cof n (ent L)) = M := ⟨_, rfl⟩
    rw [hDD] at HDE HDOT hD0 hdb
    rw [hMM] at HDU HTB HDOT hrl
    have HDD := Lib.hid hDD
    have HMM := Lib.hid hMM
    have HRL := Lib.hid hrl
    have hDb : (D == 0) = false := by simpa using hD0
    have hnb : ((n : Int) != (n : Int)) = false := by simp
    have HYES := Lib.hid hA
    clear h hv B hL6 t1 t2 hrl hDD hMM hA
    go_enter Try.func17, Try.ntmps17
    go_wp2_with fail
    refine (HT.out _ (Below.refl _ _)).mono ?_
    rintro e w1 ⟨a1, c1, rfl, htab1, hb1⟩
    have HC2 := Lib.hid (HDU.out w1 a1 c1 htab1)
    have HB1 := Lib.hid hb1
    clear htab1 hb1
    go_wp2_with fail
    refine HC2.out.mono ?_
    rintro e w2 ⟨G, rfl, htabG, hb2⟩
    have HTG := Lib.hid htabG
    have HB2 := Lib.hid (HB1.out.trans (hb2.mono HB1.out.size))
    clear htabG hb2
    go_wp2_with fail
    refine (HT.out _ HB2.out).mono ?_
    rintro e w3 ⟨a3, c3, rfl, htab3, hb3⟩
    have HC4 := Lib.hid (HDE.out w3 a3 c3 htab3)
    have HB3 := Lib.hid (HB2.out.trans (hb3.mono HB2.out.size))
    have HTG3 := Lib.hid (HTG.out.below hb3)
    clear htab3 hb3
    go_wp2_with fail
    refine HC4.out.mono ?_
    rintro e w4 ⟨rfl, hw4⟩
    subst hw4
    have HC5 := Lib.hid (HVR.out w4 HB3.out)
    go_wp2_with fail
    refine HC5.out.mono ?_
    rintro e w5 ⟨rfl, hb5⟩
    have HB5 := Lib.hid (HB3.out.trans (hb5.mono HB3.out.size))
    have HTG5 := Lib.hid (HTG3.out.below hb5)
    have HC6 := Lib.hid (HTB.out w5 G HTG5.out)
    clear hb5
    go_wp2_with fail
    refine HC6.out.mono ?_
    rintro e w6 ⟨rfl, hw6⟩
    subst hw6
    have H5 := Lib.hid (H.out.below HB5.out)
    go_wp2
    go_loopg [68] n (fun gk s68 wr => ∃ i : Nat, i + gk = n ∧ s68 = .int .i64 (i : Int) ∧ wr = w6)
    case atStart => exact ⟨0, by omega, rfl, rfl⟩
    case round =>
      obtain ⟨i, hig, rfl, hwr⟩ := hrel
      subst hwr
      have HK := Lib.hid hig
      by_cases hin : i < n
      · have l1 : (i : Int) < (n : Int) := by omega
        have i0 : (0 : Int) ≤ (i : Int) := by omega
        obtain ⟨b, off, ai, ci, rfl, hbl, hcell, hlie⟩ := H5.out.at hin
        have hsq := HBAS.out.sq i hin
        have hli := hlie.ints
        rw [hsq] at hcell hli
        have HLR := Lib.hid hli
        obtain ⟨W6, rfl⟩ : ∃ W6, W6 = wr := ⟨_, rfl⟩
        clear hig hlie hli hsq
        go_wp2
        go_loopg [75] n (fun gk s75 wr => ∃ j : Nat, j + gk = n ∧ s75 = .int .i64 (j : Int) ∧ wr = W6)
        case atStart => exact ⟨0, by omega, rfl, rfl⟩
        case round =>
          obtain ⟨j, hjg, rfl, hwr⟩ := hrel
          subst hwr
          have HJ := Lib.hid hjg
          by_cases hjn : j < n
          · have l2 : (j : Int) < (n : Int) := by omega
            have j0 : (0 : Int) ≤ (j : Int) := by omega
            obtain ⟨b2, off2, aj, cj, e2, hbl2, hcell2, hlie2⟩ := HTG5.out.at hjn
            cases e2
            have hli2 := hlie2.ints
            rw [HRL.out j hjn] at hcell2 hli2
            rw [Nat.zero_add] at hcell2
            have hd := HDOT.out wr ai aj ci cj i j hin hjn HLR.out hli2
            clear hjg hlie2 hli2
            by_cases hij : i = j
            · subst hij
              rw [if_pos rfl] at hd
              have HD1 := Lib.hid hd
              clear hd
              go_wp2_with fail
              refine HD1.out.mono ?_
              rintro e w7 ⟨rfl, hw7⟩
              subst hw7
              go_wp2
              go_roundg (gk - 1)
              case rel => exact ⟨i + 1, by have := HJ.out; omega, by go_num, rfl⟩
              case measure => have := HJ.out; omega
            · rw [if_neg hij] at hd
              have hij2 : ¬ (i : Int) = (j : Int) := by omega
              have HD1 := Lib.hid hd
              clear hd
              go_wp2_with fail
              refine HD1.out.mono ?_
              rintro e w7 ⟨rfl, hw7⟩
              subst hw7
              go_wp2
              go_roundg (gk - 1)
              case rel => exact ⟨j + 1, by have := HJ.out; omega, by go_num, rfl⟩
              case measure => have := HJ.out; omega
          · have l2 : ¬ (j : Int) < (n : Int) := by omega
            clear hjg hjn
            go_wp2
            go_roundg (n - i - 1)
            case rel => exact ⟨i + 1, by have := HK.out; omega, by go_num, rfl⟩
            case measure => have := HK.out; omega
      · have l1 : ¬ (i : Int) < (n : Int) := by omega
        clear hig hin
        go_wp2_with fail
        refine (HT.out _ HB5.out).mono ?_
        rintro e w7 ⟨a7, c7, rfl, htab7, hb7⟩
        have HB7 := Lib.hid (HB5.out.trans (hb7.mono HB5.out.size))
        have HT7 := Lib.hid htab7
        have HTG7 := Lib.hid (HTG5.out.below hb7)
        clear htab7 hb7
        go_wp2_with fail
        refine (HLI.out _ HB7.out).mono ?_
        rintro e w8 ⟨a8, c8, rfl, hl8, hb8⟩
        have HB8 := Lib.hid (HB7.out.trans (hb8.mono HB7.out.size))
        have HT8 := Lib.hid (HT7.out.below hb8)
        have HTG8 := Lib.hid (HTG7.out.below hb8)
        have HL8 := Lib.hid hl8
        clear hl8 hb8
        obtain ⟨vn, hvn⟩ : ∃ vn, (v.take 6).length = vn := ⟨_, rfl⟩
        rw [hvn] at hk ⊢
        cases hP : inB v n 10000 with
        | false =>
          have HC9 := Lib.hid (Has_no a7 n c7 L a8 vn c8 (v.take 6) w8 HT8.out (by omega) (fun r hr => by rw [HBAS.out.sq r hr]; omega) (by rw [← hvn]; exact HL8.out.ints) (by omega) (by rw [inB_cut hn4, hP]; intro hh; cases hh.2))
          clear hP hvn
          go_wp2_with fail
          refine HC9.out.mono ?_
          rintro e w9 ⟨rfl, hw9⟩
          subst hw9
          have HAW := Lib.hid (awake_any w9)
          go_wp2_with fail
          refine HAW.out.mono ?_
          rintro e w10 ⟨rfl, hb10⟩
          go_wp2
          go_ret
          exact ⟨rfl, HB8.out.trans (hb10.mono HB8.out.size)⟩
        | true =>
          obtain ⟨hvl, hvb⟩ := inB_abs hP (M := 10000) rfl
          have hmn : m = n := by rw [← HV.out.1]; exact hvl
          subst hmn
          have hv6 : v.take 6 = v := List.take_of_length_le (by omega)
          rw [hv6, hvl] at hvn
          subst hvn
          have HC9 := Has_yes a7 m c7 L a8 m c8 v w8 HT8.out (by omega) (fun r hr => by rw [HBAS.out.sq r hr]; omega) (by have := HL8.out.ints; rw [hv6, hvl] at this; exact this) (by omega) (by have := HL8.out.le; rw [hv6, hvl] at this; exact this) HL8.out.max HYES.out hP
          unfold HasR at HC9
          have HND := Lib.hid (fun (W' : World) (hb : Below W.heap.size W W') (aj : Option Addr) (cj j : Nat) (hj : j < m) (h2 : Ints W' aj m (row M j)) => (by
            have := dotR_any av aj m cv m cj _ _ W' (HV.out.below hb) h2 (Nat.le_refl _) (by omega)
            rw [← HMM.out, dual_nu HBAS.out hj, IntWalk.wrap64_in (nu m L v j) (by have := nu_small (L := L) (v := v) (i := j) hn4 (fun r c hr hc => by have := HBAS.out.small r c hr hc; omega) hvb; omega)] at this
            exact this : Calls Try.prog 53 #[.slice av m cv, .slice aj m cj] W' fun e w' => e = .returned (.int .i64 (nu m L v j)) ∧ w' = W'))
          have HNB := Lib.hid (fun j => (by have := nu_small (L := L) (v := v) (i := j) hn4 (fun r c hr hc => by have := HBAS.out.small r c hr hc; omega) hvb; omega : -240000000000000000 ≤ nu m L v j ∧ nu m L v j ≤ 240000000000000000))
          rw [HDD.out] at HC9
          obtain ⟨N, hN⟩ : ∃ N : Nat → Int, nu m L v = N := ⟨_, rfl⟩
          rw [hN] at HC9 HND HNB
          have HC10 := Lib.hid HC9
          clear HC9 hN hP hvl hvb hv6
          go_wp2_with fail
          refine HC10.out.mono ?_
          rintro e w9 ⟨⟨hall, vv, rfl, hrow⟩ | ⟨hall, rfl⟩, hb9⟩
          · have HALL := Lib.hid hall
            have hlen : ((List.range m).map fun i => (N i).tdiv D).length = m := by simp
            obtain ⟨al, cl, rfl, hll, -⟩ := hrow.lies
            have hli := hll.ints
            rw [hlen] at hli ⊢
            have HLI9 := Lib.hid hli
            have HTG9 := Lib.hid (HTG8.out.below hb9)
            have HB9 := Lib.hid (HB8.out.trans (hb9.mono HB8.out.size))
            have HAT := Lib.hid (fun j (hj : j < m) => (by rw [List.getD_eq_getElem?_getD, List.getElem?_map, List.getElem?_range hj]; rfl : ((List.range m).map fun i => (N i).tdiv D).getD j 0 = (N j).tdiv D))
            clear hall hll hli hrow hb9 hlen
            go_wp2
            go_loopg [16, 115] m (fun gk s16 s115 wr => ∃ j : Nat, j + gk = m ∧ s115 = .int .i64 (j : Int) ∧ s16 = .bool true ∧ wr = w9)
            case atStart => exact ⟨0, by omega, rfl, rfl, rfl⟩
            case round =>
              obtain ⟨j, hjg, rfl, rfl, hwr⟩ := hrel
              subst hwr
              have HJ := Lib.hid hjg
              by_cases hjm : j < m
              · have l2 : (j : Int) < (m : Int) := by omega
                have j0 : (0 : Int) ≤ (j : Int) := by omega
                obtain ⟨b2, off2, aj, cj, e2, hbl2, hcell2, hlie2⟩ := HTG9.out.at hjm
                cases e2
                have hli2 := hlie2.ints
                rw [HRL.out j hjm] at hcell2 hli2
                rw [Nat.zero_add] at hcell2
                have hd := HND.out wr HB9.out aj cj j hjm hli2
                obtain ⟨bl, ol, rfl, hbl9, hcl⟩ := HLI9.out.at (by omega)
                have hcl2 := hcl j hjm
                rw [HAT.out j hjm] at hcl2
                have hmod := HALL.out j hjm
                obtain ⟨n1, n2⟩ := HNB.out j
                have hex := exact_mul hmod
                obtain ⟨x, hx⟩ : ∃ x, N j = x := ⟨_, rfl⟩
                rw [hx] at hd hcl2 hmod n1 n2 hex
                obtain ⟨q, hq⟩ : ∃ q, x.tdiv D = q := ⟨_, rfl⟩
                rw [hq] at hcl2 hex
                have hw : wrap64 (q * D) = x := by rw [hex]; exact IntWalk.wrap64_in _ (by omega)
                have HD1 := Lib.hid hd
                clear hd hcl hlie2 hli2 hex hx hq n1 n2 hjg
                go_wp2_with fail
                refine HD1.out.mono ?_
                rintro e w10 ⟨rfl, hw10⟩
                subst hw10
                go_wp2
                go_roundg (gk - 1)
                case rel => exact ⟨j + 1, by have := HJ.out; omega, by go_num, rfl, rfl⟩
                case measure => have := HJ.out; omega
              · have l2 : ¬ (j : Int) < (m : Int) := by omega
                clear hjg hjm
                have HAW := Lib.hid (awake_any wr)
                go_wp2_with fail
                refine HAW.out.mono ?_
                rintro e w10 ⟨rfl, hb10⟩
                go_wp2
                go_ret
                exact ⟨rfl, HB9.out.trans (hb10.mono HB9.out.size)⟩
          · have HALL := Lib.hid hall
            have HTG9 := Lib.hid (HTG8.out.below hb9)
            have HB9 := Lib.hid (HB8.out.trans (hb9.mono HB8.out.size))
            clear hall hb9
            go_wp2
            go_loopg [16, 115] m (fun gk s16 s115 wr => ∃ (j : Nat) (b : Bool), j + gk = m ∧ s115 = .int .i64 (j : Int) ∧ s16 = .bool b ∧ RowKit.Hid (WhB b N D j) ∧ wr = w9)
            case atStart => exact ⟨0, true, by omega, rfl, rfl, Lib.hid (show WhB true N D 0 from ⟨fun _ q hq => by omega, fun _ => rfl⟩), rfl⟩
            case round =>
              obtain ⟨j, b', hjg, rfl, rfl, HBB, hwr⟩ := hrel
              subst hwr
              have HJ := Lib.hid hjg
              by_cases hjm : j < m
              · have l2 : (j : Int) < (m : Int) := by omega
                have j0 : (0 : Int) ≤ (j : Int) := by omega
                obtain ⟨b2, off2, aj, cj, e2, hbl2, hcell2, hlie2⟩ := HTG9.out.at hjm
                cases e2
                have hli2 := hlie2.ints
                rw [HRL.out j hjm] at hcell2 hli2
                rw [Nat.zero_add] at hcell2
                have hd := HND.out wr HB9.out aj cj j hjm hli2
                obtain ⟨x, hx⟩ : ∃ x, N j = x := ⟨_, rfl⟩
                rw [hx] at hd
                have HX := Lib.hid hx
                have HD1 := Lib.hid hd
                clear hd hlie2 hli2 hx hjg
                cases b' with
                | false =>
                  have HNX := Lib.hid (show WhB false N D (j + 1) from ⟨fun h => (by cases h), fun h => HBB.out.2 fun q hq => h q (by omega)⟩)
                  go_wp2_with fail
                  refine HD1.out.mono ?_
                  rintro e w10 ⟨rfl, hw10⟩
                  subst hw10
                  go_wp2
                  go_roundg (gk - 1)
                  case rel => exact ⟨j + 1, false, by have := HJ.out; omega, by go_num, rfl, HNX.out, rfl⟩
                  case measure => have := HJ.out; omega
                | true =>
                  by_cases hx0 : x.tmod D = 0
                  · have HNX := Lib.hid (show WhB true N D (j + 1) from ⟨fun _ q hq => by
                      by_cases hqj : q = j
                      · subst hqj
                        rw [HX.out]
                        exact hx0
                      · exact HBB.out.1 rfl q (by omega), fun _ => rfl⟩)
                    go_wp2_with fail
                    refine HD1.out.mono ?_
                    rintro e w10 ⟨rfl, hw10⟩
                    subst hw10
                    go_wp2
                    go_roundg (gk - 1)
                    case rel => exact ⟨j + 1, true, by have := HJ.out; omega, by go_num, by first | rfl | (congr 1), HNX.out, rfl⟩
                    case measure => have := HJ.out; omega
                  · have HNX := Lib.hid (show WhB false N D (j + 1) from ⟨fun h => (by cases h), fun h => absurd (by rw [← HX.out]; exact h j (by omega)) hx0⟩)
                    have hxb : (x.tmod D == 0) = false := by simpa using hx0
                    go_wp2_with fail
                    refine HD1.out.mono ?_
                    rintro e w10 ⟨rfl, hw10⟩
                    subst hw10
                    go_wp2
                    go_roundg (gk - 1)
                    case rel => exact ⟨j + 1, false, by have := HJ.out; omega, by go_num, by first | rfl | (congr 1), HNX.out, rfl⟩
                    case measure => have := HJ.out; omega
              · have l2 : ¬ (j : Int) < (m : Int) := by omega
                have hjm2 : j = m := by omega
                subst hjm2
                cases b' with
                | true => exact absurd (HBB.out.1 rfl) HALL.out
                | false =>
                  clear hjg hjm
                  have HAW := Lib.hid (awake_any wr)
                  go_wp2_with fail
                  refine HAW.out.mono ?_
                  rintro e w10 ⟨rfl, hb10⟩
                  go_wp2
                  go_ret
                  exact ⟨rfl, HB9.out.trans (hb10.mono HB9.out.size)⟩
end Go.Proofs.Ytgfenponlkmfmaa
