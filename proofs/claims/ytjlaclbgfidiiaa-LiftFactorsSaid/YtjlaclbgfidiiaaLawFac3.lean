/- The walk of the law LiftFactors. Condition: the slices lie in memory. -/
import Derived.Test.YtjlaclbgfidiiaaFacSort
import Derived.Deep.RegionHeld3
import Derived.Deep.RegionLaw
namespace Go.Proofs.Ytjlaclbgfidiiaa
open Go.RowKit
attribute [local go_sem] Oper.semAt_some

set_option maxHeartbeats 16000000 in
set_option maxRecDepth 100000 in
theorem lawFac_t (q : Nat) (a b : Option Addr) (n m c d : Nat) (xs ys : List Int) (x : Int) (w : World) (h : Ints w a n xs) (hc : n ≤ c) (hn : n ≤ 4611686018427387904) (hcm : c ≤ maxLen) (h' : Ints w b m ys) (hc' : m ≤ d) (hn' : m ≤ 4611686018427387904) (hcm' : d ≤ maxLen) (hq : q ∈ [2, 3, 5, 7, 11, 13]) (hp : isPr (q : Int) = true) (q2 : 2 ≤ q) (q13 : q ≤ 13) (hf : isPoly xs = true) (hg : isPoly ys = true) (hT : timesOK xs ys = true) :
    Calls Try.prog 9 #[.slice a n c, .slice b m d, .int .i64 (q : Int), .int .i64 x] w fun e w' => e = .returned (.bool true) ∧ Below w.heap.size w w' := by
  have hL1 := fun w1 (hb : Below w.heap.size w w1) => list_row a n c xs w1 (h.below hb) hc hn hcm
  have hL2 := fun w1 (hb : Below w.heap.size w w1) => list_row b m d ys w1 (h'.below hb) hc' hn' hcm'
  rw [isPoly_short hf] at hL1
  rw [isPoly_short hg] at hL2
  have HL1 := Lib.hid hL1
  have HL2 := Lib.hid hL2
  have HP1 := Lib.hid (fun B v w1 (hr : Row B v xs w1) => PolygonR_yes q _ w1 hr hp q2 q13 hf)
  have HP2 := Lib.hid (fun B v w1 (hr : Row B v xs w1) => SlopesR_yes q _ w1 hr hp q2 q13 hf)
  have HP3 := Lib.hid (fun B v w1 (hr : Row B v ys w1) => SlopesR_yes q _ w1 hr hp q2 q13 hg)
  have hPR := fun w => primeR_any (q : Int) w
  rw [hp] at hPR
  have HPR := Lib.hid hPR
  obtain ⟨hgood, hchain⟩ := poly_facts (q := q) hf
  obtain ⟨hsl, hok⟩ := poly_ok (f := xs) (q := q) (by have := isPoly_spec hf; omega)
  have hla := slopes_len2 (q := q) hf
  have hlb := slopes_len2 (q := q) hg
  have HTY := Lib.hid (fun B1 B2 v1 v2 w1 (h1 : Row B1 v1 xs w1) (h2 : Row B2 v2 ys w1) => TimesR_yes xs ys w1 h1 h2 hT)
  have hh : isPoly (mulF xs ys) = true := by
    have := hT
    unfold timesOK at this
    simp only [Bool.and_eq_true] at this
    exact this.2
  have hSH := fun B v w1 (hr : Row B v (mulF xs ys) w1) => SlopesR_yes q _ w1 hr hp q2 q13 hh
  have hzs := poly_slopes (q := q) hh
  have hcnt := fun (z : Int × Int) (gz : good z) => fac_cnt hq hf hg hh (N := z.1) (D := z.2) (by have := gz.1; omega) gz.2.2.2.2
  have hgo1 := (poly_slopes (q := q) hf).2
  have hgo2 := (poly_slopes (q := q) hg).2
  have hzl := slopes_len (q := q) hh
  obtain ⟨Z, hZ⟩ : ∃ Z, slopesF (polyS (mulF xs ys) q) = Z := ⟨_, rfl⟩
  rw [hZ] at hSH hzs hcnt hzl
  have HSH := Lib.hid hSH
  have HZS := Lib.hid hzs
  have HZL := Lib.hid hzl
  obtain ⟨t, ht, ht9⟩ := uint_mod x 9 (by omega)
  obtain ⟨C, hC⟩ : ∃ C : Int, 1 + (t : Int) = C := ⟨_, rfl⟩
  have C1 : 1 ≤ C := by omega
  have C9 : C ≤ 9 := by omega
  have hsc := fun (hd : ¬ (q : Int) ∣ C) => scale_poly hq C1 C9 hd hf
  have HP4 := Lib.hid (fun B v w1 (hr : Row B v (xs.map fun y => y * C) w1) => polygon_some q _ w1 hr hp q2 q13 (by rw [List.length_map]; have := isPoly_spec hf; omega))
  have HXB := Lib.hid (isPoly_spec hf)
  have hx7 : xs.length ≤ 7 := (isPoly_spec hf).2.1
  obtain ⟨S, hS⟩ : ∃ S, polyS xs q = S := ⟨_, rfl⟩
  rw [hS] at HP1 HP2 hgood hchain hsl hok hsc
  obtain ⟨A, hA⟩ : ∃ A, slopesF S = A := ⟨_, rfl⟩
  obtain ⟨M, hM⟩ : ∃ M, slopesF (polyS ys q) = M := ⟨_, rfl⟩
  rw [hS, hA] at hla
  rw [hM] at hlb
  rw [hA] at HP2 
  rw [hM] at HP3 
  have HGD := Lib.hid hgood
  have HCH := Lib.hid hchain
  have HOK := Lib.hid hok
  have HSL := Lib.hid hsl
  have HLA := Lib.hid hla
  have HLB := Lib.hid hlb
  have HSC := Lib.hid hsc
  have HTC := Lib.hid ht
  simp only [hS, hA, hM] at hcnt hgo1 hgo2
  have HCNT := Lib.hid hcnt
  have HGO1 := Lib.hid hgo1
  have HGO2 := Lib.hid hgo2
  have HCC := Lib.hid hC
  clear hcnt hgo1 hgo2 hZ hzl hzs hSH hh
  clear h h' hL1 hL2 hPR hf hg hp hT hgood hchain hok hla hlb hsc hS hA hM ht hC
  go_enter Try.func9, Try.ntmps9
  go_wp2_with fail
  refine (HL1.out w (Below.refl _ _)).mono ?_
  rintro e w1 ⟨v1, rfl, hr, hb⟩
  have HC := Lib.hid (HP1.out _ _ _ hr)
  have HB1 := Lib.hid hb
  clear hr hb
  go_wp2_with fail
  refine HC.out.mono ?_
  rintro e w2 ⟨⟨s2, rfl, hs⟩, hb⟩
  have HB2 := Lib.hid (HB1.out.trans (hb.mono HB1.out.size))
  have HS2 := Lib.hid hs
  clear hb hs HC
  go_wp2_with fail
  refine (HL1.out w2 HB2.out).mono ?_
  rintro e w3 ⟨v3, rfl, hr, hb⟩
  have HC := Lib.hid (HP2.out _ _ _ hr)
  have HB3 := Lib.hid (HB2.out.trans (hb.mono HB2.out.size))
  have HS3 := Lib.hid (HS2.out.later hb)
  clear hr hb HS2
  go_wp2_with fail
  refine HC.out.mono ?_
  rintro e w4 ⟨⟨m4, rfl, hm⟩, hb⟩
  have HB4 := Lib.hid (HB3.out.trans (hb.mono HB3.out.size))
  have HS4 := Lib.hid (HS3.out.later hb)
  have HM4 := Lib.hid hm
  clear hb hm HC HS3
  go_wp2_with fail
  refine (HL2.out w4 HB4.out).mono ?_
  rintro e w5 ⟨v5, rfl, hr, hb⟩
  have HC := Lib.hid (HP3.out _ _ _ hr)
  have HB5 := Lib.hid (HB4.out.trans (hb.mono HB4.out.size))
  have HS5 := Lib.hid (HS4.out.later hb)
  have HM5 := Lib.hid (HM4.out.later hb)
  clear hr hb HS4 HM4
  go_wp2_with fail
  refine HC.out.mono ?_
  rintro e w6 ⟨⟨m6, rfl, hm⟩, hb⟩
  have HB6 := Lib.hid (HB5.out.trans (hb.mono HB5.out.size))
  have HS6 := Lib.hid (HS5.out.later hb)
  have HM6 := Lib.hid (HM5.out.later hb)
  have HN6 := Lib.hid hm
  clear hb hm HC HS5 HM5
  go_wp2_with fail
  refine (HPR.out _).mono ?_
  rintro e w7 ⟨rfl, rfl⟩
  obtain ⟨a2, c2, hv2, -, -, h3⟩ := HS6.out.form
  subst hv2
  have HFM := Lib.hid h3
  clear h3
  go_wp2
  go_loopg [15, 16, 79] S.length (fun gk s15 s16 s79 wr => ∃ k : Nat, k + gk = S.length ∧ s79 = .int .i64 (k : Int) ∧ Below w6.heap.size w6 wr)
  case atStart => exact ⟨0, by omega, rfl, Below.refl _ _⟩
  case round =>
    obtain ⟨k, hk, rfl, hb⟩ := hrel
    have HK := Lib.hid hk
    have HBB := Lib.hid hb
    by_cases hlt : k < S.length
    · have l1 : (k : Int) < (S.length : Int) := by omega
      have l0 : (0 : Int) ≤ (k : Int) := by omega
      rcases HFM.out with ⟨-, h3, -⟩ | ⟨g, hg, -, hgl⟩
      · rw [h3] at hlt; exact absurd hlt (by simp)
      · subst hg
        obtain ⟨k0, k1, k2, k3⟩ := HS6.out.cell hlt
        have t0 := (hb.cell (p := ⟨g, k * 4, none⟩) hgl).trans k0
        have t1 := (hb.cell (p := ⟨g, k * 4 + 1, none⟩) hgl).trans k1
        have t2 := (hb.cell (p := ⟨g, k * 4 + 2, none⟩) hgl).trans k2
        have t3 := (hb.cell (p := ⟨g, k * 4 + 3, none⟩) hgl).trans k3
        have hok := HOK.out k hlt
        have hgd := HGD.out k hlt
        obtain ⟨⟨x0, x1, x2, x3⟩, hx⟩ : ∃ x, nth4 S k = x := ⟨_, rfl⟩
        rw [hx] at t0 t1 t2 t3 hok hgd
        obtain ⟨o1, o2, o3, -⟩ := hok
        have HGK := Lib.hid hgd
        obtain ⟨o4, o5, o6, o7, -⟩ := hgd
        simp only at t0 t1 t2 t3 o1 o2 o3 o4 o5 o6 o7
        have d1 : decide (x3 < 1) = false := decide_eq_false (by omega)
        have d2 : decide (6 < x3) = false := decide_eq_false (by omega)
        have d3 : decide (x2 < -60) = false := decide_eq_false (by omega)
        have d4 : decide (60 < x2) = false := decide_eq_false (by omega)
        have d5 : decide (x1 ≤ x0) = false := decide_eq_false (by omega)
        have e1 : ¬ x3 < 1 := by omega
        have e2 : ¬ 6 < x3 := by omega
        have e3 : ¬ x2 < -60 := by omega
        have e4 : ¬ 60 < x2 := by omega
        have e5 : ¬ x1 ≤ x0 := by omega
        obtain ⟨c0, c1, c2', c3⟩ := cell_four wr (.int .i64 x0) (.int .i64 x1) (.int .i64 x2) (.int .i64 x3) 69
        have HX := Lib.hid hx
        have hsz := hb.size
        have HB0 := Lib.hid (hb.alloc hsz (.cells #[.int .i64 x0, .int .i64 x1, .int .i64 x2, .int .i64 x3] 69))
        have hGs : wr.heap.size < (wr.alloc (.cells #[.int .i64 x0, .int .i64 x1, .int .i64 x2, .int .i64 x3] 69)).heap.size := by simp
        clear hk hb k0 k1 k2 k3 hx
        by_cases hk0 : k = 0
        · subst hk0
          have d6 : decide ((0 : Int) < ((0 : Nat) : Int)) = false := by decide
          have e6 : ¬ (0 : Int) < ((0 : Nat) : Int) := by decide
          go_wp2
          try go_quiet (fail)
          try go_wp2
          go_roundg (gk - 1)
          case rel => exact ⟨0 + 1, by have := HK.out; omega, by go_num, by first | exact HB0.out | exact below_drewN HB0.out _⟩
          case measure => have := HK.out; omega
        · have hX := HX.out
          clear HX
          obtain ⟨k', hk'⟩ : ∃ k', k = k' + 1 := ⟨k - 1, by omega⟩
          subst hk'
          have hlt' : k' < S.length := by omega
          obtain ⟨p0, p1, p2, p3⟩ := HS6.out.cell hlt'
          obtain ⟨hch1, hch2⟩ := HCH.out k' (by omega)
          rw [hX] at hch1 hch2
          have hgp := HGD.out k' hlt'
          obtain ⟨⟨y0, y1, y2, y3⟩, hy⟩ : ∃ x, nth4 S k' = x := ⟨_, rfl⟩
          rw [hy] at p0 p1 p2 p3 hch1 hch2 hgp
          simp only at p0 p1 p2 p3 hch2
          subst hch2
          have hcall := fun w => less_any (y2, y3) (x2, x3) hgp HGK.out w
          unfold ltS at hch1
          simp only at hch1 hcall
          rw [decide_eq_true hch1] at hcall
          have HCALL := Lib.hid hcall
          have d6 : decide ((0 : Int) < ((k' + 1 : Nat) : Int)) = true := decide_eq_true (by omega)
          have d7 : decide ((0 : Int) < (k' : Int) + 1) = true := decide_eq_true (by omega)
          have e6 : (0 : Int) < ((k' + 1 : Nat) : Int) := by omega
          have e7 : (0 : Int) < (k' : Int) + 1 := by omega
          have hwk : IntKind.i64.wrap (k' : Int) = (k' : Int) := IntWalk.i64_in _ (by omega)
          have m0 : (0 : Int) ≤ (k' : Int) := by omega
          have m1 : (k' : Int) < (S.length : Int) := by omega
          obtain ⟨W0, hW0⟩ : ∃ W0, wr.alloc (.cells #[.int .i64 y1, .int .i64 x1, .int .i64 x2, .int .i64 x3] 69) = W0 := ⟨_, rfl⟩
          have HW0 := Lib.hid hW0
          rw [hW0] at c0 c1 c2' c3 HB0 hGs
          have HQ := Lib.hid (show ∀ W, BelF W0.heap.size W0 W → FacS g wr.heap.size k' y1 x1 x2 x3 y2 y3 w6 W from fun W hW => by
            have hbb : Below w6.heap.size w6 W := HB0.out.trans (hW.to.mono HB0.out.size)
            exact ⟨(hW.to.cell (p := ⟨wr.heap.size, 0, none⟩) hGs).trans c0, (hW.to.cell (p := ⟨wr.heap.size, 1, none⟩) hGs).trans c1, (hW.to.cell (p := ⟨wr.heap.size, 2, none⟩) hGs).trans c2', (hW.to.cell (p := ⟨wr.heap.size, 3, none⟩) hGs).trans c3, (hbb.cell (p := ⟨g, k' * 4 + 1, none⟩) hgl).trans p1, (hbb.cell (p := ⟨g, k' * 4 + 2, none⟩) hgl).trans p2, (hbb.cell (p := ⟨g, k' * 4 + 3, none⟩) hgl).trans p3, BelF.of hbb⟩)
          clear hX hgp hy hcall p0 p1 p2 p3 hch1 c0 c1 c2' c3 hGs hW0
          go_wp2
          rw [HW0.out]
          go_region_held3 (fun w' => w'.cell? ⟨wr.heap.size, 0, none⟩ = some (.int .i64 y1) ∧ w'.cell? ⟨wr.heap.size, 1, none⟩ = some (.int .i64 x1) ∧ w'.cell? ⟨wr.heap.size, 2, none⟩ = some (.int .i64 x2) ∧ w'.cell? ⟨wr.heap.size, 3, none⟩ = some (.int .i64 x3) ∧ w'.cell? ⟨g, k' * 4 + 1, none⟩ = some (.int .i64 y1) ∧ w'.cell? ⟨g, k' * 4 + 2, none⟩ = some (.int .i64 y2) ∧ w'.cell? ⟨g, k' * 4 + 3, none⟩ = some (.int .i64 y3) ∧ BelF w6.heap.size w6 w')
            (first | exact HQ.out _ (BelF.of hb1) | exact HQ.out _ (BelF.drew (BelF.of (Below.refl _ _))))
            ((go_at_call 47; refine (HCALL.out _).mono ?_; rintro e' w1' ⟨rfl, hb'⟩; have hb1 : Below W0.heap.size W0 w1' := ⟨hb'.os, hb'.tape, hb'.output, hb'.size, hb'.block⟩; clear hb'))
          have HB9 := Lib.hid (HB0.out.trans (hb1.mono HB0.out.size))
          clear hb1
          go_wp2
          go_roundg (gk - 1)
          case rel => exact ⟨k' + 1 + 1, by have := HK.out; omega, by go_num, HB9.out⟩
          case measure => have := HK.out; omega
    · have l1 : ¬ (k : Int) < (S.length : Int) := by omega
      have HB7 := Lib.hid (HB6.out.trans (hb.mono HB6.out.size))
      have HS7 := Lib.hid (HS6.out.later hb)
      have HM7 := Lib.hid (HM6.out.later hb)
      have HN7 := Lib.hid (HN6.out.later hb)
      clear hk hb HBB HK HS6 HM6 HN6
      go_wp2_with fail
      refine (HL1.out _ HB7.out).mono ?_
      rintro e w8 ⟨v8, rfl, hr, hb⟩
      have HB8 := Lib.hid (HB7.out.trans (hb.mono HB7.out.size))
      have HS8 := Lib.hid (HS7.out.later hb)
      have HM8 := Lib.hid (HM7.out.later hb)
      have HN8 := Lib.hid (HN7.out.later hb)
      have HR8 := Lib.hid hr
      clear hr hb HS7 HM7 HN7
      go_wp2_with fail
      refine (HL2.out _ HB8.out).mono ?_
      rintro e w9 ⟨v9, rfl, hr, hb⟩
      have HB9 := Lib.hid (HB8.out.trans (hb.mono HB8.out.size))
      have HS9 := Lib.hid (HS8.out.later hb)
      have HM9 := Lib.hid (HM8.out.later hb)
      have HN9 := Lib.hid (HN8.out.later hb)
      have HR8' := Lib.hid (HR8.out.later hb)
      have HR9 := Lib.hid hr
      clear hr hb HS8 HM8 HN8 HR8
      go_wp2_with fail
      refine (HTY.out _ _ _ _ _ HR8'.out HR9.out).mono ?_
      rintro e w10 ⟨⟨l10, rfl, hl⟩, hb⟩
      have HB10 := Lib.hid (HB9.out.trans (hb.mono HB9.out.size))
      have HS10 := Lib.hid (HS9.out.later hb)
      have HM10 := Lib.hid (HM9.out.later hb)
      have HN10 := Lib.hid (HN9.out.later hb)
      have HC10 := Lib.hid (HSH.out _ _ _ hl)
      clear hb hl HR8' HR9 HS9 HM9 HN9
      go_wp2_with fail
      refine HC10.out.mono ?_
      rintro e w11 ⟨⟨z11, rfl, hz⟩, hb⟩
      have HB11 := Lib.hid (HB10.out.trans (hb.mono HB10.out.size))
      have HS11 := Lib.hid (HS10.out.later hb)
      have HM11 := Lib.hid (HM10.out.later hb)
      have HN11 := Lib.hid (HN10.out.later hb)
      have HZ11 := Lib.hid hz
      clear hb hz HC10 HS10 HM10 HN10
      go_wp2_with fail
      refine (cloneF_any _ HM11.out (by have := HLA.out; omega)).mono ?_
      rintro e w12 ⟨⟨v12, rfl, hv⟩, hb⟩
      have HB12 := Lib.hid hb
      have HN12 := Lib.hid (HN11.out.later hb)
      have HV12 := Lib.hid hv
      clear hb hv
      obtain ⟨a6, c6, hm6, -, hs6⟩ := HN12.out.src
      subst hm6
      have HS6' := Lib.hid hs6
      have hlab : A.length + M.length ≤ 100000 := by have := HLA.out; have := HLB.out; omega
      clear hs6
      go_wp2_with (at_builtin; refine wpList_appF rfl (.tmp 158) (.tmp 159) rfl w11.heap.size _ A rfl HV12.out a6 M.length c6 M rfl HS6'.out hlab HB12.out.size ?_; intro v13 w13 hv13 hb13)
      obtain ⟨a13, c13, rfl, -, -, hf13⟩ := hv13.form
      have HF13 := Lib.hid hf13
      have HV13 := Lib.hid hv13
      have HB13 := Lib.hid (HB12.out.trans hb13)
      obtain ⟨N, hN⟩ : ∃ N, (A ++ M).length = N := ⟨_, rfl⟩
      rw [hN] at HV13 ⊢
      have HNN := Lib.hid hN
      have hN9 : N ≤ 100000 := by rw [← hN, List.length_append]; exact hlab
      have HGA := Lib.hid (show ∀ r, r < N → good (nth (A ++ M) r) from fun r hr => by
        have h1 : nth (A ++ M) r ∈ A ++ M := by rw [← nth_get (by omega : r < (A ++ M).length)]; exact List.getElem_mem _
        rcases List.mem_append.1 h1 with h2 | h2
        · exact HGO1.out _ h2
        · exact HGO2.out _ h2)
      clear hv13 hf13 hb13 hlab hN
      have u39 := Try.underlying39
      have hN0 : (N : Int) ≤ 100000 := by omega
      have hlen39 : ∀ w, (Builtin.len_ #[39] 3 #[.slice a13 N c13]).run Try.prog w = .ok (.int .i64 (N : Int)) w := fun w => by simp [Builtin.len_, run_underlying u39, go_sem, IntKind.wrap, IntKind.bits, IntKind.signed]; try omega
      go_wp2
      simp only [hlen39, Result.andThen_ok]
      go_wp2
      go_loopg [22, 23, 163] N (fun gk s22 s23 s163 wr => ∃ (i : Nat) (L : List (Int × Int)), i + gk = N ∧ s163 = .int .i64 (i : Int) ∧ L.length = N ∧ RowF w11.heap.size (.slice a13 N c13) L wr ∧ (∀ r, r < N → good (nth L r)) ∧ (∀ x, L.count x = (A ++ M).count x) ∧ SortTo L i ∧ Below w11.heap.size w11 wr)
      case atStart => exact ⟨0, A ++ M, by omega, rfl, HNN.out, HV13.out, HGA.out, fun _ => rfl, fun p r _ hr => absurd hr (by omega), HB13.out⟩
      case round =>
        obtain ⟨i, L, hi, rfl, hLn, hrow, hgd, hct, hso, hb⟩ := hrel
        have HI := Lib.hid hi
        by_cases hiN : i < N
        · have l2 : (i : Int) < (N : Int) := by omega
          have i0 : (0 : Int) ≤ (i : Int) := by omega
          rcases HF13.out with ⟨-, h3, -⟩ | ⟨g, hga, -, hgl⟩
          · have := HNN.out; rw [h3] at this; simp at this; omega
          · subst hga
            obtain ⟨q0, q1⟩ := hrow.cell (j := i) (by omega)
            obtain ⟨b1, b2, -⟩ := hgd i hiN
            obtain ⟨⟨z1, z2⟩, hz⟩ : ∃ p, nth L i = p := ⟨_, rfl⟩
            rw [hz] at q0 q1 b1 b2
            simp only at q0 q1 b1 b2
            have d1 : decide (z2 < 1) = false := decide_eq_false (by omega)
            have d2 : decide (6 < z2) = false := decide_eq_false (by omega)
            have e1 : ¬ z2 < 1 := by omega
            have e2 : ¬ 6 < z2 := by omega
            have HST := Lib.hid (show L.length = N ∧ RowF w11.heap.size (.slice (some ⟨g, 0, none⟩) N c13) L wr ∧ (∀ r, r < N → good (nth L r)) ∧ (∀ x, L.count x = (A ++ M).count x) ∧ InsI L i i ∧ Below w11.heap.size w11 wr from ⟨hLn, hrow, hgd, hct, ins_start hso, hb⟩)
            clear hi hLn hrow hgd hct hso hb hz
            go_wp2
            go_loopg [23] i (fun gk s23 wr => ∃ (j : Nat) (L : List (Int × Int)), j = gk ∧ s23 = .int .i64 (j : Int) ∧ j ≤ i ∧ L.length = N ∧ RowF w11.heap.size (.slice (some ⟨g, 0, none⟩) N c13) L wr ∧ (∀ r, r < N → good (nth L r)) ∧ (∀ x, L.count x = (A ++ M).count x) ∧ InsI L i j ∧ Below w11.heap.size w11 wr)
            case atStart => exact ⟨i, L, rfl, rfl, Nat.le_refl _, HST.out.1, HST.out.2.1, HST.out.2.2.1, HST.out.2.2.2.1, HST.out.2.2.2.2.1, HST.out.2.2.2.2.2⟩
            case round =>
              obtain ⟨j, L, rfl, rfl, hji, hLn, hrow, hgd, hct, hin, hb⟩ := hrel
              by_cases hj0 : j = 0
              · subst hj0
                have d3 : decide ((0 : Int) < ((0 : Nat) : Int)) = false := by decide
                have e3 : ¬ (0 : Int) < ((0 : Nat) : Int) := by decide
                have HSO := Lib.hid (ins_done hin (by omega) (fun r hr => hgd r (by omega)) hji (.inl rfl))
                have HST2 := Lib.hid (And.intro hLn (And.intro hrow (And.intro hgd (And.intro hct hb))))
                clear hLn hrow hgd hct hin hb
                go_wp2
                try go_quiet (fail)
                try go_wp2
                go_roundg (N - i - 1)
                case rel => exact ⟨i + 1, L, by have := HI.out; omega, by go_num, HST2.out.1, by first | exact HST2.out.2.1 | exact own_same HST2.out.2.1 fun _ _ _ => rfl, HST2.out.2.2.1, HST2.out.2.2.2.1, HSO.out, by first | exact HST2.out.2.2.2.2 | exact below_drewN HST2.out.2.2.2.2 _⟩
                case measure => have := HI.out; omega
              · obtain ⟨j', hj'⟩ : ∃ j', j = j' + 1 := ⟨j - 1, by omega⟩
                subst hj'
                obtain ⟨f0, f1⟩ := hrow.cell (j := j' + 1) (by omega)
                obtain ⟨f2, f3⟩ := hrow.cell (j := j') (by omega)
                have gx := hgd (j' + 1) (by omega)
                have gy := hgd j' (by omega)
                have hcall := fun w => less_any _ _ gx gy w
                obtain ⟨⟨x1, x2⟩, hx⟩ : ∃ p, nth L (j' + 1) = p := ⟨_, rfl⟩
                obtain ⟨⟨y1, y2⟩, hy⟩ : ∃ p, nth L j' = p := ⟨_, rfl⟩
                rw [hx] at f0 f1
                rw [hy] at f2 f3
                simp only [hx, hy] at hcall
                simp only at f0 f1 f2 f3
                obtain ⟨T, hT⟩ : ∃ T, decide (x1 * y2 < y1 * x2) = T := ⟨_, rfl⟩
                rw [hT] at hcall
                have HCALL := Lib.hid hcall
                have HTT := Lib.hid hT
                have hgw : g < wr.heap.size := World.block_lt_of_cell? _ _ f0
                have HSW := Lib.hid (show SwS g j' x1 x2 y1 y2 wr wr from ⟨f0, f1, f2, f3, hgw, BelF.of (Below.refl _ _)⟩)
                have d3 : decide ((0 : Int) < ((j' + 1 : Nat) : Int)) = true := decide_eq_true (by omega)
                have d4 : decide ((0 : Int) < (j' : Int) + 1) = true := decide_eq_true (by omega)
                have e3 : (0 : Int) < ((j' + 1 : Nat) : Int) := by omega
                have e4 : (0 : Int) < (j' : Int) + 1 := by omega
                have hwk : IntKind.i64.wrap (j' : Int) = (j' : Int) := IntWalk.i64_in _ (by omega)
                have m0 : (0 : Int) ≤ (j' : Int) := by omega
                have m1 : (j' : Int) < (N : Int) := by omega
                have m2 : j' < N := by omega
                have m3 : j' + 1 < N := by omega
                have m4 : (j' : Int) + 1 < (N : Int) := by omega
                have m5 : (0 : Int) ≤ (j' : Int) + 1 := by omega
                have m6 : ((j' : Int) + 1).toNat = j' + 1 := by omega
                have HALL := Lib.hid (And.intro hLn (And.intro hrow (And.intro hgd (And.intro hct (And.intro hin (And.intro hb (And.intro hx hy)))))))
                clear hLn hrow hgd hct hin hb hx hy hcall hT gx gy f0 f1 f2 f3
                go_wp2
                go_region_held3 (fun w' => w'.cell? ⟨g, (j' + 1) * 2, none⟩ = some (.int .i64 x1) ∧ w'.cell? ⟨g, (j' + 1) * 2 + 1, none⟩ = some (.int .i64 x2) ∧ w'.cell? ⟨g, j' * 2, none⟩ = some (.int .i64 y1) ∧ w'.cell? ⟨g, j' * 2 + 1, none⟩ = some (.int .i64 y2) ∧ g < w'.heap.size ∧ BelF wr.heap.size wr w')
                  (first | exact HSW.out | exact sws_next (by assumption) (by assumption))
                  ((go_at_call 47; refine (HCALL.out _).mono ?_; rintro e' w1' ⟨rfl, hb'⟩))
                have hbb : Below wr.heap.size wr w1' := ⟨hb'.os, hb'.tape, hb'.output, hb'.size, hb'.block⟩
                obtain ⟨hLn, hrow, hgd, hct, hin, hb, hx, hy⟩ := HALL.out
                have hrow1 := hrow.later hbb
                have hb1 : Below w11.heap.size w11 w1' := hb.trans (hbb.mono hb.size)
                obtain ⟨f0, f1, f2, f3, -, -⟩ := sws_next hbb HSW.out
                cases T with
                | false =>
                  have hle : leF (nth L j') (nth L (j' + 1)) := by
                    have := of_decide_eq_false HTT.out
                    unfold leF; rw [hx, hy]; simp only; omega
                  have HSO := Lib.hid (ins_done hin (by omega) (fun r hr => hgd r (by omega)) hji (.inr hle))
                  have HST2 := Lib.hid (And.intro hLn (And.intro hrow1 (And.intro hgd (And.intro hct hb1))))
                  clear hLn hrow hgd hct hin hb hx hy hrow1 hb1 hbb hb' hle f0 f1 f2 f3
                  go_wp2
                  go_roundg (N - i - 1)
                  case rel => exact ⟨i + 1, L, by have := HI.out; omega, by go_num, HST2.out.1, HST2.out.2.1, HST2.out.2.2.1, HST2.out.2.2.2.1, HSO.out, HST2.out.2.2.2.2⟩
                  case measure => have := HI.out; omega
                | true =>
                  have hle : leF (nth L (j' + 1)) (nth L j') := by
                    have := of_decide_eq_true HTT.out
                    unfold leF; rw [hx, hy]; simp only; omega
                  have HNI := Lib.hid (ins_next hin (by omega) hji (by omega) hle)
                  have HNC := Lib.hid (show ∀ x, (swapL L (j' + 1)).count x = (A ++ M).count x from fun x => by rw [swap_count (by omega) (by omega), hct])
                  have HNG := Lib.hid (show ∀ r, r < N → good (nth (swapL L (j' + 1)) r) from fun r hr => by
                    rw [swap_nth (by omega) (by omega)]
                    split
                    · exact hgd _ (by omega)
                    · split
                      · exact hgd _ (by omega)
                      · exact hgd _ hr)
                  have HNL := Lib.hid (show (swapL L (j' + 1)).length = N by rw [swap_len, hLn])
                  have hrN : w1'.ownsRow w11.heap.size 48 2 (.slice (some ⟨g, 0, none⟩) N c13) N (fl L) := by
                    have := hrow1
                    unfold RowF at this
                    rwa [hLn] at this
                  have z0 := World.ownsRow.frozenAt hrN ((j' + 1) * 2)
                  have z1 := World.ownsRow.frozenAt hrN ((j' + 1) * 2 + 1)
                  have z2' := World.ownsRow.frozenAt hrN (j' * 2)
                  have z3 := World.ownsRow.frozenAt hrN (j' * 2 + 1)
                  have hgB : w11.heap.size ≤ g := by
                    rcases hrow1.2 with ⟨h, -⟩ | ⟨g', cap, cur, h, h2, -⟩
                    · cases h
                    · simp only [Value.slice.injEq, Option.some.injEq, Addr.mk.injEq] at h
                      omega
                  have HW1 := Lib.hid (RowF.swap1 hLn (show RowF w11.heap.size (.slice (some ⟨g, 0, none⟩) N c13) L w1'.drew from own_same hrow1 fun _ _ _ => rfl) j' hx hy)
                  have HW2 := Lib.hid (RowF.swap2 hLn (show RowF w11.heap.size (.slice (some ⟨g, 0, none⟩) N c13) L w1'.drew from own_same hrow1 fun _ _ _ => rfl) j' hx hy)
                  have HBD := Lib.hid (show ∀ (p1 p2 p3 p4 : Nat) (u1 u2 u3 u4 : Value), Below w11.heap.size w11 ((((w1'.drew.setCell ⟨g, p1, none⟩ u1).setCell ⟨g, p2, none⟩ u2).setCell ⟨g, p3, none⟩ u3).setCell ⟨g, p4, none⟩ u4) from fun p1 p2 p3 p4 u1 u2 u3 u4 =>
                    ((((below_drewN hb1 1).setCell (p := ⟨g, p1, none⟩) hgB _).setCell (p := ⟨g, p2, none⟩) hgB _).setCell (p := ⟨g, p3, none⟩) hgB _).setCell (p := ⟨g, p4, none⟩) hgB _)
                  clear hLn hrow hgd hct hin hb hx hy hrow1 hb1 hbb hb' hle hgB hrN
                  go_wp2
                  go_region
                  all_goals
                    go_wp2
                    go_roundg j'
                    case rel => exact ⟨j', swapL L (j' + 1), rfl, by go_num, by omega, HNL.out, (by first | exact HW1.out | exact HW2.out), HNG.out, HNC.out, HNI.out, HBD.out _ _ _ _ _ _ _ _⟩
                    case measure => omega
        · have l2 : ¬ (i : Int) < (N : Int) := by omega
          have hie : i = N := by omega
          have hLZ : L = Z := by
            refine uniq_sorted L Z (sort_all (by rw [hLn, ← hie]; exact hso)) HZS.out.1 (fun x hx => ?_) HZS.out.2 fun x gx => by rw [hct, List.count_append]; exact (HCNT.out x gx).symm
            obtain ⟨j, hj, he⟩ := List.mem_iff_getElem.1 hx
            rw [← he, nth_get hj]
            exact hgd j (by omega)
          subst hLZ
          have HZ14 := Lib.hid (HZ11.out.later hb)
          have HS14 := Lib.hid (HS11.out.later hb)
          have HB14 := Lib.hid (HB11.out.trans (hb.mono HB11.out.size))
          have HE14 := Lib.hid (equalF_any _ HZ14.out hrow HZL.out)
          clear hi hie hLn hrow hgd hct hso hb HZ14
          go_wp2_with fail
          refine HE14.out.mono ?_
          rintro e w15 ⟨rfl, hq'⟩
          have HB15 := Lib.hid (below_drew HB14.out hq')
          have HS15 := Lib.hid (show Row4 w1.heap.size (.slice a2 S.length c2) S w15 by obtain ⟨q', rfl⟩ := hq'; exact own_same HS14.out fun _ _ _ => rfl)
          clear hq' HE14 HS14
          have ht := HTC.out
          have ht0 : (0 : Int) ≤ (t : Int) := by omega
          have hC := HCC.out
          have qne : ¬ (q : Int) = 0 := by omega
          clear HTC HCC
          go_wp2_with fail
          refine (HL1.out w15 HB15.out).mono ?_
          rintro e w20 ⟨v20, rfl, hr, hb⟩
          have HB20 := Lib.hid hb
          unfold Row at hr
          obtain ⟨gg, cc, rfl, hg1⟩ : ∃ gg cc, v20 = .slice (some ⟨gg, 0, none⟩) xs.length cc ∧ w15.heap.size ≤ gg := by
            rcases hr.2 with ⟨-, h0⟩ | ⟨g', cap, cur, hv, hb', -⟩
            · have := HXB.out.1; omega
            · exact ⟨g', cap, hv, hb'⟩
          have HR20 := Lib.hid hr
          have HGG := Lib.hid hg1
          clear hr hb hg1
          go_wp2
          go_loopg [25, 231] xs.length (fun gk s25 s231 wr => ∃ k : Nat, k + gk = xs.length ∧ s231 = .int .i64 (k : Int) ∧ wr.ownsRow w15.heap.size 3 1 (.slice (some ⟨gg, 0, none⟩) xs.length cc) xs.length ((scl C xs k).map (Value.int .i64)) ∧ Below w15.heap.size w15 wr)
          case atStart => exact ⟨0, by omega, rfl, by rw [scl_zero]; exact HR20.out, HB20.out⟩
          case round =>
            obtain ⟨k, hk, rfl, hr, hb⟩ := hrel
            have HK := Lib.hid hk
            by_cases hlt2 : k < xs.length
            · have l1 : (k : Int) < (xs.length : Int) := by omega
              have l0 : (0 : Int) ≤ (k : Int) := by omega
              have hck := World.ownsRow.cellAt hr k (by omega)
              have hfr := World.ownsRow.frozenAt hr k
              obtain ⟨x0, x1⟩ := HXB.out.2.2.2 k hlt2
              have hgt := scl_get C xs k hlt2
              have hst := scl_set C xs k hlt2
              obtain ⟨z, hz⟩ : ∃ z, xs.getD k 0 = z := ⟨_, rfl⟩
              rw [hz] at hgt hst x0 x1
              rw [List.getElem?_map, hgt] at hck
              simp only [Option.map_some] at hck
              have hown := (World.ownsRow.stored hr k (.int .i64 (z * C))).1
              rw [← List.map_set, hst] at hown
              have HOWN := Lib.hid hown
              obtain ⟨p0, p1⟩ := mul_small (x := z) (y := C) (by omega) (by omega) (by omega) (by omega)
              have HBS := Lib.hid (show Below w15.heap.size w15 (wr.setCell ⟨gg, k, none⟩ (.int .i64 (z * C))) from hb.setCell (p := ⟨gg, k, none⟩) HGG.out _)
              clear hk hb hr hgt hst hz hown
              go_wp2
              go_roundg (gk - 1)
              case rel => exact ⟨k + 1, by have := HK.out; omega, by go_num, HOWN.out, HBS.out⟩
              case measure => have := HK.out; omega
            · have l1 : ¬ (k : Int) < (xs.length : Int) := by omega
              have hke : k = xs.length := by omega
              have hrw : Row w15.heap.size (.slice (some ⟨gg, 0, none⟩) xs.length cc) (xs.map fun y => y * C) wr := by
                unfold Row
                rw [hke, scl_end] at hr
                rw [List.length_map]
                exact hr
              have HB21 := Lib.hid (HB15.out.trans (hb.mono HB15.out.size))
              have HS21 := Lib.hid (HS15.out.later hb)
              have HC4 := Lib.hid (HP4.out _ _ _ hrw)
              clear hk hb hr hke hrw HK
              go_wp2_with fail
              refine HC4.out.mono ?_
              rintro e w22 ⟨hor, hb⟩
              have HB22 := Lib.hid (HB21.out.trans (hb.mono HB21.out.size))
              have HS22 := Lib.hid (HS21.out.later hb)
              clear hb HC4
              by_cases hdv : (q : Int) ∣ C
              · have hr : (C.tmod (q : Int) == 0) = true := by rw [Int.tmod_eq_zero_of_dvd hdv]; rfl
                rcases hor with ⟨v22, rfl, -⟩ | rfl
                all_goals
                  go_wp2_with fail
                  refine (awake_any _).mono ?_
                  rintro e w23 ⟨rfl, hb⟩
                  have HB23 := Lib.hid (HB22.out.trans (hb.mono HB22.out.size))
                  clear hb
                  go_wp2
                  go_ret
                  exact ⟨rfl, HB23.out⟩
              · have hr : (C.tmod (q : Int) == 0) = false := by
                  rw [beq_eq_false_iff_ne]
                  exact fun h => hdv (Int.dvd_of_tmod_eq_zero h)
                rcases hor with ⟨v22, rfl, hrr⟩ | rfl
                · rw [HSC.out hdv] at hrr
                  have HE := Lib.hid (equal4_any _ hrr HS22.out (by have := HSL.out; omega))
                  clear hrr
                  go_wp2_with fail
                  refine HE.out.mono ?_
                  rintro e w23 ⟨rfl, hq⟩
                  have HB23 := Lib.hid (below_drew HB22.out hq)
                  clear hq
                  go_wp2_with fail
                  refine (awake_any _).mono ?_
                  rintro e w24 ⟨rfl, hb⟩
                  have HB24 := Lib.hid (HB23.out.trans (hb.mono HB23.out.size))
                  clear hb
                  go_wp2
                  go_ret
                  exact ⟨rfl, HB24.out⟩
                · go_wp2_with fail
                  refine (awake_any _).mono ?_
                  rintro e w23 ⟨rfl, hb⟩
                  have HB23 := Lib.hid (HB22.out.trans (hb.mono HB22.out.size))
                  clear hb
                  go_wp2
                  go_ret
                  exact ⟨rfl, HB23.out⟩
end Go.Proofs.Ytjlaclbgfidiiaa
