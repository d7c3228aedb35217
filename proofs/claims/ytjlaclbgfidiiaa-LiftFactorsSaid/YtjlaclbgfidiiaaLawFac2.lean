/- The walk of the law LiftFactors. Condition: the slices lie in memory. -/
import Derived.Test.YtjlaclbgfidiiaaFacWalk
import Derived.Test.YtjlaclbgfidiiaaLawFac1
import Derived.Deep.RegionHeld3
import Derived.Deep.RegionLaw
namespace Go.Proofs.Ytjlaclbgfidiiaa
open Go.RowKit
attribute [local go_sem] Oper.semAt_some

def scl (C : Int) (xs : List Int) (k : Nat) : List Int := (List.range xs.length).map fun j => if j < k then xs.getD j 0 * C else xs.getD j 0
theorem scl_zero (C : Int) (xs : List Int) : scl C xs 0 = xs := by
  refine List.ext_getElem? fun j => ?_
  unfold scl
  rw [List.getElem?_map]
  by_cases h : j < xs.length
  · simp [List.getElem?_range h, h, List.getD]
  · rw [List.getElem?_eq_none (by simp; omega), List.getElem?_eq_none (by omega)]; rfl
theorem scl_get (C : Int) (xs : List Int) (k : Nat) (h : k < xs.length) : (scl C xs k)[k]? = some (xs.getD k 0) := by
  unfold scl
  rw [List.getElem?_map, List.getElem?_range h]
  simp
theorem scl_set (C : Int) (xs : List Int) (k : Nat) (h : k < xs.length) : (scl C xs k).set k (xs.getD k 0 * C) = scl C xs (k + 1) := by
  refine List.ext_getElem? fun j => ?_
  unfold scl
  rw [List.getElem?_set, List.getElem?_map, List.getElem?_map]
  by_cases e : k = j
  · subst e
    rw [if_pos rfl, if_pos (by simpa using h), List.getElem?_range h]
    simp
  · rw [if_neg e]
    by_cases hj : j < xs.length
    · rw [List.getElem?_range hj]
      simp only [Option.map_some]
      by_cases h2 : j < k
      · rw [if_pos h2, if_pos (by omega)]
      · rw [if_neg h2, if_neg (by omega)]
    · rw [List.getElem?_eq_none (by simp; omega)]; rfl
theorem scl_end (C : Int) (xs : List Int) : scl C xs xs.length = xs.map fun y => y * C := by
  refine List.ext_getElem? fun j => ?_
  unfold scl
  rw [List.getElem?_map, List.getElem?_map]
  by_cases h : j < xs.length
  · simp [List.getElem?_range h, h, List.getD]
  · rw [List.getElem?_eq_none (by simp; omega), List.getElem?_eq_none (by omega)]; rfl
theorem scl_len (C : Int) (xs : List Int) (k : Nat) : (scl C xs k).length = xs.length := by simp [scl]

/-- What the region that looks at a side and at the one before it reads. -/
def FacS (g G k' : Nat) (x0 x1 x2 x3 y2 y3 : Int) (w W : World) : Prop := W.cell? ⟨G, 0, none⟩ = some (.int .i64 x0) ∧ W.cell? ⟨G, 1, none⟩ = some (.int .i64 x1) ∧ W.cell? ⟨G, 2, none⟩ = some (.int .i64 x2) ∧ W.cell? ⟨G, 3, none⟩ = some (.int .i64 x3) ∧ W.cell? ⟨g, k' * 4 + 1, none⟩ = some (.int .i64 x0) ∧ W.cell? ⟨g, k' * 4 + 2, none⟩ = some (.int .i64 y2) ∧ W.cell? ⟨g, k' * 4 + 3, none⟩ = some (.int .i64 y3) ∧ BelF w.heap.size w W
theorem uint_mod (x M : Int) (hM : 0 < M) : ∃ t : Nat, (IntKind.u64.wrap x).tmod M = (t : Int) ∧ (t : Int) < M := by
  have h0 : 0 ≤ IntKind.u64.wrap x := by simp [IntKind.wrap, IntKind.bits, IntKind.signed]; omega
  have h1 := Int.emod_nonneg (IntKind.u64.wrap x) (show M ≠ 0 by omega)
  have h2 := Int.emod_lt_of_pos (IntKind.u64.wrap x) hM
  refine ⟨((IntKind.u64.wrap x) % M).toNat, ?_, by omega⟩
  rw [Int.tmod_eq_emod_of_nonneg h0]; omega
theorem polygon_some {B : Nat} {v : Value} (q : Nat) (f : List Int) (w : World) (h : Row B v f w) (hp : isPr (q : Int) = true) (q2 : 2 ≤ q) (q13 : q ≤ 13) (hl : f.length ≤ 4611686018427387904) :
    Calls Try.prog 26 #[v, .int .i64 (q : Int)] w fun e w' => ((∃ v', e = .returned (.tuple #[v', .int .i64 0]) ∧ Row4 w.heap.size v' (polyS f q) w') ∨ e = .returned (.tuple #[.slice none 0 0, .int .i64 2])) ∧ Below w.heap.size w w' := by
  cases hf : isPoly f with
  | false =>
    refine (PolygonR_no (q : Int) f w h hl (by rw [hf, Bool.and_false])).mono ?_
    rintro e w' ⟨rfl, q, rfl⟩
    exact ⟨.inr rfl, drew_below w q⟩
  | true =>
    refine (PolygonR_yes q f w h hp q2 q13 hf).mono ?_
    rintro e w' ⟨h1, hb⟩
    exact ⟨.inl h1, hb⟩

set_option maxHeartbeats 16000000 in
set_option maxRecDepth 100000 in
theorem lawFac_f (q : Nat) (a b : Option Addr) (n m c d : Nat) (xs ys : List Int) (x : Int) (w : World) (h : Ints w a n xs) (hc : n ≤ c) (hn : n ≤ 4611686018427387904) (hcm : c ≤ maxLen) (h' : Ints w b m ys) (hc' : m ≤ d) (hn' : m ≤ 4611686018427387904) (hcm' : d ≤ maxLen) (hq : q ∈ [2, 3, 5, 7, 11, 13]) (hp : isPr (q : Int) = true) (q2 : 2 ≤ q) (q13 : q ≤ 13) (hf : isPoly xs = true) (hg : isPoly ys = true) (hT : timesOK xs ys = false) :
    Calls Try.prog 9 #[.slice a n c, .slice b m d, .int .i64 (q : Int), .int .i64 x] w fun e w' => e = .returned (.bool true) ∧ Below w.heap.size w w' := by
  have hL1 := fun w1 (hb : Below w.heap.size w w1) => list_row a n c xs w1 (h.below hb) hc hn hcm
  have hL2 := fun w1 (hb : Below w.heap.size w w1) => list_row b m d ys w1 (h'.below hb) hc' hn' hcm'
  rw [isPoly_short hf] at hL1
  rw [isPoly_short hg] at hL2
  have HL1 := Lib.hid hL1
  have HL2 := Lib.hid hL2
  have HP1 := Lib.hid (fun B v w1 (hr : Row B v xs w1) => PolygonR_yes q _ w1 hr hp q2 q13 hf)
  have HP2 := Lib.hid (fun B v w1 (hr : Row B v xs w1) => SlopesR_yes q _ w1 hr hp q2 q13 hf)
  have HP3 := Lib.hid (fun B v w1 (hr : Row B v ys w1) => SlopesR_yes q _ w1 hr hp q2 q13 hg)
  have hPR := fun w => primeR_any (q : Int) w
  rw [hp] at hPR
  have HPR := Lib.hid hPR
  obtain ⟨hgood, hchain⟩ := poly_facts (q := q) hf
  obtain ⟨hsl, hok⟩ := poly_ok (f := xs) (q := q) (by have := isPoly_spec hf; omega)
  have hla := slopes_len (q := q) hf
  have hlb := slopes_len (q := q) hg
  have HTN := Lib.hid (fun B1 B2 v1 v2 w1 (h1 : Row B1 v1 xs w1) (h2 : Row B2 v2 ys w1) => TimesR_no xs ys w1 h1 h2 (by have := isPoly_spec hf; omega) (by have := isPoly_spec hg; omega) hT)
  obtain ⟨t, ht, ht9⟩ := uint_mod x 9 (by omega)
  obtain ⟨C, hC⟩ : ∃ C : Int, 1 + (t : Int) = C := ⟨_, rfl⟩
  have C1 : 1 ≤ C := by omega
  have C9 : C ≤ 9 := by omega
  have hsc := fun (hd : ¬ (q : Int) ∣ C) => scale_poly hq C1 C9 hd hf
  have HP4 := Lib.hid (fun B v w1 (hr : Row B v (xs.map fun y => y * C) w1) => polygon_some q _ w1 hr hp q2 q13 (by rw [List.length_map]; have := isPoly_spec hf; omega))
  have HXB := Lib.hid (isPoly_spec hf)
  have hx7 : xs.length ≤ 7 := (isPoly_spec hf).2.1
  obtain ⟨S, hS⟩ : ∃ S, polyS xs q = S := ⟨_, rfl⟩
  rw [hS] at HP1 HP2 hgood hchain hsl hok hsc
  obtain ⟨A, hA⟩ : ∃ A, slopesF S = A := ⟨_, rfl⟩
  obtain ⟨M, hM⟩ : ∃ M, slopesF (polyS ys q) = M := ⟨_, rfl⟩
  rw [hS, hA] at hla
  rw [hM] at hlb
  rw [hA] at HP2 
  rw [hM] at HP3 
  have HGD := Lib.hid hgood
  have HCH := Lib.hid hchain
  have HOK := Lib.hid hok
  have HSL := Lib.hid hsl
  have HLA := Lib.hid hla
  have HLB := Lib.hid hlb
  have HSC := Lib.hid hsc
  have HTC := Lib.hid ht
  have HCC := Lib.hid hC

  clear h h' hL1 hL2 hPR hf hg hp hT hgood hchain hok hla hlb hsc hS hA hM ht hC
  go_enter Try.func9, Try.ntmps9
  go_wp2_with fail
  refine (HL1.out w (Below.refl _ _)).mono ?_
  rintro e w1 ⟨v1, rfl, hr, hb⟩
  have HC := Lib.hid (HP1.out _ _ _ hr)
  have HB1 := Lib.hid hb
  clear hr hb
  go_wp2_with fail
  refine HC.out.mono ?_
  rintro e w2 ⟨⟨s2, rfl, hs⟩, hb⟩
  have HB2 := Lib.hid (HB1.out.trans (hb.mono HB1.out.size))
  have HS2 := Lib.hid hs
  clear hb hs HC
  go_wp2_with fail
  refine (HL1.out w2 HB2.out).mono ?_
  rintro e w3 ⟨v3, rfl, hr, hb⟩
  have HC := Lib.hid (HP2.out _ _ _ hr)
  have HB3 := Lib.hid (HB2.out.trans (hb.mono HB2.out.size))
  have HS3 := Lib.hid (HS2.out.later hb)
  clear hr hb HS2
  go_wp2_with fail
  refine HC.out.mono ?_
  rintro e w4 ⟨⟨m4, rfl, hm⟩, hb⟩
  have HB4 := Lib.hid (HB3.out.trans (hb.mono HB3.out.size))
  have HS4 := Lib.hid (HS3.out.later hb)
  have HM4 := Lib.hid hm
  clear hb hm HC HS3
  go_wp2_with fail
  refine (HL2.out w4 HB4.out).mono ?_
  rintro e w5 ⟨v5, rfl, hr, hb⟩
  have HC := Lib.hid (HP3.out _ _ _ hr)
  have HB5 := Lib.hid (HB4.out.trans (hb.mono HB4.out.size))
  have HS5 := Lib.hid (HS4.out.later hb)
  have HM5 := Lib.hid (HM4.out.later hb)
  clear hr hb HS4 HM4
  go_wp2_with fail
  refine HC.out.mono ?_
  rintro e w6 ⟨⟨m6, rfl, hm⟩, hb⟩
  have HB6 := Lib.hid (HB5.out.trans (hb.mono HB5.out.size))
  have HS6 := Lib.hid (HS5.out.later hb)
  have HM6 := Lib.hid (HM5.out.later hb)
  have HN6 := Lib.hid hm
  clear hb hm HC HS5 HM5
  go_wp2_with fail
  refine (HPR.out _).mono ?_
  rintro e w7 ⟨rfl, rfl⟩
  obtain ⟨a2, c2, hv2, -, -, h3⟩ := HS6.out.form
  subst hv2
  have HFM := Lib.hid h3
  clear h3
  go_wp2
  go_loopg [15, 16, 79] S.length (fun gk s15 s16 s79 wr => ∃ k : Nat, k + gk = S.length ∧ s79 = .int .i64 (k : Int) ∧ Below w6.heap.size w6 wr)
  case atStart => exact ⟨0, by omega, rfl, Below.refl _ _⟩
  case round =>
    obtain ⟨k, hk, rfl, hb⟩ := hrel
    have HK := Lib.hid hk
    have HBB := Lib.hid hb
    by_cases hlt : k < S.length
    · have l1 : (k : Int) < (S.length : Int) := by omega
      have l0 : (0 : Int) ≤ (k : Int) := by omega
      rcases HFM.out with ⟨-, h3, -⟩ | ⟨g, hg, -, hgl⟩
      · rw [h3] at hlt; exact absurd hlt (by simp)
      · subst hg
        obtain ⟨k0, k1, k2, k3⟩ := HS6.out.cell hlt
        have t0 := (hb.cell (p := ⟨g, k * 4, none⟩) hgl).trans k0
        have t1 := (hb.cell (p := ⟨g, k * 4 + 1, none⟩) hgl).trans k1
        have t2 := (hb.cell (p := ⟨g, k * 4 + 2, none⟩) hgl).trans k2
        have t3 := (hb.cell (p := ⟨g, k * 4 + 3, none⟩) hgl).trans k3
        have hok := HOK.out k hlt
        have hgd := HGD.out k hlt
        obtain ⟨⟨x0, x1, x2, x3⟩, hx⟩ : ∃ x, nth4 S k = x := ⟨_, rfl⟩
        rw [hx] at t0 t1 t2 t3 hok hgd
        obtain ⟨o1, o2, o3, -⟩ := hok
        have HGK := Lib.hid hgd
        obtain ⟨o4, o5, o6, o7, -⟩ := hgd
        simp only at t0 t1 t2 t3 o1 o2 o3 o4 o5 o6 o7
        have d1 : decide (x3 < 1) = false := decide_eq_false (by omega)
        have d2 : decide (6 < x3) = false := decide_eq_false (by omega)
        have d3 : decide (x2 < -60) = false := decide_eq_false (by omega)
        have d4 : decide (60 < x2) = false := decide_eq_false (by omega)
        have d5 : decide (x1 ≤ x0) = false := decide_eq_false (by omega)
        have e1 : ¬ x3 < 1 := by omega
        have e2 : ¬ 6 < x3 := by omega
        have e3 : ¬ x2 < -60 := by omega
        have e4 : ¬ 60 < x2 := by omega
        have e5 : ¬ x1 ≤ x0 := by omega
        obtain ⟨c0, c1, c2', c3⟩ := cell_four wr (.int .i64 x0) (.int .i64 x1) (.int .i64 x2) (.int .i64 x3) 69
        have HX := Lib.hid hx
        have hsz := hb.size
        have HB0 := Lib.hid (hb.alloc hsz (.cells #[.int .i64 x0, .int .i64 x1, .int .i64 x2, .int .i64 x3] 69))
        have hGs : wr.heap.size < (wr.alloc (.cells #[.int .i64 x0, .int .i64 x1, .int .i64 x2, .int .i64 x3] 69)).heap.size := by simp
        clear hk hb k0 k1 k2 k3 hx
        by_cases hk0 : k = 0
        · subst hk0
          have d6 : decide ((0 : Int) < ((0 : Nat) : Int)) = false := by decide
          have e6 : ¬ (0 : Int) < ((0 : Nat) : Int) := by decide
          go_wp2
          try go_quiet (fail)
          try go_wp2
          go_roundg (gk - 1)
          case rel => exact ⟨0 + 1, by have := HK.out; omega, by go_num, by first | exact HB0.out | exact below_drewN HB0.out _⟩
          case measure => have := HK.out; omega
        · have hX := HX.out
          clear HX
          obtain ⟨k', hk'⟩ : ∃ k', k = k' + 1 := ⟨k - 1, by omega⟩
          subst hk'
          have hlt' : k' < S.length := by omega
          obtain ⟨p0, p1, p2, p3⟩ := HS6.out.cell hlt'
          obtain ⟨hch1, hch2⟩ := HCH.out k' (by omega)
          rw [hX] at hch1 hch2
          have hgp := HGD.out k' hlt'
          obtain ⟨⟨y0, y1, y2, y3⟩, hy⟩ : ∃ x, nth4 S k' = x := ⟨_, rfl⟩
          rw [hy] at p0 p1 p2 p3 hch1 hch2 hgp
          simp only at p0 p1 p2 p3 hch2
          subst hch2
          have hcall := fun w => less_any (y2, y3) (x2, x3) hgp HGK.out w
          unfold ltS at hch1
          simp only at hch1 hcall
          rw [decide_eq_true hch1] at hcall
          have HCALL := Lib.hid hcall
          have d6 : decide ((0 : Int) < ((k' + 1 : Nat) : Int)) = true := decide_eq_true (by omega)
          have d7 : decide ((0 : Int) < (k' : Int) + 1) = true := decide_eq_true (by omega)
          have e6 : (0 : Int) < ((k' + 1 : Nat) : Int) := by omega
          have e7 : (0 : Int) < (k' : Int) + 1 := by omega
          have hwk : IntKind.i64.wrap (k' : Int) = (k' : Int) := IntWalk.i64_in _ (by omega)
          have m0 : (0 : Int) ≤ (k' : Int) := by omega
          have m1 : (k' : Int) < (S.length : Int) := by omega
          obtain ⟨W0, hW0⟩ : ∃ W0, wr.alloc (.cells #[.int .i64 y1, .int .i64 x1, .int .i64 x2, .int .i64 x3] 69) = W0 := ⟨_, rfl⟩
          have HW0 := Lib.hid hW0
          rw [hW0] at c0 c1 c2' c3 HB0 hGs
          have HQ := Lib.hid (show ∀ W, BelF W0.heap.size W0 W → FacS g wr.heap.size k' y1 x1 x2 x3 y2 y3 w6 W from fun W hW => by
            have hbb : Below w6.heap.size w6 W := HB0.out.trans (hW.to.mono HB0.out.size)
            exact ⟨(hW.to.cell (p := ⟨wr.heap.size, 0, none⟩) hGs).trans c0, (hW.to.cell (p := ⟨wr.heap.size, 1, none⟩) hGs).trans c1, (hW.to.cell (p := ⟨wr.heap.size, 2, none⟩) hGs).trans c2', (hW.to.cell (p := ⟨wr.heap.size, 3, none⟩) hGs).trans c3, (hbb.cell (p := ⟨g, k' * 4 + 1, none⟩) hgl).trans p1, (hbb.cell (p := ⟨g, k' * 4 + 2, none⟩) hgl).trans p2, (hbb.cell (p := ⟨g, k' * 4 + 3, none⟩) hgl).trans p3, BelF.of hbb⟩)
          clear hX hgp hy hcall p0 p1 p2 p3 hch1 c0 c1 c2' c3 hGs hW0
          go_wp2
          rw [HW0.out]
          go_region_held3 (fun w' => w'.cell? ⟨wr.heap.size, 0, none⟩ = some (.int .i64 y1) ∧ w'.cell? ⟨wr.heap.size, 1, none⟩ = some (.int .i64 x1) ∧ w'.cell? ⟨wr.heap.size, 2, none⟩ = some (.int .i64 x2) ∧ w'.cell? ⟨wr.heap.size, 3, none⟩ = some (.int .i64 x3) ∧ w'.cell? ⟨g, k' * 4 + 1, none⟩ = some (.int .i64 y1) ∧ w'.cell? ⟨g, k' * 4 + 2, none⟩ = some (.int .i64 y2) ∧ w'.cell? ⟨g, k' * 4 + 3, none⟩ = some (.int .i64 y3) ∧ BelF w6.heap.size w6 w')
            (first | exact HQ.out _ (BelF.of hb1) | exact HQ.out _ (BelF.drew (BelF.of (Below.refl _ _))))
            ((go_at_call 47; refine (HCALL.out _).mono ?_; rintro e' w1' ⟨rfl, hb'⟩; have hb1 : Below W0.heap.size W0 w1' := ⟨hb'.os, hb'.tape, hb'.output, hb'.size, hb'.block⟩; clear hb'))
          have HB9 := Lib.hid (HB0.out.trans (hb1.mono HB0.out.size))
          clear hb1
          go_wp2
          go_roundg (gk - 1)
          case rel => exact ⟨k' + 1 + 1, by have := HK.out; omega, by go_num, HB9.out⟩
          case measure => have := HK.out; omega
    · have l1 : ¬ (k : Int) < (S.length : Int) := by omega
      have HB7 := Lib.hid (HB6.out.trans (hb.mono HB6.out.size))
      have HS7 := Lib.hid (HS6.out.later hb)
      have HM7 := Lib.hid (HM6.out.later hb)
      have HN7 := Lib.hid (HN6.out.later hb)
      clear hk hb HBB HK HS6 HM6 HN6
      have HT12 := HS7
      go_wp2_with fail
      refine (HL1.out _ HB7.out).mono ?_
      rintro e w8 ⟨v8, rfl, hr, hb⟩
      have HB8 := Lib.hid (HB7.out.trans (hb.mono HB7.out.size))
      have HS8 := Lib.hid (HS7.out.later hb)
      have HR8 := Lib.hid hr
      clear hr hb HT12
      go_wp2_with fail
      refine (HL2.out _ HB8.out).mono ?_
      rintro e w9 ⟨v9, rfl, hr, hb⟩
      have HB9 := Lib.hid (HB8.out.trans (hb.mono HB8.out.size))
      have HS9 := Lib.hid (HS8.out.later hb)
      have HR8' := Lib.hid (HR8.out.later hb)
      have HR9 := Lib.hid hr
      clear hr hb
      go_wp2_with fail
      refine (HTN.out _ _ _ _ _ HR8'.out HR9.out).mono ?_
      rintro e w10 ⟨rfl, hb⟩
      have HB10 := Lib.hid (HB9.out.trans (hb.mono HB9.out.size))
      have HS10 := Lib.hid (HS9.out.later hb)
      clear hb HR8 HR8' HR9 HS7 HS8 HS9
      have ht := HTC.out
      have ht0 : (0 : Int) ≤ (t : Int) := by omega
      have hC := HCC.out
      have qne : ¬ (q : Int) = 0 := by omega
      clear HTC HCC
      go_wp2_with fail
      refine (HL1.out w10 HB10.out).mono ?_
      rintro e w20 ⟨v20, rfl, hr, hb⟩
      have HB20 := Lib.hid hb
      unfold Row at hr
      obtain ⟨gg, cc, rfl, hg1⟩ : ∃ gg cc, v20 = .slice (some ⟨gg, 0, none⟩) xs.length cc ∧ w10.heap.size ≤ gg := by
        rcases hr.2 with ⟨-, h0⟩ | ⟨g', cap, cur, hv, hb', -⟩
        · have := HXB.out.1; omega
        · exact ⟨g', cap, hv, hb'⟩
      have HR20 := Lib.hid hr
      have HGG := Lib.hid hg1
      clear hr hb hg1
      go_wp2
      go_loopg [25, 231] xs.length (fun gk s25 s231 wr => ∃ k : Nat, k + gk = xs.length ∧ s231 = .int .i64 (k : Int) ∧ wr.ownsRow w10.heap.size 3 1 (.slice (some ⟨gg, 0, none⟩) xs.length cc) xs.length ((scl C xs k).map (Value.int .i64)) ∧ Below w10.heap.size w10 wr)
      case atStart => exact ⟨0, by omega, rfl, by rw [scl_zero]; exact HR20.out, HB20.out⟩
      case round =>
        obtain ⟨k, hk, rfl, hr, hb⟩ := hrel
        have HK := Lib.hid hk
        by_cases hlt2 : k < xs.length
        · have l1 : (k : Int) < (xs.length : Int) := by omega
          have l0 : (0 : Int) ≤ (k : Int) := by omega
          have hck := World.ownsRow.cellAt hr k (by omega)
          have hfr := World.ownsRow.frozenAt hr k
          obtain ⟨x0, x1⟩ := HXB.out.2.2.2 k hlt2
          have hgt := scl_get C xs k hlt2
          have hst := scl_set C xs k hlt2
          obtain ⟨z, hz⟩ : ∃ z, xs.getD k 0 = z := ⟨_, rfl⟩
          rw [hz] at hgt hst x0 x1
          rw [List.getElem?_map, hgt] at hck
          simp only [Option.map_some] at hck
          have hown := (World.ownsRow.stored hr k (.int .i64 (z * C))).1
          rw [← List.map_set, hst] at hown
          have HOWN := Lib.hid hown
          obtain ⟨p0, p1⟩ := mul_small (x := z) (y := C) (by omega) (by omega) (by omega) (by omega)
          have HBS := Lib.hid (show Below w10.heap.size w10 (wr.setCell ⟨gg, k, none⟩ (.int .i64 (z * C))) from hb.setCell (p := ⟨gg, k, none⟩) HGG.out _)
          clear hk hb hr hgt hst hz hown
          go_wp2
          go_roundg (gk - 1)
          case rel => exact ⟨k + 1, by have := HK.out; omega, by go_num, HOWN.out, HBS.out⟩
          case measure => have := HK.out; omega
        · have l1 : ¬ (k : Int) < (xs.length : Int) := by omega
          have hke : k = xs.length := by omega
          have hrw : Row w10.heap.size (.slice (some ⟨gg, 0, none⟩) xs.length cc) (xs.map fun y => y * C) wr := by
            unfold Row
            rw [hke, scl_end] at hr
            rw [List.length_map]
            exact hr
          have HB21 := Lib.hid (HB10.out.trans (hb.mono HB10.out.size))
          have HS21 := Lib.hid (HS10.out.later hb)
          have HC4 := Lib.hid (HP4.out _ _ _ hrw)
          clear hk hb hr hke hrw HK
          go_wp2_with fail
          refine HC4.out.mono ?_
          rintro e w22 ⟨hor, hb⟩
          have HB22 := Lib.hid (HB21.out.trans (hb.mono HB21.out.size))
          have HS22 := Lib.hid (HS21.out.later hb)
          clear hb HC4
          by_cases hdv : (q : Int) ∣ C
          · have hr : (C.tmod (q : Int) == 0) = true := by rw [Int.tmod_eq_zero_of_dvd hdv]; rfl
            rcases hor with ⟨v22, rfl, -⟩ | rfl
            all_goals
              go_wp2_with fail
              refine (awake_any _).mono ?_
              rintro e w23 ⟨rfl, hb⟩
              have HB23 := Lib.hid (HB22.out.trans (hb.mono HB22.out.size))
              clear hb
              go_wp2
              go_ret
              exact ⟨rfl, HB23.out⟩
          · have hr : (C.tmod (q : Int) == 0) = false := by
              rw [beq_eq_false_iff_ne]
              exact fun h => hdv (Int.dvd_of_tmod_eq_zero h)
            rcases hor with ⟨v22, rfl, hrr⟩ | rfl
            · rw [HSC.out hdv] at hrr
              have HE := Lib.hid (equal4_any _ hrr HS22.out (by have := HSL.out; omega))
              clear hrr
              go_wp2_with fail
              refine HE.out.mono ?_
              rintro e w23 ⟨rfl, hq⟩
              have HB23 := Lib.hid (below_drew HB22.out hq)
              clear hq
              go_wp2_with fail
              refine (awake_any _).mono ?_
              rintro e w24 ⟨rfl, hb⟩
              have HB24 := Lib.hid (HB23.out.trans (hb.mono HB23.out.size))
              clear hb
              go_wp2
              go_ret
              exact ⟨rfl, HB24.out⟩
            · go_wp2_with fail
              refine (awake_any _).mono ?_
              rintro e w23 ⟨rfl, hb⟩
              have HB23 := Lib.hid (HB22.out.trans (hb.mono HB22.out.size))
              clear hb
              go_wp2
              go_ret
              exact ⟨rfl, HB23.out⟩
end Go.Proofs.Ytjlaclbgfidiiaa
