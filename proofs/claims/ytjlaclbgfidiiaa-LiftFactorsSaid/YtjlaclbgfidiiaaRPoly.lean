/- The walk of the reference's Polygon. Conditions: the slice lies in memory and is a polynomial, the number is a prime. -/
import Derived.Test.YtjlaclbgfidiiaaRHull
import Derived.Deep.RegionHeld3
import Derived.Deep.RegionLaw
namespace Go.Proofs.Ytjlaclbgfidiiaa
open Go.RowKit
attribute [local go_sem] Oper.semAt_some

theorem oF_le (q : Nat) (f : List Int) (i : Nat) : oF q f i ≤ 40 := ordF_le _ _ _

set_option maxHeartbeats 16000000 in
set_option maxRecDepth 100000 in
theorem polygonR_any (a : Option Addr) (n c : Nat) (f : List Int) (q : Nat) (w : World) (h : Ints w a n f) (hf : isPoly f = true) (hq : 2 ≤ q) (q13 : q ≤ 13) :
    Calls Try.prog 32 #[.slice a n c, .int .i64 (q : Int)] w fun e w' => (∃ v, e = .returned v ∧ Row5 w.heap.size v (polyS f q) w') ∧ Below w.heap.size w w' := by
  obtain ⟨G, hG⟩ : ∃ G : Int → Nat, (fun x => ordF q 40 x) = G := ⟨_, rfl⟩
  have hGO : ∀ i, oF q f i = G (f.getD i 0) := fun i => by rw [← hG]; rfl
  have hGL : ∀ x, G x ≤ 40 := fun x => by rw [← hG]; exact ordF_le _ _ _
  have hA : ∀ (x : Int), ¬ x = 0 → -1000000 ≤ x → x ≤ 1000000 → ∀ w, Calls Try.prog 65 #[.int .i64 x, .int .i64 (q : Int)] w fun e w' => e = .returned (.int .i64 (G x : Int)) ∧ w = w' := fun x h0 h1 h2 w => by rw [← hG]; exact orderR_any q hq q13 x h0 h1 h2 w
  have HA := Lib.hid hA
  have HGO := Lib.hid hGO
  have HGL := Lib.hid hGL
  clear hG hA hGO hGL
  obtain ⟨g1, g2, g3⟩ := poly_bounds h.1 hf
  have hlast := (isPoly_spec hf).2.2.1
  rw [h.1] at hlast
  obtain ⟨a0, a1, a2, a3⟩ := argmin (fun _ => 0) (fun i => f.getD i 0 ≠ 0) n ⟨n - 1, by omega, hlast⟩
  have hfirst : ∀ i, i < a0 → f.getD i 0 = 0 := fun i hi => by
    apply Decidable.byContradiction
    intro hne
    have := (a3 i (by omega) hne).2 hi
    exact absurd this (by simp)
  have hS : polyS f q = hullF (ptsP f q n).length (ptsP f q n) := by unfold polyS; rw [h.1]
  obtain ⟨R, hR⟩ : ∃ R, polyS f q = R := ⟨_, rfl⟩
  rw [hR] at hS ⊢
  have hok := pts_ok f q n (by omega)
  have hc0 : ∀ i, i ≤ a0 → cn f q i = 0 := by
    intro i
    induction i with
    | zero => intro _; rfl
    | succ i ih => intro hi; rw [cn_no (hfirst i (by omega))]; exact ih (by omega)
  have hcl : ∀ i, i < n → f.getD i 0 ≠ 0 → cn f q i < (ptsP f q n).length ∧ nth (ptsP f q n) (cn f q i) = ((i : Int), (oF q f i : Int)) := fun i hi hne => pts_here hne hi
  have hca : ∀ i j, i < n → f.getD i 0 ≠ 0 → j < (ptsP f q n).length → nth (ptsP f q n) j = ((i : Int), (oF q f i : Int)) → cn f q i = j := fun i j hi hne hj he => cn_at hne hi hj he
  have hinv := fun j hj => pts_inv (f := f) (q := q) n j hj
  have hcn : cn f q n = (ptsP f q n).length := rfl
  have hcm : ∀ i, i < n → cn f q i ≤ cn f q n := fun i hi => by
    by_cases h0 : 0 < cn f q i
    · obtain ⟨d, rfl⟩ : ∃ d, n = i + d := ⟨n - i, by omega⟩
      exact (pts_pre d i 0 h0).2
    · omega
  have hlen := ptsP_len f q n
  obtain ⟨L, hL⟩ : ∃ L, ptsP f q n = L := ⟨_, rfl⟩
  rw [hL] at hS hok hcl hca hinv hcn hlen
  have hST : [] ++ hullF L.length (L.drop (cn f q a0)) = R := by rw [hc0 a0 (Nat.le_refl _), hS]; rfl
  have HST := Lib.hid hST
  have HOK := Lib.hid hok
  have HCL := Lib.hid hcl
  have HCA := Lib.hid hca
  have HINV := Lib.hid hinv
  have HCN := Lib.hid hcn
  have HCM := Lib.hid hcm
  have HLEN := Lib.hid hlen
  have HLAST := Lib.hid hlast
  have HFIRST := Lib.hid hfirst
  have HA2 := Lib.hid a2
  have HX := Lib.hid (fun j hj => show -1000000 ≤ f.getD j 0 ∧ f.getD j 0 ≤ 1000000 from ⟨by have := (g3 j hj).1; omega, by have := (g3 j hj).2; omega⟩)
  obtain ⟨b, off, hab, hbl, hcc⟩ := h.at (by omega)
  subst hab
  have HCC := Lib.hid hcc
  have HBL := Lib.hid hbl
  clear h hf g3 hlast a2 a3 hfirst hS hR hok hc0 hcl hca hinv hcn hcm hlen hL hST hcc hbl
  go_enter Try.func32, Try.ntmps32
  go_wp2
  go_loopg [6] a0 (fun gk s6 wr => ∃ k : Nat, k + gk = a0 ∧ s6 = .int .i64 (k : Int) ∧ w = wr)
  case atStart => exact ⟨0, by omega, rfl, rfl⟩
  case round =>
    obtain ⟨k, hk, rfl, rfl⟩ := hrel
    have l0 : (0 : Int) ≤ (k : Int) := by omega
    have l1 : (k : Int) < (n : Int) := by omega
    have l2 : k < n := by omega
    have hck := HCC.out k (by omega)
    by_cases hka : k < a0
    · rw [HFIRST.out k hka] at hck
      go_wp2
      go_roundg (gk - 1)
      case rel => exact ⟨k + 1, by omega, by go_num, rfl⟩
      case measure => omega
    · have hke : k = a0 := by omega
      subst hke
      obtain ⟨x, hx⟩ : ∃ x, f.getD k 0 = x := ⟨_, rfl⟩
      have hxn : x ≠ 0 := by rw [← hx]; exact HA2.out
      rw [hx] at hck
      have hxb : (x == 0) = false := by simp; exact hxn
      have HXK := Lib.hid hx
      clear hx hk
      go_wp2
      go_loopg [5, 6, 7, 8, 9, 10, 11, 12] (n - k) (fun gk s5 s6 s7 s8 s9 s10 s11 s12 wr2 => ∃ (at' k : Nat) (S : List Sd), gk = n - at' ∧ s6 = .int .i64 (at' : Int) ∧ at' < n ∧ f.getD at' 0 ≠ 0 ∧ Row5 w.heap.size s5 S wr2 ∧ Below w.heap.size w wr2 ∧ L.length - cn f q at' ≤ k ∧ k + S.length ≤ 20 ∧ S ++ hullF k (L.drop (cn f q at')) = R)
      case atStart => exact ⟨k, L.length, [], rfl, rfl, l2, HA2.out, Row5.nil _ _, Below.refl _ _, by omega, by have := HLEN.out; simp; omega, HST.out⟩
      case round =>
        obtain ⟨t, kk, S, rfl, rfl, ht, htn, hr, hb, hkl, hks, hST⟩ := hrel
        have HR := Lib.hid hr
        have HB := Lib.hid hb
        have HS := Lib.hid hST
        have HK := Lib.hid (And.intro hkl hks)
        have HT := Lib.hid htn
        have HCT := Lib.hid (HCL.out t ht htn)
        clear hck hxb hr hb hST hkl hks
        by_cases hend : t < n - 1
        · have e1 : (t : Int) < (n : Int) - 1 := by omega
          have t0 : (0 : Int) ≤ (t : Int) := by omega
          have t1 : (t : Int) < (n : Int) := by omega
          have hct : cn f q (t + 1) = cn f q t + 1 := cn_yes htn
          have HCT1 := Lib.hid hct
          have hbt := HX.out t ht
          have hct0 := HCC.out t ht
          have hoo := HGO.out t
          obtain ⟨y, hy⟩ : ∃ y, f.getD t 0 = y := ⟨_, rfl⟩
          have hy0 : ¬ y = 0 := by rw [← hy]; exact htn
          rw [hy] at hbt hct0 hoo
          have hot := HGL.out y
          have HOT := Lib.hid hoo
          have HCT0 := Lib.hid hct0
          obtain ⟨hbt0, hbt1⟩ := hbt
          clear hct htn hy hoo hct0
          go_wp2
          obtain ⟨W0, hW0⟩ : ∃ W0, W0 = wr := ⟨_, rfl⟩
          rw [← hW0] at HR HB ⊢
          clear hW0
          go_loopg [7, 8, 9, 10, 11, 12] (n - (t + 1)) (fun gk s7 s8 s9 s10 s11 s12 wr2 => ∃ (i d : Nat) (e y x : Int), gk = n - i ∧ s10 = .int .i64 (i : Int) ∧ t < i ∧ i ≤ n ∧ s7 = .int .i64 e ∧ s8 = .int .i64 y ∧ s9 = .int .i64 x ∧ RSt L (cn f q t) (cn f q i) e y x ∧ wr2 = W0.drewN d)
          case atStart => exact ⟨t + 1, 0, 0, 0, 0, rfl, by go_num, by omega, by omega, rfl, rfl, rfl, .inl ⟨HCT1.out, rfl⟩, rfl⟩
          case round =>
            obtain ⟨i, d, e, y', x', rfl, rfl, hti, hin, rfl, rfl, rfl, hrst, rfl⟩ := hrel
            have HRS := Lib.hid hrst
            by_cases hlt : i < n
            · have l3 : (i : Int) < (n : Int) := by omega
              have l4 : (0 : Int) ≤ (i : Int) := by omega
              have hci := (HB.out.cell (p := ⟨b, off + i, none⟩) HBL.out).trans (HCC.out i hlt)
              have hctt := (HB.out.cell (p := ⟨b, off + t, none⟩) HBL.out).trans HCT0.out
              obtain ⟨z, hz⟩ : ∃ z, f.getD i 0 = z := ⟨_, rfl⟩
              rw [hz] at hci
              have HZ := Lib.hid hz
              by_cases hz0 : z = 0
              · subst hz0
                have hcni : cn f q (i + 1) = cn f q i := cn_no hz
                have HCN1 := Lib.hid hcni
                clear hcni hz hrst hctt
                go_wp2
                go_roundg (n - (i + 1))
                case rel => exact ⟨i + 1, d, e, y', x', rfl, by go_num, by omega, by omega, rfl, rfl, rfl, by rw [HCN1.out]; exact HRS.out, rfl⟩
                case measure => omega
              · have hzb : (z == 0) = false := by simp; exact hz0
                have hbi := HX.out i hlt
                obtain ⟨hcl1, hcl2⟩ := HCL.out i hlt (by rw [hz]; exact hz0)
                have hcni : cn f q (i + 1) = cn f q i + 1 := cn_yes (by rw [hz]; exact hz0)
                have hoi2 := HGO.out i
                rw [hz] at hoi2 hbi
                have hoi := HGL.out z
                rw [hoi2] at hcl2
                obtain ⟨hbi0, hbi1⟩ := hbi
                have hsm := hrst.small HOK.out (by omega)
                have hs2 := HCT.out.2
                rw [HOT.out] at hs2
                have hsc : cn f q t < cn f q i := by omega
                have hnx := hrst.next hcl1 hs2 hcl2 hsc (fun h => by omega)
                rw [← hcni] at hnx
                have HNX := Lib.hid hnx
                have HCE := Lib.hid (And.intro hci hctt)
                have hw1 : IntKind.i64.wrap ((G z : Int) - (G y : Int)) = (G z : Int) - (G y : Int) := IntWalk.i64_in _ (by omega)
                have hw2 : IntKind.i64.wrap ((i : Int) - (t : Int)) = (i : Int) - (t : Int) := IntWalk.i64_in _ (by omega)
                have hxx : 0 ≤ x' ∧ x' ≤ 100 ∧ (x' = 0 ∨ (-100 ≤ y' ∧ y' ≤ 100)) := by omega
                obtain ⟨b1, b2, b3⟩ := hxx
                obtain ⟨p0, p1⟩ := mul_small (x := (G z : Int) - (G y : Int)) (y := x') (by omega) (by omega) (by omega) (by omega)
                clear hctt hcl1 hcl2 hcni hz hoi2 hsm hs2 hsc hnx hrst
                by_cases hx0 : x' = 0
                · have hxb : (x' == 0) = true := by simp; exact hx0
                  have HRN := Lib.hid (HNX.out.1 (.inl hx0))
                  clear b3
                  go_wp2
                  go_region_held3 (fun w' => w'.cell? ⟨b, off + i, none⟩ = some (.int .i64 z) ∧ w'.cell? ⟨b, off + t, none⟩ = some (.int .i64 y))
                    (exact HCE.out)
                    ((go_at_call 65; refine (HA.out _ (by assumption) (by assumption) (by assumption) _).mono ?_; rintro e' w1 ⟨rfl, rfl⟩))
                  all_goals
                    go_wp2
                    go_roundg (n - (i + 1))
                    case rel => exact ⟨i + 1, d + 1, _, _, _, rfl, by go_num, by omega, by omega, rfl, rfl, rfl, HRN.out, rfl⟩
                    case measure => omega
                · have hxb : (x' == 0) = false := by simp; exact hx0
                  have b4 : -100 ≤ y' ∧ y' ≤ 100 := b3.resolve_left hx0
                  obtain ⟨b5, b6⟩ := b4
                  obtain ⟨p2, p3⟩ := mul_small (x := y') (y := (i : Int) - (t : Int)) (by omega) (by omega) (by omega) (by omega)
                  clear b3
                  by_cases hle : ((G z : Int) - (G y : Int)) * x' ≤ y' * ((i : Int) - (t : Int))
                  · have HRN := Lib.hid (HNX.out.1 (.inr hle))
                    go_wp2
                    go_region_held3 (fun w' => w'.cell? ⟨b, off + i, none⟩ = some (.int .i64 z) ∧ w'.cell? ⟨b, off + t, none⟩ = some (.int .i64 y))
                      (exact HCE.out)
                      ((go_at_call 65; refine (HA.out _ (by assumption) (by assumption) (by assumption) _).mono ?_; rintro e' w1 ⟨rfl, rfl⟩))
                    all_goals
                      go_wp2
                      go_roundg (n - (i + 1))
                      case rel => exact ⟨i + 1, d + 1, _, _, _, rfl, by go_num, by omega, by omega, rfl, rfl, rfl, HRN.out, rfl⟩
                      case measure => omega
                  · have HRN := Lib.hid (HNX.out.2 hx0 hle)
                    go_wp2
                    go_region_held3 (fun w' => w'.cell? ⟨b, off + i, none⟩ = some (.int .i64 z) ∧ w'.cell? ⟨b, off + t, none⟩ = some (.int .i64 y))
                      (exact HCE.out)
                      ((go_at_call 65; refine (HA.out _ (by assumption) (by assumption) (by assumption) _).mono ?_; rintro e' w1 ⟨rfl, rfl⟩))
                    all_goals
                      go_wp2
                      go_roundg (n - (i + 1))
                      case rel => exact ⟨i + 1, d + 1, _, _, _, rfl, by go_num, by omega, by omega, rfl, rfl, rfl, HRN.out, rfl⟩
                      case measure => omega
            · have l3 : ¬ (i : Int) < (n : Int) := by omega
              have hie : i = n := by omega
              rw [hie, HCN.out] at hrst
              have hs2 := HCT.out.2
              rw [HOT.out] at hs2
              have hln := HCL.out (n - 1) (by omega) HLAST.out
              have hl2 : cn f q t + 2 ≤ L.length := by
                have h1 := HCT.out.1
                apply Decidable.byContradiction
                intro hc
                by_cases e : cn f q (n - 1) = cn f q t
                · have h2 := hln.2
                  rw [e, hs2] at h2
                  simp only [Prod.mk.injEq] at h2
                  omega
                · have h2 := HOK.out.2 (cn f q (n - 1)) (cn f q t) (by have := hln.1; omega) h1
                  rw [hln.2, hs2] at h2
                  simp only at h2
                  omega
              have hsm := hrst.small HOK.out (Nat.le_refl _)
              rcases hrst with ⟨h1, -⟩ | ⟨-, r1, r2, r3⟩
              · omega
              · obtain ⟨l5, l6⟩ := endE_le (L.drop (cn f q t)) (L.length - cn f q t)
                obtain ⟨kk', rfl⟩ : ∃ k', kk = k' + 1 := ⟨kk - 1, by have := HK.out; omega⟩
                have hst := HS.out
                have hdl : (L.drop (cn f q t)).length = L.length - cn f q t := List.length_drop
                rw [hullF_step (by omega), hdl] at hst
                obtain ⟨E, hE⟩ : ∃ E, endE (L.drop (cn f q t)) (L.length - cn f q t) = E := ⟨_, rfl⟩
                rw [hE] at r1 r2 r3 l5 l6 hst
                have n0 : nth (L.drop (cn f q t)) 0 = ((t : Int), (G y : Int)) := by rw [nth_drop, Nat.add_zero, hs2]
                have hE2 : cn f q t + E < L.length := by omega
                obtain ⟨i', hi1, hi2, hi3⟩ := HINV.out (cn f q t + E) hE2
                have hci' := HCA.out i' _ hi1 hi2 hE2 hi3
                rw [hi3] at r1
                simp only at r1
                have hsd : sideF (nth (L.drop (cn f q t)) 0) (nth (L.drop (cn f q t)) E) = ((t : Int), (i' : Int), frN y' x', frD y' x') := by
                  rw [r2, r3]
                  unfold sideF dyF dxF
                  rw [n0, nth_drop, hi3]
                rw [hsd, List.drop_drop, ← hci'] at hst
                have hti' : t < i' := by
                  have h2 := HOK.out.2 (cn f q t) (cn f q t + E) (by omega) hE2
                  rw [hs2, hi3] at h2
                  simp only at h2
                  omega
                obtain ⟨-, N, D, -, eN, eD, -⟩ := fr_facts (n := y') (d := x') (by omega) (by omega) (by omega) (by omega)
                have hfr := fun w => fracR2_any y' x' (by omega) (by omega) (by omega) (by omega) w
                rw [eN, eD] at hst
                simp only [eN, eD] at hfr
                have HFR := Lib.hid hfr
                have HST2 := Lib.hid (show (S ++ [((t : Int), (i' : Int), N, D)]) ++ hullF kk' (L.drop (cn f q i')) = R by rw [List.append_assoc]; exact hst)
                have HKK := Lib.hid (show L.length - cn f q i' ≤ kk' ∧ kk' + (S ++ [((t : Int), (i' : Int), N, D)]).length ≤ 20 by
                  have := HK.out
                  rw [List.length_append, hci']
                  simp only [List.length_cons, List.length_nil]
                  omega)
                have HSL := Lib.hid (show S.length ≤ 20 by have := HK.out; omega)
                have HI := Lib.hid (And.intro hi1 (And.intro hi2 hti'))
                subst r1
                clear hie hs2 hln hl2 hsm r2 r3 l5 l6 hst hdl hE n0 hE2 hi1 hi2 hi3 hci' hsd hti' eN eD hfr
                go_wp2_with fail
                refine (HFR.out _).mono ?_
                rintro e' w1 ⟨rfl, hb'⟩
                have HB1 := Lib.hid (show Below w.heap.size w w1 from (below_drewN HB.out d).trans (hb'.mono HB.out.size))
                have HR1 := Lib.hid (show Row5 w.heap.size u5 S w1 from (Row5.later (W := W0.drewN d) (own_same HR.out fun _ _ _ => rfl) hb'))
                clear hb'
                obtain ⟨i0, hi, hz0, hz1, hz2⟩ := info_parts info50
                have hr := HR1.out
                unfold Row5 at hr
                have hsz := HB1.out.size
                have hlen := HSL.out
                obtain ⟨Q, hQ⟩ : ∃ Q, S.length = Q := ⟨_, rfl⟩
                rw [hQ] at hr hlen
                have HQ := Lib.hid hQ
                clear hQ
                go_wp2_with (at_builtin; refine wpList_append_own _ rfl _ _ 46 rfl (w.heap.size) 50 i0 (.agg #[.int .i64 0, .int .i64 0, .int .i64 0, .int .i64 0]) 4 32 Try.underlying46 hi hz0 hz1 hz2 rfl (by decide) _ _ _ rfl (hr.alloc _) ⟨w1.heap.size, 0, none⟩ 1 1 (fl4 [((t : Int), (i' : Int), N, D)]) rfl rfl (cell4_new w1 ((t : Int), (i' : Int), N, D) 50) (fl4_one _) (by unfold maxLen; omega) (by omega) (by simp; omega) ?_; intro v' w3 hown' hgrow _)
                have hb3 : Below w.heap.size w w3 := (HB1.out.alloc hsz _).grown hgrow (by simp; omega) (fun j e => (hr.lt j e).1)
                have hrow : Row5 w.heap.size v' (S ++ [((t : Int), (i' : Int), N, D)]) w3 := by
                  unfold Row5
                  rw [List.length_append, HQ.out, fl4_app]
                  exact hown'
                have HF := Lib.hid (And.intro hrow hb3)
                clear hown' hgrow hr hrow hb3
                go_wp2
                go_roundg (n - i')
                case rel => exact ⟨i', kk', S ++ [((t : Int), (i' : Int), N, D)], rfl, rfl, HI.out.1, HI.out.2.1, HF.out.1, HF.out.2, HKK.out.1, HKK.out.2, HST2.out⟩
                case measure => have := HI.out.2.2; have := HI.out.1; omega
        · have e1 : ¬ (t : Int) < (n : Int) - 1 := by omega
          have hte : t = n - 1 := by omega
          have hf : S = R := by
            have h1 := HS.out
            have h2 : cn f q n = cn f q t + 1 := by rw [show n = t + 1 by omega]; exact cn_yes HT.out
            rw [HCN.out] at h2
            rw [hullF_small (by rw [List.length_drop]; omega), List.append_nil] at h1
            exact h1
          have HF := Lib.hid (show Row5 w.heap.size u5 R wr by rw [← hf]; exact HR.out)
          clear hf hte htn
          go_wp2
          go_ret
          exact ⟨⟨_, rfl, HF.out⟩, HB.out⟩
end Go.Proofs.Ytjlaclbgfidiiaa
