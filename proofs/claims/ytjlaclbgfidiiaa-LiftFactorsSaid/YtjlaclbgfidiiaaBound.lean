/- The walk of boundary. Conditions: the slice of points lies in memory, the points go from left to right, the numbers are small. -/
import Derived.Test.YtjlaclbgfidiiaaHull
import Derived.Deep.RegionHeld3
import Derived.Deep.RegionLaw
namespace Go.Proofs.Ytjlaclbgfidiiaa
open Go.RowKit
attribute [local go_sem] Oper.semAt_some

theorem BelF.drop {w W : World} {B : Nat} (h : Below B w W) : BelF B w W := BelF.of h
/-- Cells of three points, and the world's old blocks. -/
def ScH (b o0 oe oi : Nat) (p0 p1 e0 e1 i0 i1 : Int) (w W : World) : Prop := W.cell? ⟨b, o0, none⟩ = some (.int .i64 p0) ∧ W.cell? ⟨b, o0 + 1, none⟩ = some (.int .i64 p1) ∧ W.cell? ⟨b, oe, none⟩ = some (.int .i64 e0) ∧ W.cell? ⟨b, oe + 1, none⟩ = some (.int .i64 e1) ∧ W.cell? ⟨b, oi, none⟩ = some (.int .i64 i0) ∧ W.cell? ⟨b, oi + 1, none⟩ = some (.int .i64 i1) ∧ b < W.heap.size ∧ BelF w.heap.size w W
theorem sch_next {b o0 oe oi : Nat} {p0 p1 e0 e1 i0 i1 : Int} {w W W' : World} (hb : Below W.heap.size W W') (h : ScH b o0 oe oi p0 p1 e0 e1 i0 i1 w W) : ScH b o0 oe oi p0 p1 e0 e1 i0 i1 w W' := by
  obtain ⟨k0, k1, k2, k3, k4, k5, hl, hB⟩ := h
  exact ⟨(hb.cell (p := ⟨b, o0, none⟩) hl).trans k0, (hb.cell (p := ⟨b, o0 + 1, none⟩) hl).trans k1, (hb.cell (p := ⟨b, oe, none⟩) hl).trans k2, (hb.cell (p := ⟨b, oe + 1, none⟩) hl).trans k3, (hb.cell (p := ⟨b, oi, none⟩) hl).trans k4, (hb.cell (p := ⟨b, oi + 1, none⟩) hl).trans k5, Nat.lt_of_lt_of_le hl hb.size, BelF.of (hB.to.trans (hb.mono hB.2.2.2.1))⟩
theorem endE_yes {L : List (Int × Int)} {i e : Nat} (he : endE L i = e) (h1 : e < i) (h2 : seesF (nth L 0) (nth L e) (nth L i) = true) : endE L (i + 1) = i := by
  simp only [endE, he]; rw [if_pos ⟨h1, h2⟩]
theorem endE_no {L : List (Int × Int)} {i e : Nat} (he : endE L i = e) (h : ¬ (e < i ∧ seesF (nth L 0) (nth L e) (nth L i) = true)) : endE L (i + 1) = e := by
  simp only [endE, he]; rw [if_neg h]

theorem BelF.drew {B : Nat} {w W : World} (h : BelF B w W) : BelF B w W.drew := ⟨h.1, h.2.1, h.2.2.1, h.2.2.2.1, h.2.2.2.2⟩
theorem Row4.alloc {B : Nat} {v : Value} {S : List Sd} {W : World} (h : Row4 B v S W) (o : Obj) : Row4 B v S (W.alloc o) := World.ownsRow.alloc (h := h) o

set_option maxHeartbeats 16000000 in
set_option maxRecDepth 100000 in
theorem boundary_any (a : Option Addr) (n c : Nat) (L : List (Int × Int)) (w : World) (h : Prs w a n L) (hn : n ≤ 20) (hc : n ≤ c) (hcm : c ≤ maxLen) (hok : okL L) :
    Calls Try.prog 63 #[.slice a n c] w fun e w' => (∃ v, e = .returned v ∧ Row4 w.heap.size v (hullF n L) w') ∧ Below w.heap.size w w' := by
  obtain ⟨R, hR⟩ : ∃ R, hullF n L = R := ⟨_, rfl⟩
  rw [hR]
  have HST := Lib.hid (show [] ++ hullF n L = R from hR)
  have H := Lib.hid h
  have HOK := Lib.hid hok
  clear h hok hR
  go_enter Try.func63, Try.ntmps63
  go_wp2
  go_loopg [0, 3, 4, 5] n (fun gk s0 s3 s4 s5 wr => ∃ (a : Option Addr) (m c k : Nat) (L' : List (Int × Int)) (S : List Sd), m = gk ∧ s0 = .slice a m c ∧ Prs w a m L' ∧ m ≤ c ∧ c ≤ maxLen ∧ m ≤ 20 ∧ okL L' ∧ Row4 w.heap.size s3 S wr ∧ Below w.heap.size w wr ∧ m ≤ k ∧ k + S.length ≤ 20 ∧ S ++ hullF k L' = R)
  case atStart => exact ⟨a, n, c, n, L, [], rfl, rfl, H.out, hc, hcm, hn, HOK.out, Row4.nil _ _, Below.refl _ _, Nat.le_refl _, by simpa using hn, HST.out⟩
  case round =>
    obtain ⟨a', m, c', k, L', S, rfl, rfl, hp, hmc, hcm', hm20, hok, hr, hb, hmk, hks, hST⟩ := hrel
    have HP := Lib.hid hp
    have HR := Lib.hid hr
    have HB := Lib.hid hb
    have HO := Lib.hid hok
    have HS := Lib.hid hST
    have HKS := Lib.hid (And.intro hmk hks)
    by_cases hm : 1 < m
    · have l1 : (1 : Int) < (m : Int) := by omega
      obtain ⟨b, off, hab, hbl, hcc⟩ := hp.at (by omega)
      subst hab
      have HC := Lib.hid hcc
      have HL := Lib.hid hp.1
      have HBL := Lib.hid hbl
      clear hp hr hb hok hST hcc hks hmk
      go_wp2
      obtain ⟨W0, hW0⟩ : ∃ W0, W0 = wr := ⟨_, rfl⟩
      rw [← hW0] at HR HB ⊢
      clear hW0
      go_loopg [4, 5, 11] m (fun gk2 s4 s5 s11 wr2 => ∃ i : Nat, i + gk2 = m ∧ s11 = .int .i64 (i : Int) ∧ s4 = .int .i64 (endE L' i : Int) ∧ Below W0.heap.size W0 wr2)
      case atStart => exact ⟨0, by omega, rfl, rfl, Below.refl _ _⟩
      case round =>
        obtain ⟨i, him, rfl, rfl, hb2⟩ := hrel
        have HI := Lib.hid him
        have HB2 := Lib.hid hb2
        obtain ⟨he1, he2⟩ := endE_le L' i
        obtain ⟨e, he⟩ : ∃ e, endE L' i = e := ⟨_, rfl⟩
        rw [he] at he1 he2 ⊢
        have HE := Lib.hid he
        have hem : e < m := by omega
        by_cases hlt : i < m
        · have l2 : (i : Int) < (m : Int) := by omega
          have i0 : (0 : Int) ≤ (i : Int) := by omega
          have e0 : (0 : Int) ≤ (e : Int) := by omega
          have l3 : (e : Int) < (m : Int) := by omega
          have l4 : (0 : Int) < (m : Int) := by omega
          have l6 : 0 < m := by omega
          by_cases hei : e < i
          · have l5 : (e : Int) < (i : Int) := by omega
            have d5 : decide ((e : Int) < (i : Int)) = true := decide_eq_true l5
            have hY := fun h => endE_yes he hei h
            have hN := fun h => endE_no he (L := L') (i := i) (e := e) h
            have ok0 := HO.out.1 0 (by have := HL.out; omega)
            have oke := HO.out.1 e (by have := HL.out; omega)
            have oki := HO.out.1 i (by have := HL.out; omega)
            have c0 := HC.out 0 (by omega)
            have ce := HC.out e (by omega)
            have ci := HC.out i (by omega)
            obtain ⟨⟨p0, p1⟩, hp0⟩ : ∃ p, nth L' 0 = p := ⟨_, rfl⟩
            obtain ⟨⟨pe0, pe1⟩, hpe⟩ : ∃ p, nth L' e = p := ⟨_, rfl⟩
            obtain ⟨⟨pi0, pi1⟩, hpi⟩ : ∃ p, nth L' i = p := ⟨_, rfl⟩
            rw [hp0] at ok0 c0 hY hN
            rw [hpe] at oke ce hY hN
            rw [hpi] at oki ci hY hN
            simp only [Nat.zero_mul, Nat.add_zero] at c0
            have HSEE := Lib.hid (fun w => sees_any p0 p1 pe0 pe1 pi0 pi1 ok0 oke oki w)
            obtain ⟨T, hT⟩ : ∃ T, seesF (p0, p1) (pe0, pe1) (pi0, pi1) = T := ⟨_, rfl⟩
            rw [hT] at HSEE hY hN
            have hbw : Below w.heap.size w wr := HB.out.trans (hb2.mono HB.out.size)
            have HC0 := Lib.hid (show ScH b off (off + e * 2) (off + i * 2) p0 p1 pe0 pe1 pi0 pi1 wr wr from ⟨(hbw.cell (p := ⟨b, off, none⟩) hbl).trans c0.1, (hbw.cell (p := ⟨b, off + 1, none⟩) hbl).trans c0.2, (hbw.cell (p := ⟨b, off + e * 2, none⟩) hbl).trans ce.1, (hbw.cell (p := ⟨b, off + e * 2 + 1, none⟩) hbl).trans ce.2, (hbw.cell (p := ⟨b, off + i * 2, none⟩) hbl).trans ci.1, (hbw.cell (p := ⟨b, off + i * 2 + 1, none⟩) hbl).trans ci.2, Nat.lt_of_lt_of_le hbl hbw.size, BelF.of (Below.refl _ _)⟩)
            have HY := Lib.hid hY
            have HN := Lib.hid hN
            clear hY hN hT hp0 hpe hpi c0 ce ci ok0 oke oki he he2 hb2 hbw him
            go_wp2
            go_region_held3 (fun w' => w'.cell? ⟨b, off, none⟩ = some (.int .i64 p0) ∧ w'.cell? ⟨b, off + 1, none⟩ = some (.int .i64 p1) ∧ w'.cell? ⟨b, off + e * 2, none⟩ = some (.int .i64 pe0) ∧ w'.cell? ⟨b, off + e * 2 + 1, none⟩ = some (.int .i64 pe1) ∧ w'.cell? ⟨b, off + i * 2, none⟩ = some (.int .i64 pi0) ∧ w'.cell? ⟨b, off + i * 2 + 1, none⟩ = some (.int .i64 pi1) ∧ b < w'.heap.size ∧ BelF wr.heap.size wr w')
              (first | exact HC0.out | exact sch_next (by assumption) (by assumption))
              ((go_at_call 82; refine (HSEE.out _).mono ?_; rintro e' w1 ⟨rfl, hb'⟩))
            have HB3 := Lib.hid (HB2.out.trans (show Below W0.heap.size wr w1 from (show Below wr.heap.size wr w1 from ⟨hb'.os, hb'.tape, hb'.output, hb'.size, hb'.block⟩).mono HB2.out.size))
            clear hb'
            cases T with
            | true =>
              have HE2 := Lib.hid (HY.out rfl)
              go_wp2
              go_roundg (gk - 1)
              case rel => exact ⟨i + 1, by have := HI.out; omega, by go_num, by rw [HE2.out], HB3.out⟩
              case measure => have := HI.out; omega
            | false =>
              have HE2 := Lib.hid (HN.out (fun h => by cases h.2))
              go_wp2
              go_roundg (gk - 1)
              case rel => exact ⟨i + 1, by have := HI.out; omega, by go_num, by rw [HE2.out], HB3.out⟩
              case measure => have := HI.out; omega
          · have l5 : ¬ (e : Int) < (i : Int) := by omega
            have d5 : decide ((e : Int) < (i : Int)) = false := decide_eq_false l5
            have HE2 := Lib.hid (endE_no he (fun h => hei h.1))
            clear he he2 hb2 him
            go_wp2
            go_quiet (fail)
            go_wp2
            go_roundg (gk - 1)
            case rel => exact ⟨i + 1, by have := HI.out; omega, by go_num, by rw [HE2.out], below_drewN HB2.out _⟩
            case measure => have := HI.out; omega
        · have l2 : ¬ (i : Int) < (m : Int) := by omega
          have him2 : i = m := by omega
          have hE : endE L' m = e := by rw [← him2]; exact he
          have e0 : (0 : Int) ≤ (e : Int) := by omega
          have l3 : (e : Int) < (m : Int) := by omega
          have l4 : (0 : Int) < (m : Int) := by omega
          have l6 : 0 < m := by omega
          have ok0 := HO.out.1 0 (by have := HL.out; omega)
          have oke := HO.out.1 e (by have := HL.out; omega)
          have h0e := HO.out.2 0 e (by omega) (by have := HL.out; omega)
          have c0 := HC.out 0 (by omega)
          have ce := HC.out e (by omega)
          obtain ⟨k', rfl⟩ : ∃ k', k = k' + 1 := ⟨k - 1, by have := HKS.out; omega⟩
          have hst := HS.out
          rw [hullF_step (by have := HL.out; omega), HL.out, hE] at hst
          obtain ⟨⟨p0, p1⟩, hp0⟩ : ∃ p, nth L' 0 = p := ⟨_, rfl⟩
          obtain ⟨⟨pe0, pe1⟩, hpe⟩ : ∃ p, nth L' e = p := ⟨_, rfl⟩
          rw [hp0] at ok0 c0 h0e hst
          rw [hpe] at oke ce h0e hst
          simp only [Nat.zero_mul, Nat.add_zero] at c0
          have hsd := fun w => side_any p0 p1 pe0 pe1 ok0 oke h0e w
          unfold sideF at hst
          simp only at hst
          obtain ⟨N, hN⟩ : ∃ N, frN (pe1 - p1) (pe0 - p0) = N := ⟨_, rfl⟩
          obtain ⟨D, hD⟩ : ∃ D, frD (pe1 - p1) (pe0 - p0) = D := ⟨_, rfl⟩
          rw [hN, hD] at hst
          simp only [hN, hD] at hsd
          have HSD := Lib.hid hsd
          have HST2 := Lib.hid (show (S ++ [(p0, pe0, N, D)]) ++ hullF k' (L'.drop e) = R by rw [List.append_assoc]; exact hst)
          have HBW := Lib.hid (show Below w.heap.size w wr from HB.out.trans (hb2.mono HB.out.size))
          have HRW := Lib.hid (HR.out.later hb2)
          have HCK := Lib.hid (show ∀ W, BelF w.heap.size w W → (W.cell? ⟨b, off, none⟩ = some (.int .i64 p0) ∧ W.cell? ⟨b, off + 1, none⟩ = some (.int .i64 p1) ∧ W.cell? ⟨b, off + e * 2, none⟩ = some (.int .i64 pe0) ∧ W.cell? ⟨b, off + e * 2 + 1, none⟩ = some (.int .i64 pe1) ∧ BelF w.heap.size w W) from fun W hW => ⟨(hW.to.cell (p := ⟨b, off, none⟩) hbl).trans c0.1, (hW.to.cell (p := ⟨b, off + 1, none⟩) hbl).trans c0.2, (hW.to.cell (p := ⟨b, off + e * 2, none⟩) hbl).trans ce.1, (hW.to.cell (p := ⟨b, off + e * 2 + 1, none⟩) hbl).trans ce.2, hW⟩)
          have HPD := Lib.hid (Prs.drop (e := e) HL.out hbl HC.out)
          have HOD := Lib.hid (HO.out.drop e)
          have HKS2 := Lib.hid (show m - e ≤ k' ∧ k' + (S ++ [(p0, pe0, N, D)]).length ≤ 20 by have := HKS.out; rw [List.length_append]; simp only [List.length_cons, List.length_nil]; omega)
          have HSL := Lib.hid (show S.length ≤ 20 by have := HKS.out; omega)
          have j1 : (e : Int) ≤ (m : Int) := by omega
          have j2 : (e : Int) ≤ (c' : Int) := by omega
          have j4 : ((e : Int)).toNat = e := by omega
          have j5 : ¬ e = c' := by omega
          have j6 : e < c' := by omega
          have j7 : e ≤ m := by omega
          clear him he he2 hb2 him2 hE ok0 oke h0e c0 ce hst hp0 hpe hsd hN hD
          go_wp2
          go_region_held3 (fun w' => w'.cell? ⟨b, off, none⟩ = some (.int .i64 p0) ∧ w'.cell? ⟨b, off + 1, none⟩ = some (.int .i64 p1) ∧ w'.cell? ⟨b, off + e * 2, none⟩ = some (.int .i64 pe0) ∧ w'.cell? ⟨b, off + e * 2 + 1, none⟩ = some (.int .i64 pe1) ∧ BelF w.heap.size w w')
            (first | exact HCK.out _ (BelF.drew (BelF.of HBW.out)) | exact HCK.out _ (BelF.of HBW.out) | exact HCK.out _ (BelF.of hb2) | exact HCK.out _ (BelF.of (hb1.alloc hb1.size _)) | exact HCK.out _ (BelF.of hb1))
            (first
              | (go_at_call 83
                 refine (HSD.out _).mono ?_
                 rintro e' w1 ⟨rfl, hb'⟩
                 have hbb : Below wr.heap.size wr w1 := ⟨hb'.os, hb'.tape, hb'.output, hb'.size, hb'.block⟩
                 have hb1 : Below w.heap.size w w1 := HBW.out.trans (hbb.mono HBW.out.size)
                 have hr1 := HRW.out.later hbb
                 clear hb' hbb)
              | (refine step_app4 rfl (.tmp 33) (.tmp 42) rfl w.heap.size u3 S (by simp [Act.eval, Act.put]) (Row4.alloc hr1 _) ⟨w1.heap.size, 0, none⟩ 1 (p0, pe0, N, D) (by simp [Act.eval, Act.put]) (cell4_new w1 (p0, pe0, N, D) 69) (by have := HSL.out; omega) ((hb1.alloc hb1.size _).size) ?_
                 intro v2 w2 hr2 hbl2
                 have hb2 := (hb1.alloc hb1.size (.cells #[.int .i64 p0, .int .i64 pe0, .int .i64 N, .int .i64 D] 69)).trans hbl2))
          have HF := Lib.hid (And.intro hr2 hb2)
          clear hr2 hb2 hr1 hb1 hbl2
          go_wp2
          go_roundg (m - e)
          case rel => exact ⟨some ⟨b, off + e * 2, none⟩, m - e, c' - e, k', L'.drop e, S ++ [(p0, pe0, N, D)], rfl, rfl, HPD.out, by omega, by omega, by omega, HOD.out, HF.out.1, HF.out.2, HKS2.out.1, HKS2.out.2, HST2.out⟩
          case measure => omega
    · have l1 : ¬ (1 : Int) < (m : Int) := by omega
      have hf : S = R := by
        rw [← hST, hullF_small (by rw [hp.1]; omega), List.append_nil]
      have HF := Lib.hid (show Row4 w.heap.size u3 R wr by rw [← hf]; exact hr)
      clear hp hr hb hok hST hks hmk hf
      go_wp2
      go_ret
      exact ⟨⟨_, rfl, HF.out⟩, HB.out⟩
end Go.Proofs.Ytjlaclbgfidiiaa
