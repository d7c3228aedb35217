/- The walk of the reference's Dual. Condition: a square table lies in memory, of small numbers. -/
import Derived.Test.YtgfenponlkmfmaaHasP
namespace Go.Proofs.Ytgfenponlkmfmaa
open Go.RowKit
attribute [local go_sem] Oper.semAt_some

/-- The first i rows of a table whose numbers are F. -/
theorem matL_next (n m : Nat) (F : Nat → Nat → Int) : matL (n + 1) m F = matL n m F ++ [(List.range m).map (F n)] := by
  unfold matL
  rw [List.range_succ, List.map_append]
  rfl
theorem rng_next (k : Nat) (f : Nat → Int) : (List.range (k + 1)).map f = (List.range k).map f ++ [f k] := by
  rw [List.range_succ, List.map_append]
  rfl
theorem sub_small {n i j : Nat} {e : Nat → Nat → Int} (hn : n ≤ 4) (hi : i < n) (hj : j < n) (he : ∀ r c, r < n → c < n → (e r c).natAbs ≤ 10000) : (det (n - 1) (sub e i j)).natAbs ≤ 240000000000000000 := by
  have hb := det_bound (n := n - 1) (M := 10000) (e := sub e i j) (by omega) fun r c hr hc => by
    unfold sub
    exact he _ _ (by unfold skip; split <;> omega) (by unfold skip; split <;> omega)
  have h2 := pow_cap (M := 10000) (by omega) (show n - 1 ≤ 4 by omega)
  have h3 : (10000 : Nat) ^ 4 = 10000000000000000 := by decide
  have h5 : 24 * 10000 ^ (n - 1) ≤ 24 * 10000000000000000 := Nat.mul_le_mul_left _ (by omega)
  omega

set_option maxHeartbeats 4000000 in
set_option maxRecDepth 100000 in
theorem dualR_any (a : Option Addr) (n c : Nat) (L : List (List Int)) (w : World) (h : Tab w a n L) (hn : n ≤ 4) (hs : Sq n L) (he : ∀ r c, r < n → c < n → (ent L r c).natAbs ≤ 10000) :
    Calls Try.prog 50 #[.slice a n c] w fun e w' => ∃ v, e = .returned v ∧ TabO w' w.heap.size v (matL n n (cof n (ent L))) ∧ Below w.heap.size w w' := by
  have hM : ∀ W i j, i < n → j < n → Below w.heap.size w W → Calls Try.prog 60 #[.slice a n c, .int .i64 (i : Int), .int .i64 (j : Int)] W fun e w' => ∃ a' c', e = .returned (.slice a' (n - 1) c') ∧ Tab w' a' (n - 1) (minP L i j n) ∧ Below W.heap.size W w' := by
    intro W i j hi hj hb
    refine (minorR_any a n c L i j W (h.below hb) hn hs hi hj).mono ?_
    rintro e w1 ⟨v, rfl, ht, hb1⟩
    obtain ⟨a', c', rfl, htab, -⟩ := ht.form
    rw [minP_full (by omega) hi] at htab ⊢
    exact ⟨a', c', rfl, htab, hb1⟩
  have hD : ∀ W i j a' c', i < n → j < n → Tab W a' (n - 1) (minP L i j n) → Calls Try.prog 24 #[.slice a' (n - 1) c'] W fun e w' => e = .returned (.int .i64 (det (n - 1) (sub (ent L) i j))) ∧ Below W.heap.size W w' := by
    intro W i j a' c' hi hj ht
    have := detR_any (n - 1) a' c' _ W ht (by omega) (minP_sq (by omega) hs hi hj)
    rw [show det (n - 1) (ent (minP L i j n)) = det (n - 1) (sub (ent L) i j) from det_congr fun r c hr hc => minP_ent (by omega) hs hi hj hr,
      IntWalk.wrap64_in (det (n - 1) (sub (ent L) i j)) (by have := sub_small hn hi hj he; omega)] at this
    exact this
  have hB : ∀ i j, i < n → j < n → -240000000000000000 ≤ det (n - 1) (sub (ent L) i j) ∧ det (n - 1) (sub (ent L) i j) ≤ 240000000000000000 := fun i j hi hj => by have := sub_small hn hi hj he; omega
  have hcf : ∀ i j, cof n (ent L) i j = if (i + j) % 2 = 1 then -det (n - 1) (sub (ent L) i j) else det (n - 1) (sub (ent L) i j) := by
    intro i j
    unfold cof sgn
    split <;> omega
  obtain ⟨X, hX⟩ : ∃ X : Nat → Nat → Int, (fun i j => det (n - 1) (sub (ent L) i j)) = X := ⟨_, rfl⟩
  have hX2 : ∀ i j, det (n - 1) (sub (ent L) i j) = X i j := fun i j => by rw [← hX]
  simp only [hX2] at hD hB hcf
  obtain ⟨F, hF⟩ : ∃ F : Nat → Nat → Int, cof n (ent L) = F := ⟨_, rfl⟩
  rw [hF] at hcf ⊢
  obtain ⟨m1, hm1⟩ : ∃ m1, n - 1 = m1 := ⟨_, rfl⟩
  rw [hm1] at hM hD
  have HM := Lib.hid hM
  have HD := Lib.hid hD
  have HB := Lib.hid hB
  have HCF := Lib.hid hcf
  have H := Lib.hid h
  have HS := Lib.hid hs
  clear hM hD hB hcf hX hX2 hF h hs he hm1
  go_enter Try.func50, Try.ntmps50
  go_wp2
  go_loopg [3, 11] n (fun gk v s11 wr => ∃ i : Nat, i + gk = n ∧ s11 = .int .i64 (i : Int) ∧ TabO wr w.heap.size v (matL i n F) ∧ Below w.heap.size w wr)
  case atStart => exact ⟨0, by omega, rfl, TabO.nil _ _, Below.refl _ _⟩
  case round =>
    obtain ⟨i, hig, rfl, ht, hb⟩ := hrel
    have HT := Lib.hid ht
    have HBW := Lib.hid hb
    have HK := Lib.hid hig
    by_cases hin : i < n
    · have l1 : (i : Int) < (n : Int) := by omega
      have i0 : (0 : Int) ≤ (i : Int) := by omega
      obtain ⟨b, off, ai, ci, rfl, hbl, hcell0, hlie⟩ := H.out.at hin
      have hcell := (hb.cell (p := ⟨b, off + i, none⟩) hbl).trans hcell0
      rw [HS.out i hin] at hcell
      obtain ⟨W0, rfl⟩ : ∃ W0, W0 = wr := ⟨_, rfl⟩
      obtain ⟨u0, rfl⟩ : ∃ u0, u0 = u3 := ⟨_, rfl⟩
      clear ht hb hig hlie hcell0
      go_wp2
      go_loopg [6, 18] n (fun gk s6 s18 wr => ∃ j : Nat, j + gk = n ∧ s18 = .int .i64 (j : Int) ∧ Row W0.heap.size s6 ((List.range j).map (F i)) wr ∧ Below W0.heap.size W0 wr)
      case atStart => exact ⟨0, by omega, rfl, Row.nil _ _, Below.refl _ _⟩
      case round =>
        obtain ⟨j, hj, rfl, hr, hb⟩ := hrel
        have HR := Lib.hid hr
        have HB2 := Lib.hid hb
        have HJ := Lib.hid hj
        by_cases hjn : j < n
        · have l2 : (j : Int) < (n : Int) := by omega
          have j0 : (0 : Int) ≤ (j : Int) := by omega
          have HC := Lib.hid (HM.out wr i j hin hjn (HBW.out.trans (hb.mono HBW.out.size)))
          obtain ⟨x1, x2⟩ := HB.out i j hin hjn
          have hcf := HCF.out i j
          obtain ⟨x, hx⟩ : ∃ x, X i j = x := ⟨_, rfl⟩
          rw [hx] at x1 x2 hcf
          have HX := Lib.hid hx
          have HCF2 := Lib.hid hcf
          have hmod : ((i : Int) + (j : Int)).tmod 2 = (((i + j) % 2 : Nat) : Int) := by rw [show (i : Int) + (j : Int) = ((i + j : Nat) : Int) by omega]; rfl
          have hml : ((List.range j).map (F i)).length = j := by simp
          have HML := Lib.hid hml
          clear hr hb hj hx hcf hml
          go_wp2_with fail
          refine HC.out.mono ?_
          rintro e w2 ⟨a', c', rfl, ht2, hb2⟩
          have HDD := HD.out w2 i j a' c' hin hjn ht2
          rw [HX.out] at HDD
          have HDD2 := Lib.hid HDD
          have HB3 := Lib.hid (HB2.out.trans (hb2.mono HB2.out.size))
          have HR2 := Lib.hid (HR.out.later hb2)
          clear ht2 hb2 HDD
          go_wp2_with fail
          refine HDD2.out.mono ?_
          rintro e w3 ⟨rfl, hb3⟩
          have HB4 := Lib.hid (HB3.out.trans (hb3.mono HB3.out.size))
          have HR3 := Lib.hid (HR2.out.later hb3)
          clear hb3
          by_cases hp : (i + j) % 2 = 1
          · have hF2 : F i j = -x := by have := HCF2.out; rw [if_pos hp] at this; exact this
            have HF2 := Lib.hid hF2
            have hmod2 : ((i : Int) + (j : Int)).tmod 2 = 1 := by rw [hmod, hp]; rfl
            have hmod3 : ((i : Int) + (j : Int)) % 2 = 1 := by omega
            clear hF2 hmod
            go_wp2_with (at_builtin; refine wpList_pushI (.tmp 33) (.tmp 35) rfl rfl W0.heap.size u6 ((List.range j).map (F i)) (-x) w3 rfl HR3.out rfl (by rw [HML.out]; omega) HB4.out.size ?_; intro v' w4 hr4 hb4 hg4)
            have HF := Lib.hid (And.intro (show Row W0.heap.size v' ((List.range (j + 1)).map (F i)) w4 by rw [rng_next, HF2.out]; exact hr4) (HB4.out.trans hb4))
            clear hr4 hb4 hg4
            go_wp2
            go_roundg (gk - 1)
            case rel => exact ⟨j + 1, by have := HJ.out; omega, by go_num, HF.out.1, HF.out.2⟩
            case measure => have := HJ.out; omega
          · have hF2 : F i j = x := by have := HCF2.out; rw [if_neg hp] at this; exact this
            have HF2 := Lib.hid hF2
            have hmod2 : ¬ ((i : Int) + (j : Int)).tmod 2 = 1 := by rw [hmod]; omega
            have hmod3 : ¬ ((i : Int) + (j : Int)) % 2 = 1 := by omega
            clear hF2 hmod
            go_wp2_with (at_builtin; refine wpList_pushI (.tmp 33) (.tmp 35) rfl rfl W0.heap.size u6 ((List.range j).map (F i)) x w3 rfl HR3.out rfl (by rw [HML.out]; omega) HB4.out.size ?_; intro v' w4 hr4 hb4 hg4)
            have HF := Lib.hid (And.intro (show Row W0.heap.size v' ((List.range (j + 1)).map (F i)) w4 by rw [rng_next, HF2.out]; exact hr4) (HB4.out.trans hb4))
            clear hr4 hb4 hg4
            go_wp2
            go_roundg (gk - 1)
            case rel => exact ⟨j + 1, by have := HJ.out; omega, by go_num, HF.out.1, HF.out.2⟩
            case measure => have := HJ.out; omega
        · have l2 : ¬ (j : Int) < (n : Int) := by omega
          have hjn2 : j = n := by omega
          subst hjn2
          obtain ⟨a2, c2, e2, l2', k2⟩ := hr.lies
          have hml : ((List.range j).map (F i)).length = j := by simp
          rw [hml] at e2
          subst e2
          have HL2 := Lib.hid (And.intro l2' (new_block HT.out k2))
          have HT2 := Lib.hid (HT.out.below hb)
          have HBF := Lib.hid (HBW.out.trans (hb.mono HBW.out.size))
          have HML := Lib.hid (And.intro hml (matL_len i j F))
          clear hr hb hj hjn l2' k2 hml
          go_wp2_with (at_builtin; refine wpList_pushT (.tmp 38) (.tmp 40) rfl rfl w.heap.size u0 (matL i j F) ((List.range j).map (F i)) a2 j c2 wr rfl HT2.out HML.out.1 HL2.out.1 HL2.out.2 rfl (by rw [HML.out.2]; omega) HBF.out.size ?_; intro v' w4 ht4 hb4 hg4)
          have HF := Lib.hid (And.intro (show TabO w4 w.heap.size v' (matL (i + 1) j F) by rw [matL_next]; exact ht4) (HBF.out.trans hb4))
          clear ht4 hb4 hg4
          go_wp2
          go_roundg (j - i - 1)
          case rel => exact ⟨i + 1, by have := HK.out; omega, by go_num, HF.out.1, HF.out.2⟩
          case measure => have := HK.out; omega
    · have l1 : ¬ (i : Int) < (n : Int) := by omega
      have HF := Lib.hid (show TabO wr w.heap.size u3 (matL n n F) by have := HT.out; rw [show i = n by omega] at this; exact this)
      clear hig hin ht hb
      go_wp2
      go_ret
      exact ⟨_, rfl, HF.out, HBW.out⟩
end Go.Proofs.Ytgfenponlkmfmaa
