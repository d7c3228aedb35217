/- The walks of dual, Dual and Det. Condition: the table lies in memory. -/
import Derived.Test.YtgfenponlkmfmaaRHas
namespace Go.Proofs.Ytgfenponlkmfmaa
open Go.RowKit
attribute [local go_sem] Oper.semAt_some

def unitL (n j : Nat) : List Int := (List.range n).map fun c => if c = j then 1 else 0
theorem unitL_len (n j : Nat) : (unitL n j).length = n := by simp [unitL]
theorem unitL_nt {n j c : Nat} (h : c < n) : nt (unitL n j) c = unit j c := by
  unfold nt unitL unit
  rw [List.getD_eq_getElem?_getD, List.getElem?_map, List.getElem?_range h]
  rfl
theorem cof_small {n i j : Nat} {e : Nat → Nat → Int} (h1 : 1 ≤ n) (hn : n ≤ 4) (hi : i < n) (hj : j < n) (he : ∀ r c, r < n → c < n → (e r c).natAbs ≤ 20) : (cof n e i j).natAbs ≤ 48000 := by
  have hb := det_le (n := n - 1) (M := fun _ => 20) (e := sub e i j) fun r c hr hc => by
    unfold sub
    exact he _ _ (by unfold skip; split <;> omega) (by unfold skip; split <;> omega)
  have h2 : bnd (fun _ => 20) (n - 1) 0 ≤ 48000 := by
    have : n - 1 = 0 ∨ n - 1 = 1 ∨ n - 1 = 2 ∨ n - 1 = 3 := by omega
    rcases this with h | h | h | h <;> rw [h] <;> decide
  have h3 : (cof n e i j).natAbs = (det (n - 1) (sub e i j)).natAbs := by
    unfold cof sgn
    split
    · rw [Int.natAbs_mul]; simp
    · rw [Int.natAbs_mul]; simp
  omega

/-- A vector of the call's own, left unread. -/
def UL (gu n : Nat) (l : List Int) (W : World) : Prop := Lies W (some ⟨gu, 0, none⟩) n l
def SU (w : World) (G n g gu : Nat) (gs : Nat → Nat) (Z : Nat → Nat → Int) (i j : Nat) (l : List Int) (W : World) : Prop :=
  W.cell? ⟨G, i, none⟩ = some (.slice (some ⟨g, 0, none⟩) n n) ∧ W.cell? ⟨g, j, none⟩ = some (vAt g j W) ∧ W.frozen? ⟨g, j, none⟩ = false ∧ MX w G n gs Z i j W ∧ UL gu n l W
theorem SU.sx {w W : World} {G n g gu i j : Nat} {gs : Nat → Nat} {Z : Nat → Nat → Int} {l : List Int} (h : SU w G n g gu gs Z i j l W) : SX w G n g gs Z i j W := ⟨h.1, h.2.1, h.2.2.1, h.2.2.2.1⟩
theorem SU.of {w W : World} {G n g gu i j : Nat} {gs : Nat → Nat} {Z : Nat → Nat → Int} {l : List Int} (h : SX w G n g gs Z i j W) (hu : UL gu n l W) : SU w G n g gu gs Z i j l W := ⟨h.1, h.2.1, h.2.2.1, h.2.2.2, hu⟩
theorem SX.next {w W W' : World} {G n g i j : Nat} {gs : Nat → Nat} {Z : Nat → Nat → Int} (h : SX w G n g gs Z i j W) (hg : gs i = g) (hi : i < n) (hj : j < n) (hb : Below W.heap.size W W') : SX w G n g gs Z i j W' := by
  have hm := h.2.2.2
  unfold MX at hm
  obtain ⟨x, hm⟩ := hm
  exact SX.of (mx_of (hm.later hb)) hg hi hj
theorem SU.next {w W W' : World} {G n g gu i j : Nat} {gs : Nat → Nat} {Z : Nat → Nat → Int} {l : List Int} (h : SU w G n g gu gs Z i j l W) (hg : gs i = g) (hi : i < n) (hj : j < n) (hb : Below W.heap.size W W') : SU w G n g gu gs Z i j l W' :=
  SU.of (h.sx.next hg hi hj hb) (Lies.below h.2.2.2.2 hb)
theorem SU.stored {w W : World} {G n g gu i j : Nat} {gs : Nat → Nat} {Z : Nat → Nat → Int} {l : List Int} (h : SU w G n g gu gs Z i j l W) (hg : gs i = g) (hi : i < n) (hj : j < n) (hne : g ≠ gu) (y : Int) : SU w G n g gu gs Z i j l (W.setCell ⟨g, j, none⟩ (.int .i64 y)) :=
  SU.of (h.sx.stored hg hi hj y) (Lies.keep h.2.2.2.2 (g := some g) (fun ad e => by cases e; intro e2; exact hne (Option.some.inj e2)) (by simp) fun k _ hk => Below.heap_setCell W ⟨g, j, none⟩ _ k (fun e => hk (by rw [e])))
attribute [local irreducible] vAt MX UL

set_option maxHeartbeats 4000000 in
set_option maxRecDepth 100000 in
theorem dual_any (b off n c : Nat) (L : List (List Int)) (w : World) (h : Tab w (some ⟨b, off, none⟩) n L) (B : Bas n L) :
    Calls Try.prog 88 #[.slice (some ⟨b, off, none⟩) n c] w fun e w' => ∃ G, e = .returned (.slice (some ⟨G, 0, none⟩) n n) ∧ Tab w' (some ⟨G, 0, none⟩) n (matL n n (cof n (ent L))) ∧ Below w.heap.size w w' := by
  have hn1 := B.n1
  have hn4 := B.n4
  obtain ⟨i0, hi, hz0, hz1, hz2⟩ := info_parts info35
  have hW : ∀ W i j gu, i < n → j < n → Below w.heap.size w W → UL gu n (unitL n j) W → Calls Try.prog 93 #[.slice (some ⟨b, off, none⟩) n c, .int .i64 (i : Int), .slice (some ⟨gu, 0, none⟩) n n] W fun e w' => ∃ a' c', e = .returned (.slice a' n c') ∧ Tab w' a' n (L.set i (unitL n j)) ∧ Below W.heap.size W w' := by
    intro W i j gu hi hj hb hu
    unfold UL at hu
    exact with_any b off n c i L (unitL n j) _ n n W (h.below hb) (fun r hr => by rw [B.sq r hr]; omega) (by omega) hi hu (unitL_len n j) (by omega)
  have hDT : ∀ W i j a' c', i < n → j < n → Tab W a' n (L.set i (unitL n j)) → Calls Try.prog 57 #[.slice a' n c'] W fun e w' => e = .returned (.int .i64 (cof n (ent L) i j)) ∧ w' = W := by
    intro W i j a' c' hi hj ht
    have := determinant_any a' n c' _ W ht hn4 (set_sq h.1 B.sq (unitL_len n j) hi)
    rw [set_ent (by rw [h.1]; exact hi), show det n (wth (ent L) i (nt (unitL n j))) = cof n (ent L) i j from by
      rw [← dual_cof B.n1 hn4 hi hj]
      refine det_congr fun r q hr hq => ?_
      unfold wth
      split
      · exact unitL_nt hq
      · rfl, IntWalk.wrap64_in (cof n (ent L) i j) (by have := cof_small B.n1 hn4 hi hj B.small; omega)] at this
    exact this
  obtain ⟨F, hF⟩ : ∃ F : Nat → Nat → Int, cof n (ent L) = F := ⟨_, rfl⟩
  rw [hF] at hDT ⊢
  have HW := Lib.hid hW
  have HDT := Lib.hid hDT
  have n0 : (0 : Int) ≤ (n : Int) := by omega
  have HO := Lib.hid (fun W => origin_any n W (by omega))
  clear hW hDT h B hF
  go_enter Try.func88, Try.ntmps88
  go_wp2_with (at_make; refine wpList_make_full _ rfl _ _ 66 rfl w.heap.size 35 i0 (.slice none 0 0) 1 Try.underlying66 hi hz0 hz1 _ _ _ _ n rfl rfl (by omega) (by omega) (by rw [hz2]; omega) (by unfold maxLen; omega) (Nat.le_refl _) ?_; intro w1 hown hgrow)
  have S0 := Lib.hid (Mat.start (m := n) hown ((Below.refl w.heap.size w).grown hgrow (Nat.le_refl _) (fun k e => by cases e)) (fun _ => 0) (fun _ _ => 0))
  clear hown hgrow hi hz0 hz1 hz2
  obtain ⟨G, hG⟩ : ∃ G, w.heap.size = G := ⟨_, rfl⟩
  have HG := Lib.hid hG
  rw [hG]
  have S1 : Mat w G n n (fun _ => 0) (fun _ _ => 0) 0 w1 := by rw [← hG]; exact S0.out
  have HS1 := Lib.hid S1
  clear S1 S0 hG
  go_loopg [12] n (fun gk s12 wr => ∃ (i : Nat) (gs : Nat → Nat), i + gk = n ∧ s12 = .int .i64 (i : Int) ∧ Mat w G n n gs F i wr)
  case atStart => exact ⟨0, fun _ => 0, by omega, rfl, HS1.out.congr fun q j hq => by omega⟩
  case round =>
    obtain ⟨i, gs, hig, rfl, hs⟩ := hrel
    have HS := Lib.hid hs
    have HK := Lib.hid hig
    clear hs HS1
    by_cases hin : i < n
    · have l1 : (i : Int) < (n : Int) := by omega
      have i0 : (0 : Int) ≤ (i : Int) := by omega
      have htop := HS.out.top hin
      rw [if_neg (by omega)] at htop
      obtain ⟨W0, rfl⟩ : ∃ W0, W0 = wr := ⟨_, rfl⟩
      have HTOP := Lib.hid htop
      clear hig htop
      go_wp2_with fail
      refine (HO.out _).mono ?_
      rintro e w2 ⟨g, rfl, hco, hb2⟩
      have htop2 := cell_later HTOP.out hb2
      have hfr2 := (HS.out.later hb2).topFrozen i
      have hadd : Mat w G n n (fun q => if q = i then g else gs q) (fun q => if q = i then fun _ => 0 else F q) (i + 1) (w2.setCell ⟨G, i, none⟩ (.slice (some ⟨g, 0, none⟩) n n)) :=
        HS.out.add hin hco.b (hco.own.lt g rfl).1 (hco.own.lt g rfl).2 hco.own
      have htop3 : (w2.setCell ⟨G, i, none⟩ (.slice (some ⟨g, 0, none⟩) n n)).cell? ⟨G, i, none⟩ = some (.slice (some ⟨g, 0, none⟩) n n) := by simpa using hadd.top hin
      have HADD := Lib.hid hadd
      clear hadd hco hb2
      go_wp2
      obtain ⟨W3, hW3⟩ : ∃ W3, w2.setCell ⟨G, i, none⟩ (.slice (some ⟨g, 0, none⟩) n n) = W3 := ⟨_, rfl⟩
      have hadd := HADD.out
      rw [hW3] at hadd ⊢
      have HADD2 := Lib.hid hadd
      clear hadd hW3 htop2 hfr2 htop3 HADD
      go_loopg [26] n (fun gk s26 wr => ∃ (j : Nat), j + gk = n ∧ s26 = .int .i64 (j : Int) ∧ Mat w G n n (fun q => if q = i then g else gs q) (fun q k => if q = i then (if k < j then F i k else 0) else F q k) (i + 1) wr)
      case atStart => exact ⟨0, by omega, rfl, HADD2.out.congr fun q k hq hk => by by_cases hqi : q = i <;> simp [hqi]⟩
      case round =>
        obtain ⟨j, hj, rfl, hs⟩ := hrel
        have HM := Lib.hid hs
        have HJ := Lib.hid hj
        clear hs HADD2
        by_cases hjn : j < n
        · have l2 : (j : Int) < (n : Int) := by omega
          have j0 : (0 : Int) ≤ (j : Int) := by omega
          obtain ⟨W4, rfl⟩ : ∃ W4, W4 = wr := ⟨_, rfl⟩
          clear hj
          go_wp2_with fail
          refine (HO.out _).mono ?_
          rintro e w5 ⟨gu, rfl, hcu, hb5⟩
          have hcell := hcu.cell hjn
          have hfz := hcu.frozen j
          have hunit := (hcu.put j 1).row
          have hbu := (hcu.put j 1).b
          have hgu : W4.heap.size ≤ gu := (hcu.own.lt gu rfl).1
          have hguu : ((List.range n).map fun q => if q = j then (1 : Int) else 0) = unitL n j := rfl
          rw [hguu] at hunit
          obtain ⟨au, cu, eu, lu, -⟩ := hunit.lies
          rw [unitL_len] at eu
          cases eu
          have HUL := Lib.hid (show UL gu n (unitL n j) (w5.setCell ⟨gu, j, none⟩ (.int .i64 1)) by unfold UL; exact lu)
          have HM5 := Lib.hid (HM.out.later hbu)
          have hgl := (HM.out.rows i (by omega)).2.1
          simp only [if_true] at hgl
          clear hunit lu hbu hguu hcu hb5
          go_wp2
          obtain ⟨W6, hW6⟩ : ∃ W6, w5.setCell ⟨gu, j, none⟩ (.int .i64 1) = W6 := ⟨_, rfl⟩
          have hul := HUL.out
          have hm5 := HM5.out
          rw [hW6] at hul hm5 ⊢
          clear hcell hfz hW6 HUL HM5
          obtain ⟨Z, hZ⟩ : ∃ Z : Nat → Nat → Int, (fun q k => if q = i then (if k < j then F i k else 0) else F q k) = Z := ⟨_, rfl⟩
          obtain ⟨gs2, hgs2⟩ : ∃ gs2 : Nat → Nat, (fun q => if q = i then g else gs q) = gs2 := ⟨_, rfl⟩
          have hgi : gs2 i = g := by rw [← hgs2]; simp
          have hmx : MX w G n gs2 Z i j W6 := mx_of (x := 0) (by
            rw [← hgs2, ← hZ]
            refine hm5.congr fun q k hq hk => ?_
            by_cases e : q = i ∧ k = j
            · simp [e]
            · simp only [if_neg e])
          have HZ := Lib.hid hZ
          have HGS := Lib.hid (And.intro hgs2 hgi)
          have H0 := Lib.hid (SU.of (SX.of hmx hgi hin hjn) hul)
          have HN1 := Lib.hid (fun (W1 W2 : World) (hb : Below W1.heap.size W1 W2) (h : SU w G n g gu gs2 Z i j (unitL n j) W1) => h.next HGS.out.2 hin hjn hb)
          have HDR := Lib.hid (fun (W1 : World) => Below.drew (Below.refl W1.heap.size W1))
          have HN2 := Lib.hid (fun (W1 : World) (y : Int) (h : SU w G n g gu gs2 Z i j (unitL n j) W1) => h.stored HGS.out.2 hin hjn (by omega) y)
          have HCW := Lib.hid (fun (W1 : World) (h : SU w G n g gu gs2 Z i j (unitL n j) W1) => HW.out W1 i j gu hin hjn h.sx.below h.2.2.2.2)
          have HCD := Lib.hid (fun (W1 : World) (a' : Option Addr) (c' : Nat) (h : Tab W1 a' n (L.set i (unitL n j))) => HDT.out W1 i j a' c' hin hjn h)
          clear hZ hgs2 hgi hmx hul hm5 hgl hgu
          obtain ⟨x, hx⟩ : ∃ x, F i j = x := ⟨_, rfl⟩
          rw [hx] at HCD
          have HX := Lib.hid hx
          clear hx
          go_region_held3 (fun W => W.cell? ⟨G, i, none⟩ = some (.slice (some ⟨g, 0, none⟩) n n) ∧ W.cell? ⟨g, j, none⟩ = some (vAt g j W) ∧ W.frozen? ⟨g, j, none⟩ = false ∧ MX w G n gs2 Z i j W ∧ UL gu n (unitL n j) W)
            (first | assumption | exact H0.out | exact HN1.out _ _ (HDR.out _) H0.out | exact HN1.out _ _ (HDR.out _) (by assumption) | exact HN1.out _ _ hbw (by assumption) | exact HN2.out _ _ (by assumption))
            ((first
              | (go_at_call 93; refine (HCW.out _ (by first | assumption | exact H0.out | exact HN1.out _ _ (HDR.out _) H0.out)).mono ?_; rintro e wx ⟨a', c', rfl, htw, hbw⟩)
              | (go_at_call 57; refine (HCD.out _ a' c' (by first | exact htw | exact htw.drew 1)).mono ?_; rintro e wx ⟨rfl, rfl⟩)))
          have hS : SU w G n g gu gs2 Z i j (unitL n j) wx := by first | exact HN1.out _ _ hbw H0.out | exact HN1.out _ _ hbw (HN1.out _ _ (HDR.out _) H0.out)
          have hm2 := hS.sx.put HGS.out.2 hin hjn x
          have hm3 : Mat w G n n (fun q => if q = i then g else gs q) (fun q k => if q = i then (if k < j + 1 then F i k else 0) else F q k) (i + 1) (wx.setCell ⟨g, j, none⟩ (.int .i64 x)) := by
            rw [HGS.out.1]
            refine hm2.congr fun q k hq hk => ?_
            rw [← HZ.out]
            by_cases e : q = i ∧ k = j
            · obtain ⟨rfl, rfl⟩ := e
              simp [HX.out]
            · simp only [if_neg e]
              by_cases hqi : q = i
              · simp only [if_pos hqi]
                have hkj : k ≠ j := fun e2 => e ⟨hqi, e2⟩
                by_cases hk2 : k < j
                · rw [if_pos hk2, if_pos (by omega)]
                · rw [if_neg hk2, if_neg (by omega)]
              · simp only [if_neg hqi]
          have HF := Lib.hid hm3
          clear hm2 hm3 hS htw hbw
          go_wp2
          go_roundg (gk - 1)
          case rel => exact ⟨j + 1, by have := HJ.out; omega, by go_num, by first | exact HF.out | exact HF.out.drew⟩
          case measure => have := HJ.out; omega
        · have l2 : ¬ (j : Int) < (n : Int) := by omega
          have HF := Lib.hid (HM.out.congr (Z' := F) fun q k hq hk => by
            by_cases hqi : q = i
            · subst hqi
              simp [show k < j by omega]
            · simp [hqi])
          clear hj hjn
          go_wp2
          go_roundg (n - i - 1)
          case rel => exact ⟨i + 1, _, by have := HK.out; omega, by go_num, HF.out⟩
          case measure => have := HK.out; omega
    · have l1 : ¬ (i : Int) < (n : Int) := by omega
      have hin2 : i = n := by omega
      subst hin2
      have HF := Lib.hid HS.out.tab
      clear hig
      go_wp2
      go_ret
      exact ⟨G, rfl, HF.out, HS.out.b⟩

theorem Dual_no (a : Option Addr) (n c : Nat) (L : List (List Int)) (w : World) (h : Tab w a n L) (hn : n ≤ 1000) (hr : ∀ i, i < n → (row L i).length ≤ 1000) (hno : isBasis L = false) :
    Calls Try.prog 49 #[.slice a n c] w fun e w' => e = .returned (.tuple #[.slice none 0 0, .int .i64 2]) ∧ w' = w := by
  have hV := valid_any a n c L w h (by omega) (fun i hi => by have := hr i hi; omega)
  rw [hno] at hV
  have HV := Lib.hid hV
  clear hV hno h
  go_enter Try.func49, Try.ntmps49
  go_wp2_with fail
  refine HV.out.mono ?_
  rintro e w1 ⟨rfl, rfl⟩
  go_wp2
  go_ret2
  exact ⟨rfl, rfl⟩
theorem Dual_yes (a : Option Addr) (n c : Nat) (L : List (List Int)) (w : World) (h : Tab w a n L) (hb : isBasis L = true) :
    Calls Try.prog 49 #[.slice a n c] w fun e w' => ∃ G, e = .returned (.tuple #[.slice (some ⟨G, 0, none⟩) n n, .int .i64 0]) ∧ Tab w' (some ⟨G, 0, none⟩) n (matL n n (cof n (ent L))) ∧ Below w.heap.size w w' := by
  have B := bas_of h.1 hb
  have hV := valid_any a n c L w h (by have := B.n4; omega) (fun i hi => by rw [B.sq i hi]; have := B.n4; omega)
  rw [hb] at hV
  obtain ⟨b, off, ai, ci, rfl, -⟩ := h.at (show 0 < n by have := B.n1; omega)
  have HV := Lib.hid hV
  have HD := Lib.hid (dual_any b off n c L w h B)
  clear hV hb h B
  go_enter Try.func49, Try.ntmps49
  go_wp2_with fail
  refine HV.out.mono ?_
  rintro e w1 ⟨rfl, rfl⟩
  go_wp2_with fail
  refine HD.out.mono ?_
  rintro e w2 ⟨G, rfl, ht, hb⟩
  have HF := Lib.hid (And.intro ht hb)
  clear ht hb
  go_wp2
  go_ret2
  exact ⟨G, rfl, HF.out.1, HF.out.2⟩
theorem Det_no (a : Option Addr) (n c : Nat) (L : List (List Int)) (w : World) (h : Tab w a n L) (hn : n ≤ 1000) (hr : ∀ i, i < n → (row L i).length ≤ 1000) (hno : isBasis L = false) :
    Calls Try.prog 18 #[.slice a n c] w fun e w' => e = .returned (.tuple #[.int .i64 0, .int .i64 2]) ∧ w' = w := by
  have hV := valid_any a n c L w h (by omega) (fun i hi => by have := hr i hi; omega)
  rw [hno] at hV
  have HV := Lib.hid hV
  clear hV hno h
  go_enter Try.func18, Try.ntmps18
  go_wp2_with fail
  refine HV.out.mono ?_
  rintro e w1 ⟨rfl, rfl⟩
  go_wp2
  go_ret2
  exact ⟨rfl, rfl⟩
theorem Det_yes (a : Option Addr) (n c : Nat) (L : List (List Int)) (w : World) (h : Tab w a n L) (hb : isBasis L = true) :
    Calls Try.prog 18 #[.slice a n c] w fun e w' => e = .returned (.tuple #[.int .i64 (det n (ent L)), .int .i64 0]) ∧ w' = w := by
  have B := bas_of h.1 hb
  have hV := valid_any a n c L w h (by have := B.n4; omega) (fun i hi => by rw [B.sq i hi]; have := B.n4; omega)
  rw [hb] at hV
  have hD := determinant_any a n c L w h B.n4 B.sq
  rw [B.wrap] at hD
  obtain ⟨D, hDD⟩ : ∃ D, det n (ent L) = D := ⟨_, rfl⟩
  rw [hDD] at hD ⊢
  have HV := Lib.hid hV
  have HD := Lib.hid hD
  clear hV hD hDD hb h B
  go_enter Try.func18, Try.ntmps18
  go_wp2_with fail
  refine HV.out.mono ?_
  rintro e w1 ⟨rfl, rfl⟩
  go_wp2_with fail
  refine HD.out.mono ?_
  rintro e w2 ⟨rfl, rfl⟩
  go_wp2
  go_ret2
  exact ⟨rfl, rfl⟩
end Go.Proofs.Ytgfenponlkmfmaa
