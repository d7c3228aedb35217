/- The walks of gram and volume. Condition: the tables lie in memory, of rows of the same length. -/
import Derived.Test.YtgfenponlkmfmaaGram2
import Derived.Deep.RegionHeld3
namespace Go.Proofs.Ytgfenponlkmfmaa
open Go.RowKit
attribute [local go_sem] Oper.semAt_some

/-- What lies in a cell, left unread. -/
def vAt (b o : Nat) (w : World) : Value := (w.cell? ⟨b, o, none⟩).getD undef
theorem vAt_of {b o : Nat} {w : World} {v : Value} (h : w.cell? ⟨b, o, none⟩ = some v) : w.cell? ⟨b, o, none⟩ = some (vAt b o w) := by
  unfold vAt
  rw [h]
  rfl
/-- A table that is being filled, the number at row i, place j unread. -/
def MX (w : World) (G n : Nat) (gs : Nat → Nat) (Z : Nat → Nat → Int) (i j : Nat) (W : World) : Prop := ∃ x, Mat w G n n gs (fun q k => if q = i ∧ k = j then x else Z q k) (i + 1) W
/-- What holds while a number at row i, place j is worked out and stored. -/
def SX (w : World) (G n g : Nat) (gs : Nat → Nat) (Z : Nat → Nat → Int) (i j : Nat) (W : World) : Prop :=
  W.cell? ⟨G, i, none⟩ = some (.slice (some ⟨g, 0, none⟩) n n) ∧ W.cell? ⟨g, j, none⟩ = some (vAt g j W) ∧ W.frozen? ⟨g, j, none⟩ = false ∧ MX w G n gs Z i j W
theorem SX.of {w W : World} {G n g i j : Nat} {gs : Nat → Nat} {Z : Nat → Nat → Int} (h : MX w G n gs Z i j W) (hg : gs i = g) (hi : i < n) (hj : j < n) : SX w G n g gs Z i j W := by
  obtain ⟨x, hm⟩ := h
  refine ⟨?_, vAt_of (v := .int .i64 x) ?_, ?_, ⟨x, hm⟩⟩
  · rw [hm.top hi, if_pos (by omega), hg]
  · have := hm.cell (q := i) (by omega) hj
    rw [hg] at this
    simpa using this
  · have := hm.frozen (q := i) (by omega) j
    rw [hg] at this
    exact this
theorem SX.drew {w W : World} {G n g i j : Nat} {gs : Nat → Nat} {Z : Nat → Nat → Int} (h : SX w G n g gs Z i j W) : SX w G n g gs Z i j W.drew :=
  ⟨h.1, h.2.1, h.2.2.1, h.2.2.2.imp fun _ hm => hm.drew⟩
theorem SX.put {w W : World} {G n g i j : Nat} {gs : Nat → Nat} {Z : Nat → Nat → Int} (h : SX w G n g gs Z i j W) (hg : gs i = g) (hi : i < n) (hj : j < n) (y : Int) :
    Mat w G n n gs (fun q k => if q = i ∧ k = j then y else Z q k) (i + 1) (W.setCell ⟨g, j, none⟩ (.int .i64 y)) := by
  obtain ⟨x, hm⟩ := h.2.2.2
  have := hm.put (q := i) (by omega) j y
  rw [hg] at this
  refine this.congr fun q k _ _ => ?_
  by_cases e : q = i ∧ k = j
  · simp [e]
  · simp only [if_neg e]
theorem SX.stored {w W : World} {G n g i j : Nat} {gs : Nat → Nat} {Z : Nat → Nat → Int} (h : SX w G n g gs Z i j W) (hg : gs i = g) (hi : i < n) (hj : j < n) (y : Int) : SX w G n g gs Z i j (W.setCell ⟨g, j, none⟩ (.int .i64 y)) :=
  SX.of ⟨y, h.put hg hi hj y⟩ hg hi hj
theorem SX.below {w W : World} {G n g i j : Nat} {gs : Nat → Nat} {Z : Nat → Nat → Int} (h : SX w G n g gs Z i j W) : Below w.heap.size w W := by
  obtain ⟨x, hm⟩ := h.2.2.2
  exact hm.b
theorem mx_of {w W : World} {G n i j : Nat} {gs : Nat → Nat} {Z : Nat → Nat → Int} {x : Int} (h : Mat w G n n gs (fun q k => if q = i ∧ k = j then x else Z q k) (i + 1) W) : MX w G n gs Z i j W := ⟨x, h⟩
attribute [local irreducible] vAt MX
/-- All rows have d numbers. -/
def Wide (d n : Nat) (L : List (List Int)) : Prop := ∀ i, i < n → (row L i).length = d
/-- The inner products of the rows of two tables. -/
def grmAB (d : Nat) (A B : List (List Int)) : Nat → Nat → Int := fun i j => dot d (ent A i) (ent B j)

set_option maxHeartbeats 4000000 in
set_option maxRecDepth 100000 in
theorem gram_any (a a' : Option Addr) (n c c' d : Nat) (A B : List (List Int)) (w : World) (h : Tab w a n A) (h' : Tab w a' n B) (hn : n ≤ 4) (hd : d ≤ 1000) (hA : Wide d n A) (hB : Wide d n B) :
    Calls Try.prog 117 #[.slice a n c, .slice a' n c'] w fun e w' => e = .returned (.int .i64 (wrap64 (det n (grmAB d A B)))) ∧ Below w.heap.size w w' := by
  obtain ⟨i0, hi, hz0, hz1, hz2⟩ := info_parts info35
  obtain ⟨i1, ki, kz0, kz1, kz2⟩ := info_parts info3
  have HI1 := Lib.hid (And.intro ki (And.intro kz0 (And.intro kz1 kz2)))
  have H := Lib.hid h
  have H' := Lib.hid h'
  have HA := Lib.hid hA
  have HB := Lib.hid hB
  have n0 : (0 : Int) ≤ (n : Int) := by omega
  clear h h' hA hB ki kz0 kz1 kz2
  go_enter Try.func117, Try.ntmps117
  go_wp2_with (at_make; refine wpList_make_full _ rfl _ _ 22 rfl w.heap.size 35 i0 (.slice none 0 0) 1 Try.underlying22 hi hz0 hz1 _ _ _ _ n rfl rfl (by omega) (by omega) (by rw [hz2]; omega) (by unfold maxLen; omega) (Nat.le_refl _) ?_; intro w1 hown hgrow)
  have S0 := Lib.hid (Mat.start (m := n) hown ((Below.refl w.heap.size w).grown hgrow (Nat.le_refl _) (fun k e => by cases e)) (fun _ => 0) (fun _ _ => 0))
  clear hown hgrow hi hz0 hz1 hz2
  obtain ⟨G, hG⟩ : ∃ G, w.heap.size = G := ⟨_, rfl⟩
  have HG := Lib.hid hG
  rw [hG]
  have S1 : Mat w G n n (fun _ => 0) (fun _ _ => 0) 0 w1 := by rw [← hG]; exact S0.out
  have HS1 := Lib.hid S1
  clear S1 S0 hG
  go_loopg [15] n (fun gk s15 wr => ∃ (i : Nat) (gs : Nat → Nat), i + gk = n ∧ s15 = .int .i64 (i : Int) ∧ Mat w G n n gs (fun q j => wrap64 (grmAB d A B q j)) i wr)
  case atStart => exact ⟨0, fun _ => 0, by omega, rfl, HS1.out.congr fun q j hq => by omega⟩
  case round =>
    obtain ⟨i, gs, hig, rfl, hs⟩ := hrel
    have HS := Lib.hid hs
    have HK := Lib.hid hig
    clear hs HS1
    by_cases hin : i < n
    · have l1 : (i : Int) < (n : Int) := by omega
      have i0 : (0 : Int) ≤ (i : Int) := by omega
      obtain ⟨b, off, ai, ci, rfl, hbl, hcell0, hlie⟩ := H.out.at hin
      have hcell := (HS.out.b.cell (p := ⟨b, off + i, none⟩) hbl).trans hcell0
      have hrl := HA.out i hin
      rw [hrl] at hcell
      have hlie' := hlie.ints
      rw [hrl] at hlie'
      have HLI := Lib.hid (fun W (hb : Below w.heap.size w W) => hlie'.below hb)
      have hfr := HS.out.topFrozen i
      have htop := HS.out.top hin
      rw [if_neg (by omega)] at htop
      obtain ⟨ki, kz0, kz1, kz2⟩ := HI1.out
      obtain ⟨W0, rfl⟩ : ∃ W0, W0 = wr := ⟨_, rfl⟩
      clear hlie hlie' hrl hig hcell0
      have HTOP := Lib.hid htop
      clear htop hfr
      go_wp2_with (at_make; refine wpList_make_full _ rfl _ _ 35 rfl W0.heap.size 3 i1 (.int .i64 0) 1 Try.underlying35 ki kz0 kz1 _ _ _ _ n rfl rfl (by omega) (by omega) (by rw [kz2]; omega) (by unfold maxLen; omega) (Nat.le_refl _) ?_; intro w2 hown hgrow; have hb2 : Below W0.heap.size W0 w2 := (Below.refl W0.heap.size W0).grown hgrow (Nat.le_refl _) (fun k e => by cases e); have htop2 : w2.cell? ⟨G, i, none⟩ = some (.slice none 0 0) := (hb2.cell (p := ⟨G, i, none⟩) (World.block_lt_of_cell? _ _ HTOP.out)).trans HTOP.out; have hfr2 := (HS.out.later hb2).topFrozen i; have C2 := Lib.hid (CoState.made hown hb2); clear hown hgrow hb2)
      have hadd : Mat w G n n (fun q => if q = i then W0.heap.size else gs q) (fun q => if q = i then fun _ => 0 else fun j => wrap64 (grmAB d A B q j)) (i + 1) (w2.setCell ⟨G, i, none⟩ (.slice (some ⟨W0.heap.size, 0, none⟩) n n)) :=
        HS.out.add hin C2.out.b (Nat.le_refl _) (C2.out.own.lt _ rfl).2 C2.out.own
      obtain ⟨g, hg⟩ : ∃ g, W0.heap.size = g := ⟨_, rfl⟩
      rw [hg] at hadd ⊢
      obtain ⟨W3, hW3⟩ : ∃ W3, w2.setCell ⟨G, i, none⟩ (.slice (some ⟨g, 0, none⟩) n n) = W3 := ⟨_, rfl⟩
      rw [hW3] at hadd ⊢
      have HADD := Lib.hid hadd
      have HBB := Lib.hid (show Tab w a' n B from H'.out)
      clear hadd hW3 hg C2 htop2 hfr2
      go_wp2
      go_loopg [28] n (fun gk s28 wr => ∃ (j : Nat), j + gk = n ∧ s28 = .int .i64 (j : Int) ∧ Mat w G n n (fun q => if q = i then g else gs q) (fun q k => if q = i then (if k < j then wrap64 (grmAB d A B i k) else 0) else wrap64 (grmAB d A B q k)) (i + 1) wr)
      case atStart => exact ⟨0, by omega, rfl, HADD.out.congr fun q k hq hk => by by_cases hqi : q = i <;> simp [hqi]⟩
      case round =>
        obtain ⟨j, hj, rfl, hs⟩ := hrel
        have HM := Lib.hid hs
        have HJ := Lib.hid hj
        clear hs HADD
        by_cases hjn : j < n
        · have l2 : (j : Int) < (n : Int) := by omega
          have j0 : (0 : Int) ≤ (j : Int) := by omega
          obtain ⟨b', off', aj, cj, rfl, hbl', hcell0', hlie2⟩ := HBB.out.at hjn
          have hcell' := (HM.out.b.cell (p := ⟨b', off' + j, none⟩) hbl').trans hcell0'
          have hrl2 := HB.out j hjn
          rw [hrl2] at hcell'
          have hlie2' := hlie2.ints
          rw [hrl2] at hlie2'
          obtain ⟨Z, hZ⟩ : ∃ Z : Nat → Nat → Int, (fun q k => if q = i then (if k < j then wrap64 (grmAB d A B i k) else 0) else wrap64 (grmAB d A B q k)) = Z := ⟨_, rfl⟩
          obtain ⟨gs2, hgs2⟩ : ∃ gs2 : Nat → Nat, (fun q => if q = i then g else gs q) = gs2 := ⟨_, rfl⟩
          have hgi : gs2 i = g := by rw [← hgs2]; simp
          have hmx : MX w G n gs2 Z i j wr := mx_of (x := 0) (by
            rw [← hgs2, ← hZ]
            refine HM.out.congr fun q k hq hk => ?_
            by_cases e : q = i ∧ k = j
            · simp [e]
            · simp only [if_neg e])
          have HSX := Lib.hid (SX.of hmx hgi hin hjn)
          have HZ := Lib.hid hZ
          have HGS := Lib.hid (And.intro hgs2 hgi)
          have HI := Lib.hid (fun (W : World) (hS : SX w G n g gs2 Z i j W) => inner_any ai aj d ci d cj (row A i) (row B j) W (HLI.out W hS.below) (hlie2'.below hS.below) (Nat.le_refl _) hd)
          have HN1 := Lib.hid (fun (W : World) (hS : SX w G n g gs2 Z i j W) => hS.drew)
          have HN2 := Lib.hid (fun (W : World) (y : Int) (hS : SX w G n g gs2 Z i j W) => hS.stored HGS.out.2 hin hjn y)
          clear hZ hgs2 hgi hmx hlie2 hlie2' hrl2 hcell0' hj
          go_wp2
          go_region_held3 (fun W => W.cell? ⟨G, i, none⟩ = some (.slice (some ⟨g, 0, none⟩) n n) ∧ W.cell? ⟨g, j, none⟩ = some (vAt g j W) ∧ W.frozen? ⟨g, j, none⟩ = false ∧ MX w G n gs2 Z i j W)
            (first | exact HSX.out | exact HN1.out _ HSX.out | exact HN1.out _ (by assumption) | exact HN2.out _ _ (by assumption))
            ((go_at_call 105; refine (HI.out _ (by first | assumption | exact HN1.out _ HSX.out)).mono ?_; rintro e wx ⟨rfl, rfl⟩))
          have hS : SX w G n g gs2 Z i j wr := by assumption
          have hm2 := hS.put HGS.out.2 hin hjn (wrap64 (dot d (nt (row A i)) (nt (row B j))))
          have hm3 : Mat w G n n (fun q => if q = i then g else gs q) (fun q k => if q = i then (if k < j + 1 then wrap64 (grmAB d A B i k) else 0) else wrap64 (grmAB d A B q k)) (i + 1) (wr.setCell ⟨g, j, none⟩ (.int .i64 (wrap64 (dot d (nt (row A i)) (nt (row B j)))))) := by
            rw [HGS.out.1]
            refine hm2.congr fun q k hq hk => ?_
            rw [← HZ.out]
            by_cases e : q = i ∧ k = j
            · obtain ⟨rfl, rfl⟩ := e
              simp
              rfl
            · simp only [if_neg e]
              by_cases hqi : q = i
              · simp only [if_pos hqi]
                have hkj : k ≠ j := fun e2 => e ⟨hqi, e2⟩
                by_cases hk2 : k < j
                · rw [if_pos hk2, if_pos (by omega)]
                · rw [if_neg hk2, if_neg (by omega)]
              · simp only [if_neg hqi]
          have HF := Lib.hid hm3
          clear hm2 hm3 hS
          go_wp2
          go_roundg (gk - 1)
          case rel => exact ⟨j + 1, by have := HJ.out; omega, by go_num, HF.out.drew⟩
          case measure => have := HJ.out; omega
        · have l2 : ¬ (j : Int) < (n : Int) := by omega
          have HF := Lib.hid (HM.out.congr (Z' := fun q k => wrap64 (grmAB d A B q k)) fun q k hq hk => by
            by_cases hqi : q = i
            · subst hqi
              simp [show k < j by omega]
            · simp [hqi])
          clear hj hjn
          go_wp2
          go_roundg (n - i - 1)
          case rel => exact ⟨i + 1, _, by have := HK.out; omega, by go_num, HF.out⟩
          case measure => have := HK.out; omega
    · have l1 : ¬ (i : Int) < (n : Int) := by omega
      have hin2 : i = n := by omega
      subst hin2
      have hC := determinant_any (some ⟨G, 0, none⟩) i i _ wr HS.out.tab hn (fun q hq => by rw [matL_row hq]; simp)
      have hdm : wrap64 (det i (ent (matL i i fun q j => wrap64 (grmAB d A B q j)))) = wrap64 (det i (grmAB d A B)) := w64_eq (det_mod _ fun r q hr hq => by rw [matL_ent hr hq]; exact w64_mod _)
      rw [hdm] at hC
      have HC := Lib.hid hC
      clear hC hdm hig
      go_wp2_with fail
      refine HC.out.mono ?_
      rintro e w2 ⟨rfl, rfl⟩
      go_wp2
      go_ret
      exact ⟨rfl, HS.out.b⟩

/-- The inner products of the rows of a table. -/
def grmL (d : Nat) (L : List (List Int)) : Nat → Nat → Int := grmAB d L L
theorem grmL_eq (d : Nat) (L : List (List Int)) : grmL d L = grm d (ent L) := rfl
theorem volume_any (a : Option Addr) (n c d : Nat) (L : List (List Int)) (w : World) (h : Tab w a n L) (hn : n ≤ 4) (hd : d ≤ 1000) (hL : Wide d n L) :
    Calls Try.prog 95 #[.slice a n c] w fun e w' => e = .returned (.int .i64 (wrap64 (det n (grm d (ent L))))) ∧ Below w.heap.size w w' := by
  have hC := gram_any a a n c c d L L w h h hn hd hL hL
  have HC := Lib.hid hC
  clear hC h hL
  go_enter Try.func95, Try.ntmps95
  go_wp2_with fail
  refine HC.out.mono ?_
  rintro e w1 ⟨rfl, hb⟩
  go_wp2
  go_ret
  exact ⟨rfl, hb⟩
end Go.Proofs.Ytgfenponlkmfmaa
