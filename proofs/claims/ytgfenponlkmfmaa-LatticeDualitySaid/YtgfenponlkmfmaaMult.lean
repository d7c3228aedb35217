/- The walks of multiples and Has. Condition: the rows and the vector lie in memory. -/
import Derived.Test.YtgfenponlkmfmaaWith
namespace Go.Proofs.Ytgfenponlkmfmaa
open Go.RowKit
attribute [local go_sem] Oper.semAt_some

/-- The determinant with v in the place of row i. -/
def nu (n : Nat) (L : List (List Int)) (v : List Int) (i : Nat) : Int := det n (wth (ent L) i (nt v))
theorem set_sq {n i : Nat} {L : List (List Int)} {v : List Int} (hl : L.length = n) (hs : Sq n L) (hv : v.length = n) (hi : i < n) : Sq n (L.set i v) := by
  intro r hr
  rw [set_row (by omega)]
  split
  · exact hv
  · exact hs r hr
theorem nu_small {n i : Nat} {L : List (List Int)} {v : List Int} (hn : n ≤ 4) (he : ∀ r c, r < n → c < n → (ent L r c).natAbs ≤ 10000) (hv : ∀ c, c < n → (nt v c).natAbs ≤ 10000) : (nu n L v i).natAbs ≤ 240000000000000000 := by
  have hb := det_bound (n := n) (M := 10000) (e := wth (ent L) i (nt v)) hn fun r c hr hc => by
    unfold wth
    split
    · exact hv c hc
    · exact he r c hr hc
  have h2 := pow_cap (M := 10000) (by omega) hn
  have h3 : (10000 : Nat) ^ 4 = 10000000000000000 := by decide
  unfold nu
  have h5 : 24 * 10000 ^ n ≤ 24 * 10000000000000000 := Nat.mul_le_mul_left _ (by omega)
  omega

set_option maxHeartbeats 4000000 in
set_option maxRecDepth 100000 in
theorem multiples_any (b off n c : Nat) (L : List (List Int)) (v : List Int) (av : Option Addr) (cv : Nat) (D : Int) (w : World) (h : Tab w (some ⟨b, off, none⟩) n L) (hn : n ≤ 4) (h1 : 1 ≤ n) (hs : Sq n L) (hv : Lies w av cv v) (hvl : v.length = n)
    (he : ∀ r c, r < n → c < n → (ent L r c).natAbs ≤ 10000) (hvb : ∀ c, c < n → (nt v c).natAbs ≤ 10000) (hD : wrap64 (det n (ent L)) = D) (hD0 : D ≠ 0) :
    Calls Try.prog 67 #[.slice (some ⟨b, off, none⟩) n c, .slice av n cv] w fun e w' =>
      (((∀ i, i < n → (nu n L v i).tmod D = 0) ∧ ∃ vv, e = .returned (.tuple #[vv, .bool true]) ∧ Row w.heap.size vv ((List.range n).map fun i => (nu n L v i).tdiv D) w') ∨ ((¬ ∀ i, i < n → (nu n L v i).tmod D = 0) ∧ e = .returned (.tuple #[.slice none 0 0, .bool false]))) ∧ Below w.heap.size w w' := by
  have hC := determinant_any (some ⟨b, off, none⟩) n c L w h hn hs
  rw [hD] at hC
  have hW : ∀ i W, i < n → Below w.heap.size w W → Calls Try.prog 93 #[.slice (some ⟨b, off, none⟩) n c, .int .i64 (i : Int), .slice av n cv] W fun e w' => ∃ a' c', e = .returned (.slice a' n c') ∧ Tab w' a' n (L.set i v) ∧ Below W.heap.size W w' :=
    fun i W hi hb => with_any b off n c i L v av n cv W (h.below hb) (fun r hr => by rw [hs r hr]; omega) (by omega) hi (hv.below hb) hvl (by omega)
  have hDT : ∀ i W a' c', i < n → Tab W a' n (L.set i v) → Calls Try.prog 57 #[.slice a' n c'] W fun e w' => e = .returned (.int .i64 (nu n L v i)) ∧ w' = W := by
    intro i W a' c' hi ht
    have := determinant_any a' n c' (L.set i v) W ht hn (set_sq h.1 hs hvl hi)
    rw [set_ent (by rw [h.1]; exact hi)] at this
    have hsm := nu_small (i := i) hn he hvb
    rw [show wrap64 (det n (wth (ent L) i (nt v))) = nu n L v i from IntWalk.wrap64_in _ (by unfold nu at hsm; omega)] at this
    exact this
  have hNB : ∀ i, -240000000000000000 ≤ nu n L v i ∧ nu n L v i ≤ 240000000000000000 := fun i => by have := nu_small (i := i) hn he hvb; omega
  obtain ⟨N, hN⟩ : ∃ N : Nat → Int, nu n L v = N := ⟨_, rfl⟩
  rw [hN] at hDT hNB ⊢
  obtain ⟨i0, hi, hz0, hz1, hz2⟩ := info_parts info3
  have HC := Lib.hid hC
  have HW := Lib.hid hW
  have HDT := Lib.hid hDT
  have HNB := Lib.hid hNB
  have n0 : (0 : Int) ≤ (n : Int) := by omega
  clear hC hW hDT hNB hN hD h hv hs he hvb
  go_enter Try.func67, Try.ntmps67
  go_wp2_with fail
  refine HC.out.mono ?_
  rintro e w1 ⟨rfl, hw1⟩
  subst hw1
  go_wp2_with (at_make; refine wpList_make_full _ rfl _ _ 35 rfl w1.heap.size 3 i0 (.int .i64 0) 1 Try.underlying35 hi hz0 hz1 _ _ _ _ n rfl rfl (by omega) (by omega) (by rw [hz2]; omega) (by unfold maxLen; omega) (Nat.le_refl _) ?_; intro w2 hown hgrow)
  clear hi hz0 hz1 hz2
  have S0 := Lib.hid (CoState.made hown ((Below.refl w1.heap.size w1).grown hgrow (Nat.le_refl _) (fun k e => by cases e)))
  clear hown hgrow
  obtain ⟨g, hg⟩ : ∃ g, w1.heap.size = g := ⟨_, rfl⟩
  rw [hg] at S0 ⊢
  have HG := Lib.hid hg
  clear hg
  go_loopg [17] n (fun gk s17 wr => ∃ (i : Nat), i + gk = n ∧ s17 = .int .i64 (i : Int) ∧ RowKit.Hid (∀ q, q < i → (N q).tmod D = 0) ∧ CoState g n (fun q => if q < i then (N q).tdiv D else 0) w1 wr)
  case atStart => exact ⟨0, by omega, rfl, Lib.hid (fun q hq => by omega), S0.out.congr fun j _ => by rw [if_neg (by omega)]⟩
  case round =>
    obtain ⟨i, hig, rfl, HQ, hs⟩ := hrel
    have HS := Lib.hid hs
    have HK := Lib.hid hig
    clear hs S0
    by_cases hin : i < n
    · have l1 : (i : Int) < (n : Int) := by omega
      have i0 : (0 : Int) ≤ (i : Int) := by omega
      have hcw := HW.out i wr hin HS.out.b
      have HCW := Lib.hid hcw
      clear hcw hig
      go_wp2_with fail
      refine HCW.out.mono ?_
      rintro e w3 ⟨a', c', rfl, ht3, hb3⟩
      have HD3 := Lib.hid (HDT.out i w3 a' c' hin ht3)
      obtain ⟨nb1, nb2⟩ := HNB.out i
      obtain ⟨x, hx⟩ : ∃ x, N i = x := ⟨_, rfl⟩
      rw [hx] at HD3 nb1 nb2
      have HX := Lib.hid hx
      have HB3 := Lib.hid hb3
      clear ht3 hb3 hx
      by_cases hx0 : x.tmod D = 0
      · have tq : (x.tdiv D).natAbs ≤ x.natAbs := by rw [Int.natAbs_tdiv]; exact Nat.div_le_self _ _
        have q1 : wrap64 (x.tdiv D) = x.tdiv D := IntWalk.wrap64_in _ (by omega)
        have q2 : IntKind.i64.wrap (x.tdiv D) = x.tdiv D := IntWalk.i64_in _ (by omega)
        have hcg := cell_later (HS.out.cell (j := i) hin) HB3.out
        have hfg := frozen_lat (HS.out.frozen i) HB3.out (HS.out.own.lt g rfl).2
        obtain ⟨u, hu⟩ : ∃ u : Int, (if i < i then (N i).tdiv D else 0) = u := ⟨_, rfl⟩
        rw [hu] at hcg
        have HS3 := Lib.hid (show CoState g n (fun q => if q < i then (N q).tdiv D else 0) w1 w3 from ⟨HS.out.b.trans (HB3.out.mono HS.out.b.size), own_later HS.out.own HB3.out⟩)
        clear tq nb1 nb2 hu
        go_wp2_with fail
        refine HD3.out.mono ?_
        rintro e w4 ⟨rfl, hw4⟩
        subst hw4
        go_wp2
        have HS4 := Lib.hid (show CoState g n (fun q => if q < i + 1 then (N q).tdiv D else 0) w1 (w4.setCell ⟨g, i, none⟩ (.int .i64 (x.tdiv D))) from
          (HS3.out.put i (x.tdiv D)).congr fun q _ => by
            by_cases hq : q = i
            · subst hq
              rw [if_pos rfl, if_pos (by omega), HX.out]
            · rw [if_neg hq]
              by_cases hj2 : q < i
              · rw [if_pos hj2, if_pos (by omega)]
              · rw [if_neg hj2, if_neg (by omega)])
        go_roundg (gk - 1)
        case rel => exact ⟨i + 1, by have := HK.out; omega, by go_num, Lib.hid (fun q hq => by
          by_cases hqi : q = i
          · subst hqi
            rw [HX.out]
            exact hx0
          · exact HQ.out q (by omega)), HS4.out⟩
        case measure => have := HK.out; omega
      · have HBB := Lib.hid (HS.out.b.trans (HB3.out.mono HS.out.b.size))
        clear nb1 nb2
        go_wp2_with fail
        refine HD3.out.mono ?_
        rintro e w4 ⟨rfl, hw4⟩
        subst hw4
        go_wp2
        go_ret2
        exact ⟨.inr ⟨fun hh => hx0 (by rw [← HX.out]; exact hh i hin), rfl⟩, HBB.out⟩
    · have l1 : ¬ (i : Int) < (n : Int) := by omega
      have hr := (HS.out.congr (f' := fun q => (N q).tdiv D) fun q hq => by rw [if_pos (by omega)]).row
      have HR := Lib.hid hr
      clear hig hin hr
      go_wp2
      go_ret2
      exact ⟨.inl ⟨fun q hq => HQ.out q (by omega), _, rfl, HR.out⟩, HS.out.b⟩
end Go.Proofs.Ytgfenponlkmfmaa
