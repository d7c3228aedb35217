/- The walk of the reference's Has; what cutting changes. Condition: a basis and a vector lie in memory. -/
import Derived.Test.YtgfenponlkmfmaaRDual
namespace Go.Proofs.Ytgfenponlkmfmaa
open Go.RowKit
attribute [local go_sem] Oper.semAt_some

set_option maxHeartbeats 4000000 in
set_option maxRecDepth 100000 in
theorem hasR_any (a : Option Addr) (n c : Nat) (L : List (List Int)) (av : Option Addr) (cv : Nat) (v : List Int) (w : World) (h : Tab w a n L) (B : Bas n L) (hv : Ints w av n v) (hvl : v.length = n) (hvb : ∀ c, c < n → (nt v c).natAbs ≤ 10000) :
    Calls Try.prog 31 #[.slice a n c, .slice av n cv] w fun e w' => HasR n L v w.heap.size e w' ∧ Below w.heap.size w w' := by
  have he : ∀ r c, r < n → c < n → (ent L r c).natAbs ≤ 10000 := fun r c hr hc => by have := B.small r c hr hc; omega
  have hD := detR_any n a c L w h B.n4 B.sq
  rw [B.wrap] at hD
  have hU : ∀ W, Below w.heap.size w W → Calls Try.prog 50 #[.slice a n c] W fun e w' => ∃ a' c', e = .returned (.slice a' n c') ∧ Tab w' a' n (matL n n (cof n (ent L))) ∧ Below W.heap.size W w' := by
    intro W hb
    refine (dualR_any a n c L W (h.below hb) B.n4 B.sq he).mono ?_
    rintro e w1 ⟨v1, rfl, ht, hb1⟩
    obtain ⟨a', c', rfl, htab, -⟩ := ht.form
    rw [matL_len] at htab ⊢
    exact ⟨a', c', rfl, htab, hb1⟩
  have hDot : ∀ W ar cr i, Below w.heap.size w W → i < n → Ints W ar n (row (matL n n (cof n (ent L))) i) → Calls Try.prog 53 #[.slice av n cv, .slice ar n cr] W fun e w' => e = .returned (.int .i64 (nu n L v i)) ∧ w' = W := by
    intro W ar cr i hb hi hr
    have := dotR_any av ar n cv n cr v _ W (hv.below hb) hr (Nat.le_refl _) (by have := B.n4; omega)
    rw [show dot n (nt v) (nt (row (matL n n (cof n (ent L))) i)) = nu n L v i from (by
      unfold nu
      rw [← cof_sum n i B.n1 B.n4 hi]
      refine sm_congr n fun k hk => ?_
      rw [← ent_nt, matL_ent hi hk]), IntWalk.wrap64_in (nu n L v i) (by have := nu_small (i := i) B.n4 he hvb; omega)] at this
    exact this
  have hNB : ∀ i, -240000000000000000 ≤ nu n L v i ∧ nu n L v i ≤ 240000000000000000 := fun i => by have := nu_small (i := i) B.n4 he hvb; omega
  unfold HasR
  have hn4 := B.n4
  have hn1 := B.n1
  have hD0 := B.det0
  have hrl : ∀ i, i < n → (row (matL n n (cof n (ent L))) i).length = n := fun i hi => by rw [matL_row hi]; simp
  obtain ⟨N, hN⟩ : ∃ N : Nat → Int, nu n L v = N := ⟨_, rfl⟩
  obtain ⟨D, hDD⟩ : ∃ D, det n (ent L) = D := ⟨_, rfl⟩
  obtain ⟨M, hM⟩ : ∃ M, matL n n (cof n (ent L)) = M := ⟨_, rfl⟩
  rw [hN] at hDot hNB ⊢
  rw [hDD] at hD hD0 ⊢
  rw [hM] at hU hDot hrl
  have HD := Lib.hid hD
  have HU := Lib.hid hU
  have HDOT := Lib.hid hDot
  have HNB := Lib.hid hNB
  have HRL := Lib.hid hrl
  clear hD hU hDot hNB hrl hN hDD hM B h hv hvl hvb he
  go_enter Try.func31, Try.ntmps31
  go_wp2_with fail
  refine HD.out.mono ?_
  rintro e w1 ⟨rfl, hb1⟩
  have HU1 := Lib.hid (HU.out w1 hb1)
  have HB1 := Lib.hid hb1
  clear hb1
  go_wp2_with fail
  refine HU1.out.mono ?_
  rintro e w2 ⟨a', c', rfl, htab, hb2⟩
  have HTB := Lib.hid htab
  have HB2 := Lib.hid (HB1.out.trans (hb2.mono HB1.out.size))
  clear htab hb2
  go_wp2
  go_loopg [6, 16] n (fun gk v s16 wr => ∃ i : Nat, i + gk = n ∧ s16 = .int .i64 (i : Int) ∧ Row w2.heap.size v ((List.range i).map fun q => (N q).tdiv D) wr ∧ RowKit.Hid (∀ q, q < i → (N q).tmod D = 0) ∧ Below w2.heap.size w2 wr ∧ Below w.heap.size w wr)
  case atStart => exact ⟨0, by omega, rfl, Row.nil _ _, Lib.hid (fun q hq => by omega), Below.refl _ _, HB2.out⟩
  case round =>
    obtain ⟨i, hig, rfl, hr, HQ, hb2, hbw⟩ := hrel
    have HR := Lib.hid hr
    have HBW := Lib.hid hbw
    have HK := Lib.hid hig
    by_cases hin : i < n
    · have l1 : (i : Int) < (n : Int) := by omega
      have i0 : (0 : Int) ≤ (i : Int) := by omega
      obtain ⟨b, off, ai, ci, rfl, hbl, hcell, hlie⟩ := (HTB.out.below hb2).at hin
      have hli := hlie.ints
      rw [HRL.out i hin] at hcell hli
      have HDT := Lib.hid (HDOT.out wr ai ci i hbw hin hli)
      obtain ⟨nb1, nb2⟩ := HNB.out i
      obtain ⟨x, hx⟩ : ∃ x, N i = x := ⟨_, rfl⟩
      rw [hx] at HDT nb1 nb2
      have HX := Lib.hid hx
      have HLEN := Lib.hid (show ((List.range i).map fun q => (N q).tdiv D).length = i by simp)
      have HB2' := Lib.hid hb2
      clear hr hb2 hbw hig hlie hli hx
      by_cases hx0 : x.tmod D = 0
      · have tq : (x.tdiv D).natAbs ≤ x.natAbs := by rw [Int.natAbs_tdiv]; exact Nat.div_le_self _ _
        have q1 : wrap64 (x.tdiv D) = x.tdiv D := IntWalk.wrap64_in _ (by omega)
        have q2 : IntKind.i64.wrap (x.tdiv D) = x.tdiv D := IntWalk.i64_in _ (by omega)
        clear tq nb1 nb2
        go_wp2_with fail
        refine HDT.out.mono ?_
        rintro e w4 ⟨rfl, hw4⟩
        subst hw4
        go_wp2_with (at_builtin; refine wpList_pushI (.tmp 27) (.tmp 31) rfl rfl w2.heap.size u6 ((List.range i).map fun q => (N q).tdiv D) (x.tdiv D) w4 rfl HR.out rfl (by rw [HLEN.out]; omega) HB2'.out.size ?_; intro v' w5 hr5 hb5 hg5)
        have hb25 : Below w2.heap.size w2 w5 := HB2'.out.trans hb5
        have HF := Lib.hid (And.intro (show Row w2.heap.size v' ((List.range (i + 1)).map fun q => (N q).tdiv D) w5 by rw [rng_next, HX.out]; exact hr5) (And.intro hb25 (HB2.out.trans (hb25.mono HB2.out.size))))
        clear hr5 hb5 hg5 hb25
        go_wp2
        go_roundg (gk - 1)
        case rel => exact ⟨i + 1, by have := HK.out; omega, by go_num, HF.out.1, Lib.hid (fun q hq => by
          by_cases hqi : q = i
          · subst hqi
            rw [HX.out]
            exact hx0
          · exact HQ.out q (by omega)), HF.out.2.1, HF.out.2.2⟩
        case measure => have := HK.out; omega
      · clear nb1 nb2
        go_wp2_with fail
        refine HDT.out.mono ?_
        rintro e w4 ⟨rfl, hw4⟩
        subst hw4
        go_wp2
        go_ret2
        exact ⟨.inr ⟨fun hh => hx0 (by rw [← HX.out]; exact hh i hin), rfl⟩, HBW.out⟩
    · have l1 : ¬ (i : Int) < (n : Int) := by omega
      have hin2 : i = n := by omega
      subst hin2
      clear hr hb2 hbw hig hin
      go_wp2
      go_ret2
      exact ⟨.inl ⟨fun q hq => HQ.out q hq, _, rfl, HR.out.mono HB2.out.size⟩, HBW.out⟩

theorem take6 {xs : List Int} {n : Nat} (hn : n ≤ 4) : (xs.take 6).length = n ↔ xs.length = n := by
  rw [List.length_take]
  omega
theorem inB_cut {xs : List Int} {n : Nat} {most : Int} (hn : n ≤ 4) : inB (xs.take 6) n most = inB xs n most := by
  by_cases h : xs.length = n
  · rw [List.take_of_length_le (by omega)]
  · rw [inB_no fun hh => h hh.1, inB_no fun hh => h ((take6 hn).1 hh.1)]
theorem tcut_short {L : List (List Int)} (h4 : L.length ≤ 4) (h : ∀ i, i < L.length → (row L i).length ≤ 6) : tcut L = L := by
  unfold tcut
  rw [List.take_of_length_le (by omega)]
  apply List.ext_getElem
  · simp
  · intro i h1 h2
    rw [List.getElem_map]
    have := h i h2
    simp [row, List.getD, h2] at this
    exact List.take_of_length_le this
theorem tcut_row {L : List (List Int)} {i : Nat} (hi : i < (tcut L).length) : row (tcut L) i = (row L i).take 6 := by
  have hi2 : i < (L.take 6).length := by simpa [tcut] using hi
  unfold tcut
  rw [row_map (List.getElem?_eq_getElem hi2)]
  have h6 : i < 6 := by rw [List.length_take] at hi2; omega
  have hl : i < L.length := by rw [List.length_take] at hi2; omega
  simp [row, List.getD, hl]
theorem tab_cut {L : List (List Int)} {most : Int} : tabB (tcut L) most = tabB L most := by
  have hlen : (tcut L).length = min L.length 6 := by
    unfold tcut
    rw [List.length_map, List.length_take]
    omega
  by_cases h : tabB L most = true
  · obtain ⟨h1, h2, h3⟩ := tabB_spec.1 h
    rw [tcut_short h3 fun i hi => by have := (inB_spec.1 (h1 i hi)).1; omega]
  · rw [Bool.not_eq_true] at h
    rw [h]
    refine tabB_no fun hh => ?_
    obtain ⟨h1, h2, h3⟩ := hh
    have hll : (tcut L).length = L.length := by omega
    have : tcut L = L := tcut_short (by omega) fun i hi => by
      have h5 := (inB_spec.1 (h1 i (by omega))).1
      rw [tcut_row (by omega)] at h5
      have := (take6 (by omega)).1 h5
      omega
    rw [this] at h1 h2 h3
    have := tabB_spec.2 ⟨h1, h2, h3⟩
    rw [h] at this
    cases this
theorem basis_cut (L : List (List Int)) : isBasis (tcut L) = isBasis L := by
  by_cases h : tabB L 20 = true
  · obtain ⟨h1, h2, h3⟩ := tabB_spec.1 h
    rw [tcut_short h3 fun i hi => by have := (inB_spec.1 (h1 i hi)).1; omega]
  · rw [Bool.not_eq_true] at h
    have h' : tabB (tcut L) 20 = false := by rw [tab_cut]; exact h
    unfold isBasis
    rw [h, h']
    rfl
theorem basis_same {L : List (List Int)} (h : isBasis L = true) : tcut L = L := by
  obtain ⟨h1, h2, h3⟩ := tabB_spec.1 (isBasis_spec.1 h).1
  exact tcut_short h3 fun i hi => by have := (inB_spec.1 (h1 i hi)).1; omega
theorem tcut_small (L : List (List Int)) : (tcut L).length ≤ 6 ∧ ∀ i, i < (tcut L).length → (row (tcut L) i).length ≤ 6 := by
  refine ⟨by unfold tcut; rw [List.length_map, List.length_take]; omega, fun i hi => ?_⟩
  rw [tcut_row hi, List.length_take]
  omega
end Go.Proofs.Ytgfenponlkmfmaa
