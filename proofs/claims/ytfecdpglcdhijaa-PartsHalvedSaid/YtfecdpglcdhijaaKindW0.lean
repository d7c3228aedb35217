/- The walk of parts.ways as Kinds calls it for kind 0. Condition: the number is at most 100. -/
import Derived.Test.YtfecdpglcdhijaaKinds
namespace Go.Proofs.Ytfecdpglcdhijaa
open Go.RowKit
attribute [local go_sem] Oper.semAt_some

theorem al0_any (p : Nat) (_ : p ≤ 100) (w : World) (b : Bool) (hb : alF 0 (p + 1) = b) : Calls Try.prog 58 #[.int .i64 ((p : Int) + 1)] w fun e w' => e = .returned (.bool b) ∧ w' = w := by
  subst hb
  exact anyPart_any _ w

set_option maxHeartbeats 4000000 in
set_option maxRecDepth 100000 in
theorem ways0 (n : Nat) (hn : n ≤ 100) (w : World) :
    Calls Try.prog 57 #[.int .i64 (n : Int), .int .i64 1, .func (.func 58) #[] #[]] w fun e w' => e = .returned (.int .i64 (k1F (alF 0) n n)) ∧ Below w.heap.size w w' := by
  obtain ⟨i3, j1, j2, j3, j4⟩ := info_parts info3
  obtain ⟨i33, k1, k2, k3, k4⟩ := info_parts info33
  have J := Lib.hid (And.intro j1 (And.intro j2 (And.intro j3 j4)))
  have K := Lib.hid (And.intro k1 (And.intro k2 (And.intro k3 k4)))
  clear k1 k2 k3 k4
  have n0 : (0 : Int) ≤ (n : Int) := by omega
  go_enter Try.func57, Try.ntmps57
  go_wp2_with (at_make; refine wpList_make_full _ rfl _ _ 33 rfl w.heap.size 3 i3 (.int .i64 0) 1 Try.underlying33 j1 j2 j3 _ _ _ _ (n + 1) rfl rfl (by omega) (by omega) (by rw [j4]; omega) (by unfold maxLen; omega) (Nat.le_refl _) ?_; intro w1 hown hgrow; have hs0 := CoState.made hown ((Below.refl w.heap.size w).grown hgrow (Nat.le_refl _) (fun k e => by cases e)); have hc0 := cell_alloc_k (.cells #[.slice (some ⟨w.heap.size, 0, none⟩) (n + 1) (n + 1)] 33) (hs0.cell (j := 0) (by omega)); have hf0 := (hs0.own.alloc (.cells #[.slice (some ⟨w.heap.size, 0, none⟩) (n + 1) (n + 1)] 33)).frozenAt 0; have S0 := Lib.hid hs0; clear hown hgrow hs0)
  obtain ⟨g0, hg0⟩ : ∃ g0, w.heap.size = g0 := ⟨_, rfl⟩
  have hs1 : WT w n 0 g0 (n + 1) g0 (n + 1) (.slice (some ⟨w1.heap.size, 0, none⟩) 1 1) (k1F (alF 0) 0) (k1F (alF 0) 0) ((w1.alloc (.cells #[.slice (some ⟨g0, 0, none⟩) (n + 1) (n + 1)] 33)).setCell ⟨g0, 0, none⟩ (.int .i64 1)) := by
    have h0 := S0.out
    rw [hg0] at h0
    have hbs := h0.b.size
    have h1 : WS w n 0 g0 (n + 1) (.slice (some ⟨w1.heap.size, 0, none⟩) 1 1) (fun _ => 0) (w1.alloc (.cells #[.slice (some ⟨g0, 0, none⟩) (n + 1) (n + 1)] 33)) :=
      ⟨⟨h0.b.alloc hbs _, h0.own.alloc _⟩, _, World.ownsRow_lit (base := w.heap.size) (e := 33) (size := 1) w1 #[.slice (some ⟨g0, 0, none⟩) (n + 1) (n + 1)] 1 hbs (by unfold maxLen; omega) rfl, rfl⟩
    have h2 := (h1.put 0 1).congr (f' := k1F (alF 0) 0) fun j _ => by rw [k1F_zero]
    obtain ⟨vs, hv1, hv2⟩ := h2.t
    exact ⟨h2.r, h2.r, vs, hv1, hv2, hv2⟩
  rw [hg0]
  have S1 := Lib.hid hs1
  obtain ⟨W1, hW1⟩ : ∃ W1, ((w1.alloc (.cells #[.slice (some ⟨g0, 0, none⟩) (n + 1) (n + 1)] 33)).setCell ⟨g0, 0, none⟩ (.int .i64 1)) = W1 := ⟨_, rfl⟩
  rw [hW1] at S1 ⊢
  clear hs1 hc0 hf0 S0 hW1 j1 j2 j3 j4
  go_loopg [7, 8] n (fun gk rv i wr => ∃ (p g c g' c' : Nat) (ar : Option Addr) (cr : Nat), p + gk = n ∧ i = .int .i64 ((p : Int) + 1) ∧ rv = .slice ar (p + 1) cr ∧ WT w n p g c g' c' rv (k1F (alF 0) p) (k1F (alF 0) (p - 1)) wr)
  case atStart => exact ⟨0, g0, n + 1, g0, n + 1, _, 1, by omega, rfl, rfl, S1.out⟩
  case round =>
    obtain ⟨p, g, c, g', c', ar, cr, hp, rfl, rfl, hs⟩ := hrel
    have HS := Lib.hid hs
    obtain ⟨vs, ht1, ht2, ht3⟩ := hs.t
    obtain ⟨gr, cr', har⟩ := own_form ht1 (by omega)
    cases har
    have hrc := ht1.cellAt p (by omega)
    rw [ht2] at hrc
    have HLEN := Lib.hid (show vs.length = p + 1 by simpa using ht1.1)
    have HT1 := Lib.hid ht1
    have HVK := Lib.hid ht2
    have HVD := Lib.hid ht3
    have hbs := hs.r.b.size
    have p0 : (0 : Int) ≤ (p : Int) := by omega
    clear hs S1 ht2 ht3 ht1
    by_cases hpn : p = n
    · have hgt : ¬ (p : Int) + 1 ≤ (n : Int) := by omega
      subst hpn
      have hcc := HS.out.r.cell (j := p) (by omega)
      have hB := HS.out.r.b
      rw [hg0] at hB
      have HB := Lib.hid hB
      obtain ⟨X, hX⟩ : ∃ X, k1F (alF 0) p p = X := ⟨_, rfl⟩
      rw [hX] at hcc
      have HX := Lib.hid hX
      have hp1 : (p : Int) < (p : Int) + 1 := by omega
      have hp2 : p < p + 1 := by omega
      have hp3 : (p : Int) < ((p + 1 : Nat) : Int) := by omega
      clear hB hX
      go_wp2
      go_ret
      exact ⟨ret_int HX.out.symm, HB.out⟩
    · have hle : (p : Int) + 1 ≤ (n : Int) := by omega
      have HPN := Lib.hid (show p + 1 ≤ n by omega)
      have hidx : (p : Int) + 1 - 1 = (p : Int) := by omega
      have hp3 : (p : Int) < ((p + 1 : Nat) : Int) := by omega
      have hmax : max (p : Int) 0 = (p : Int) := by omega
      have hnews := (HS.out.r.own.alloc (.cells #[] 3)).cells (g := g) rfl
      have hml : ((List.range (n + 1)).map fun j => Value.int .i64 (k1F (alF 0) p j)).length = (n + 1) * 1 := by simp
      have hone : ∀ u ∈ (List.range (n + 1)).map (fun j => Value.int .i64 (k1F (alF 0) p j)), u.oneCell' = true := by
        intro u hu
        obtain ⟨_, _, rfl⟩ := List.mem_map.1 hu
        rfl
      have hgrl := (HT1.out.lt gr rfl).2
      obtain ⟨j1, j2, j3, j4⟩ := J.out
      obtain ⟨k1, k2, k3, k4⟩ := K.out
      clear hpn
      by_cases hal : alF 0 (p + 1) = true
      · have AL := Lib.hid (fun W => al0_any p (by omega) W true hal)
        have HAL := Lib.hid hal
        clear hal
        go_wp2_with (first
          | (go_at_call 58; refine (AL.out _).mono ?_; rintro e w' ⟨rfl, rfl⟩)
          | (at_builtin
             refine wpList_append_own _ rfl _ _ 33 rfl wr.heap.size 3 i3 (.int .i64 0) 1 8 Try.underlying33 j1 j2 j3 j4 rfl (by decide) _ _ _ rfl (World.ownsRow_made wr #[] 0 (Nat.le_refl _) (Nat.zero_le _) rfl) ⟨g, 0, none⟩ (n + 1) c _ rfl hml hnews hone (by unfold maxLen; omega) (by omega) (by simp) ?_
             intro v3 w3 ho3 hg3 _
             replace ho3 : w3.ownsRow wr.heap.size 3 1 v3 (n + 1) ((List.range (n + 1)).map fun j => Value.int .i64 (k1F (alF 0) p j)) := (by simpa using ho3)
             obtain ⟨g3, c3, rfl⟩ := own_form ho3 (by omega)
             have hrow3 := (HT1.out.alloc (.cells #[] 3)).kept hg3 (own_kinds (HT1.out.alloc (.cells #[] 3)) (World.ownsRow_made (base := w.heap.size) (e := 3) (size := 1) wr #[] 0 hbs (Nat.zero_le _) rfl) (by decide))
             have hs3 : w.heap.size ≤ w3.heap.size := (by have := hg3.size; simp at this; omega)
             have HO3 := Lib.hid ho3
             have HG3 := Lib.hid hg3
             clear ho3 hg3 hnews hml hone)
          | (at_builtin
             refine wpList_append_own _ rfl _ _ 22 rfl w.heap.size 33 i33 (.slice none 0 0) 1 24 Try.underlying22 k1 k2 k3 k4 rfl (by decide) _ _ vs rfl (hrow3.alloc _) ⟨w3.heap.size, 0, none⟩ 1 1 [.slice (some ⟨g3, 0, none⟩) (n + 1) c3] rfl rfl (cell_one_new _ _ _) (by simp [Value.oneCell']) (by unfold maxLen; omega) (by omega) (by simp; omega) ?_
             intro v4 w4 ho4 hg4 _
             obtain ⟨g4, c4, rfl⟩ := own_form ho4 (by omega)
             have HN4 := Lib.hid (HS.out.next HO3.out HG3.out hrow3 HVK.out ho4 hg4)
             have hrc4 := ho4.cellAt p (by omega)
             rw [List.getElem?_append_left (by have := HLEN.out; omega), HVK.out] at hrc4
             clear ho4 hg4))
        clear hrow3 hs3 hrc hrc4 hbs hgrl hmax hidx
        go_loopg [11] (n - p) (fun gk i wr2 => ∃ (s : Nat), s + gk = n + 1 ∧ p + 1 ≤ s ∧ i = .int .i64 (s : Int) ∧ WT w n (p + 1) g3 c3 g c (.slice (some ⟨g4, 0, none⟩) (p + 1 + 1) c4) (fun j => if j < s then k1F (alF 0) (p + 1) j else k1F (alF 0) p j) (k1F (alF 0) p) wr2 ∧ RS g' (n + 1) c' (k1F (alF 0) (p - 1)) w wr2)
        case atStart =>
          refine ⟨p + 1, by have := HPN.out; omega, Nat.le_refl _, by go_num, HN4.out.1.congr (fun j hj => ?_) (fun _ _ => rfl), HN4.out.2.1⟩
          by_cases h : j < p + 1
          · rw [if_pos h, k1F_less h]
          · rw [if_neg h]
        case round =>
          obtain ⟨s, hsg, hps, rfl, hs⟩ := hrel
          have HS2 := Lib.hid hs
          have HNE := Lib.hid HN4.out.2.2
          clear hs HN4
          by_cases hsn : s = n + 1
          · have hgt : ¬ (s : Int) ≤ (n : Int) := by omega
            have hs := HS2.out.1.congr (f2 := k1F (alF 0) (p + 1)) (f2' := k1F (alF 0) p) (fun j hj => by rw [if_pos (by omega)]) (fun _ _ => rfl)
            have HS3 := Lib.hid hs
            clear hs HS2 hsn hsg
            go_wp2
            go_roundg (n - p - 1)
            case rel => exact ⟨p + 1, g3, c3, g, c, some ⟨g4, 0, none⟩, c4, by have := HPN.out; omega, by go_num, rfl, HS3.out⟩
            case measure => have := HPN.out; omega
          · have hle2 : (s : Int) ≤ (n : Int) := by omega
            have hsn2 : s < n + 1 := by omega
            have hsn3 : (s : Int) < ((n + 1 : Nat) : Int) := by omega
            have hsn4 : (s : Int) < (n : Int) + 1 := by omega
            have hc1 := HS2.out.1.r.cell (j := s) hsn2
            have hf1 := HS2.out.1.r.frozen s
            have hc2 := HS2.out.1.q.cell (j := s - (p + 1)) (by omega)
            rw [if_neg (by omega)] at hc1
            have hidx : (s : Int) - ((p : Int) + 1) = ((s - (p + 1) : Nat) : Int) := by omega
            have hd2 : s - (p + 1) < n + 1 := by omega
            have hd3 : ((s - (p + 1) : Nat) : Int) < ((n + 1 : Nat) : Int) := by omega
            have hnew := k1F_more (p := p) (s := s) HAL.out (by omega)
            obtain ⟨A, hA⟩ : ∃ A, k1F (alF 0) p s = A := ⟨_, rfl⟩
            obtain ⟨B, hB⟩ : ∃ B, k1F (alF 0) p (s - (p + 1)) = B := ⟨_, rfl⟩
            obtain ⟨dd, hdd⟩ : ∃ dd, s - (p + 1) = dd := ⟨_, rfl⟩
            rw [hdd] at hc2 hidx hd2 hd3 hB hnew
            rw [hA] at hc1 hnew
            rw [hB] at hc2 hnew
            have HNEW := Lib.hid hnew
            have s0 : (0 : Int) ≤ (s : Int) := by omega
            have d0 : (0 : Int) ≤ (dd : Int) := by omega
            have HSG := Lib.hid hsg
            have HPS := Lib.hid hps
            clear hnew hA hB hdd hsn hsg hps
            go_wp2
            go_big_region
            go_wp2
            go_roundg (n - s)
            case rel =>
              refine ⟨s + 1, by omega, by have := HPS.out; omega, by go_num, ?_, (HS2.out.2.other HS2.out.1.r HNE.out.2 s (wrap64 (A + B))).drew⟩
              refine ((HS2.out.1.put HNE.out.1 s (wrap64 (A + B))).congr (fun j _ => ?_) (fun _ _ => rfl)).drew
              by_cases hj : j = s
              · subst hj
                rw [if_pos rfl, if_pos (by omega), HNEW.out]
              · rw [if_neg hj]
                by_cases hj2 : j < s
                · rw [if_pos hj2, if_pos (by omega)]
                · rw [if_neg hj2, if_neg (by omega)]
            case measure => have := HSG.out; omega
      · exact absurd rfl hal
end Go.Proofs.Ytfecdpglcdhijaa
