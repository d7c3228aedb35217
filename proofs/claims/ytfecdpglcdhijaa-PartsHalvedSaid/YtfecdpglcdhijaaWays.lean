/- The walks of parts.ways where any part is allowed any number of times, of parts.Count and of the reference's Count: both count by the same steps. Condition: the number is one that Count takes (else the documented error). -/
import Derived.Test.YtfecdpglcdhijaaPent
namespace Go.Proofs.Ytfecdpglcdhijaa
open Go.RowKit
attribute [local go_sem] Oper.semAt_some

/-- How many partitions s has into parts of at most p, as the machine counts. -/
def cntF (p s : Nat) : Int :=
  match p with
  | 0 => if s = 0 then 1 else 0
  | p + 1 => if h : p + 1 ≤ s then wrap64 (cntF p s + cntF (p + 1) (s - (p + 1))) else cntF p s
termination_by (p, s)
decreasing_by
  · exact Prod.Lex.left _ _ (by omega)
  · exact Prod.Lex.right _ (by omega)
  · exact Prod.Lex.left _ _ (by omega)
theorem cntF_zero (s : Nat) : cntF 0 s = if s = 0 then 1 else 0 := by rw [cntF]
theorem cntF_less {p s : Nat} (h : s < p + 1) : cntF (p + 1) s = cntF p s := by
  rw [cntF, dif_neg (by omega)]
theorem cntF_more {p s : Nat} (h : p + 1 ≤ s) : cntF (p + 1) s = wrap64 (cntF p s + cntF (p + 1) (s - (p + 1))) := by
  rw [cntF, dif_pos h]

set_option maxHeartbeats 1000000 in
theorem anyPart_any (p : Int) (w : World) : Calls Try.prog 58 #[.int .i64 p] w fun e w' => e = .returned (.bool true) ∧ w' = w := by
  go_enter Try.func58, Try.ntmps58
  go_wp2
  go_ret
  exact ⟨rfl, rfl⟩

theorem RS.drew {g m c : Nat} {f : Nat → Int} {w W : World} (h : RS g m c f w W) : RS g m c f w W.drew :=
  ⟨h.b.drew, own_same h.own fun _ _ _ => rfl⟩

/-- The rows so far: the last one holds f. -/
structure WS (w : World) (n k g c : Nat) (rv : Value) (f : Nat → Int) (W : World) : Prop where
  r : RS g (n + 1) c f w W
  t : ∃ vs, W.ownsRow w.heap.size 33 1 rv (k + 1) vs ∧ vs[k]? = some (.slice (some ⟨g, 0, none⟩) (n + 1) c)
theorem WS.drew {w W : World} {n k g c : Nat} {rv : Value} {f : Nat → Int} (h : WS w n k g c rv f W) : WS w n k g c rv f W.drew := by
  obtain ⟨vs, h1, h2⟩ := h.t
  exact ⟨h.r.drew, vs, own_same h1 fun _ _ _ => rfl, h2⟩
theorem WS.put {w W : World} {n k g c : Nat} {rv : Value} {f : Nat → Int} (h : WS w n k g c rv f W) (j : Nat) (v : Int) : WS w n k g c rv (fun i => if i = j then v else f i) (W.setCell ⟨g, j, none⟩ (.int .i64 v)) := by
  obtain ⟨vs, h1, h2⟩ := h.t
  have hg := (h.r.own.stored j (.int .i64 v)).2
  exact ⟨h.r.put j v, vs, h1.kept hg (own_kinds h1 h.r.own (by decide)), h2⟩
theorem WS.congr {w W : World} {n k g c : Nat} {rv : Value} {f f' : Nat → Int} (h : WS w n k g c rv f W) (e : ∀ j, j < n + 1 → f j = f' j) : WS w n k g c rv f' W := ⟨h.r.congr e, h.t⟩

theorem WS.next {w W W3 W4 : World} {n k g c g3 c3 : Nat} {rv rv4 : Value} {f : Nat → Int} {o o2 : Obj} {vs : List Value} (h : WS w n k g c rv f W)
    (ho3 : W3.ownsRow w.heap.size 3 1 (.slice (some ⟨g3, 0, none⟩) (n + 1) c3) (n + 1) ((List.range (n + 1)).map fun j => Value.int .i64 (f j)))
    (hg3 : (W.alloc o).grownBy W3 (some W.heap.size))
    (ho : W3.ownsRow w.heap.size 33 1 rv (k + 1) vs)
    (ho4 : W4.ownsRow w.heap.size 33 1 rv4 (k + 1 + 1) (vs ++ [.slice (some ⟨g3, 0, none⟩) (n + 1) c3])) (hg4 : (W3.alloc o2).grownBy W4 rv.ownBlock) :
    WS w n (k + 1) g3 c3 rv4 f W4 := by
  have hbs := h.r.b.size
  have b3 : Below w.heap.size w W3 := (h.r.b.alloc hbs _).grown hg3 (by simp; omega) (fun k e => by cases e; exact hbs)
  have s3 : W.heap.size + 1 ≤ W3.heap.size := by have := hg3.size; simpa using this
  have b4 : Below w.heap.size w W4 := (b3.alloc (by omega) o2).grown hg4 (by simp; omega) (fun j e => (ho.lt j e).1)
  refine ⟨⟨b4, (ho3.alloc o2).kept hg4 (own_kinds (ho3.alloc o2) (ho.alloc o2) (by decide))⟩, _, ho4, ?_⟩
  have hl : vs.length = k + 1 := by simpa using ho.1
  rw [← hl]
  simp

set_option maxHeartbeats 4000000 in
set_option maxRecDepth 100000 in
theorem ways_any (n : Nat) (hn : n ≤ 400) (w : World) :
    Calls Try.prog 57 #[.int .i64 (n : Int), .int .i64 0, .func (.func 58) #[] #[]] w fun e w' => e = .returned (.int .i64 (cntF n n)) ∧ Below w.heap.size w w' := by
  obtain ⟨i3, j1, j2, j3, j4⟩ := info_parts info3
  obtain ⟨i33, k1, k2, k3, k4⟩ := info_parts info33
  have J := Lib.hid (And.intro j1 (And.intro j2 (And.intro j3 j4)))
  have K := Lib.hid (And.intro k1 (And.intro k2 (And.intro k3 k4)))
  clear k1 k2 k3 k4
  have n0 : (0 : Int) ≤ (n : Int) := by omega
  go_enter Try.func57, Try.ntmps57
  go_wp2_with (at_make; refine wpList_make_full _ rfl _ _ 33 rfl w.heap.size 3 i3 (.int .i64 0) 1 Try.underlying33 j1 j2 j3 _ _ _ _ (n + 1) rfl rfl (by omega) (by omega) (by rw [j4]; omega) (by unfold maxLen; omega) (Nat.le_refl _) ?_; intro w1 hown hgrow; have hs0 := CoState.made hown ((Below.refl w.heap.size w).grown hgrow (Nat.le_refl _) (fun k e => by cases e)); have hc0 := cell_alloc_k (.cells #[.slice (some ⟨w.heap.size, 0, none⟩) (n + 1) (n + 1)] 33) (hs0.cell (j := 0) (by omega)); have hf0 := (hs0.own.alloc (.cells #[.slice (some ⟨w.heap.size, 0, none⟩) (n + 1) (n + 1)] 33)).frozenAt 0; have S0 := Lib.hid hs0; clear hown hgrow hs0)
  obtain ⟨g0, hg0⟩ : ∃ g0, w.heap.size = g0 := ⟨_, rfl⟩
  have hs1 : WS w n 0 g0 (n + 1) (.slice (some ⟨w1.heap.size, 0, none⟩) 1 1) (cntF 0) ((w1.alloc (.cells #[.slice (some ⟨g0, 0, none⟩) (n + 1) (n + 1)] 33)).setCell ⟨g0, 0, none⟩ (.int .i64 1)) := by
    have h0 := S0.out
    rw [hg0] at h0
    have hbs := h0.b.size
    have h1 : WS w n 0 g0 (n + 1) (.slice (some ⟨w1.heap.size, 0, none⟩) 1 1) (fun _ => 0) (w1.alloc (.cells #[.slice (some ⟨g0, 0, none⟩) (n + 1) (n + 1)] 33)) :=
      ⟨⟨h0.b.alloc hbs _, h0.own.alloc _⟩, _, World.ownsRow_lit (base := w.heap.size) (e := 33) (size := 1) w1 #[.slice (some ⟨g0, 0, none⟩) (n + 1) (n + 1)] 1 hbs (by unfold maxLen; omega) rfl, rfl⟩
    exact (h1.put 0 1).congr fun j _ => by rw [cntF_zero]
  rw [hg0]
  have S1 := Lib.hid hs1
  obtain ⟨W1, hW1⟩ : ∃ W1, ((w1.alloc (.cells #[.slice (some ⟨g0, 0, none⟩) (n + 1) (n + 1)] 33)).setCell ⟨g0, 0, none⟩ (.int .i64 1)) = W1 := ⟨_, rfl⟩
  rw [hW1] at S1 ⊢
  clear hs1 hc0 hf0 S0 hW1 j1 j2 j3 j4
  go_loopg [7, 8] n (fun gk rv i wr => ∃ (p g c : Nat) (ar : Option Addr) (cr : Nat), p + gk = n ∧ i = .int .i64 ((p : Int) + 1) ∧ rv = .slice ar (p + 1) cr ∧ WS w n p g c rv (cntF p) wr)
  case atStart => exact ⟨0, g0, n + 1, _, 1, by omega, rfl, rfl, S1.out⟩
  case round =>
    obtain ⟨p, g, c, ar, cr, hp, rfl, rfl, hs⟩ := hrel
    have HS := Lib.hid hs
    obtain ⟨vs, ht1, ht2⟩ := hs.t
    obtain ⟨gr, cr', har⟩ := own_form ht1 (by omega)
    cases har
    have hrc := ht1.cellAt p (by omega)
    rw [ht2] at hrc
    have HT1 := Lib.hid ht1
    have hbs := hs.r.b.size
    have p0 : (0 : Int) ≤ (p : Int) := by omega
    clear hs S1 ht2 ht1
    by_cases hpn : p = n
    · have hgt : ¬ (p : Int) + 1 ≤ (n : Int) := by omega
      subst hpn
      have hcc := HS.out.r.cell (j := p) (by omega)
      have hB := HS.out.r.b
      rw [hg0] at hB
      have HB := Lib.hid hB
      obtain ⟨X, hX⟩ : ∃ X, cntF p p = X := ⟨_, rfl⟩
      rw [hX] at hcc
      have HX := Lib.hid hX
      have hp1 : (p : Int) < (p : Int) + 1 := by omega
      have hp2 : p < p + 1 := by omega
      have hp3 : (p : Int) < ((p + 1 : Nat) : Int) := by omega
      clear hB hX
      go_wp2
      go_ret
      exact ⟨ret_int HX.out.symm, HB.out⟩
    · have hle : (p : Int) + 1 ≤ (n : Int) := by omega
      have HPN := Lib.hid (show p + 1 ≤ n by omega)
      have hidx : (p : Int) + 1 - 1 = (p : Int) := by omega
      have hp3 : (p : Int) < ((p + 1 : Nat) : Int) := by omega
      have hmax : max ((p : Int) + 1) 0 = (p : Int) + 1 := by omega
      have hnews := (HS.out.r.own.alloc (.cells #[] 3)).cells (g := g) rfl
      have hml : ((List.range (n + 1)).map fun j => Value.int .i64 (cntF p j)).length = (n + 1) * 1 := by simp
      have hone : ∀ u ∈ (List.range (n + 1)).map (fun j => Value.int .i64 (cntF p j)), u.oneCell' = true := by
        intro u hu
        obtain ⟨_, _, rfl⟩ := List.mem_map.1 hu
        rfl
      have hgrl := (HT1.out.lt gr rfl).2
      obtain ⟨j1, j2, j3, j4⟩ := J.out
      obtain ⟨k1, k2, k3, k4⟩ := K.out
      clear hpn
      go_wp2_with (first
        | (go_at_call 58; refine (anyPart_any _ _).mono ?_; rintro e w' ⟨rfl, rfl⟩)
        | (at_builtin
           refine wpList_append_own _ rfl _ _ 33 rfl w.heap.size 3 i3 (.int .i64 0) 1 8 Try.underlying33 j1 j2 j3 j4 rfl (by decide) _ _ _ rfl (World.ownsRow_made wr #[] 0 hbs (Nat.zero_le _) rfl) ⟨g, 0, none⟩ (n + 1) c _ rfl hml hnews hone (by unfold maxLen; omega) (by omega) (by simp; omega) ?_
           intro v3 w3 ho3 hg3 _
           replace ho3 : w3.ownsRow w.heap.size 3 1 v3 (n + 1) ((List.range (n + 1)).map fun j => Value.int .i64 (cntF p j)) := (by simpa using ho3)
           obtain ⟨g3, c3, rfl⟩ := own_form ho3 (by omega)
           have hrow3 := (HT1.out.alloc (.cells #[] 3)).kept hg3 (own_kinds (HT1.out.alloc (.cells #[] 3)) (World.ownsRow_made (base := w.heap.size) (e := 3) (size := 1) wr #[] 0 hbs (Nat.zero_le _) rfl) (by decide))
           have hs3 : w.heap.size ≤ w3.heap.size := (by have := hg3.size; simp at this; omega)
           have HO3 := Lib.hid ho3
           have HG3 := Lib.hid hg3
           clear ho3 hg3 hnews hml hone)
        | (at_builtin
           refine wpList_append_own _ rfl _ _ 22 rfl w.heap.size 33 i33 (.slice none 0 0) 1 24 Try.underlying22 k1 k2 k3 k4 rfl (by decide) _ _ vs rfl (hrow3.alloc _) ⟨w3.heap.size, 0, none⟩ 1 1 [.slice (some ⟨g3, 0, none⟩) (n + 1) c3] rfl rfl (cell_one_new _ _ _) (by simp [Value.oneCell']) (by unfold maxLen; omega) (by omega) (by simp; omega) ?_
           intro v4 w4 ho4 hg4 _
           obtain ⟨g4, c4, rfl⟩ := own_form ho4 (by omega)
           have hn4 := HS.out.next HO3.out HG3.out hrow3 ho4 hg4
           obtain ⟨vs4, h41, h42⟩ := hn4.t
           have hrc4 := h41.cellAt (p + 1) (by omega)
           rw [h42] at hrc4
           have HN4 := Lib.hid hn4
           clear ho4 hg4 hn4 h41 h42))
      clear hrow3 hs3 hrc hrc4 hbs hgrl hmax hidx
      go_loopg [11] (n - p) (fun gk i wr2 => ∃ (s : Nat), s + gk = n + 1 ∧ p + 1 ≤ s ∧ i = .int .i64 (s : Int) ∧ WS w n (p + 1) g3 c3 (.slice (some ⟨g4, 0, none⟩) (p + 1 + 1) c4) (fun j => if j < s then cntF (p + 1) j else cntF p j) wr2)
      case atStart =>
        refine ⟨p + 1, by have := HPN.out; omega, Nat.le_refl _, by go_num, HN4.out.congr fun j hj => ?_⟩
        by_cases h : j < p + 1
        · rw [if_pos h, cntF_less h]
        · rw [if_neg h]
      case round =>
        obtain ⟨s, hsg, hps, rfl, hs⟩ := hrel
        have HS2 := Lib.hid hs
        clear hs HN4
        by_cases hsn : s = n + 1
        · have hgt : ¬ (s : Int) ≤ (n : Int) := by omega
          have hs := HS2.out.congr (f' := cntF (p + 1)) fun j hj => by rw [if_pos (by omega)]
          have HS3 := Lib.hid hs
          clear hs HS2 hsn hsg
          go_wp2
          go_roundg (n - p - 1)
          case rel => exact ⟨p + 1, g3, c3, some ⟨g4, 0, none⟩, c4, by have := HPN.out; omega, by go_num, rfl, HS3.out⟩
          case measure => have := HPN.out; omega
        · have hle2 : (s : Int) ≤ (n : Int) := by omega
          have hsn2 : s < n + 1 := by omega
          have hsn3 : (s : Int) < ((n + 1 : Nat) : Int) := by omega
          have hsn4 : (s : Int) < (n : Int) + 1 := by omega
          have hc1 := HS2.out.r.cell (j := s) hsn2
          have hf1 := HS2.out.r.frozen s
          have hc2 := HS2.out.r.cell (j := s - (p + 1)) (by omega)
          rw [if_neg (by omega)] at hc1
          rw [if_pos (by omega)] at hc2
          have hidx : (s : Int) - ((p : Int) + 1) = ((s - (p + 1) : Nat) : Int) := by omega
          have hd2 : s - (p + 1) < n + 1 := by omega
          have hd3 : ((s - (p + 1) : Nat) : Int) < ((n + 1 : Nat) : Int) := by omega
          have hnew := cntF_more (p := p) (s := s) (by omega)
          obtain ⟨A, hA⟩ : ∃ A, cntF p s = A := ⟨_, rfl⟩
          obtain ⟨B, hB⟩ : ∃ B, cntF (p + 1) (s - (p + 1)) = B := ⟨_, rfl⟩
          obtain ⟨d, hd⟩ : ∃ d, s - (p + 1) = d := ⟨_, rfl⟩
          rw [hd] at hc2 hidx hd2 hd3 hB hnew
          rw [hA] at hc1 hnew
          rw [hB] at hc2 hnew
          have HNEW := Lib.hid hnew
          have s0 : (0 : Int) ≤ (s : Int) := by omega
          have d0 : (0 : Int) ≤ (d : Int) := by omega
          have HSG := Lib.hid hsg
          have HPS := Lib.hid hps
          clear hnew hA hB hd hsn hsg hps
          go_wp2
          go_big_region
          go_wp2
          go_roundg (n - s)
          case rel =>
            refine ⟨s + 1, by omega, by have := HPS.out; omega, by go_num, ?_⟩
            refine ((HS2.out.put s (wrap64 (A + B))).congr fun j _ => ?_).drew
            by_cases hj : j = s
            · subst hj
              rw [if_pos rfl, if_pos (by omega), HNEW.out]
            · rw [if_neg hj]
              by_cases hj2 : j < s
              · rw [if_pos hj2, if_pos (by omega)]
              · rw [if_neg hj2, if_neg (by omega)]
          case measure => have := HSG.out; omega
end Go.Proofs.Ytfecdpglcdhijaa
