/- The walk of parts.partitions: a table of its own that holds all partitions, rising. Condition: the number is at most 20, the greatest part at most 30. -/
import Derived.Test.YtfecdpglcdhijaaTab
namespace Go.Proofs.Ytfecdpglcdhijaa
open Go.RowKit
attribute [local go_sem] Oper.semAt_some

theorem info33 : (Try.prog.info? 33).map (fun i => (i.zero, i.size, i.bytes)) = some (some (.slice none 0 0), 1, 24) := by kernel_rfl

theorem leaf_tab (w : World) : TabO ((w.alloc (.cells #[] 3)).alloc (.cells #[.slice (some ⟨w.heap.size, 0, none⟩) 0 0] 33)) w.heap.size (.slice (some ⟨w.heap.size + 1, 0, none⟩) 1 1) [[]] := by
  have h1 := World.ownsRow_lit (base := w.heap.size) (e := 3) (size := 1) w #[] 0 (Nat.le_refl _) (by unfold maxLen; omega) rfl
  have h2 := World.ownsRow_lit (base := w.heap.size) (e := 33) (size := 1) (w.alloc (.cells #[] 3)) #[.slice (some ⟨w.heap.size, 0, none⟩) 0 0] 1 (by simp) (by unfold maxLen; omega) rfl
  rw [show (w.alloc (.cells #[] 3)).heap.size = w.heap.size + 1 by simp] at h2
  refine ⟨_, h2, fun i hi => ?_⟩
  have : i = 0 := by simp at hi; omega
  subst this
  exact ⟨w.heap.size, 0, rfl, h1.alloc _⟩

/-- The list that is under way, and the table of the rest, which stays as it was. -/
structure PS (w w2 : World) (B1 : Nat) (v : Value) (L : List (List Int)) (W : World) : Prop where
  t : TabO W w.heap.size v L
  away : ∀ g, v.ownBlock = some g → g < B1 ∨ w2.heap.size ≤ g
  still : ∀ q, B1 ≤ q → q < w2.heap.size → W.heap[q]? = w2.heap[q]?
  b : Below w.heap.size w W
  sz : w2.heap.size ≤ W.heap.size

theorem TabO.later {W W' : World} {B : Nat} {v : Value} {L : List (List Int)} {o : Obj} (h : TabO W B v L) (hg : (W.alloc o).grownBy W' (some W.heap.size)) : TabO W' B v L :=
  h.same fun k _ hk => (hg.block k (by simp; omega) (by simp; omega)).trans (Below.heap_alloc _ _ _ hk)

theorem PS.step {w w2 W W3 W4 : World} {B1 : Nat} {v v4 : Value} {L : List (List Int)} {l : List Int} {vs : List Value} {o o2 : Obj} {g3 c3 : Nat} (h : PS w w2 B1 v L W)
    (hg3 : (W.alloc o).grownBy W3 (some W.heap.size)) (ho3 : W3.ownsRow w.heap.size 3 1 (.slice (some ⟨g3, 0, none⟩) l.length c3) l.length (l.map (Value.int .i64)))
    (ho : W3.ownsRow w.heap.size 33 1 v L.length vs) (hin : ∀ i, i < L.length → ∃ g c, vs[i]? = some (.slice (some ⟨g, 0, none⟩) (nthL L i).length c) ∧ W3.ownsRow w.heap.size 3 1 (.slice (some ⟨g, 0, none⟩) (nthL L i).length c) (nthL L i).length ((nthL L i).map (Value.int .i64)))
    (ho4 : W4.ownsRow w.heap.size 33 1 v4 (L.length + 1) (vs ++ [.slice (some ⟨g3, 0, none⟩) l.length c3])) (hg4 : (W3.alloc o2).grownBy W4 v.ownBlock) (hat : v4.ownBlock = v.ownBlock ∨ v4.ownBlock = some (W3.alloc o2).heap.size) :
    PS w w2 B1 v4 (L ++ [l]) W4 := by
  have s3 : W.heap.size + 1 ≤ W3.heap.size := by have := hg3.size; simpa using this
  have s4 : W3.heap.size + 1 ≤ W4.heap.size := by have := hg4.size; simpa using this
  have hsz := h.sz
  have hbs := h.b.size
  have b3 : Below w.heap.size w W3 := (h.b.alloc hbs _).grown hg3 (by simp; omega) (fun k e => by cases e; exact hbs)
  refine ⟨TabO.push (ho.alloc o2) (fun i hi => ?_) (ho3.alloc o2) ho4 hg4, fun g hg => ?_, fun q hq1 hq2 => ?_, ?_, by omega⟩
  · obtain ⟨g, c, h1, h2⟩ := hin i hi
    exact ⟨g, c, h1, h2.alloc o2⟩
  · rcases hat with h1 | h1
    · exact h.away g (h1 ▸ hg)
    · rw [h1] at hg
      cases hg
      right
      simp
      omega
  · have a1 := hg4.block q (by simp; omega) (fun e => by have := h.away q e.symm; omega)
    have a2 := Below.heap_alloc W3 o2 q (by omega)
    have a3 := hg3.block q (by simp; omega) (by simp; omega)
    have a4 := Below.heap_alloc W o q (by omega)
    exact a1.trans (a2.trans (a3.trans (a4.trans (h.still q hq1 hq2))))
  · exact (b3.alloc (by omega) _).grown hg4 (by simp; omega) (fun k e => (ho.lt k e).1)

set_option maxRecDepth 100000 in
set_option maxHeartbeats 4000000 in
theorem parts_any : ∀ (f n m : Nat) (w : World), n ≤ f → n ≤ 20 → m ≤ 30 →
    Calls Try.prog 56 #[.int .i64 (n : Int), .int .i64 (m : Int)] w fun e w' => ∃ a c, e = .returned (.slice a (pF f n m).length c) ∧ TabO w' w.heap.size (.slice a (pF f n m).length c) (pF f n m) ∧ Below w.heap.size w w' := by
  have leaf : ∀ (f m : Nat) (w : World), Calls Try.prog 56 #[.int .i64 ((0 : Nat) : Int), .int .i64 (m : Int)] w fun e w' => ∃ a c, e = .returned (.slice a (pF f 0 m).length c) ∧ TabO w' w.heap.size (.slice a (pF f 0 m).length c) (pF f 0 m) ∧ Below w.heap.size w w' := by
    intro f m w
    rw [pF_zero]
    have HT := Lib.hid (leaf_tab w)
    go_enter Try.func56, Try.ntmps56
    go_wp2
    go_ret
    exact ⟨some ⟨w.heap.size + 1, 0, none⟩, 1, rfl, HT.out, ((Below.refl _ _).alloc (Nat.le_refl _) _).alloc (by simp) _⟩
  intro f
  induction f with
  | zero =>
    intro n m w hn _ _
    obtain rfl : n = 0 := by omega
    exact leaf 0 m w
  | succ f ih =>
    intro n m w hnf hn20 hm30
    by_cases hn0 : n = 0
    · subst hn0
      exact leaf (f + 1) m w
    · rw [pF_succ m hn0]
      have IH := Lib.hid ih
      obtain ⟨M, hM⟩ : ∃ M, min n m = M := ⟨_, rfl⟩
      have hMi : min (n : Int) (m : Int) = (M : Int) := by omega
      have hMn : M ≤ n := by omega
      rw [hM]
      obtain ⟨i3, j1, j2, j3, j4⟩ := info_parts info3
      obtain ⟨i33, k1, k2, k3, k4⟩ := info_parts info33
      have J := Lib.hid (And.intro j1 (And.intro j2 (And.intro j3 j4)))
      have K := Lib.hid (And.intro k1 (And.intro k2 (And.intro k3 k4)))
      have hnz : ((n : Int) == 0) = false := by simp; omega
      clear ih hM leaf j1 j2 j3 j4 k1 k2 k3 k4 hn0
      go_enter Try.func56, Try.ntmps56
      go_wp2
      go_loopg [5, 6] M (fun gk v i wr => ∃ (k : Nat) (a : Option Addr) (c : Nat), k + gk = M ∧ i = .int .i64 ((k : Int) + 1) ∧ v = .slice a (pPre f n k).length c ∧ TabO wr w.heap.size (.slice a (pPre f n k).length c) (pPre f n k) ∧ Below w.heap.size w wr)
      case atStart => exact ⟨0, none, 0, by omega, rfl, rfl, TabO.nil _ _, Below.refl _ _⟩
      case round =>
        obtain ⟨k, a, c, hk, rfl, rfl, ht, hb⟩ := hrel
        have HT := Lib.hid ht
        have HB := Lib.hid hb
        clear ht hb
        by_cases hkM : k = M
        · have hgt : ¬ (k : Int) + 1 ≤ (M : Int) := by omega
          have HK := Lib.hid hkM
          have hlen : (pPre f n k).length = (pPre f n M).length := by rw [hkM]
          obtain ⟨T, hT⟩ : ∃ T, (pPre f n k).length = T := ⟨_, rfl⟩
          have ht := HT.out
          rw [hT] at ht hlen ⊢
          rw [HK.out] at ht
          have HT2 := Lib.hid ht
          have HLN := Lib.hid hlen
          clear hkM hlen ht HT hT
          go_wp2
          go_ret
          refine ⟨a, c, by rw [← HLN.out]; rfl, ?_, HB.out⟩
          rw [← HLN.out]
          exact HT2.out
        · have hle : (k : Int) + 1 ≤ (M : Int) := by omega
          have hkn : k + 1 ≤ n := by omega
          have hsub : (n : Int) - ((k : Int) + 1) = ((n - (k + 1) : Nat) : Int) := by omega
          have HKM := Lib.hid (show k + 1 ≤ M by omega)
          clear hkM
          go_wp2_with fail
          rw [show ((k : Int) + 1) = ((k + 1 : Nat) : Int) by omega]
          refine (IH.out (n - (k + 1)) (k + 1) wr (by omega) (by omega) (by omega)).mono ?_
          rintro e w2 ⟨aR, cR, rfl, htR, hbR⟩
          have hnext := pPre_succ f n k
          have hlen2 := pPre_len2 f n (k + 1) (by omega) hkn
          have hpow : 2 ^ n ≤ 2 ^ 20 := Nat.pow_le_pow_right (by omega) hn20
          have hRmem : ∀ l ∈ pF f (n - (k + 1)) (k + 1), l.length ≤ 20 := fun l hl => by have := pF_mem f _ _ (by omega) l hl; omega
          obtain ⟨R, hR⟩ : ∃ R, pF f (n - (k + 1)) (k + 1) = R := ⟨_, rfl⟩
          rw [hR] at htR hnext hRmem ⊢
          obtain ⟨P, hP⟩ : ∃ P, pPre f n k = P := ⟨_, rfl⟩
          have ht := HT.out
          rw [hP] at ht hnext ⊢
          rw [hnext, List.length_append, List.length_map] at hlen2
          have hs0 : PS w w2 wr.heap.size (.slice a P.length c) (P ++ (R.take 0).map fun l => ((k + 1 : Nat) : Int) :: l) w2 := by
            refine ⟨?_, fun g hg => ?_, fun _ _ _ => rfl, HB.out.trans (hbR.mono HB.out.size), Nat.le_refl _⟩
            · rw [List.take_zero, List.map_nil, List.append_nil]
              exact ht.below hbR
            · obtain ⟨vs, h1, -⟩ := ht
              exact .inl (h1.lt g hg).2
          have HS0 := Lib.hid hs0
          have HTR := Lib.hid htR
          have HNX := Lib.hid hnext
          have HRM := Lib.hid hRmem
          have HLN := Lib.hid (show P.length + R.length ≤ 1048576 by omega)
          obtain ⟨N2, hN2⟩ : ∃ N2, R.length = N2 := ⟨_, rfl⟩
          obtain ⟨LP, hLP⟩ : ∃ LP, P.length = LP := ⟨_, rfl⟩
          have hlp : (P ++ (R.take 0).map fun l => ((k + 1 : Nat) : Int) :: l).length = LP := by simp [hLP]
          rw [hLP] at HS0
          rw [hN2, hLP]
          rw [hN2] at HTR
          have HN2 := Lib.hid hN2
          have HLP := Lib.hid hlp
          have hN3 : N2 ≤ 1048576 := by omega
          clear hnext hlen2 hpow hRmem hR hP ht hs0 htR hbR hN2 hLP hlp HT
          go_wp2_with fail
          go_loopg [5, 26] N2 (fun gk v i wr2 => ∃ (j : Nat) (a : Option Addr) (c : Nat), j + gk = N2 ∧ i = .int .i64 (j : Int) ∧ v = .slice a (P ++ (R.take j).map fun l => ((k + 1 : Nat) : Int) :: l).length c ∧ PS w w2 wr.heap.size v (P ++ (R.take j).map fun l => ((k + 1 : Nat) : Int) :: l) wr2)
          case atStart => exact ⟨0, a, c, by omega, rfl, by rw [HLP.out], HS0.out⟩
          case round =>
            obtain ⟨j, a, c, hj, rfl, rfl, hs⟩ := hrel
            have HS := Lib.hid hs
            clear hs HS0
            by_cases hjN : j = N2
            · have hge : ¬ (j : Int) < (N2 : Int) := by omega
              have hge2 : ¬ j < N2 := by omega
              have hx : (P ++ (R.take j).map fun l => ((k + 1 : Nat) : Int) :: l) = pPre f n (k + 1) := by
                rw [HNX.out, List.take_of_length_le (by have := HN2.out; omega)]
              have hs := HS.out
              rw [hx] at hs ⊢
              have HS2 := Lib.hid hs
              clear hx hs hjN HS
              go_wp2_with fail
              go_roundg (M - k - 1)
              case rel => exact ⟨k + 1, a, c, by have := HKM.out; omega, by go_num, rfl, HS2.out.t, HS2.out.b⟩
              case measure => have := HKM.out; omega
            · have hlt : (j : Int) < (N2 : Int) := by omega
              have hlt2 : j < N2 := by omega
              have htR := HTR.out.same HS.out.still
              obtain ⟨vsR, hoR, hinR⟩ := htR
              have hjR : j < R.length := by have := HN2.out; omega
              obtain ⟨gj, cj, hv1, hv2⟩ := hinR j hjR
              have hlj := HRM.out _ (nthL_mem hjR)
              have htk : R.take (j + 1) = R.take j ++ [nthL R j] := by
                rw [List.take_add_one]
                simp [nthL, List.getD, hjR]
              rw [HN2.out] at hoR
              obtain ⟨gR, cR', har⟩ := own_form hoR (by omega)
              cases har
              have hcell := hoR.cellAt j (by omega)
              rw [hv1] at hcell
              have hgj := (hv2.lt gj rfl).2
              obtain ⟨l, hl⟩ : ∃ l, nthL R j = l := ⟨_, rfl⟩
              rw [hl] at hv2 hlj htk hcell
              obtain ⟨m2, hm2⟩ : ∃ m2, l.length = m2 := ⟨_, rfl⟩
              have HM2 := Lib.hid hm2
              rw [hm2] at hv2 hlj hcell
              have hsz := HS.out.b.size
              have hlit := World.ownsRow_lit (base := w.heap.size) (e := 3) (size := 1) wr #[.int .i64 ((k : Int) + 1)] 1 hsz (by unfold maxLen; omega) rfl
              have hnews := (hv2.alloc (.cells #[.int .i64 ((k : Int) + 1)] 3)).cells (g := gj) rfl
              obtain ⟨Q, hQ⟩ : ∃ Q, (P ++ (R.take j).map fun l => ((k + 1 : Nat) : Int) :: l) = Q := ⟨_, rfl⟩
              have hQ2 : (P ++ (R.take (j + 1)).map fun l => ((k + 1 : Nat) : Int) :: l) = Q ++ [((k + 1 : Nat) : Int) :: l] := by
                rw [htk, List.map_append, ← List.append_assoc, hQ]
                rfl
              have HQ2 := Lib.hid hQ2
              obtain ⟨LQ, hLQ⟩ : ∃ LQ, Q.length = LQ := ⟨_, rfl⟩
              have hLQ2 : LQ + 1 ≤ 1048576 := by
                have h1 := HLN.out
                have h2 := HN2.out
                have h3 : Q.length = P.length + j := by rw [← hQ, List.length_append, List.length_map, List.length_take]; omega
                omega
              have hs := HS.out
              rw [hQ] at hs ⊢
              rw [hLQ] at hs ⊢
              have HS2 := Lib.hid hs
              have HLQ := Lib.hid hLQ
              obtain ⟨j1, j2, j3, j4⟩ := J.out
              obtain ⟨k1, k2, k3, k4⟩ := K.out
              have HJN := Lib.hid (show j + 1 ≤ N2 by omega)
              have HTR2 := Lib.hid HTR.out
              have j0 : (0 : Int) ≤ (j : Int) := by omega
              clear hjN hoR hinR hv1 hv2 htk hQ hQ2 hs HS hLQ hl hm2 hjR HTR
              go_wp2_with (first
                | (at_builtin
                   refine wpList_append_own_at _ rfl _ _ 33 rfl w.heap.size 3 i3 (.int .i64 0) 1 8 Try.underlying33 j1 j2 j3 j4 rfl (by decide) _ 1 _ rfl hlit ⟨gj, 0, none⟩ m2 cj (l.map (Value.int .i64)) rfl (by rw [List.length_map, HM2.out]; omega) hnews (ints_oneCell .i64 l) (by unfold maxLen; omega) (by omega) (by simp; omega) ?_
                   intro v3 w3 ho3 hg3 hn3 hat3
                   obtain ⟨g3, c3, rfl⟩ := own_form ho3 (by omega)
                   have h3s : wr.heap.size + 1 ≤ w3.heap.size := by have := hg3.size; simpa using this
                   obtain ⟨vs, hov, hin⟩ := HS2.out.t.later hg3
                   have HIN := Lib.hid hin
                   have HG3 := Lib.hid hg3
                   have HO3 := Lib.hid ho3
                   clear hin hg3 ho3 hn3 hat3 hlit hnews)
                | (at_builtin
                   refine wpList_append_own_at _ rfl _ _ 22 rfl w.heap.size 33 i33 (.slice none 0 0) 1 24 Try.underlying22 k1 k2 k3 k4 rfl (by decide) _ _ vs rfl (hov.alloc _) ⟨w3.heap.size, 0, none⟩ 1 1 [.slice (some ⟨g3, 0, none⟩) (1 + m2) c3] rfl rfl (cell_one_new _ _ _) (by simp [Value.oneCell']) (by rw [HLQ.out]; unfold maxLen; omega) (by rw [HLQ.out]; omega) (by simp; omega) ?_
                   intro v4 w4 ho4 hg4 hn4 hat4))
              have hps := PS.step (l := ((k + 1 : Nat) : Int) :: l) HS2.out HG3.out (by rw [List.length_cons, HM2.out, Nat.add_comm]; exact HO3.out) hov HIN.out (by rw [List.length_cons, HM2.out, Nat.add_comm m2 1]; exact ho4) hg4 hat4
              have hv4 : ∃ a4 c4, v4 = .slice a4 (Q.length + 1) c4 := by
                obtain ⟨g4, c4, h4⟩ := own_form ho4 (by omega)
                exact ⟨_, c4, h4⟩
              obtain ⟨a4, c4, rfl⟩ := hv4
              go_roundg (gk - 1)
              case rel =>
                refine ⟨j + 1, a4, c4, by have := HJN.out; omega, by go_num, ?_, ?_⟩
                · rw [HQ2.out, List.length_append]; rfl
                · rw [HQ2.out]; exact hps
              case measure => have := HJN.out; omega
end Go.Proofs.Ytfecdpglcdhijaa
