/- The walk of gherkinlaw07.table. Condition: the table lies in memory. -/
import Derived.Test.YtgfenponlkmfmaaPush
namespace Go.Proofs.Ytgfenponlkmfmaa
open Go.RowKit
attribute [local go_sem] Oper.semAt_some

/-- The beginning of a table. -/
def tcut (L : List (List Int)) : List (List Int) := (L.take 6).map fun r => r.take 6
theorem tcut_next {L : List (List Int)} {k : Nat} (hk : k < L.length) (h6 : k < 6) : tcut (L.take (k + 1)) = tcut (L.take k) ++ [(row L k).take 6] := by
  unfold tcut
  rw [List.take_take, List.take_take, Nat.min_eq_right (by omega), Nat.min_eq_right (by omega), List.take_succ_eq_append_getElem hk, List.map_append]
  simp [row, List.getD, hk]
theorem tcut_stay {L : List (List Int)} {k : Nat} (h6 : ¬ k < 6) : tcut (L.take (k + 1)) = tcut (L.take k) := by
  unfold tcut
  rw [List.take_take, List.take_take, Nat.min_eq_left (by omega), Nat.min_eq_left (by omega)]
theorem tcut_len (L : List (List Int)) (k : Nat) (hk : k ≤ L.length) : (tcut (L.take k)).length = min k 6 := by
  unfold tcut
  rw [List.length_map, List.length_take, List.length_take]
  omega

set_option maxHeartbeats 1000000 in
theorem list2_any (a : Option Addr) (c : Nat) (xs : List Int) (w : World) (h : Lies w a c xs) :
    Calls Try.prog 29 #[.slice a xs.length c] w fun e w' => ∃ v, e = .returned v ∧ Row w.heap.size v (xs.take 6) w' ∧ Below w.heap.size w w' := by
  obtain ⟨n, hn⟩ : ∃ n, xs.length = n := ⟨_, rfl⟩
  have h1 := h.ints
  have h2 := h.le
  have h3 := h.max
  unfold maxLen at h3
  rw [hn] at h1 h2 ⊢
  have H := Lib.hid h1
  have hf := h1.front (min n 6) (by omega)
  have e2 : xs.take (min n 6) = xs.take 6 := by
    rw [List.take_eq_take_iff, hn]; omega
  rw [e2] at hf
  have HF := Lib.hid hf
  have HE := Lib.hid (show (min (n : Int) 6).toNat = min n 6 by omega)
  have HN := Lib.hid hn
  clear e2 hf h1 h hn
  go_enter Try.func29, Try.ntmps29
  go_wp2_with fail
  rw [HE.out]
  refine (clone_any a (min n 6) c (xs.take 6) w HF.out (by omega)).mono ?_
  rintro e w1 ⟨ao, co, rfl, ho, h1, h2, hb⟩
  have hl : (xs.take 6).length = min n 6 := by rw [List.length_take, HN.out]; omega
  have hr : Row w.heap.size (.slice ao (min n 6) co) (xs.take 6) w1 := (Row.of ho).1
  have HO := Lib.hid (And.intro hr hb)
  clear ho h1 h2 hb hr hl
  go_wp2
  go_ret
  exact ⟨_, rfl, HO.out.1, HO.out.2⟩

set_option maxHeartbeats 4000000 in
set_option maxRecDepth 100000 in
theorem table_any (a : Option Addr) (n c : Nat) (L : List (List Int)) (w : World) (h : Tab w a n L) (hn : n ≤ 4611686018427387904) :
    Calls Try.prog 19 #[.slice a n c] w fun e w' => ∃ v, e = .returned v ∧ TabO w' w.heap.size v (tcut L) ∧ Below w.heap.size w w' := by
  have H := Lib.hid h
  have HLen := Lib.hid h.1
  clear h
  go_enter Try.func19, Try.ntmps19
  go_wp2
  go_loopg [3, 8] n (fun gk v s8 wr => ∃ k : Nat, k + gk = n ∧ s8 = .int .i64 (k : Int) ∧ TabO wr w.heap.size v (tcut (L.take k)) ∧ Below w.heap.size w wr)
  case atStart => exact ⟨0, by omega, rfl, TabO.nil _ _, Below.refl _ _⟩
  case round =>
    obtain ⟨k, hk, rfl, ht, hb⟩ := hrel
    have HT := Lib.hid ht
    have HB := Lib.hid hb
    have HK := Lib.hid hk
    clear ht hb
    by_cases hkn : k < n
    · have l1 : (k : Int) < (n : Int) := by omega
      have k0 : (0 : Int) ≤ (k : Int) := by omega
      have htw := H.out.below HB.out
      obtain ⟨b, off, ai, ci, rfl, hbl, hcell, hlie⟩ := htw.at hkn
      by_cases h6 : k < 6
      · have h6i : (k : Int) < 6 := by omega
        have hC := list2_any ai ci (row L k) wr hlie
        have hst := tcut_next (L := L) (k := k) (by rw [HLen.out]; exact hkn) h6
        have hlen := tcut_len L k (by rw [HLen.out]; omega)
        obtain ⟨N, hN⟩ : ∃ N, (row L k).length = N := ⟨_, rfl⟩
        rw [hN] at hC hcell
        have HST := Lib.hid hst
        have HC := Lib.hid hC
        have HLT := Lib.hid hlen
        clear hst hC hN hk hlie htw hlen
        go_wp2_with fail
        refine HC.out.mono ?_
        rintro e w1 ⟨v1, rfl, hr1, hb1⟩
        obtain ⟨a1, c1, rfl, hl1, hblk⟩ := hr1.lies
        have HT1 := Lib.hid (HT.out.below hb1)
        have HB1 := Lib.hid (HB.out.trans (hb1.mono HB.out.size))
        have HNB := Lib.hid (new_block HT.out hblk)
        have HL1 := Lib.hid hl1
        obtain ⟨M, hM⟩ : ∃ M, ((row L k).take 6).length = M := ⟨_, rfl⟩
        rw [hM]
        have HM := Lib.hid hM
        clear hl1 hblk hM hb1 hr1
        go_wp2_with (at_builtin; refine wpList_pushT (.tmp 15) (.tmp 18) rfl rfl w.heap.size u3 (tcut (L.take k)) ((row L k).take 6) a1 M c1 w1 rfl HT1.out HM.out HL1.out HNB.out rfl (by rw [HLT.out]; omega) HB1.out.size ?_; intro v' w3 ht3 hb3 hg3)
        have HF := Lib.hid (And.intro (show TabO w3 w.heap.size v' (tcut (L.take (k + 1))) by rw [HST.out]; exact ht3) (HB1.out.trans hb3))
        clear ht3 hb3 hg3
        go_wp2
        go_roundg (gk - 1)
        case rel => exact ⟨k + 1, by have := HK.out; omega, by go_num, HF.out.1, HF.out.2⟩
        case measure => have := HK.out; omega
      · have h6i : ¬ (k : Int) < 6 := by omega
        have hst := tcut_stay (L := L) h6
        have HF := Lib.hid (show TabO wr w.heap.size u3 (tcut (L.take (k + 1))) by rw [hst]; exact HT.out)
        clear hst hk hlie htw
        go_wp2
        go_roundg (gk - 1)
        case rel => exact ⟨k + 1, by have := HK.out; omega, by go_num, HF.out, HB.out⟩
        case measure => have := HK.out; omega
    · have l1 : ¬ (k : Int) < (n : Int) := by omega
      have HF := Lib.hid (show TabO wr w.heap.size u3 (tcut L) by have := HT.out; rw [show k = n by omega, List.take_of_length_le (by rw [HLen.out]; exact Nat.le_refl _)] at this; exact this)
      clear hk hkn
      go_wp2
      go_ret
      exact ⟨_, rfl, HF.out, HB.out⟩
end Go.Proofs.Ytgfenponlkmfmaa
