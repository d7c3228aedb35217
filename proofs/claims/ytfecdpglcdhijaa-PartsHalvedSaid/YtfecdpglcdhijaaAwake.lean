/- The walks of slices.Equal and slices.EqualFunc over tables, gherkinlaw02.same and awake, and parts.List: the documented table, or the documented error. Condition: the tables lie in memory. -/
import Derived.Test.YtfecdpglcdhijaaPart
namespace Go.Proofs.Ytfecdpglcdhijaa
open Go.RowKit
attribute [local go_sem] Oper.semAt_some

theorem equal_any (a1 a2 : Option Addr) (n m c d : Nat) (xs ys : List Int) (w : World) (h1 : Ints w a1 n xs) (h2 : Ints w a2 m ys) (hn : n ≤ 4611686018427387904) (hm : m ≤ 4611686018427387904) :
    Calls Try.prog 29 #[.slice a1 n c, .slice a2 m d] w fun e w' => e = .returned (.bool (xs == ys)) ∧ ∃ q, w' = w.drewN q := by
  by_cases hn0 : n = 0
  · subst hn0
    have hx : xs = [] := List.length_eq_zero_iff.1 h1.1
    subst hx
    refine (Try.slices_Equal_int_empty a1 a2 c m d w (by omega)).mono ?_
    rintro e w' ⟨rfl, rfl⟩
    refine ⟨ret_bool ?_, 0, rfl⟩
    have := h2.1
    cases ys with
    | nil => have : m = 0 := by simpa using this.symm
             simp [this]
    | cons y r => have : m ≠ 0 := by rw [← this]; simp
                  simp [this]
  · obtain ⟨b1, o1, rfl, hb1, hc1⟩ := h1.at (by omega)
    by_cases hm0 : m = 0
    · subst hm0
      have hy : ys = [] := List.length_eq_zero_iff.1 h2.1
      subst hy
      refine (Try.slices_Equal_int_lens (some ⟨b1, o1, none⟩) a2 n c 0 d w (by omega)).mono ?_
      rintro e w' ⟨rfl, rfl⟩
      refine ⟨ret_bool ?_, 0, rfl⟩
      cases xs with
      | nil => exact absurd h1.1.symm hn0
      | cons y r => rfl
    · obtain ⟨b2, o2, rfl, hb2, hc2⟩ := h2.at (by omega)
      refine (Try.slices_Equal_int b1 o1 n c b2 o2 m d xs ys w (by rw [h1.1]; exact Nat.le_refl _) (by rw [h2.1]; exact Nat.le_refl _) (by omega) (by omega) (fun j hj => hc1 j (by rw [← h1.1]; exact hj)) (fun j hj => hc2 j (by rw [← h2.1]; exact hj))).mono ?_
      rintro e w' ⟨rfl, q, rfl⟩
      refine ⟨ret_bool ?_, q, rfl⟩
      rw [List.take_of_length_le (by rw [h1.1]; exact Nat.le_refl _), List.take_of_length_le (by rw [h2.1]; exact Nat.le_refl _)]

/-- Whether two tables are equal from k on. -/
def sameFrom (L M : List (List Int)) (k : Nat) : Bool := L.drop k == M.drop k
theorem sameFrom_step {L M : List (List Int)} {k : Nat} (h1 : k < L.length) (h2 : k < M.length) : sameFrom L M k = ((nthL L k == nthL M k) && sameFrom L M (k + 1)) := by
  have e1 : nthL L k = L[k] := by simp [nthL, List.getD, h1]
  have e2 : nthL M k = M[k] := by simp [nthL, List.getD, h2]
  rw [e1, e2]
  unfold sameFrom
  rw [List.drop_eq_getElem_cons h1, List.drop_eq_getElem_cons h2]
  rfl
theorem sameFrom_end {L M : List (List Int)} {k : Nat} (h1 : L.length ≤ k) (h2 : M.length ≤ k) : sameFrom L M k = true := by
  unfold sameFrom
  rw [List.drop_of_length_le h1, List.drop_of_length_le h2]
  rfl

set_option maxHeartbeats 1000000 in
theorem equalFunc_any (a1 a2 : Option Addr) (c d : Nat) (L M : List (List Int)) (w : World) (h1 : TabR w a1 L) (h2 : TabR w a2 M) (hL : L.length ≤ 4611686018427387904) (hM : M.length ≤ 4611686018427387904) (hi : ∀ l ∈ L, l.length ≤ 1000) (hj : ∀ l ∈ M, l.length ≤ 1000) :
    Calls Try.prog 59 #[.slice a1 L.length c, .slice a2 M.length d, .func (.func 29) #[] #[]] w fun e w' => e = .returned (.bool (L == M)) ∧ ∃ q, w' = w.drewN q := by
  have H1 := Lib.hid h1
  have H2 := Lib.hid h2
  have HI := Lib.hid hi
  have HJ := Lib.hid hj
  obtain ⟨n, hn⟩ : ∃ n, L.length = n := ⟨_, rfl⟩
  obtain ⟨m, hm⟩ : ∃ m, M.length = m := ⟨_, rfl⟩
  rw [hn] at hL ⊢
  rw [hm] at hM ⊢
  have HN := Lib.hid hn
  have HM := Lib.hid hm
  clear h1 h2 hi hj hn hm
  by_cases hnm : n = m
  · subst hnm
    have hb : ((n : Int) != (n : Int)) = false := by simp
    go_enter Try.func59, Try.ntmps59
    go_wp2_with fail
    go_loopg [17] n (fun gk i wr => ∃ (k q : Nat), k + gk = n ∧ i = .int .i64 (k : Int) ∧ (L == M) = sameFrom L M k ∧ wr = w.drewN q)
    case atStart => exact ⟨0, 0, by omega, rfl, rfl, rfl⟩
    case round =>
      obtain ⟨k, q, hk, rfl, hs, rfl⟩ := hrel
      have HS := Lib.hid hs
      clear hs
      by_cases hkn : k = n
      · have hge : ¬ (k : Int) < (n : Int) := by omega
        have hge2 : ¬ k < n := by omega
        have hE : (L == M) = true := by rw [HS.out, sameFrom_end (by have := HN.out; omega) (by have := HM.out; omega)]
        have HE := Lib.hid hE
        clear hkn hE
        go_wp2_with fail
        go_ret
        exact ⟨ret_bool HE.out.symm, q, rfl⟩
      · have hlt : (k : Int) < (n : Int) := by omega
        have hlt2 : k < n := by omega
        have hst := sameFrom_step (L := L) (M := M) (k := k) (by have := HN.out; omega) (by have := HM.out; omega)
        rcases H1.out with h | ⟨b1, o1, rfl, hb1, hc1⟩
        · have := HN.out; omega
        rcases H2.out with h | ⟨b2, o2, rfl, hb2, hc2⟩
        · have := HM.out; omega
        obtain ⟨x1, y1, hx1, hi1⟩ := hc1 k (by have := HN.out; omega)
        obtain ⟨x2, y2, hx2, hi2⟩ := hc2 k (by have := HM.out; omega)
        have hl1 := HI.out _ (nthL_mem (L := L) (i := k) (by have := HN.out; omega))
        have hl2 := HJ.out _ (nthL_mem (L := M) (i := k) (by have := HM.out; omega))
        have hI1 := hi1.below (below_drewN (Below.refl w.heap.size w) q)
        have hI2 := hi2.below (below_drewN (Below.refl w.heap.size w) q)
        obtain ⟨l1, hl1'⟩ : ∃ l, nthL L k = l := ⟨_, rfl⟩
        obtain ⟨l2, hl2'⟩ : ∃ l, nthL M k = l := ⟨_, rfl⟩
        rw [hl1'] at hx1 hl1 hI1 hst
        rw [hl2'] at hx2 hl2 hI2 hst
        have HI1 := Lib.hid hI1
        have HI2 := Lib.hid hI2
        have HST := Lib.hid hst
        have k0 : (0 : Int) ≤ (k : Int) := by omega
        clear hkn hst hi1 hi2 hI1 hI2 hc1 hc2 hl1' hl2'
        by_cases heq : (l1 == l2) = true
        · have HEQ := Lib.hid heq
          clear heq
          go_wp2_with (go_at_call 29; refine (equal_any x1 x2 _ _ y1 y2 l1 l2 _ HI1.out HI2.out (by omega) (by omega)).mono ?_; rintro e w' ⟨rfl, q2, rfl⟩; rw [HEQ.out])
          go_roundg (n - k - 1)
          case rel => exact ⟨k + 1, q + q2, by omega, by go_num, by rw [HS.out, HST.out, HEQ.out, Bool.true_and], rfl⟩
          case measure => omega
        · have heq' : (l1 == l2) = false := by simpa using heq
          have HEQ := Lib.hid heq'
          clear heq heq'
          go_wp2_with (go_at_call 29; refine (equal_any x1 x2 _ _ y1 y2 l1 l2 _ HI1.out HI2.out (by omega) (by omega)).mono ?_; rintro e w' ⟨rfl, q2, rfl⟩; rw [HEQ.out])
          go_ret
          exact ⟨ret_bool (by rw [HS.out, HST.out, HEQ.out, Bool.false_and]), q + q2, rfl⟩
  · have hE : (L == M) = false := by
      rw [beq_eq_false_iff_ne]
      intro e
      rw [e] at HN
      exact hnm (HN.out.symm.trans HM.out)
    have hb : ((n : Int) != (m : Int)) = true := by simp; omega
    have HE := Lib.hid hE
    clear hE hnm
    go_enter Try.func59, Try.ntmps59
    go_wp2_with fail
    go_ret
    exact ⟨ret_bool HE.out.symm, 0, rfl⟩

set_option maxHeartbeats 1000000 in
theorem same_any (a1 a2 : Option Addr) (c d : Nat) (L M : List (List Int)) (w : World) (h1 : TabR w a1 L) (h2 : TabR w a2 M) (hL : L.length ≤ 4611686018427387904) (hM : M.length ≤ 4611686018427387904) (hi : ∀ l ∈ L, l.length ≤ 1000) (hj : ∀ l ∈ M, l.length ≤ 1000) :
    Calls Try.prog 19 #[.slice a1 L.length c, .slice a2 M.length d] w fun e w' => e = .returned (.bool (L == M)) ∧ ∃ q, w' = w.drewN q := by
  have hE := equalFunc_any a1 a2 c d L M w h1 h2 hL hM hi hj
  obtain ⟨B, hB⟩ : ∃ B, (L == M) = B := ⟨_, rfl⟩
  rw [hB] at hE ⊢
  obtain ⟨n, hn⟩ : ∃ n, L.length = n := ⟨_, rfl⟩
  obtain ⟨m, hm⟩ : ∃ m, M.length = m := ⟨_, rfl⟩
  rw [hn, hm] at hE ⊢
  have HE := Lib.hid hE
  clear hE h1 h2 hL hM hi hj hB hn hm
  go_enter Try.func19, Try.ntmps19
  go_wp2_with (go_at_call 59; refine HE.out.mono ?_; rintro e w' ⟨rfl, q, rfl⟩)
  go_ret
  exact ⟨rfl, q, rfl⟩

set_option maxHeartbeats 1000000 in
theorem List_yes (n : Nat) (hn : n ≤ 20) (w : World) :
    Calls Try.prog 17 #[.int .i64 (n : Int)] w fun e w' => ∃ a c, e = .returned (.tuple #[.slice a (pF 20 n n).length c, .int .i64 0]) ∧ TabO w' w.heap.size (.slice a (pF 20 n n).length c) (pF 20 n n) ∧ Below w.heap.size w w' := by
  have hE := parts_any 20 n n w hn hn (by omega)
  obtain ⟨T, hT⟩ : ∃ T, pF 20 n n = T := ⟨_, rfl⟩
  rw [hT] at hE ⊢
  obtain ⟨N, hN⟩ : ∃ N, T.length = N := ⟨_, rfl⟩
  rw [hN] at hE ⊢
  have HE := Lib.hid hE
  have g1 : ¬ (n : Int) < 0 := by omega
  have g2 : ¬ (20 : Int) < (n : Int) := by omega
  clear hE hT hN
  go_enter Try.func17, Try.ntmps17
  go_wp2_with (go_at_call 56; refine HE.out.mono ?_; rintro e w' ⟨a, c, rfl, ht, hb⟩; have HT := Lib.hid ht; have HB := Lib.hid hb; clear ht hb)
  go_ret2
  exact ⟨a, c, rfl, HT.out, HB.out⟩

set_option maxHeartbeats 1000000 in
theorem List_no (n : Int) (hn : n < 0 ∨ 20 < n) (w : World) :
    Calls Try.prog 17 #[.int .i64 n] w fun e w' => e = .returned (.tuple #[.slice none 0 0, .int .i64 2]) ∧ w' = w := by
  by_cases h : n < 0
  · clear hn
    go_enter Try.func17, Try.ntmps17
    go_wp2
    go_ret2
    exact ⟨rfl, rfl⟩
  · have h2 : 20 < n := by omega
    clear hn
    go_enter Try.func17, Try.ntmps17
    go_wp2
    go_ret2
    exact ⟨rfl, rfl⟩
theorem two_tab : pF 20 2 2 = [[1, 1], [2]] := by decide +kernel

theorem lit_tab (w : World) : TabR (((w.alloc (.cells #[.int .i64 1, .int .i64 1] 3)).alloc (.cells #[.int .i64 2] 3)).alloc (.cells #[.slice (some ⟨w.heap.size, 0, none⟩) 2 2, .slice (some ⟨w.heap.size + 1, 0, none⟩) 1 1] 33)) (some ⟨w.heap.size + 1 + 1, 0, none⟩) [[1, 1], [2]] := by
  have h1 := World.ownsRow_lit (base := w.heap.size) (e := 3) (size := 1) w #[.int .i64 1, .int .i64 1] 2 (Nat.le_refl _) (by unfold maxLen; omega) rfl
  have h2 := World.ownsRow_lit (base := w.heap.size) (e := 3) (size := 1) (w.alloc (.cells #[.int .i64 1, .int .i64 1] 3)) #[.int .i64 2] 1 (by simp) (by unfold maxLen; omega) rfl
  rw [show (w.alloc (.cells #[.int .i64 1, .int .i64 1] 3)).heap.size = w.heap.size + 1 by simp] at h2
  have h3 := World.ownsRow_lit (base := w.heap.size) (e := 33) (size := 1) ((w.alloc (.cells #[.int .i64 1, .int .i64 1] 3)).alloc (.cells #[.int .i64 2] 3)) #[.slice (some ⟨w.heap.size, 0, none⟩) 2 2, .slice (some ⟨w.heap.size + 1, 0, none⟩) 1 1] 2 (by simp; omega) (by unfold maxLen; omega) rfl
  rw [show ((w.alloc (.cells #[.int .i64 1, .int .i64 1] 3)).alloc (.cells #[.int .i64 2] 3)).heap.size = w.heap.size + 1 + 1 by simp] at h3
  refine (TabO.read (B := w.heap.size) (n := 2) (c := 2) ⟨_, h3, fun i hi => ?_⟩).1
  match i, hi with
  | 0, _ => exact ⟨w.heap.size, 2, rfl, (h1.alloc _).alloc _⟩
  | 1, _ => exact ⟨w.heap.size + 1, 1, rfl, h2.alloc _⟩
  | i + 2, hi => simp at hi; omega

set_option maxHeartbeats 1000000 in
theorem awake_any (w : World) :
    Calls Try.prog 21 #[] w fun e w' => e = .returned (.bool true) ∧ Below w.heap.size w w' := by
  have hL := List_yes 2 (by omega) w
  rw [two_tab] at hL
  have HL := Lib.hid hL
  clear hL
  go_enter Try.func21, Try.ntmps21
  go_wp2_with (first
    | (go_at_call 17; refine HL.out.mono ?_; rintro e w1 ⟨a, c, rfl, ht, hb⟩; have HT := Lib.hid ht.read.1; have HB := Lib.hid hb; have HLT := Lib.hid (lit_tab w1); clear ht hb)
    | (go_at_call 19; refine (same_any a (some ⟨w1.heap.size + 1 + 1, 0, none⟩) c 2 [[1, 1], [2]] [[1, 1], [2]] _ (((HT.out.below ((Below.refl _ _).alloc (Nat.le_refl _) _)).below ((Below.refl _ _).alloc (Nat.le_refl _) _)).below ((Below.refl _ _).alloc (Nat.le_refl _) _)) HLT.out (by simp) (by simp) (by simp) (by simp)).mono ?_; rintro e w2 ⟨rfl, q, rfl⟩))
  go_ret
  exact ⟨rfl, below_drewN (((HB.out.alloc HB.out.size _).alloc (by have := HB.out.size; simp; omega) _).alloc (by have := HB.out.size; simp; omega) _) q⟩
end Go.Proofs.Ytfecdpglcdhijaa
