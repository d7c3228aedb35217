/- The walk of minor and determinant. Condition: a square table of at most four rows lies in memory. -/
import Derived.Test.YtgfenponlkmfmaaMinMath
namespace Go.Proofs.Ytgfenponlkmfmaa
open Go.RowKit
attribute [local go_sem] Oper.semAt_some

theorem w64 (a : Int) : RowKit.wrap64 a = IntKind.i64.wrap a := (IntWalk.i64_left a).symm
theorem w64_term (S s x D : Int) : wrap64 (wrap64 S + wrap64 (wrap64 (s * x) * wrap64 D)) = wrap64 (S + s * (x * D)) := by
  simp only [w64]
  exact wrap_term S s x D
theorem and_facts : ∀ t : Nat, t < 16 → ∀ j : Nat, j < 4 → bits BinOp.and IntKind.u64 ((t : Int) / 2 ^ j) 1 = ((t / 2 ^ j % 2 : Nat) : Int) := by decide +kernel
theorem or_facts : ∀ t : Nat, t < 16 → ∀ j : Nat, j < 4 → bits BinOp.or IntKind.u64 (t : Int) (IntKind.u64.wrap (2 ^ j)) = ((t ||| 2 ^ j : Nat) : Int) := by decide +kernel
/-- All rows have n numbers. -/
def Sq (n : Nat) (L : List (List Int)) : Prop := ∀ i, i < n → (row L i).length = n

set_option maxHeartbeats 4000000 in
set_option maxRecDepth 100000 in
theorem minor_any : ∀ (k : Nat) (a : Option Addr) (n c : Nat) (L : List (List Int)) (t : Nat) (w : World), Tab w a n L → n ≤ 4 → Sq n L → t < 2 ^ n → pc t + k = n →
    Calls Try.prog 90 #[.slice a n c, .int .u64 (t : Int)] w fun e w' => e = .returned (.int .i64 (wrap64 (mnr (ent L) n t))) ∧ w' = w := by
  intro k
  induction k with
  | zero =>
    intro a n c L t w h hn hs ht hk
    have h16 : t < 16 := Nat.lt_of_lt_of_le ht (Nat.pow_le_pow_right (by omega) hn)
    have h0 := onesCount_any t h16 w
    rw [show pc t = n by omega] at h0
    have hv : wrap64 (mnr (ent L) n t) = 1 := by rw [mnr_one (by omega)]; decide +kernel
    rw [hv]
    have H0 := Lib.hid h0
    clear h0 hv h hs ht hk h16
    go_enter Try.func90, Try.ntmps90
    go_wp2_with fail
    refine H0.out.mono ?_
    rintro e w1 ⟨rfl, rfl⟩
    go_wp2
    go_ret
    exact ⟨rfl, rfl⟩
  | succ k ih =>
    intro a n c L t w h hn hs ht hk
    have h16 : t < 16 := Nat.lt_of_lt_of_le ht (Nat.pow_le_pow_right (by omega) hn)
    have h0 := onesCount_any t h16 w
    obtain ⟨i, hi⟩ : ∃ i, pc t = i := ⟨_, rfl⟩
    rw [hi] at h0 hk
    have hin : i < n := by omega
    obtain ⟨b, off, ai, ci, rfl, hb, hcell, hlie⟩ := h.at hin
    have hrl := hs i hin
    rw [hrl] at hcell
    have hrow : ∀ j, j < n → ∃ bi oi, ai = some ⟨bi, oi, none⟩ ∧ w.cell? ⟨bi, oi + j, none⟩ = some (.int .i64 (ent L i j)) := by
      intro j hj
      obtain ⟨bi, oi, h1, h2, h3⟩ := hlie.ints.at (by omega)
      exact ⟨bi, oi, h1, h3 j (by omega)⟩
    obtain ⟨bi, oi, hai, -⟩ := hrow 0 (by omega)
    subst hai
    have hrow2 : ∀ j, j < n → w.cell? ⟨bi, oi + j, none⟩ = some (.int .i64 (ent L i j)) := by
      intro j hj
      obtain ⟨b2, o2, h1, h2⟩ := hrow j hj
      cases h1
      exact h2
    have hrec : ∀ j, j < n → t / 2 ^ j % 2 = 0 → Calls Try.prog 90 #[.slice (some ⟨b, off, none⟩) n c, .int .u64 ((t ||| 2 ^ j : Nat) : Int)] w fun e w' => e = .returned (.int .i64 (wrap64 (mnr (ent L) n (t ||| 2 ^ j)))) ∧ w' = w := by
      intro j hj hf
      refine ih _ n c L (t ||| 2 ^ j) w h hn hs (bit_below n (by omega) t ht j hj) ?_
      have := (bit_facts t h16 j (by omega) hf).2.1
      omega
    have htrm : ∀ j, j < n → t / 2 ^ j % 2 = 0 → trm (ent L) n t j = ent L i j * mnr (ent L) n (t ||| 2 ^ j) := by
      intro j hj hf
      rw [trm_next hn h16 hj hf, hi]
    obtain ⟨T, hT⟩ : ∃ T, mnr (ent L) n t = T := ⟨_, rfl⟩
    have hsum : alt 1 (free n t) (trm (ent L) n t) = T := by rw [← hT, mnr_sum (by omega)]
    rw [hT]
    have H0 := Lib.hid h0
    have HROW := Lib.hid hrow2
    have HREC := Lib.hid hrec
    have HTRM := Lib.hid htrm
    have HSUM := Lib.hid hsum
    have H16 := Lib.hid h16
    have i0 : (0 : Int) ≤ (i : Int) := by omega
    have i1 : (i : Int) < (n : Int) := by omega
    have i2 : ¬ (i : Int) = (n : Int) := by omega
    have i3 : ¬ i = n := by omega
    have n4 : (n : Int) ≤ 4 := by omega
    have i4 : ((i : Int) == (n : Int)) = false := by simpa using i2
    clear h0 hrow hrow2 hrec htrm hsum hT ih h hs ht hk hlie hrl hi h16
    go_enter Try.func90, Try.ntmps90
    go_wp2_with fail
    refine H0.out.mono ?_
    rintro e w1 ⟨rfl, rfl⟩
    go_wp2
    go_loopg [6, 7, 21] n (fun gk s6 s7 s21 wr => ∃ (j : Nat) (S s : Int), s21 = .int .i64 (j : Int) ∧ s6 = .int .i64 (wrap64 S) ∧ s7 = .int .i64 s ∧ j + gk = n ∧ (s = 1 ∨ s = -1) ∧ RowKit.Hid (S + alt s (freeB n t j) (trm (ent L) n t) = T) ∧ wr = w)
    case atStart => exact ⟨0, 0, 1, rfl, by rw [show wrap64 0 = 0 by decide +kernel], rfl, by omega, .inl rfl, Lib.hid (by rw [freeB_zero]; simpa using HSUM.out), rfl⟩
    case round =>
      obtain ⟨j, S, s, rfl, rfl, rfl, hj, hs1, HS, rfl⟩ := hrel
      have HJ := Lib.hid hj
      have HS1 := Lib.hid hs1
      by_cases hjn : j < n
      · have l1 : (j : Int) < (n : Int) := by omega
        have j0 : (0 : Int) ≤ (j : Int) := by omega
        have hcj := HROW.out j hjn
        obtain ⟨x, hx⟩ : ∃ x, ent L i j = x := ⟨_, rfl⟩
        rw [hx] at hcj
        have HX := Lib.hid hx
        clear hx hj hs1
        by_cases hf : t / 2 ^ j % 2 = 0
        · have hand := and_facts t H16.out j (by omega)
          rw [hf] at hand
          have hor := or_facts t H16.out j (by omega)
          have hC := HREC.out j hjn hf
          obtain ⟨t2, ht2⟩ : ∃ t2, t ||| 2 ^ j = t2 := ⟨_, rfl⟩
          rw [ht2] at hor hC
          have hT := HTRM.out j hjn hf
          rw [ht2, HX.out] at hT
          obtain ⟨D, hD⟩ : ∃ D, mnr (ent L) n t2 = D := ⟨_, rfl⟩
          rw [hD] at hC hT
          have hS := HS.out
          rw [freeB_yes hjn hf, alt, hT] at hS
          have HS' := Lib.hid hS
          have HC := Lib.hid hC
          have hn1 : wrap64 (-s) = -s := by rcases HS1.out with h | h <;> rw [h] <;> decide +kernel
          have hs2 : -s = 1 ∨ -s = -1 := by rcases HS1.out with h | h <;> rw [h] <;> simp
          have HS2 := Lib.hid hs2
          clear hS hC hT hD ht2 hs2
          by_cases hx0 : x = 0
          · subst hx0
            have hS3 : S + alt (-s) (freeB n t (j + 1)) (trm (ent L) n t) = T := by have := HS'.out; simpa using this
            have HS3 := Lib.hid hS3
            clear hS3
            go_wp2
            go_roundg (gk - 1)
            case rel => exact ⟨j + 1, S, -s, by go_num, rfl, by rw [hn1], by have := HJ.out; omega, HS2.out, HS3.out, rfl⟩
            case measure => have := HJ.out; omega
          · have hS3 : (S + s * (x * D)) + alt (-s) (freeB n t (j + 1)) (trm (ent L) n t) = T := by have := HS'.out; omega
            have HS3 := Lib.hid hS3
            clear hS3
            go_wp2_with fail
            refine HC.out.mono ?_
            rintro e w1 ⟨rfl, rfl⟩
            have hw := w64_term S s x D
            go_wp2
            go_roundg (gk - 1)
            case rel => exact ⟨j + 1, S + s * (x * D), -s, by go_num, by rw [hw], by rw [hn1], by have := HJ.out; omega, HS2.out, HS3.out, rfl⟩
            case measure => have := HJ.out; omega
        · have hf1 : t / 2 ^ j % 2 = 1 := by omega
          have hand := and_facts t H16.out j (by omega)
          rw [hf1] at hand
          have hS3 : S + alt s (freeB n t (j + 1)) (trm (ent L) n t) = T := by rw [← freeB_no hjn hf1]; exact HS.out
          have HS3 := Lib.hid hS3
          clear hf hf1 hS3
          go_wp2
          go_roundg (gk - 1)
          case rel => exact ⟨j + 1, S, s, by go_num, rfl, rfl, by have := HJ.out; omega, HS1.out, HS3.out, rfl⟩
          case measure => have := HJ.out; omega
      · have l1 : ¬ (j : Int) < (n : Int) := by omega
        have hf : wrap64 S = wrap64 T := by
          have := HS.out
          rw [show j = n by omega, freeB_end] at this
          rw [← this]
          simp [alt]
        have HF := Lib.hid hf
        clear hf hj hjn hs1
        go_wp2
        go_ret
        exact ⟨ret_int HF.out, rfl⟩

theorem determinant_any (a : Option Addr) (n c : Nat) (L : List (List Int)) (w : World) (h : Tab w a n L) (hn : n ≤ 4) (hs : Sq n L) :
    Calls Try.prog 57 #[.slice a n c] w fun e w' => e = .returned (.int .i64 (wrap64 (det n (ent L)))) ∧ w' = w := by
  have hC := minor_any n a n c L 0 w h hn hs (Nat.two_pow_pos n) (by simp [pc])
  rw [mnr_zero] at hC
  have HC := Lib.hid hC
  clear hC h hs
  go_enter Try.func57, Try.ntmps57
  go_wp2_with fail
  refine HC.out.mono ?_
  rintro e w1 ⟨rfl, rfl⟩
  go_wp2
  go_ret
  exact ⟨rfl, rfl⟩
end Go.Proofs.Ytgfenponlkmfmaa
