/- The walks of parts.evenLessOdd, Pentagonal and of the reference's Sum. Condition: the number is one that Pentagonal takes (else the documented error); the slice lies in memory and holds a partition, or one after the move. -/
import Derived.Test.YtfecdpglcdhijaaFrank3
namespace Go.Proofs.Ytfecdpglcdhijaa
open Go.RowKit
attribute [local go_sem] Oper.semAt_some

/-- How many more partitions of s into different parts of at most p have an even number of parts, as the machine counts. -/
def penF : Nat → Nat → Int
  | 0, s => if s = 0 then 1 else 0
  | p + 1, s => if p + 1 ≤ s then wrap64 (penF p s - penF p (s - (p + 1))) else penF p s
theorem penF_less {p s : Nat} (h : s < p + 1) : penF (p + 1) s = penF p s := by
  rw [penF, if_neg (by omega)]
theorem penF_more {p s : Nat} (h : p + 1 ≤ s) : penF (p + 1) s = wrap64 (penF p s - penF p (s - (p + 1))) := by
  rw [penF, if_pos h]

theorem CoState.drew {g m : Nat} {f : Nat → Int} {w W : World} (h : CoState g m f w W) : CoState g m f w W.drew :=
  ⟨h.b.drew, own_same h.own fun _ _ _ => rfl⟩

set_option maxHeartbeats 2000000 in
set_option maxRecDepth 100000 in
theorem evenLessOdd_any (n : Nat) (hn : n ≤ 100) (w : World) :
    Calls Try.prog 79 #[.int .i64 (n : Int)] w fun e w' => e = .returned (.int .i64 (penF n n)) ∧ Below w.heap.size w w' := by
  obtain ⟨i0, hi, hz0, hz1, hz2⟩ := info_parts info3
  have n0 : (0 : Int) ≤ (n : Int) := by omega
  go_enter Try.func79, Try.ntmps79
  go_wp2_with (at_make; refine wpList_make_full _ rfl _ _ 33 rfl w.heap.size 3 i0 (.int .i64 0) 1 Try.underlying33 hi hz0 hz1 _ _ _ _ (n + 1) rfl rfl (by omega) (by omega) (by rw [hz2]; omega) (by unfold maxLen; omega) (Nat.le_refl _) ?_; intro w1 hown hgrow; have hs0 := CoState.made hown ((Below.refl w.heap.size w).grown hgrow (Nat.le_refl _) (fun k e => by cases e)); have hc0 := hs0.cell (j := 0) (by omega); have hf0 := hs0.frozen 0; have S0 := Lib.hid hs0; clear hown hgrow hs0)
  obtain ⟨g, hg⟩ : ∃ g, w.heap.size = g := ⟨_, rfl⟩
  have hs1 := S0.out.put 0 1
  rw [hg] at hs1 ⊢
  have hs2 : CoState g (n + 1) (penF 0) w (w1.setCell ⟨g, 0, none⟩ (.int .i64 1)) := hs1.congr fun j _ => rfl
  have S1 := Lib.hid hs2
  obtain ⟨W1, hW1⟩ : ∃ W1, w1.setCell ⟨g, 0, none⟩ (.int .i64 1) = W1 := ⟨_, rfl⟩
  rw [hW1] at S1 ⊢
  clear hs1 hs2 hc0 hf0 S0 hW1 hi hz0 hz1 hz2
  go_loopg [4] n (fun gk i wr => ∃ (p : Nat), p + gk = n ∧ i = .int .i64 ((p : Int) + 1) ∧ CoState g (n + 1) (penF p) w wr)
  case atStart => exact ⟨0, by omega, rfl, S1.out⟩
  case round =>
    obtain ⟨p, hp, rfl, hs⟩ := hrel
    have HS := Lib.hid hs
    clear hs S1
    by_cases hpn : p = n
    · have hgt : ¬ (p : Int) + 1 ≤ (n : Int) := by omega
      have hs := HS.out
      rw [hpn] at hs
      have hc := hs.cell (j := n) (by omega)
      have hb := hs.b
      have HB := Lib.hid hb
      obtain ⟨X, hX⟩ : ∃ X, penF n n = X := ⟨_, rfl⟩
      rw [hX] at hc
      have HX := Lib.hid hX
      have hnn : n < n + 1 := by omega
      have hnn2 : (n : Int) < (n : Int) + 1 := by omega
      have hnn3 : (n : Int) < ((n + 1 : Nat) : Int) := by omega
      clear hpn hs HS hb hX
      go_wp2
      go_ret
      exact ⟨ret_int HX.out.symm, by have := HB.out; rw [hg] at this; exact this⟩
    · have hle : (p : Int) + 1 ≤ (n : Int) := by omega
      have HPN := Lib.hid (show p + 1 ≤ n by omega)
      clear hpn
      go_wp2
      go_loopg [5] (n - p) (fun gk i wr => ∃ (s : Nat), s = p + gk ∧ s ≤ n ∧ i = .int .i64 (s : Int) ∧ CoState g (n + 1) (fun j => if s < j then penF (p + 1) j else penF p j) w wr)
      case atStart =>
        refine ⟨n, by have := HPN.out; omega, Nat.le_refl _, rfl, HS.out.congr fun j hj => ?_⟩
        rw [if_neg (by omega)]
      case round =>
        obtain ⟨s, hsg, hsn, rfl, hs⟩ := hrel
        have HS2 := Lib.hid hs
        clear hs HS
        by_cases hsp : s = p
        · have hlt : ¬ (p : Int) + 1 ≤ (s : Int) := by omega
          have hs := HS2.out.congr (f' := penF (p + 1)) fun j _ => by
            by_cases h : s < j
            · rw [if_pos h]
            · rw [if_neg h, penF_less (by omega)]
          have HS3 := Lib.hid hs
          clear hs HS2 hsp
          go_wp2
          go_roundg (n - p - 1)
          case rel => exact ⟨p + 1, by have := HPN.out; omega, by go_num, HS3.out⟩
          case measure => have := HPN.out; omega
        · have hle2 : (p : Int) + 1 ≤ (s : Int) := by omega
          have hsn2 : s < n + 1 := by omega
          have hsn3 : (s : Int) < ((n + 1 : Nat) : Int) := by omega
          have hc1 := HS2.out.cell (j := s) hsn2
          have hf1 := HS2.out.frozen s
          have hc2 := HS2.out.cell (j := s - (p + 1)) (by omega)
          rw [if_neg (by omega)] at hc1
          rw [if_neg (by omega)] at hc2
          have hidx : (s : Int) - ((p : Int) + 1) = ((s - (p + 1) : Nat) : Int) := by omega
          have hd2 : s - (p + 1) < n + 1 := by omega
          have hd3 : ((s - (p + 1) : Nat) : Int) < ((n + 1 : Nat) : Int) := by omega
          have hnew := penF_more (p := p) (s := s) (by omega)
          obtain ⟨A, hA⟩ : ∃ A, penF p s = A := ⟨_, rfl⟩
          obtain ⟨B, hB⟩ : ∃ B, penF p (s - (p + 1)) = B := ⟨_, rfl⟩
          obtain ⟨d, hd⟩ : ∃ d, s - (p + 1) = d := ⟨_, rfl⟩
          rw [hd] at hc2 hidx hd2 hd3 hB hnew
          rw [hA] at hc1 hnew
          rw [hB] at hc2 hnew
          have HNEW := Lib.hid hnew
          have s0 : (0 : Int) ≤ (s : Int) := by omega
          have d0 : (0 : Int) ≤ (d : Int) := by omega
          have HSG := Lib.hid hsg
          have HSP := Lib.hid (show p + 1 ≤ s by omega)
          clear hnew hA hB hd hsp hsg
          go_wp2
          go_big_region
          go_wp2
          go_roundg (s - 1 - p)
          case rel =>
            refine ⟨s - 1, by have := HSP.out; omega, by omega, by go_num, ?_⟩
            refine ((HS2.out.put s (wrap64 (A - B))).congr fun j _ => ?_).drew
            have h0 := HSP.out
            by_cases hj : j = s
            · subst hj
              rw [if_pos rfl, if_pos (by omega), HNEW.out]
            · rw [if_neg hj]
              by_cases hj2 : s < j
              · rw [if_pos hj2, if_pos (by omega)]
              · rw [if_neg hj2, if_neg (by omega)]
          case measure => have := HSP.out; have := HSG.out; omega
set_option maxHeartbeats 1000000 in
theorem Pentagonal_yes (n : Nat) (hn : n ≤ 100) (w : World) :
    Calls Try.prog 43 #[.int .i64 (n : Int)] w fun e w' => e = .returned (.tuple #[.int .i64 (penF n n), .int .i64 0]) ∧ Below w.heap.size w w' := by
  have hE := evenLessOdd_any n hn w
  obtain ⟨X, hX⟩ : ∃ X, penF n n = X := ⟨_, rfl⟩
  rw [hX] at hE ⊢
  have HE := Lib.hid hE
  have g1 : ¬ (n : Int) < 0 := by omega
  have g2 : ¬ (100 : Int) < (n : Int) := by omega
  clear hE hX
  go_enter Try.func43, Try.ntmps43
  go_wp2_with (go_at_call 79; refine HE.out.mono ?_; rintro e w1 ⟨rfl, hb⟩; have HB := Lib.hid hb; clear hb)
  go_ret2
  exact ⟨rfl, HB.out⟩

set_option maxHeartbeats 1000000 in
theorem Sum_any (a : Option Addr) (n c : Nat) (xs : List Int) (w : World) (h : Ints w a n xs) (hn : n ≤ 1000) (hb : ∀ j, j < n → 0 ≤ xs.getD j 0 ∧ xs.getD j 0 ≤ 1000) :
    Calls Try.prog 49 #[.slice a n c] w fun e w' => e = .returned (.int .i64 (sumL xs)) ∧ w' = w := by
  have H := Lib.hid h
  have HL := Lib.hid h.1
  have HBD := Lib.hid hb
  clear h hb
  go_enter Try.func49, Try.ntmps49
  go_wp2
  go_loopg [3, 8] n (fun gk o i wr => ∃ (k : Nat), k + gk = n ∧ i = .int .i64 (k : Int) ∧ o = .int .i64 (sumL (xs.take k)) ∧ 0 ≤ sumL (xs.take k) ∧ sumL (xs.take k) ≤ 1000 * (k : Int) ∧ wr = w)
  case atStart => exact ⟨0, by omega, rfl, rfl, by simp [sumL], by simp [sumL], rfl⟩
  case round =>
    obtain ⟨k, hk, rfl, rfl, h1, h2, rfl⟩ := hrel
    by_cases hkn : k = n
    · have hge : ¬ (k : Int) < (n : Int) := by omega
      have hge2 : ¬ k < n := by omega
      rw [List.take_of_length_le (by have := HL.out; omega)] at h1 h2 ⊢
      obtain ⟨V, hV⟩ : ∃ V, sumL xs = V := ⟨_, rfl⟩
      rw [hV] at h1 h2 ⊢
      have HV := Lib.hid hV
      clear hV hkn h2
      go_wp2
      go_ret
      exact ⟨ret_int HV.out.symm, rfl⟩
    · have hlt : (k : Int) < (n : Int) := by omega
      have hlt2 : k < n := by omega
      obtain ⟨b, off, rfl, hb, hc⟩ := H.out.at (by omega)
      have hck := hc k hlt2
      obtain ⟨x1, x2⟩ := HBD.out k hlt2
      have hst := sumL_take (l := xs) (k := k) (by have := HL.out; omega)
      obtain ⟨x, hx⟩ : ∃ x, xs.getD k 0 = x := ⟨_, rfl⟩
      rw [hx] at hck hst x1 x2
      obtain ⟨V, hV⟩ : ∃ V, sumL (xs.take k) = V := ⟨_, rfl⟩
      rw [hV] at h1 h2 hst ⊢
      have HST := Lib.hid hst
      have k0 : (0 : Int) ≤ (k : Int) := by omega
      clear hV hx hkn hc hst
      go_wp2
      go_roundg (gk - 1)
      case rel => exact ⟨k + 1, by omega, by go_num, by rw [HST.out], by rw [HST.out]; omega, by rw [HST.out]; omega, rfl⟩
      case measure => omega
end Go.Proofs.Ytfecdpglcdhijaa
