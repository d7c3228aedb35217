/- The walks of parts.Count and of the reference's Count: both count by the same steps. Condition: the number is one that Count takes (else the documented error). -/
import Derived.Test.YtfecdpglcdhijaaWays
namespace Go.Proofs.Ytfecdpglcdhijaa
open Go.RowKit
attribute [local go_sem] Oper.semAt_some

set_option maxHeartbeats 2000000 in
set_option maxRecDepth 100000 in
theorem refCount_any (n : Nat) (hn : n ≤ 400) (w : World) :
    Calls Try.prog 22 #[.int .i64 (n : Int)] w fun e w' => e = .returned (.int .i64 (cntF n n)) ∧ Below w.heap.size w w' := by
  obtain ⟨i0, hi, hz0, hz1, hz2⟩ := info_parts info3
  have n0 : (0 : Int) ≤ (n : Int) := by omega
  go_enter Try.func22, Try.ntmps22
  go_wp2_with (at_make; refine wpList_make_full _ rfl _ _ 33 rfl w.heap.size 3 i0 (.int .i64 0) 1 Try.underlying33 hi hz0 hz1 _ _ _ _ (n + 1) rfl rfl (by omega) (by omega) (by rw [hz2]; omega) (by unfold maxLen; omega) (Nat.le_refl _) ?_; intro w1 hown hgrow; have hs0 := CoState.made hown ((Below.refl w.heap.size w).grown hgrow (Nat.le_refl _) (fun k e => by cases e)); have hc0 := hs0.cell (j := 0) (by omega); have hf0 := hs0.frozen 0; have S0 := Lib.hid hs0; clear hown hgrow hs0)
  obtain ⟨g, hg⟩ : ∃ g, w.heap.size = g := ⟨_, rfl⟩
  have hs1 := S0.out.put 0 1
  rw [hg] at hs1 ⊢
  have hs2 : CoState g (n + 1) (cntF 0) w (w1.setCell ⟨g, 0, none⟩ (.int .i64 1)) := hs1.congr fun j _ => by rw [cntF_zero]
  have S1 := Lib.hid hs2
  obtain ⟨W1, hW1⟩ : ∃ W1, w1.setCell ⟨g, 0, none⟩ (.int .i64 1) = W1 := ⟨_, rfl⟩
  rw [hW1] at S1 ⊢
  clear hs1 hs2 hc0 hf0 S0 hW1 hi hz0 hz1 hz2
  go_loopg [4] n (fun gk i wr => ∃ (p : Nat), p + gk = n ∧ i = .int .i64 ((p : Int) + 1) ∧ CoState g (n + 1) (cntF p) w wr)
  case atStart => exact ⟨0, by omega, rfl, S1.out⟩
  case round =>
    obtain ⟨p, hp, rfl, hs⟩ := hrel
    have HS := Lib.hid hs
    clear hs S1
    by_cases hpn : p = n
    · have hgt : ¬ (p : Int) + 1 ≤ (n : Int) := by omega
      have hs := HS.out
      rw [hpn] at hs
      have hc := hs.cell (j := n) (by omega)
      have HB := Lib.hid hs.b
      obtain ⟨X, hX⟩ : ∃ X, cntF n n = X := ⟨_, rfl⟩
      rw [hX] at hc
      have HX := Lib.hid hX
      have hnn : n < n + 1 := by omega
      have hnn2 : (n : Int) < (n : Int) + 1 := by omega
      have hnn3 : (n : Int) < ((n + 1 : Nat) : Int) := by omega
      clear hpn hs HS hX
      go_wp2
      go_ret
      exact ⟨ret_int HX.out.symm, by have := HB.out; rw [hg] at this; exact this⟩
    · have hle : (p : Int) + 1 ≤ (n : Int) := by omega
      have HPN := Lib.hid (show p + 1 ≤ n by omega)
      clear hpn
      go_wp2
      go_loopg [5] (n - p) (fun gk i wr => ∃ (s : Nat), s + gk = n + 1 ∧ p + 1 ≤ s ∧ i = .int .i64 (s : Int) ∧ CoState g (n + 1) (fun j => if j < s then cntF (p + 1) j else cntF p j) w wr)
      case atStart =>
        refine ⟨p + 1, by have := HPN.out; omega, Nat.le_refl _, by go_num, HS.out.congr fun j hj => ?_⟩
        by_cases h : j < p + 1
        · rw [if_pos h, cntF_less h]
        · rw [if_neg h]
      case round =>
        obtain ⟨s, hsg, hps, rfl, hs⟩ := hrel
        have HS2 := Lib.hid hs
        clear hs HS
        by_cases hsn : s = n + 1
        · have hgt : ¬ (s : Int) ≤ (n : Int) := by omega
          have hs := HS2.out.congr (f' := cntF (p + 1)) fun j hj => by rw [if_pos (by omega)]
          have HS3 := Lib.hid hs
          clear hs HS2 hsn hsg
          go_wp2
          go_roundg (n - p - 1)
          case rel => exact ⟨p + 1, by have := HPN.out; omega, by go_num, HS3.out⟩
          case measure => have := HPN.out; omega
        · have hle2 : (s : Int) ≤ (n : Int) := by omega
          have hsn2 : s < n + 1 := by omega
          have hsn3 : (s : Int) < ((n + 1 : Nat) : Int) := by omega
          have hsn4 : (s : Int) < (n : Int) + 1 := by omega
          have hc1 := HS2.out.cell (j := s) hsn2
          have hf1 := HS2.out.frozen s
          have hc2 := HS2.out.cell (j := s - (p + 1)) (by omega)
          rw [if_neg (by omega)] at hc1
          rw [if_pos (by omega)] at hc2
          have hidx : (s : Int) - ((p : Int) + 1) = ((s - (p + 1) : Nat) : Int) := by omega
          have hd2 : s - (p + 1) < n + 1 := by omega
          have hd3 : ((s - (p + 1) : Nat) : Int) < ((n + 1 : Nat) : Int) := by omega
          have hnew := cntF_more (p := p) (s := s) (by omega)
          obtain ⟨A, hA⟩ : ∃ A, cntF p s = A := ⟨_, rfl⟩
          obtain ⟨B, hB⟩ : ∃ B, cntF (p + 1) (s - (p + 1)) = B := ⟨_, rfl⟩
          obtain ⟨d, hd⟩ : ∃ d, s - (p + 1) = d := ⟨_, rfl⟩
          rw [hd] at hc2 hidx hd2 hd3 hB hnew
          rw [hA] at hc1 hnew
          rw [hB] at hc2 hnew
          have HNEW := Lib.hid hnew
          have s0 : (0 : Int) ≤ (s : Int) := by omega
          have d0 : (0 : Int) ≤ (d : Int) := by omega
          have HSG := Lib.hid hsg
          have HPS := Lib.hid hps
          clear hnew hA hB hd hsn hsg hps
          go_wp2
          go_big_region
          go_wp2
          go_roundg (n - s)
          case rel =>
            refine ⟨s + 1, by omega, by have := HPS.out; omega, by go_num, ?_⟩
            refine ((HS2.out.put s (wrap64 (A + B))).congr fun j _ => ?_).drew
            by_cases hj : j = s
            · subst hj
              rw [if_pos rfl, if_pos (by omega), HNEW.out]
            · rw [if_neg hj]
              by_cases hj2 : j < s
              · rw [if_pos hj2, if_pos (by omega)]
              · rw [if_neg hj2, if_neg (by omega)]
          case measure => have := HSG.out; omega

set_option maxHeartbeats 1000000 in
theorem Count_yes (n : Nat) (hn : n ≤ 400) (w : World) :
    Calls Try.prog 18 #[.int .i64 (n : Int)] w fun e w' => e = .returned (.tuple #[.int .i64 (cntF n n), .int .i64 0]) ∧ Below w.heap.size w w' := by
  have hE := ways_any n hn w
  obtain ⟨X, hX⟩ : ∃ X, cntF n n = X := ⟨_, rfl⟩
  rw [hX] at hE ⊢
  have HE := Lib.hid hE
  have g1 : ¬ (n : Int) < 0 := by omega
  have g2 : ¬ (400 : Int) < (n : Int) := by omega
  clear hE hX
  go_enter Try.func18, Try.ntmps18
  go_wp2_with (go_at_call 57; refine HE.out.mono ?_; rintro e w1 ⟨rfl, hb⟩; have HB := Lib.hid hb; clear hb)
  go_ret2
  exact ⟨rfl, HB.out⟩

set_option maxHeartbeats 1000000 in
theorem Count_no (n : Int) (hn : n < 0 ∨ 400 < n) (w : World) :
    Calls Try.prog 18 #[.int .i64 n] w fun e w' => e = .returned (.tuple #[.int .i64 0, .int .i64 2]) ∧ w' = w := by
  by_cases h : n < 0
  · clear hn
    go_enter Try.func18, Try.ntmps18
    go_wp2
    go_ret2
    exact ⟨rfl, rfl⟩
  · have h2 : 400 < n := by omega
    clear hn
    go_enter Try.func18, Try.ntmps18
    go_wp2
    go_ret2
    exact ⟨rfl, rfl⟩
end Go.Proofs.Ytfecdpglcdhijaa
