/- The walks of the reference's Pentagonal, and of its Kinds where any part comes once at most, or any number of times. Condition: the number is at most 100. -/
import Derived.Test.YtfecdpglcdhijaaKinds
namespace Go.Proofs.Ytfecdpglcdhijaa
open Go.RowKit
attribute [local go_sem] Oper.semAt_some

set_option maxHeartbeats 2000000 in
set_option maxRecDepth 100000 in
theorem refPent_any (n : Nat) (hn : n ≤ 100) (w : World) :
    Calls Try.prog 44 #[.int .i64 (n : Int)] w fun e w' => e = .returned (.int .i64 (penF n n)) ∧ Below w.heap.size w w' := by
  obtain ⟨i0, hi, hz0, hz1, hz2⟩ := info_parts info3
  have n0 : (0 : Int) ≤ (n : Int) := by omega
  go_enter Try.func44, Try.ntmps44
  go_wp2_with (at_make; refine wpList_make_full _ rfl _ _ 33 rfl w.heap.size 3 i0 (.int .i64 0) 1 Try.underlying33 hi hz0 hz1 _ _ _ _ (n + 1) rfl rfl (by omega) (by omega) (by rw [hz2]; omega) (by unfold maxLen; omega) (Nat.le_refl _) ?_; intro w1 hown hgrow; have hs0 := CoState.made hown ((Below.refl w.heap.size w).grown hgrow (Nat.le_refl _) (fun k e => by cases e)); have hc0 := hs0.cell (j := 0) (by omega); have hf0 := hs0.frozen 0; have S0 := Lib.hid hs0; clear hown hgrow hs0)
  obtain ⟨g, hg⟩ : ∃ g, w.heap.size = g := ⟨_, rfl⟩
  have hs1 := S0.out.put 0 1
  rw [hg] at hs1 ⊢
  have hs2 : CoState g (n + 1) (penF 0) w (w1.setCell ⟨g, 0, none⟩ (.int .i64 1)) := hs1.congr fun j _ => rfl
  have S1 := Lib.hid hs2
  obtain ⟨W1, hW1⟩ : ∃ W1, w1.setCell ⟨g, 0, none⟩ (.int .i64 1) = W1 := ⟨_, rfl⟩
  rw [hW1] at S1 ⊢
  clear hs1 hs2 hc0 hf0 S0 hW1 hi hz0 hz1 hz2
  go_loopg [4] n (fun gk i wr => ∃ (p : Nat), p + gk = n ∧ i = .int .i64 ((p : Int) + 1) ∧ CoState g (n + 1) (penF p) w wr)
  case atStart => exact ⟨0, by omega, rfl, S1.out⟩
  case round =>
    obtain ⟨p, hp, rfl, hs⟩ := hrel
    have HS := Lib.hid hs
    clear hs S1
    by_cases hpn : p = n
    · have hgt : ¬ (p : Int) + 1 ≤ (n : Int) := by omega
      have hs := HS.out
      rw [hpn] at hs
      have hc := hs.cell (j := n) (by omega)
      have hb := hs.b
      have HB := Lib.hid hb
      obtain ⟨X, hX⟩ : ∃ X, penF n n = X := ⟨_, rfl⟩
      rw [hX] at hc
      have HX := Lib.hid hX
      have hnn : n < n + 1 := by omega
      have hnn2 : (n : Int) < (n : Int) + 1 := by omega
      have hnn3 : (n : Int) < ((n + 1 : Nat) : Int) := by omega
      clear hpn hs HS hb hX
      go_wp2
      go_ret
      exact ⟨ret_int HX.out.symm, by have := HB.out; rw [hg] at this; exact this⟩
    · have hle : (p : Int) + 1 ≤ (n : Int) := by omega
      have HPN := Lib.hid (show p + 1 ≤ n by omega)
      clear hpn
      go_wp2
      go_loopg [5] (n - p) (fun gk i wr => ∃ (s : Nat), s = p + gk ∧ s ≤ n ∧ i = .int .i64 (s : Int) ∧ CoState g (n + 1) (fun j => if s < j then penF (p + 1) j else penF p j) w wr)
      case atStart =>
        refine ⟨n, by have := HPN.out; omega, Nat.le_refl _, rfl, HS.out.congr fun j hj => ?_⟩
        rw [if_neg (by omega)]
      case round =>
        obtain ⟨s, hsg, hsn, rfl, hs⟩ := hrel
        have HS2 := Lib.hid hs
        clear hs HS
        by_cases hsp : s = p
        · have hlt : ¬ (p : Int) + 1 ≤ (s : Int) := by omega
          have hs := HS2.out.congr (f' := penF (p + 1)) fun j _ => by
            by_cases h : s < j
            · rw [if_pos h]
            · rw [if_neg h, penF_less (by omega)]
          have HS3 := Lib.hid hs
          clear hs HS2 hsp
          go_wp2
          go_roundg (n - p - 1)
          case rel => exact ⟨p + 1, by have := HPN.out; omega, by go_num, HS3.out⟩
          case measure => have := HPN.out; omega
        · have hle2 : (p : Int) + 1 ≤ (s : Int) := by omega
          have hsn2 : s < n + 1 := by omega
          have hsn3 : (s : Int) < ((n + 1 : Nat) : Int) := by omega
          have hc1 := HS2.out.cell (j := s) hsn2
          have hf1 := HS2.out.frozen s
          have hc2 := HS2.out.cell (j := s - (p + 1)) (by omega)
          rw [if_neg (by omega)] at hc1
          rw [if_neg (by omega)] at hc2
          have hidx : (s : Int) - ((p : Int) + 1) = ((s - (p + 1) : Nat) : Int) := by omega
          have hd2 : s - (p + 1) < n + 1 := by omega
          have hd3 : ((s - (p + 1) : Nat) : Int) < ((n + 1 : Nat) : Int) := by omega
          have hnew := penF_more (p := p) (s := s) (by omega)
          obtain ⟨A, hA⟩ : ∃ A, penF p s = A := ⟨_, rfl⟩
          obtain ⟨B, hB⟩ : ∃ B, penF p (s - (p + 1)) = B := ⟨_, rfl⟩
          obtain ⟨d, hd⟩ : ∃ d, s - (p + 1) = d := ⟨_, rfl⟩
          rw [hd] at hc2 hidx hd2 hd3 hB hnew
          rw [hA] at hc1 hnew
          rw [hB] at hc2 hnew
          have HNEW := Lib.hid hnew
          have s0 : (0 : Int) ≤ (s : Int) := by omega
          have d0 : (0 : Int) ≤ (d : Int) := by omega
          have HSG := Lib.hid hsg
          have HSP := Lib.hid (show p + 1 ≤ s by omega)
          clear hnew hA hB hd hsp hsg
          go_wp2
          go_big_region
          go_wp2
          go_roundg (s - 1 - p)
          case rel =>
            refine ⟨s - 1, by have := HSP.out; omega, by omega, by go_num, ?_⟩
            refine ((HS2.out.put s (wrap64 (A - B))).congr fun j _ => ?_).drew
            have h0 := HSP.out
            by_cases hj : j = s
            · subst hj
              rw [if_pos rfl, if_pos (by omega), HNEW.out]
            · rw [if_neg hj]
              by_cases hj2 : s < j
              · rw [if_pos hj2, if_pos (by omega)]
              · rw [if_neg hj2, if_neg (by omega)]
          case measure => have := HSP.out; have := HSG.out; omega

set_option maxHeartbeats 2000000 in
set_option maxRecDepth 100000 in
theorem refKinds0 (n : Nat) (hn : n ≤ 100) (w : World) :
    Calls Try.prog 45 #[.int .i64 (n : Int), .int .i64 0] w fun e w' => e = .returned (.int .i64 (k1F (alF 0) n n)) ∧ Below w.heap.size w w' := by
  obtain ⟨i0, hi, hz0, hz1, hz2⟩ := info_parts info3
  have n0 : (0 : Int) ≤ (n : Int) := by omega
  go_enter Try.func45, Try.ntmps45
  go_wp2_with (at_make; refine wpList_make_full _ rfl _ _ 33 rfl w.heap.size 3 i0 (.int .i64 0) 1 Try.underlying33 hi hz0 hz1 _ _ _ _ (n + 1) rfl rfl (by omega) (by omega) (by rw [hz2]; omega) (by unfold maxLen; omega) (Nat.le_refl _) ?_; intro w1 hown hgrow; have hs0 := CoState.made hown ((Below.refl w.heap.size w).grown hgrow (Nat.le_refl _) (fun k e => by cases e)); have hc0 := hs0.cell (j := 0) (by omega); have hf0 := hs0.frozen 0; have S0 := Lib.hid hs0; clear hown hgrow hs0)
  obtain ⟨g, hg⟩ : ∃ g, w.heap.size = g := ⟨_, rfl⟩
  have hs1 := S0.out.put 0 1
  rw [hg] at hs1 ⊢
  have hs2 : CoState g (n + 1) (k1F (alF 0) 0) w (w1.setCell ⟨g, 0, none⟩ (.int .i64 1)) := hs1.congr fun j _ => by rw [k1F_zero]
  have S1 := Lib.hid hs2
  obtain ⟨W1, hW1⟩ : ∃ W1, w1.setCell ⟨g, 0, none⟩ (.int .i64 1) = W1 := ⟨_, rfl⟩
  rw [hW1] at S1 ⊢
  clear hs1 hs2 hc0 hf0 S0 hW1 hi hz0 hz1 hz2
  go_loopg [10] n (fun gk i wr => ∃ (p : Nat), p + gk = n ∧ i = .int .i64 ((p : Int) + 1) ∧ CoState g (n + 1) (k1F (alF 0) p) w wr)
  case atStart => exact ⟨0, by omega, rfl, S1.out⟩
  case round =>
    obtain ⟨p, hp, rfl, hs⟩ := hrel
    have HS := Lib.hid hs
    clear hs S1
    by_cases hpn : p = n
    · have hgt : ¬ (p : Int) + 1 ≤ (n : Int) := by omega
      have hs := HS.out
      rw [hpn] at hs
      have hc := hs.cell (j := n) (by omega)
      have hb := hs.b
      have HB := Lib.hid hb
      obtain ⟨X, hX⟩ : ∃ X, k1F (alF 0) n n = X := ⟨_, rfl⟩
      rw [hX] at hc
      have HX := Lib.hid hX
      have hnn : n < n + 1 := by omega
      have hnn2 : (n : Int) < (n : Int) + 1 := by omega
      have hnn3 : (n : Int) < ((n + 1 : Nat) : Int) := by omega
      clear hpn hs HS hb hX
      go_wp2
      go_ret
      exact ⟨ret_int HX.out.symm, by have := HB.out; rw [hg] at this; exact this⟩
    · have hle : (p : Int) + 1 ≤ (n : Int) := by omega
      have HPN := Lib.hid (show p + 1 ≤ n by omega)
      clear hpn
      go_wp2
      go_loopg [11] (n - p) (fun gk i wr => ∃ (s : Nat), s = p + gk ∧ s ≤ n ∧ i = .int .i64 (s : Int) ∧ CoState g (n + 1) (fun j => if s < j then k1F (alF 0) (p + 1) j else k1F (alF 0) p j) w wr)
      case atStart =>
        refine ⟨n, by have := HPN.out; omega, Nat.le_refl _, rfl, HS.out.congr fun j hj => ?_⟩
        rw [if_neg (by omega)]
      case round =>
        obtain ⟨s, hsg, hsn, rfl, hs⟩ := hrel
        have HS2 := Lib.hid hs
        clear hs HS
        by_cases hsp : s = p
        · have hlt : ¬ (p : Int) + 1 ≤ (s : Int) := by omega
          have hs := HS2.out.congr (f' := k1F (alF 0) (p + 1)) fun j _ => by
            by_cases h : s < j
            · rw [if_pos h]
            · rw [if_neg h, k1F_less (by omega)]
          have HS3 := Lib.hid hs
          clear hs HS2 hsp
          go_wp2
          go_roundg (n - p - 1)
          case rel => exact ⟨p + 1, by have := HPN.out; omega, by go_num, HS3.out⟩
          case measure => have := HPN.out; omega
        · have hle2 : (p : Int) + 1 ≤ (s : Int) := by omega
          have hsn2 : s < n + 1 := by omega
          have hsn3 : (s : Int) < ((n + 1 : Nat) : Int) := by omega
          have hc1 := HS2.out.cell (j := s) hsn2
          have hf1 := HS2.out.frozen s
          have hc2 := HS2.out.cell (j := s - (p + 1)) (by omega)
          rw [if_neg (by omega)] at hc1
          rw [if_neg (by omega)] at hc2
          have hidx : (s : Int) - ((p : Int) + 1) = ((s - (p + 1) : Nat) : Int) := by omega
          have hd2 : s - (p + 1) < n + 1 := by omega
          have hd3 : ((s - (p + 1) : Nat) : Int) < ((n + 1 : Nat) : Int) := by omega
          have hnew := k1F_more (al := alF 0) (p := p) (s := s) rfl (by omega)
          obtain ⟨A, hA⟩ : ∃ A, k1F (alF 0) p s = A := ⟨_, rfl⟩
          obtain ⟨B, hB⟩ : ∃ B, k1F (alF 0) p (s - (p + 1)) = B := ⟨_, rfl⟩
          obtain ⟨d, hd⟩ : ∃ d, s - (p + 1) = d := ⟨_, rfl⟩
          rw [hd] at hc2 hidx hd2 hd3 hB hnew
          rw [hA] at hc1 hnew
          rw [hB] at hc2 hnew
          have HNEW := Lib.hid hnew
          have s0 : (0 : Int) ≤ (s : Int) := by omega
          have d0 : (0 : Int) ≤ (d : Int) := by omega
          have HSG := Lib.hid hsg
          have HSP := Lib.hid (show p + 1 ≤ s by omega)
          clear hnew hA hB hd hsp hsg
          go_wp2
          go_big_region
          go_wp2
          go_roundg (s - 1 - p)
          case rel =>
            refine ⟨s - 1, by have := HSP.out; omega, by omega, by go_num, ?_⟩
            refine ((HS2.out.put s (wrap64 (A + B))).congr fun j _ => ?_).drew
            have h0 := HSP.out
            by_cases hj : j = s
            · subst hj
              rw [if_pos rfl, if_pos (by omega), HNEW.out]
            · rw [if_neg hj]
              by_cases hj2 : s < j
              · rw [if_pos hj2, if_pos (by omega)]
              · rw [if_neg hj2, if_neg (by omega)]
          case measure => have := HSP.out; have := HSG.out; omega

set_option maxHeartbeats 2000000 in
set_option maxRecDepth 100000 in
theorem refKinds1 (n : Nat) (hn : n ≤ 100) (w : World) :
    Calls Try.prog 45 #[.int .i64 (n : Int), .int .i64 1] w fun e w' => e = .returned (.int .i64 (k0F (alF 1) n n)) ∧ Below w.heap.size w w' := by
  obtain ⟨i0, hi, hz0, hz1, hz2⟩ := info_parts info3
  have n0 : (0 : Int) ≤ (n : Int) := by omega
  go_enter Try.func45, Try.ntmps45
  go_wp2_with (at_make; refine wpList_make_full _ rfl _ _ 33 rfl w.heap.size 3 i0 (.int .i64 0) 1 Try.underlying33 hi hz0 hz1 _ _ _ _ (n + 1) rfl rfl (by omega) (by omega) (by rw [hz2]; omega) (by unfold maxLen; omega) (Nat.le_refl _) ?_; intro w1 hown hgrow; have hs0 := CoState.made hown ((Below.refl w.heap.size w).grown hgrow (Nat.le_refl _) (fun k e => by cases e)); have hc0 := hs0.cell (j := 0) (by omega); have hf0 := hs0.frozen 0; have S0 := Lib.hid hs0; clear hown hgrow hs0)
  obtain ⟨g, hg⟩ : ∃ g, w.heap.size = g := ⟨_, rfl⟩
  have hs1 := S0.out.put 0 1
  rw [hg] at hs1 ⊢
  have hs2 : CoState g (n + 1) (k0F (alF 1) 0) w (w1.setCell ⟨g, 0, none⟩ (.int .i64 1)) := hs1.congr fun j _ => by rw [k0F_zero]
  have S1 := Lib.hid hs2
  obtain ⟨W1, hW1⟩ : ∃ W1, w1.setCell ⟨g, 0, none⟩ (.int .i64 1) = W1 := ⟨_, rfl⟩
  rw [hW1] at S1 ⊢
  clear hs1 hs2 hc0 hf0 S0 hW1 hi hz0 hz1 hz2
  go_loopg [10] n (fun gk i wr => ∃ (p : Nat), p + gk = n ∧ i = .int .i64 ((p : Int) + 1) ∧ CoState g (n + 1) (k0F (alF 1) p) w wr)
  case atStart => exact ⟨0, by omega, rfl, S1.out⟩
  case round =>
    obtain ⟨p, hp, rfl, hs⟩ := hrel
    have HS := Lib.hid hs
    clear hs S1
    by_cases hpn : p = n
    · have hgt : ¬ (p : Int) + 1 ≤ (n : Int) := by omega
      have hs := HS.out
      rw [hpn] at hs
      have hc := hs.cell (j := n) (by omega)
      have HB := Lib.hid hs.b
      obtain ⟨X, hX⟩ : ∃ X, k0F (alF 1) n n = X := ⟨_, rfl⟩
      rw [hX] at hc
      have HX := Lib.hid hX
      have hnn : n < n + 1 := by omega
      have hnn2 : (n : Int) < (n : Int) + 1 := by omega
      have hnn3 : (n : Int) < ((n + 1 : Nat) : Int) := by omega
      clear hpn hs HS hX
      go_wp2
      go_ret
      exact ⟨ret_int HX.out.symm, by have := HB.out; rw [hg] at this; exact this⟩
    · have hle : (p : Int) + 1 ≤ (n : Int) := by omega
      have HPN := Lib.hid (show p + 1 ≤ n by omega)
      have HR := Lib.hid (show alF 1 (p + 1) = ((p + 1) % 2 == 1) from rfl)
      obtain ⟨r, hr, hr2⟩ : ∃ r : Nat, (p + 1) % 2 = r ∧ r < 2 := ⟨_, rfl, by omega⟩
      have hm : ((p : Int) + 1).tmod 2 = (r : Int) := by rw [Int.tmod_eq_emod_of_nonneg (by omega)]; omega
      have HR2 := HR.out
      rw [hr] at HR2
      have HR3 := Lib.hid HR2
      have hcs : r = 0 ∨ r = 1 := by omega
      clear hpn HR HR2 hr hr2
      rcases hcs with rfl | rfl
      · have HAL := Lib.hid (show alF 1 (p + 1) = false from HR3.out.trans rfl)
        go_wp2
        go_roundg (n - p - 1)
        case rel => exact ⟨p + 1, by have := HPN.out; omega, by go_num, HS.out.congr fun j _ => (k0F_no HAL.out).symm⟩
        case measure => have := HPN.out; omega
      · have HAL := Lib.hid (show alF 1 (p + 1) = true from HR3.out.trans rfl)
        go_wp2
        go_loopg [12] (n - p) (fun gk i wr => ∃ (s : Nat), s + gk = n + 1 ∧ p + 1 ≤ s ∧ i = .int .i64 (s : Int) ∧ CoState g (n + 1) (fun j => if j < s then k0F (alF 1) (p + 1) j else k0F (alF 1) p j) w wr)
        case atStart =>
          refine ⟨p + 1, by have := HPN.out; omega, Nat.le_refl _, by go_num, HS.out.congr fun j hj => ?_⟩
          by_cases h : j < p + 1
          · rw [if_pos h, k0F_less h]
          · rw [if_neg h]
        case round =>
          obtain ⟨s, hsg, hps, rfl, hs⟩ := hrel
          have HS2 := Lib.hid hs
          clear hs HS
          by_cases hsn : s = n + 1
          · have hgt : ¬ (s : Int) ≤ (n : Int) := by omega
            have hs := HS2.out.congr (f' := k0F (alF 1) (p + 1)) fun j hj => by rw [if_pos (by omega)]
            have HS3 := Lib.hid hs
            clear hs HS2 hsn hsg
            go_wp2
            go_roundg (n - p - 1)
            case rel => exact ⟨p + 1, by have := HPN.out; omega, by go_num, HS3.out⟩
            case measure => have := HPN.out; omega
          · have hle2 : (s : Int) ≤ (n : Int) := by omega
            have hsn2 : s < n + 1 := by omega
            have hsn3 : (s : Int) < ((n + 1 : Nat) : Int) := by omega
            have hsn4 : (s : Int) < (n : Int) + 1 := by omega
            have hc1 := HS2.out.cell (j := s) hsn2
            have hf1 := HS2.out.frozen s
            have hc2 := HS2.out.cell (j := s - (p + 1)) (by omega)
            rw [if_neg (by omega)] at hc1
            rw [if_pos (by omega)] at hc2
            have hidx : (s : Int) - ((p : Int) + 1) = ((s - (p + 1) : Nat) : Int) := by omega
            have hd2 : s - (p + 1) < n + 1 := by omega
            have hd3 : ((s - (p + 1) : Nat) : Int) < ((n + 1 : Nat) : Int) := by omega
            have hnew := k0F_more (al := alF 1) (p := p) (s := s) HAL.out (by omega)
            obtain ⟨A, hA⟩ : ∃ A, k0F (alF 1) p s = A := ⟨_, rfl⟩
            obtain ⟨B, hB⟩ : ∃ B, k0F (alF 1) (p + 1) (s - (p + 1)) = B := ⟨_, rfl⟩
            obtain ⟨d, hd⟩ : ∃ d, s - (p + 1) = d := ⟨_, rfl⟩
            rw [hd] at hc2 hidx hd2 hd3 hB hnew
            rw [hA] at hc1 hnew
            rw [hB] at hc2 hnew
            have HNEW := Lib.hid hnew
            have s0 : (0 : Int) ≤ (s : Int) := by omega
            have d0 : (0 : Int) ≤ (d : Int) := by omega
            have HSG := Lib.hid hsg
            have HPS := Lib.hid hps
            clear hnew hA hB hd hsn hsg hps
            go_wp2
            go_big_region
            go_wp2
            go_roundg (n - s)
            case rel =>
              refine ⟨s + 1, by omega, by have := HPS.out; omega, by go_num, ?_⟩
              refine ((HS2.out.put s (wrap64 (A + B))).congr fun j _ => ?_).drew
              by_cases hj : j = s
              · subst hj
                rw [if_pos rfl, if_pos (by omega), HNEW.out]
              · rw [if_neg hj]
                by_cases hj2 : j < s
                · rw [if_pos hj2, if_pos (by omega)]
                · rw [if_neg hj2, if_neg (by omega)]
            case measure => have := HSG.out; omega

set_option maxHeartbeats 2000000 in
set_option maxRecDepth 100000 in
theorem refKinds3 (n : Nat) (hn : n ≤ 100) (w : World) :
    Calls Try.prog 45 #[.int .i64 (n : Int), .int .i64 3] w fun e w' => e = .returned (.int .i64 (k0F (alF 3) n n)) ∧ Below w.heap.size w w' := by
  obtain ⟨i0, hi, hz0, hz1, hz2⟩ := info_parts info3
  have n0 : (0 : Int) ≤ (n : Int) := by omega
  go_enter Try.func45, Try.ntmps45
  go_wp2_with (at_make; refine wpList_make_full _ rfl _ _ 33 rfl w.heap.size 3 i0 (.int .i64 0) 1 Try.underlying33 hi hz0 hz1 _ _ _ _ (n + 1) rfl rfl (by omega) (by omega) (by rw [hz2]; omega) (by unfold maxLen; omega) (Nat.le_refl _) ?_; intro w1 hown hgrow; have hs0 := CoState.made hown ((Below.refl w.heap.size w).grown hgrow (Nat.le_refl _) (fun k e => by cases e)); have hc0 := hs0.cell (j := 0) (by omega); have hf0 := hs0.frozen 0; have S0 := Lib.hid hs0; clear hown hgrow hs0)
  obtain ⟨g, hg⟩ : ∃ g, w.heap.size = g := ⟨_, rfl⟩
  have hs1 := S0.out.put 0 1
  rw [hg] at hs1 ⊢
  have hs2 : CoState g (n + 1) (k0F (alF 3) 0) w (w1.setCell ⟨g, 0, none⟩ (.int .i64 1)) := hs1.congr fun j _ => by rw [k0F_zero]
  have S1 := Lib.hid hs2
  obtain ⟨W1, hW1⟩ : ∃ W1, w1.setCell ⟨g, 0, none⟩ (.int .i64 1) = W1 := ⟨_, rfl⟩
  rw [hW1] at S1 ⊢
  clear hs1 hs2 hc0 hf0 S0 hW1 hi hz0 hz1 hz2
  go_loopg [10] n (fun gk i wr => ∃ (p : Nat), p + gk = n ∧ i = .int .i64 ((p : Int) + 1) ∧ CoState g (n + 1) (k0F (alF 3) p) w wr)
  case atStart => exact ⟨0, by omega, rfl, S1.out⟩
  case round =>
    obtain ⟨p, hp, rfl, hs⟩ := hrel
    have HS := Lib.hid hs
    clear hs S1
    by_cases hpn : p = n
    · have hgt : ¬ (p : Int) + 1 ≤ (n : Int) := by omega
      have hs := HS.out
      rw [hpn] at hs
      have hc := hs.cell (j := n) (by omega)
      have HB := Lib.hid hs.b
      obtain ⟨X, hX⟩ : ∃ X, k0F (alF 3) n n = X := ⟨_, rfl⟩
      rw [hX] at hc
      have HX := Lib.hid hX
      have hnn : n < n + 1 := by omega
      have hnn2 : (n : Int) < (n : Int) + 1 := by omega
      have hnn3 : (n : Int) < ((n + 1 : Nat) : Int) := by omega
      clear hpn hs HS hX
      go_wp2
      go_ret
      exact ⟨ret_int HX.out.symm, by have := HB.out; rw [hg] at this; exact this⟩
    · have hle : (p : Int) + 1 ≤ (n : Int) := by omega
      have HPN := Lib.hid (show p + 1 ≤ n by omega)
      have HR := Lib.hid (show alF 3 (p + 1) = ((p + 1) % 5 == 1 || (p + 1) % 5 == 4) from rfl)
      obtain ⟨r, hr, hr2⟩ : ∃ r : Nat, (p + 1) % 5 = r ∧ r < 5 := ⟨_, rfl, by omega⟩
      have hm : ((p : Int) + 1).tmod 5 = (r : Int) := by rw [Int.tmod_eq_emod_of_nonneg (by omega)]; omega
      have HR2 := HR.out
      rw [hr] at HR2
      have HR3 := Lib.hid HR2
      have hcs : r = 0 ∨ r = 1 ∨ r = 2 ∨ r = 3 ∨ r = 4 := by omega
      clear hpn HR HR2 hr hr2
      rcases hcs with rfl | rfl | rfl | rfl | rfl
      · have HAL := Lib.hid (show alF 3 (p + 1) = false from HR3.out.trans rfl)
        go_wp2
        go_roundg (n - p - 1)
        case rel => exact ⟨p + 1, by have := HPN.out; omega, by go_num, HS.out.congr fun j _ => (k0F_no HAL.out).symm⟩
        case measure => have := HPN.out; omega
      · have HAL := Lib.hid (show alF 3 (p + 1) = true from HR3.out.trans rfl)
        go_wp2
        go_loopg [12] (n - p) (fun gk i wr => ∃ (s : Nat), s + gk = n + 1 ∧ p + 1 ≤ s ∧ i = .int .i64 (s : Int) ∧ CoState g (n + 1) (fun j => if j < s then k0F (alF 3) (p + 1) j else k0F (alF 3) p j) w wr)
        case atStart =>
          refine ⟨p + 1, by have := HPN.out; omega, Nat.le_refl _, by go_num, HS.out.congr fun j hj => ?_⟩
          by_cases h : j < p + 1
          · rw [if_pos h, k0F_less h]
          · rw [if_neg h]
        case round =>
          obtain ⟨s, hsg, hps, rfl, hs⟩ := hrel
          have HS2 := Lib.hid hs
          clear hs HS
          by_cases hsn : s = n + 1
          · have hgt : ¬ (s : Int) ≤ (n : Int) := by omega
            have hs := HS2.out.congr (f' := k0F (alF 3) (p + 1)) fun j hj => by rw [if_pos (by omega)]
            have HS3 := Lib.hid hs
            clear hs HS2 hsn hsg
            go_wp2
            go_roundg (n - p - 1)
            case rel => exact ⟨p + 1, by have := HPN.out; omega, by go_num, HS3.out⟩
            case measure => have := HPN.out; omega
          · have hle2 : (s : Int) ≤ (n : Int) := by omega
            have hsn2 : s < n + 1 := by omega
            have hsn3 : (s : Int) < ((n + 1 : Nat) : Int) := by omega
            have hsn4 : (s : Int) < (n : Int) + 1 := by omega
            have hc1 := HS2.out.cell (j := s) hsn2
            have hf1 := HS2.out.frozen s
            have hc2 := HS2.out.cell (j := s - (p + 1)) (by omega)
            rw [if_neg (by omega)] at hc1
            rw [if_pos (by omega)] at hc2
            have hidx : (s : Int) - ((p : Int) + 1) = ((s - (p + 1) : Nat) : Int) := by omega
            have hd2 : s - (p + 1) < n + 1 := by omega
            have hd3 : ((s - (p + 1) : Nat) : Int) < ((n + 1 : Nat) : Int) := by omega
            have hnew := k0F_more (al := alF 3) (p := p) (s := s) HAL.out (by omega)
            obtain ⟨A, hA⟩ : ∃ A, k0F (alF 3) p s = A := ⟨_, rfl⟩
            obtain ⟨B, hB⟩ : ∃ B, k0F (alF 3) (p + 1) (s - (p + 1)) = B := ⟨_, rfl⟩
            obtain ⟨d, hd⟩ : ∃ d, s - (p + 1) = d := ⟨_, rfl⟩
            rw [hd] at hc2 hidx hd2 hd3 hB hnew
            rw [hA] at hc1 hnew
            rw [hB] at hc2 hnew
            have HNEW := Lib.hid hnew
            have s0 : (0 : Int) ≤ (s : Int) := by omega
            have d0 : (0 : Int) ≤ (d : Int) := by omega
            have HSG := Lib.hid hsg
            have HPS := Lib.hid hps
            clear hnew hA hB hd hsn hsg hps
            go_wp2
            go_big_region
            go_wp2
            go_roundg (n - s)
            case rel =>
              refine ⟨s + 1, by omega, by have := HPS.out; omega, by go_num, ?_⟩
              refine ((HS2.out.put s (wrap64 (A + B))).congr fun j _ => ?_).drew
              by_cases hj : j = s
              · subst hj
                rw [if_pos rfl, if_pos (by omega), HNEW.out]
              · rw [if_neg hj]
                by_cases hj2 : j < s
                · rw [if_pos hj2, if_pos (by omega)]
                · rw [if_neg hj2, if_neg (by omega)]
            case measure => have := HSG.out; omega
      · have HAL := Lib.hid (show alF 3 (p + 1) = false from HR3.out.trans rfl)
        go_wp2
        go_roundg (n - p - 1)
        case rel => exact ⟨p + 1, by have := HPN.out; omega, by go_num, HS.out.congr fun j _ => (k0F_no HAL.out).symm⟩
        case measure => have := HPN.out; omega
      · have HAL := Lib.hid (show alF 3 (p + 1) = false from HR3.out.trans rfl)
        go_wp2
        go_roundg (n - p - 1)
        case rel => exact ⟨p + 1, by have := HPN.out; omega, by go_num, HS.out.congr fun j _ => (k0F_no HAL.out).symm⟩
        case measure => have := HPN.out; omega
      · have HAL := Lib.hid (show alF 3 (p + 1) = true from HR3.out.trans rfl)
        go_wp2
        go_loopg [12] (n - p) (fun gk i wr => ∃ (s : Nat), s + gk = n + 1 ∧ p + 1 ≤ s ∧ i = .int .i64 (s : Int) ∧ CoState g (n + 1) (fun j => if j < s then k0F (alF 3) (p + 1) j else k0F (alF 3) p j) w wr)
        case atStart =>
          refine ⟨p + 1, by have := HPN.out; omega, Nat.le_refl _, by go_num, HS.out.congr fun j hj => ?_⟩
          by_cases h : j < p + 1
          · rw [if_pos h, k0F_less h]
          · rw [if_neg h]
        case round =>
          obtain ⟨s, hsg, hps, rfl, hs⟩ := hrel
          have HS2 := Lib.hid hs
          clear hs HS
          by_cases hsn : s = n + 1
          · have hgt : ¬ (s : Int) ≤ (n : Int) := by omega
            have hs := HS2.out.congr (f' := k0F (alF 3) (p + 1)) fun j hj => by rw [if_pos (by omega)]
            have HS3 := Lib.hid hs
            clear hs HS2 hsn hsg
            go_wp2
            go_roundg (n - p - 1)
            case rel => exact ⟨p + 1, by have := HPN.out; omega, by go_num, HS3.out⟩
            case measure => have := HPN.out; omega
          · have hle2 : (s : Int) ≤ (n : Int) := by omega
            have hsn2 : s < n + 1 := by omega
            have hsn3 : (s : Int) < ((n + 1 : Nat) : Int) := by omega
            have hsn4 : (s : Int) < (n : Int) + 1 := by omega
            have hc1 := HS2.out.cell (j := s) hsn2
            have hf1 := HS2.out.frozen s
            have hc2 := HS2.out.cell (j := s - (p + 1)) (by omega)
            rw [if_neg (by omega)] at hc1
            rw [if_pos (by omega)] at hc2
            have hidx : (s : Int) - ((p : Int) + 1) = ((s - (p + 1) : Nat) : Int) := by omega
            have hd2 : s - (p + 1) < n + 1 := by omega
            have hd3 : ((s - (p + 1) : Nat) : Int) < ((n + 1 : Nat) : Int) := by omega
            have hnew := k0F_more (al := alF 3) (p := p) (s := s) HAL.out (by omega)
            obtain ⟨A, hA⟩ : ∃ A, k0F (alF 3) p s = A := ⟨_, rfl⟩
            obtain ⟨B, hB⟩ : ∃ B, k0F (alF 3) (p + 1) (s - (p + 1)) = B := ⟨_, rfl⟩
            obtain ⟨d, hd⟩ : ∃ d, s - (p + 1) = d := ⟨_, rfl⟩
            rw [hd] at hc2 hidx hd2 hd3 hB hnew
            rw [hA] at hc1 hnew
            rw [hB] at hc2 hnew
            have HNEW := Lib.hid hnew
            have s0 : (0 : Int) ≤ (s : Int) := by omega
            have d0 : (0 : Int) ≤ (d : Int) := by omega
            have HSG := Lib.hid hsg
            have HPS := Lib.hid hps
            clear hnew hA hB hd hsn hsg hps
            go_wp2
            go_big_region
            go_wp2
            go_roundg (n - s)
            case rel =>
              refine ⟨s + 1, by omega, by have := HPS.out; omega, by go_num, ?_⟩
              refine ((HS2.out.put s (wrap64 (A + B))).congr fun j _ => ?_).drew
              by_cases hj : j = s
              · subst hj
                rw [if_pos rfl, if_pos (by omega), HNEW.out]
              · rw [if_neg hj]
                by_cases hj2 : j < s
                · rw [if_pos hj2, if_pos (by omega)]
                · rw [if_neg hj2, if_neg (by omega)]
            case measure => have := HSG.out; omega

set_option maxHeartbeats 2000000 in
set_option maxRecDepth 100000 in
theorem refKinds5 (n : Nat) (hn : n ≤ 100) (w : World) :
    Calls Try.prog 45 #[.int .i64 (n : Int), .int .i64 5] w fun e w' => e = .returned (.int .i64 (k0F (alF 5) n n)) ∧ Below w.heap.size w w' := by
  obtain ⟨i0, hi, hz0, hz1, hz2⟩ := info_parts info3
  have n0 : (0 : Int) ≤ (n : Int) := by omega
  go_enter Try.func45, Try.ntmps45
  go_wp2_with (at_make; refine wpList_make_full _ rfl _ _ 33 rfl w.heap.size 3 i0 (.int .i64 0) 1 Try.underlying33 hi hz0 hz1 _ _ _ _ (n + 1) rfl rfl (by omega) (by omega) (by rw [hz2]; omega) (by unfold maxLen; omega) (Nat.le_refl _) ?_; intro w1 hown hgrow; have hs0 := CoState.made hown ((Below.refl w.heap.size w).grown hgrow (Nat.le_refl _) (fun k e => by cases e)); have hc0 := hs0.cell (j := 0) (by omega); have hf0 := hs0.frozen 0; have S0 := Lib.hid hs0; clear hown hgrow hs0)
  obtain ⟨g, hg⟩ : ∃ g, w.heap.size = g := ⟨_, rfl⟩
  have hs1 := S0.out.put 0 1
  rw [hg] at hs1 ⊢
  have hs2 : CoState g (n + 1) (k0F (alF 5) 0) w (w1.setCell ⟨g, 0, none⟩ (.int .i64 1)) := hs1.congr fun j _ => by rw [k0F_zero]
  have S1 := Lib.hid hs2
  obtain ⟨W1, hW1⟩ : ∃ W1, w1.setCell ⟨g, 0, none⟩ (.int .i64 1) = W1 := ⟨_, rfl⟩
  rw [hW1] at S1 ⊢
  clear hs1 hs2 hc0 hf0 S0 hW1 hi hz0 hz1 hz2
  go_loopg [10] n (fun gk i wr => ∃ (p : Nat), p + gk = n ∧ i = .int .i64 ((p : Int) + 1) ∧ CoState g (n + 1) (k0F (alF 5) p) w wr)
  case atStart => exact ⟨0, by omega, rfl, S1.out⟩
  case round =>
    obtain ⟨p, hp, rfl, hs⟩ := hrel
    have HS := Lib.hid hs
    clear hs S1
    by_cases hpn : p = n
    · have hgt : ¬ (p : Int) + 1 ≤ (n : Int) := by omega
      have hs := HS.out
      rw [hpn] at hs
      have hc := hs.cell (j := n) (by omega)
      have HB := Lib.hid hs.b
      obtain ⟨X, hX⟩ : ∃ X, k0F (alF 5) n n = X := ⟨_, rfl⟩
      rw [hX] at hc
      have HX := Lib.hid hX
      have hnn : n < n + 1 := by omega
      have hnn2 : (n : Int) < (n : Int) + 1 := by omega
      have hnn3 : (n : Int) < ((n + 1 : Nat) : Int) := by omega
      clear hpn hs HS hX
      go_wp2
      go_ret
      exact ⟨ret_int HX.out.symm, by have := HB.out; rw [hg] at this; exact this⟩
    · have hle : (p : Int) + 1 ≤ (n : Int) := by omega
      have HPN := Lib.hid (show p + 1 ≤ n by omega)
      have HR := Lib.hid (show alF 5 (p + 1) = ((p + 1) % 5 == 2 || (p + 1) % 5 == 3) from rfl)
      obtain ⟨r, hr, hr2⟩ : ∃ r : Nat, (p + 1) % 5 = r ∧ r < 5 := ⟨_, rfl, by omega⟩
      have hm : ((p : Int) + 1).tmod 5 = (r : Int) := by rw [Int.tmod_eq_emod_of_nonneg (by omega)]; omega
      have HR2 := HR.out
      rw [hr] at HR2
      have HR3 := Lib.hid HR2
      have hcs : r = 0 ∨ r = 1 ∨ r = 2 ∨ r = 3 ∨ r = 4 := by omega
      clear hpn HR HR2 hr hr2
      rcases hcs with rfl | rfl | rfl | rfl | rfl
      · have HAL := Lib.hid (show alF 5 (p + 1) = false from HR3.out.trans rfl)
        go_wp2
        go_roundg (n - p - 1)
        case rel => exact ⟨p + 1, by have := HPN.out; omega, by go_num, HS.out.congr fun j _ => (k0F_no HAL.out).symm⟩
        case measure => have := HPN.out; omega
      · have HAL := Lib.hid (show alF 5 (p + 1) = false from HR3.out.trans rfl)
        go_wp2
        go_roundg (n - p - 1)
        case rel => exact ⟨p + 1, by have := HPN.out; omega, by go_num, HS.out.congr fun j _ => (k0F_no HAL.out).symm⟩
        case measure => have := HPN.out; omega
      · have HAL := Lib.hid (show alF 5 (p + 1) = true from HR3.out.trans rfl)
        go_wp2
        go_loopg [12] (n - p) (fun gk i wr => ∃ (s : Nat), s + gk = n + 1 ∧ p + 1 ≤ s ∧ i = .int .i64 (s : Int) ∧ CoState g (n + 1) (fun j => if j < s then k0F (alF 5) (p + 1) j else k0F (alF 5) p j) w wr)
        case atStart =>
          refine ⟨p + 1, by have := HPN.out; omega, Nat.le_refl _, by go_num, HS.out.congr fun j hj => ?_⟩
          by_cases h : j < p + 1
          · rw [if_pos h, k0F_less h]
          · rw [if_neg h]
        case round =>
          obtain ⟨s, hsg, hps, rfl, hs⟩ := hrel
          have HS2 := Lib.hid hs
          clear hs HS
          by_cases hsn : s = n + 1
          · have hgt : ¬ (s : Int) ≤ (n : Int) := by omega
            have hs := HS2.out.congr (f' := k0F (alF 5) (p + 1)) fun j hj => by rw [if_pos (by omega)]
            have HS3 := Lib.hid hs
            clear hs HS2 hsn hsg
            go_wp2
            go_roundg (n - p - 1)
            case rel => exact ⟨p + 1, by have := HPN.out; omega, by go_num, HS3.out⟩
            case measure => have := HPN.out; omega
          · have hle2 : (s : Int) ≤ (n : Int) := by omega
            have hsn2 : s < n + 1 := by omega
            have hsn3 : (s : Int) < ((n + 1 : Nat) : Int) := by omega
            have hsn4 : (s : Int) < (n : Int) + 1 := by omega
            have hc1 := HS2.out.cell (j := s) hsn2
            have hf1 := HS2.out.frozen s
            have hc2 := HS2.out.cell (j := s - (p + 1)) (by omega)
            rw [if_neg (by omega)] at hc1
            rw [if_pos (by omega)] at hc2
            have hidx : (s : Int) - ((p : Int) + 1) = ((s - (p + 1) : Nat) : Int) := by omega
            have hd2 : s - (p + 1) < n + 1 := by omega
            have hd3 : ((s - (p + 1) : Nat) : Int) < ((n + 1 : Nat) : Int) := by omega
            have hnew := k0F_more (al := alF 5) (p := p) (s := s) HAL.out (by omega)
            obtain ⟨A, hA⟩ : ∃ A, k0F (alF 5) p s = A := ⟨_, rfl⟩
            obtain ⟨B, hB⟩ : ∃ B, k0F (alF 5) (p + 1) (s - (p + 1)) = B := ⟨_, rfl⟩
            obtain ⟨d, hd⟩ : ∃ d, s - (p + 1) = d := ⟨_, rfl⟩
            rw [hd] at hc2 hidx hd2 hd3 hB hnew
            rw [hA] at hc1 hnew
            rw [hB] at hc2 hnew
            have HNEW := Lib.hid hnew
            have s0 : (0 : Int) ≤ (s : Int) := by omega
            have d0 : (0 : Int) ≤ (d : Int) := by omega
            have HSG := Lib.hid hsg
            have HPS := Lib.hid hps
            clear hnew hA hB hd hsn hsg hps
            go_wp2
            go_big_region
            go_wp2
            go_roundg (n - s)
            case rel =>
              refine ⟨s + 1, by omega, by have := HPS.out; omega, by go_num, ?_⟩
              refine ((HS2.out.put s (wrap64 (A + B))).congr fun j _ => ?_).drew
              by_cases hj : j = s
              · subst hj
                rw [if_pos rfl, if_pos (by omega), HNEW.out]
              · rw [if_neg hj]
                by_cases hj2 : j < s
                · rw [if_pos hj2, if_pos (by omega)]
                · rw [if_neg hj2, if_neg (by omega)]
            case measure => have := HSG.out; omega
      · have HAL := Lib.hid (show alF 5 (p + 1) = true from HR3.out.trans rfl)
        go_wp2
        go_loopg [12] (n - p) (fun gk i wr => ∃ (s : Nat), s + gk = n + 1 ∧ p + 1 ≤ s ∧ i = .int .i64 (s : Int) ∧ CoState g (n + 1) (fun j => if j < s then k0F (alF 5) (p + 1) j else k0F (alF 5) p j) w wr)
        case atStart =>
          refine ⟨p + 1, by have := HPN.out; omega, Nat.le_refl _, by go_num, HS.out.congr fun j hj => ?_⟩
          by_cases h : j < p + 1
          · rw [if_pos h, k0F_less h]
          · rw [if_neg h]
        case round =>
          obtain ⟨s, hsg, hps, rfl, hs⟩ := hrel
          have HS2 := Lib.hid hs
          clear hs HS
          by_cases hsn : s = n + 1
          · have hgt : ¬ (s : Int) ≤ (n : Int) := by omega
            have hs := HS2.out.congr (f' := k0F (alF 5) (p + 1)) fun j hj => by rw [if_pos (by omega)]
            have HS3 := Lib.hid hs
            clear hs HS2 hsn hsg
            go_wp2
            go_roundg (n - p - 1)
            case rel => exact ⟨p + 1, by have := HPN.out; omega, by go_num, HS3.out⟩
            case measure => have := HPN.out; omega
          · have hle2 : (s : Int) ≤ (n : Int) := by omega
            have hsn2 : s < n + 1 := by omega
            have hsn3 : (s : Int) < ((n + 1 : Nat) : Int) := by omega
            have hsn4 : (s : Int) < (n : Int) + 1 := by omega
            have hc1 := HS2.out.cell (j := s) hsn2
            have hf1 := HS2.out.frozen s
            have hc2 := HS2.out.cell (j := s - (p + 1)) (by omega)
            rw [if_neg (by omega)] at hc1
            rw [if_pos (by omega)] at hc2
            have hidx : (s : Int) - ((p : Int) + 1) = ((s - (p + 1) : Nat) : Int) := by omega
            have hd2 : s - (p + 1) < n + 1 := by omega
            have hd3 : ((s - (p + 1) : Nat) : Int) < ((n + 1 : Nat) : Int) := by omega
            have hnew := k0F_more (al := alF 5) (p := p) (s := s) HAL.out (by omega)
            obtain ⟨A, hA⟩ : ∃ A, k0F (alF 5) p s = A := ⟨_, rfl⟩
            obtain ⟨B, hB⟩ : ∃ B, k0F (alF 5) (p + 1) (s - (p + 1)) = B := ⟨_, rfl⟩
            obtain ⟨d, hd⟩ : ∃ d, s - (p + 1) = d := ⟨_, rfl⟩
            rw [hd] at hc2 hidx hd2 hd3 hB hnew
            rw [hA] at hc1 hnew
            rw [hB] at hc2 hnew
            have HNEW := Lib.hid hnew
            have s0 : (0 : Int) ≤ (s : Int) := by omega
            have d0 : (0 : Int) ≤ (d : Int) := by omega
            have HSG := Lib.hid hsg
            have HPS := Lib.hid hps
            clear hnew hA hB hd hsn hsg hps
            go_wp2
            go_big_region
            go_wp2
            go_roundg (n - s)
            case rel =>
              refine ⟨s + 1, by omega, by have := HPS.out; omega, by go_num, ?_⟩
              refine ((HS2.out.put s (wrap64 (A + B))).congr fun j _ => ?_).drew
              by_cases hj : j = s
              · subst hj
                rw [if_pos rfl, if_pos (by omega), HNEW.out]
              · rw [if_neg hj]
                by_cases hj2 : j < s
                · rw [if_pos hj2, if_pos (by omega)]
                · rw [if_neg hj2, if_neg (by omega)]
            case measure => have := HSG.out; omega
      · have HAL := Lib.hid (show alF 5 (p + 1) = false from HR3.out.trans rfl)
        go_wp2
        go_roundg (n - p - 1)
        case rel => exact ⟨p + 1, by have := HPN.out; omega, by go_num, HS.out.congr fun j _ => (k0F_no HAL.out).symm⟩
        case measure => have := HPN.out; omega

end Go.Proofs.Ytfecdpglcdhijaa
