/- The law PartsPentagons: its walk in every case. No condition on the argument. -/
import Derived.Test.YtfecdpglcdhijaaEuler
import Derived.Test.YtfecdpglcdhijaaLawShapes
namespace Go.Proofs.Ytfecdpglcdhijaa
open Go.RowKit

theorem wrapA (k : Nat) (h : k ≤ 16) : wrap64 ((wrap64 (((k : Int) + 1) * wrap64 (wrap64 (3 * ((k : Int) + 1)) - 1))).tdiv 2) = ((gA (k + 1) : Nat) : Int) := by
  have : ∀ k : Fin 17, wrap64 ((wrap64 (((k.val : Int) + 1) * wrap64 (wrap64 (3 * ((k.val : Int) + 1)) - 1))).tdiv 2) = ((gA (k.val + 1) : Nat) : Int) := by decide +kernel
  exact this ⟨k, by omega⟩
theorem wrapB (k : Nat) (h : k ≤ 16) : wrap64 ((wrap64 (((k : Int) + 1) * wrap64 (wrap64 (3 * ((k : Int) + 1)) + 1))).tdiv 2) = ((gB (k + 1) : Nat) : Int) := by
  have : ∀ k : Fin 17, wrap64 ((wrap64 (((k.val : Int) + 1) * wrap64 (wrap64 (3 * ((k.val : Int) + 1)) + 1))).tdiv 2) = ((gB (k.val + 1) : Nat) : Int) := by decide +kernel
  exact this ⟨k, by omega⟩

def addK (n j A B : Nat) (s : Int) : Nat → Int
  | 0 => s
  | 1 => addN n j A s
  | _ => addN n j B (addN n j A s)
theorem addK_next (n j A B : Nat) (s : Int) {q : Nat} (h : q < 2) : addK n j A B s (q + 1) = addN n j (if q = 0 then A else B) (addK n j A B s q) := by
  match q, h with
  | 0, _ => rfl
  | 1, _ => rfl
theorem At.two {w W : World} (h : Below w.heap.size w W) (A B : Int) : At w (W.alloc (.cells #[.int .i64 A, .int .i64 B] 3)) (some ⟨W.heap.size, 0, none⟩) 2 [A, B] := by
  have h1 := World.ownsRow_lit (base := w.heap.size) (e := 3) (size := 1) W #[.int .i64 A, .int .i64 B] 2 h.size (by unfold maxLen; omega) rfl
  exact ⟨h.alloc h.size _, (Ints.own (xs := [A, B]) h1).1⟩
theorem At.cell2 {w W : World} {b A B q : Nat} (h : At w W (some ⟨b, 0, none⟩) 2 [(A : Int), (B : Int)]) (hq : q < 2) : W.cell? ⟨b, q, none⟩ = some (.int .i64 (((if q = 0 then A else B : Nat)) : Int)) := by
  obtain ⟨b', off, e, -, hc⟩ := h.i.at (by omega)
  cases e
  have := hc q hq
  rw [Nat.zero_add] at this
  rw [this]
  match q, hq with
  | 0, _ => rfl
  | 1, _ => rfl

set_option maxHeartbeats 2000000 in
set_option maxRecDepth 100000 in
theorem lawPent_in (n : Nat) (h0 : 1 ≤ n) (hn : n ≤ 400) (w : World) :
    Calls Try.prog 16 #[.int .i64 (n : Int)] w fun e w' => e = .returned (.bool true) ∧ Below w.heap.size w w' := by
  have HCn := Lib.hid (fun m (h : m ≤ 400) W => Count_yes m h W)
  have hC := fun W => Count_yes n hn W
  obtain ⟨X, hX⟩ : ∃ X, cntF n n = X := ⟨_, rfl⟩
  rw [hX] at hC
  have HC := Lib.hid hC
  have HX := Lib.hid hX
  have g1 : ¬ (n : Int) < 1 := by omega
  have g2 : ¬ (400 : Int) < (n : Int) := by omega
  have HN := Lib.hid (And.intro h0 hn)
  clear hC hX
  go_enter Try.func16, Try.ntmps16
  go_wp2_with fail
  refine (HC.out _).mono ?_
  rintro e w1 ⟨rfl, hb1⟩
  have B1 := Lib.hid hb1
  clear hb1
  go_wp2_with fail
  go_loopg [5, 6] 16 (fun gk s j wr => ∃ (k : Nat), k + gk = 16 ∧ j = .int .i64 ((k : Int) + 1) ∧ s = .int .i64 (accN n k) ∧ Below w.heap.size w wr)
  case atStart => exact ⟨0, by omega, rfl, rfl, B1.out⟩
  case round =>
    obtain ⟨k, hk, rfl, rfl, hb⟩ := hrel
    have B2 := Lib.hid hb
    obtain ⟨a1, a2, a3, a4⟩ := gA_eq (k + 1) (by omega) (by omega)
    obtain ⟨b1, b2, b3, b4, b5⟩ := gB_eq (k + 1) (by omega) (by omega)
    have hWA := wrapA k (by omega)
    have hWB := wrapB k (by omega)
    obtain ⟨A, hA⟩ : ∃ A, gA (k + 1) = A := ⟨_, rfl⟩
    obtain ⟨B, hB⟩ : ∃ B, gB (k + 1) = B := ⟨_, rfl⟩
    obtain ⟨S, hS⟩ : ∃ S, accN n k = S := ⟨_, rfl⟩
    rw [hA] at hWA a4 b5
    rw [hB] at hWB b4 b5
    clear a1 a2 a3 b1 b2 b3
    rw [hS]
    have HK := Lib.hid hk
    have HA := Lib.hid hA
    have HB := Lib.hid hB
    have HS := Lib.hid hS
    clear hb B1 hk hA hB hS
    by_cases hAn : A ≤ n
    · have hle : (A : Int) ≤ (n : Int) := by omega
      have hk15 : k + 1 ≤ 16 := by
        have h1 := HK.out
        by_cases h : k = 16
        · have h2 := HA.out
          rw [h, gA_far] at h2
          omega
        · omega
      have HK15 := Lib.hid hk15
      have hP := penta_A (j := k + 1) (by omega) hk15
      rw [HA.out, HB.out] at hP
      have hmod : Int.tmod ((k : Int) + 1) 2 = ((k : Int) + 1) % 2 := Int.tmod_eq_emod_of_nonneg (by omega)
      obtain ⟨J, hJ⟩ : ∃ J, ((k : Int) + 1) % 2 = J := ⟨_, rfl⟩
      have j0 : 0 ≤ J := by omega
      have j1 : J ≤ 1 := by omega
      rw [show (((k + 1 : Nat) : Int)) = (k : Int) + 1 by omega, hJ] at hP
      rw [hJ] at hmod
      have hsg : sgnJ (k + 1) = 2 * J - 1 := by
        unfold sgnJ
        rw [show (((k + 1 : Nat) : Int)) = (k : Int) + 1 by omega, hJ]
      have HSG := Lib.hid hsg
      have HP := Lib.hid hP
      clear hk15 hP hJ hsg hAn
      have h2 := At.two B2.out (A : Int) (B : Int)
      go_wp2
      obtain ⟨W1, hW1⟩ : ∃ W1, wr.alloc (Obj.cells #[Value.int IntKind.i64 (A : Int), Value.int IntKind.i64 (B : Int)] 3) = W1 := ⟨_, rfl⟩
      obtain ⟨b, hb⟩ : ∃ b, wr.heap.size = b := ⟨_, rfl⟩
      rw [hW1] at h2 ⊢
      rw [hb] at h2 ⊢
      have H2 := Lib.hid h2
      clear h2 hW1 hb hWA hWB
      go_loopg [5, 65] 2 (fun g2 s i W2 => ∃ (q : Nat), q + g2 = 2 ∧ i = .int .i64 (q : Int) ∧ s = .int .i64 (addK n (k + 1) A B S q) ∧ At w W2 (some ⟨b, 0, none⟩) 2 [(A : Int), (B : Int)])
      case atStart => exact ⟨0, rfl, rfl, rfl, H2.out⟩
      case round =>
        obtain ⟨q, hq, rfl, rfl, ha⟩ := hrel
        have HT := Lib.hid ha
        have HQ := Lib.hid hq
        obtain ⟨T, hT⟩ : ∃ T, addK n (k + 1) A B S q = T := ⟨_, rfl⟩
        rw [hT]
        clear ha H2
        have q0 : (0 : Int) ≤ (q : Int) := by omega
        by_cases hq2 : q = 2
        · have hge : ¬ (q : Int) < 2 := by omega
          rw [hq2] at hT
          have HTT := Lib.hid hT
          have hkb := HK15.out
          clear hT hq hq2
          go_wp2
          go_roundg (16 - k - 1)
          case rel =>
            refine ⟨k + 1, by have := HK15.out; omega, by have := HK15.out; go_num, ?_, HT.out.b⟩
            rw [← HTT.out]
            show Value.int .i64 (addN n (k + 1) B (addN n (k + 1) A S)) = .int .i64 (addN n (k + 1) (gB (k + 1)) (addN n (k + 1) (gA (k + 1)) (accN n k)))
            rw [HA.out, HB.out, HS.out]
          case measure => have := HK.out; have := HK15.out; omega
        · have hlt : (q : Int) < 2 := by omega
          have hlt2 : q < 2 := by omega
          obtain ⟨G, hG⟩ : ∃ G, (if q = 0 then A else B) = G := ⟨_, rfl⟩
          have hcell := HT.out.cell2 hlt2
          rw [hG] at hcell
          have hnew : addK n (k + 1) A B S (q + 1) = addN n (k + 1) G T := by
            rw [← hT, ← hG]
            exact addK_next _ _ _ _ _ hlt2
          have hpen : G ≤ 100 → penF G G = 1 - 2 * J := fun h => by
            rw [← hG] at h ⊢
            by_cases h0 : q = 0
            · rw [if_pos h0] at h ⊢; exact HP.out.1 h
            · rw [if_neg h0] at h ⊢; exact HP.out.2 h
          have hgb : G ≤ 5000 := by rw [← hG]; split <;> omega
          have HNEW := Lib.hid hnew
          have HPEN := Lib.hid hpen
          have HGB := Lib.hid hgb
          clear hT hG hnew hpen hgb hq hq2
          by_cases hGn : n < G
          · have hgt : (n : Int) < (G : Int) := by omega
            go_wp2
            go_roundg (2 - q - 1)
            case rel =>
              refine ⟨q + 1, by have := HQ.out; omega, by go_num, ?_, HT.out⟩
              rw [HNEW.out, addN, if_pos hGn]
            case measure => have := HQ.out; omega
          · have hngt : ¬ (n : Int) < (G : Int) := by omega
            obtain ⟨d, hd⟩ : ∃ d, n - G = d := ⟨_, rfl⟩
            have hdd : (n : Int) - (G : Int) = (d : Int) := by omega
            have hCd := fun W => HCn.out d (by have := HN.out.2; omega) W
            obtain ⟨M, hM⟩ : ∃ M, cntF d d = M := ⟨_, rfl⟩
            rw [hM] at hCd
            have HCD := Lib.hid hCd
            have hnew2 : addK n (k + 1) A B S (q + 1) = wrap64 (T + wrap64 (M * (2 * J - 1))) := by
              rw [HNEW.out, addN, if_neg hGn, hd, hM, HSG.out]
            have HNEW2 := Lib.hid hnew2
            have G0 : (0 : Int) ≤ (G : Int) := by omega
            clear hCd hM hd HNEW hGn hnew2
            by_cases hG100 : G ≤ 100
            · have hp := fun W => Pentagonal_yes G hG100 W
              rw [HPEN.out hG100] at hp
              have HPT := Lib.hid hp
              have hl100 : (G : Int) ≤ 100 := by omega
              clear hp hG100
              go_wp2_with fail
              refine (HCD.out _).mono ?_
              rintro e W3 ⟨rfl, hb3⟩
              have HT3 := Lib.hid (HT.out.later hb3)
              clear hb3 HT
              go_wp2_with fail
              refine (HPT.out _).mono ?_
              rintro e W4 ⟨rfl, hb4⟩
              have HT4 := Lib.hid (HT3.out.later hb4)
              clear hb4 HT3
              go_wp2
              go_roundg (2 - q - 1)
              case rel =>
                refine ⟨q + 1, by have := HQ.out; omega, by go_num, ?_, HT4.out⟩
                rw [HNEW2.out]
              case measure => have := HQ.out; omega
            · have HPT := Lib.hid (fun W => Pentagonal_no (G : Int) (.inr (by omega)) W)
              have hl100 : ¬ (G : Int) ≤ 100 := by omega
              clear hG100
              go_wp2_with fail
              refine (HCD.out _).mono ?_
              rintro e W3 ⟨rfl, hb3⟩
              have HT3 := Lib.hid (HT.out.later hb3)
              clear hb3 HT
              go_wp2_with fail
              refine (HPT.out _).mono ?_
              rintro e W4 ⟨rfl, rfl⟩
              go_wp2
              go_roundg (2 - q - 1)
              case rel =>
                refine ⟨q + 1, by have := HQ.out; omega, by go_num, ?_, HT3.out⟩
                rw [HNEW2.out]
              case measure => have := HQ.out; omega
    · have hgt : ¬ (A : Int) ≤ (n : Int) := by omega
      have hfin : S = X := by
        rw [← HS.out, ← HX.out]
        refine accN_end HN.out.1 HN.out.2 ?_ (by rw [HA.out]; omega)
        have := HK.out
        omega
      subst hfin
      go_wp2_with fail
      refine (awake_any _).mono ?_
      rintro e w6 ⟨rfl, hb6⟩
      have B6 := Lib.hid (B2.out.trans (hb6.mono B2.out.size))
      clear hb6 B2
      go_wp2_with fail
      go_ret
      exact ⟨rfl, B6.out⟩

set_option maxHeartbeats 2000000 in
set_option maxRecDepth 100000 in
theorem lawPent_zero (w : World) :
    Calls Try.prog 16 #[.int .i64 0] w fun e w' => e = .returned (.bool true) ∧ Below w.heap.size w w' := by
  have hC := fun W => Count_yes 0 (by omega) W
  rw [show cntF 0 0 = 1 by rw [cntF_zero]; rfl] at hC
  have HC := Lib.hid (show ∀ W, Calls Try.prog 18 #[.int .i64 0] W fun e w' => e = .returned (.tuple #[.int .i64 1, .int .i64 0]) ∧ Below W.heap.size W w' from hC)
  clear hC
  go_enter Try.func16, Try.ntmps16
  go_wp2_with fail
  refine (HC.out _).mono ?_
  rintro e w1 ⟨rfl, hb1⟩
  have B1 := Lib.hid hb1
  clear hb1
  go_wp2_with fail
  refine (awake_any _).mono ?_
  rintro e w6 ⟨rfl, hb6⟩
  have B6 := Lib.hid (B1.out.trans (hb6.mono B1.out.size))
  clear hb6 B1
  go_wp2_with fail
  go_ret
  exact ⟨rfl, B6.out⟩

set_option maxHeartbeats 2000000 in
set_option maxRecDepth 100000 in
theorem lawPent_out (n : Int) (hn : n < 0 ∨ 400 < n) (w : World) :
    Calls Try.prog 16 #[.int .i64 n] w fun e w' => e = .returned (.bool true) ∧ Below w.heap.size w w' := by
  have HC := Lib.hid (fun W => Count_no n hn W)
  have h0 : ¬ n = 0 := by omega
  rcases hn with hn | hn
  case' inl => have g1 : n < 1 := by omega
  case' inr =>
    have g1 : ¬ n < 1 := by omega
    have g3 : (400 : Int) < n := by omega
  all_goals
    go_enter Try.func16, Try.ntmps16
    go_wp2_with fail
    refine (HC.out _).mono ?_
    rintro e w' ⟨rfl, rfl⟩
    go_wp2_with fail
    refine (awake_any _).mono ?_
    rintro e w6 ⟨rfl, hb6⟩
    have B6 := Lib.hid hb6
    clear hb6
    go_wp2_with fail
    go_ret
    exact ⟨rfl, B6.out⟩

theorem lawPent_any (n : Int) (w : World) :
    Calls Try.prog 16 #[.int .i64 n] w fun e w' => e = .returned (.bool true) ∧ Below w.heap.size w w' := by
  by_cases h : n < 0 ∨ 400 < n
  · exact lawPent_out n h w
  · obtain ⟨m, rfl⟩ : ∃ m : Nat, n = (m : Int) := ⟨n.toNat, by omega⟩
    by_cases h2 : m = 0
    · subst h2
      exact lawPent_zero w
    · exact lawPent_in m (by omega) (by omega) w
end Go.Proofs.Ytfecdpglcdhijaa
