/- The walk of gherkinref01.Best. Condition: a D and a number from 0 to 1000. -/
import Derived.Test.YtbdadckedhcibaaNear
namespace Go.Proofs.Ytbdadckedhcibaa
open Go.RowKit Go.Shelf
attribute [local go_sem] Oper.semAt_some

theorem rootF_small {d q : Int} (d0 : 0 ≤ d) (d1 : d ≤ 100) (q0 : 0 ≤ q) (q1 : q ≤ 1000) : 0 ≤ rootF (d * q * q) ∧ rootF (d * q * q) ≤ 10000 := by
  obtain ⟨a1, a2⟩ := pr_bd d0 d1 q0 q1
  obtain ⟨a3, a4⟩ := pr_bd a1 a2 q0 q1
  obtain ⟨h0, h1, -⟩ := rootF_spec (d * q * q) a3 (by omega)
  refine ⟨h0, ?_⟩
  by_cases h : rootF (d * q * q) ≤ 10000
  · exact h
  · have := sq_le (a := 10001) (b := rootF (d * q * q)) (by omega) (by omega)
    omega
/-- What the numbers of the state are bounded by. -/
def StB (S : Int × Int) : Prop := 0 ≤ S.1 ∧ S.1 ≤ 10001 ∧ 0 ≤ S.2 ∧ S.2 ≤ 1000
theorem pick_bd {d p q : Int} {S : Int × Int} (h : StB S) (p0 : 0 ≤ p) (p1 : p ≤ 10001) (q0 : 0 ≤ q) (q1 : q ≤ 1000) : StB (pickF d p q S) := by
  unfold pickF
  cases (decide (S.2 = 0) || nearF d p q S.1 S.2)
  · exact h
  · exact ⟨p0, p1, q0, q1⟩
/-- The state behind k of the two numerators. -/
def sel (d q r : Int) (S : Int × Int) : Nat → Int × Int
  | 0 => S
  | k + 1 => pickF d (r + k) q (sel d q r S k)
theorem sel_two (d q r : Int) (S : Int × Int) : sel d q r S 2 = stepR d q r S := by
  show pickF d (r + (1 : Nat)) q (pickF d (r + (0 : Nat)) q S) = pickF d (r + 1) q (pickF d r q S)
  rw [show r + ((0 : Nat) : Int) = r by omega]; rfl
theorem sel_bd {d q r : Int} {S : Int × Int} (h : StB S) (r0 : 0 ≤ r) (r1 : r ≤ 10000) (q0 : 0 ≤ q) (q1 : q ≤ 1000) : ∀ k, k ≤ 2 → StB (sel d q r S k)
  | 0, _ => h
  | k + 1, hk => pick_bd (sel_bd h r0 r1 q0 q1 k (by omega)) (by omega) (by omega) q0 q1
theorem bestR_bd {d : Int} (d0 : 0 ≤ d) (d1 : d ≤ 100) : ∀ q : Nat, q ≤ 1000 → StB (bestR d q)
  | 0, _ => (show StB (0, 0) from ⟨by decide, by decide, by decide, by decide⟩)
  | q + 1, hq => by
    have h := rootF_small d0 d1 (q := (q : Int) + 1) (by omega) (by omega)
    have := sel_bd (d := d) (q := (q : Int) + 1) (bestR_bd d0 d1 q (by omega)) h.1 h.2 (by omega) (by omega) 2 (Nat.le_refl _)
    rw [sel_two] at this
    exact this

set_option maxHeartbeats 4000000 in
set_option maxRecDepth 100000 in
theorem refBest_yes (d : Int) (M : Nat) (d0 : 0 ≤ d) (d1 : d ≤ 100) (hM : M ≤ 1000) (w : World) :
    Calls Try.prog 37 #[.int .i64 d, .int .i64 (M : Int)] w fun e w' => e = .returned (.tuple #[.int .i64 (bestR d M).1, .int .i64 (bestR d M).2]) ∧ Below w.heap.size w w' := by
  obtain ⟨X, hX⟩ : ∃ X, bestR d M = X := ⟨_, rfl⟩
  rw [hX]
  have HX := Lib.hid hX
  clear hX
  go_enter Try.func37, Try.ntmps37
  go_wp2
  go_loopg [6, 7, 8, 9, 11] M (fun gk P Q qv low pv wr => ∃ k : Nat, k + gk = M ∧ P = .int .i64 (bestR d k).1 ∧ Q = .int .i64 (bestR d k).2 ∧ qv = .int .i64 ((k : Int) + 1) ∧ Below w.heap.size w wr)
  case atStart => exact ⟨0, by omega, rfl, rfl, rfl, Below.refl _ _⟩
  case round =>
    obtain ⟨k, hk, rfl, rfl, rfl, hb⟩ := hrel
    obtain ⟨W0, rfl⟩ : ∃ W0, W0 = wr := ⟨_, rfl⟩
    have HB := Lib.hid hb
    clear hb
    by_cases hkM : k = M
    · have hge : ¬ (k : Int) + 1 ≤ (M : Int) := by omega
      have hge2 : ¬ (k : Int) < (M : Int) := by omega
      have HE := Lib.hid (show bestR d k = X by rw [hkM]; exact HX.out)
      clear hkM hk
      go_wp2
      refine bodyPost_ret (v := .tuple #[.int .i64 (bestR d k).1, .int .i64 (bestR d k).2]) (by simp [results, Try.results37, go_sem]) rfl ⟨by rw [HE.out], HB.out⟩
    · have hle : (k : Int) + 1 ≤ (M : Int) := by omega
      have hlt2 : (k : Int) < (M : Int) := by omega
      obtain ⟨S, hS⟩ : ∃ S, bestR d k = S := ⟨_, rfl⟩
      have hSb := bestR_bd d0 d1 k (by omega)
      rw [hS] at hSb ⊢
      obtain ⟨q, hq⟩ : ∃ q, (k : Int) + 1 = q := ⟨_, rfl⟩
      have q0 : 0 ≤ q := by omega
      have q1 : q ≤ 1000 := by omega
      obtain ⟨a1, a2⟩ := pr_bd d0 d1 q0 q1
      obtain ⟨a3, a4⟩ := pr_bd a1 a2 q0 q1
      obtain ⟨r0, r1⟩ := rootF_small d0 d1 q0 q1
      have HK := Lib.hid hk
      have HS2 := Lib.hid (show bestR d (k + 1) = stepR d q (rootF (d * q * q)) S by
        rw [← hS, ← hq]; rfl)
      have HQ := Lib.hid hq
      have hqm : q ≤ (M : Int) := by omega
      rw [hq]
      clear hS hq hk hkM hle hlt2
      go_wp2_with fail
      refine (refRoot_any _ _).mono ?_
      rintro e w1 ⟨rfl, rfl⟩
      obtain ⟨r, hr⟩ : ∃ r, rootF (d * q * q) = r := ⟨_, rfl⟩
      rw [hr] at r0 r1 HS2 ⊢
      clear hr
      go_wp2
      go_loopg [6, 7, 11, 28] 2 (fun gk P Q pv i wr2 => ∃ j : Nat, j + gk = 2 ∧ P = .int .i64 (sel d q r S j).1 ∧ Q = .int .i64 (sel d q r S j).2 ∧ i = .int .i64 (j : Int) ∧ Below (W0.heap.size + 1) (W0.alloc (.cells #[.int .i64 r, .int .i64 (r + 1)] 3)) wr2)
      case atStart => exact ⟨0, by omega, rfl, rfl, rfl, Below.refl _ _⟩
      case round =>
        obtain ⟨j, hj, rfl, rfl, rfl, hb2⟩ := hrel
        have HB2 := Lib.hid hb2
        clear hb2
        by_cases hj2 : j = 2
        · have hge : ¬ (j : Int) < 2 := by omega
          have hge2 : ¬ j < 2 := by omega
          have HE := Lib.hid (show bestR d (k + 1) = sel d q r S j by rw [hj2, sel_two]; exact HS2.out)
          clear hj2 hj
          have HB3 := Lib.hid (HB.out.trans (((Below.refl _ W0).alloc (Nat.le_refl _) (.cells #[.int .i64 r, .int .i64 (r + 1)] 3)).trans (HB2.out.mono (Nat.le_succ _)) |>.mono HB.out.size))
          go_wp2
          go_roundg (M - k - 1)
          case rel => exact ⟨k + 1, by have := HK.out; have := HQ.out; omega, by rw [HE.out], by rw [HE.out], by have := HQ.out; go_num, HB3.out⟩
          case measure => have := HK.out; have := HQ.out; omega
        · have hlt : (j : Int) < 2 := by omega
          have hlt2 : j < 2 := by omega
          have j0 : (0 : Int) ≤ (j : Int) := by omega
          obtain ⟨s0, s1, s2, s3⟩ := sel_bd (d := d) hSb r0 r1 q0 q1 j (by omega)
          have HN := Lib.hid (show sel d q r S (j + 1) = pickF d (r + j) q (sel d q r S j) from rfl)
          obtain ⟨T, hT⟩ : ∃ T, sel d q r S j = T := ⟨_, rfl⟩
          rw [hT] at s0 s1 s2 s3 HN ⊢
          obtain ⟨P, Q⟩ := T
          dsimp only at s0 s1 s2 s3 ⊢
          obtain ⟨p, hp⟩ : ∃ p, r + (j : Int) = p := ⟨_, rfl⟩
          have p0 : 0 ≤ p := by omega
          have p1 : p ≤ 10001 := by omega
          rw [hp] at HN
          have hcell : wr.cell? ⟨W0.heap.size, j, none⟩ = some (.int .i64 p) := by
            rw [HB2.out.cell (p := ⟨W0.heap.size, j, none⟩) (by simp)]
            have : j = 0 ∨ j = 1 := by omega
            rcases this with h | h
            · subst h
              rw [← hp]
              simp [go_sem]
            · subst h
              rw [← hp]
              simp [go_sem]
          have HJ := Lib.hid hj
          have HNR := Lib.hid (fun W => nearer_any d p q P Q W d0 d1 p0 p1 q0 q1 s0 s1 s2 s3)
          clear hT hp hj hj2
          by_cases hz : Q = 0
          · have HE := Lib.hid (show sel d q r S (j + 1) = (p, q) by rw [HN.out]; unfold pickF; rw [decide_eq_true (show (P, Q).2 = 0 from hz)]; rfl)
            clear HN
            subst hz
            go_wp2
            go_roundg (2 - j - 1)
            case rel => exact ⟨j + 1, by have := HJ.out; omega, by rw [HE.out], by rw [HE.out], by go_num, HB2.out⟩
            case measure => have := HJ.out; omega
          · have hzb : (Q == 0) = false := by rw [beq_eq_false_iff_ne]; exact hz
            have HE := Lib.hid (show sel d q r S (j + 1) = bif nearF d p q P Q then (p, q) else (P, Q) by rw [HN.out]; unfold pickF; rw [decide_eq_false (show ¬ (P, Q).2 = 0 from hz)]; rfl)
            clear HN
            obtain ⟨b, hb⟩ : ∃ b, nearF d p q P Q = b := ⟨_, rfl⟩
            rw [hb] at HE HNR
            clear hb
            cases b with
            | true =>
              go_wp2_with (first | (go_at_call 61; refine (HNR.out _).mono ?_; rintro e w' ⟨rfl, rfl⟩))
              go_roundg (2 - j - 1)
              case rel => exact ⟨j + 1, by have := HJ.out; omega, by rw [HE.out]; rfl, by rw [HE.out]; rfl, by go_num, HB2.out⟩
              case measure => have := HJ.out; omega
            | false =>
              go_wp2_with (first | (go_at_call 61; refine (HNR.out _).mono ?_; rintro e w' ⟨rfl, rfl⟩))
              go_roundg (2 - j - 1)
              case rel => exact ⟨j + 1, by have := HJ.out; omega, by rw [HE.out]; rfl, by rw [HE.out]; rfl, by go_num, HB2.out⟩
              case measure => have := HJ.out; omega
end Go.Proofs.Ytbdadckedhcibaa
