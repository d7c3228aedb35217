/- The walks of finder and of Short. Conditions: the numbers are in range. -/
import Derived.Test.YtbdiknlbmjdpeaaFind2
import Derived.Laws.EntriesVeiled
namespace Go.Proofs.Ytbdiknlbmjdpeaa
open Go.RowKit
attribute [local go_sem] Oper.semAt_some


theorem finder_env (gap most : Int) (w : World) : ∀ W1 W2 W3, w.alloc (.cells #[.int .i64 gap] 3) = W1 → W1.alloc (.cells #[.int .i64 most] 3) = W2 → W2.alloc (.cells #[fclo (w.heap.size + 1) (w.heap.size + 2) w.heap.size] 54) = W3 →
    W3.cell? ⟨w.heap.size + 1, 0, none⟩ = some (.int .i64 most) ∧ W3.cell? ⟨w.heap.size + 2, 0, none⟩ = some (fclo (w.heap.size + 1) (w.heap.size + 2) w.heap.size) ∧ W3.cell? ⟨w.heap.size, 0, none⟩ = some (.int .i64 gap) ∧ Below w.heap.size w W3 := by
  intro W1 W2 W3 h1 h2 h3
  have s1 : W1.heap.size = w.heap.size + 1 := by rw [← h1]; simp
  have s2 : W2.heap.size = w.heap.size + 2 := by rw [← h2]; simp [s1]
  have c1 := cell_box w (.int .i64 gap) 3
  have c2 := cell_box W1 (.int .i64 most) 3
  have c3 := cell_box W2 (fclo (w.heap.size + 1) (w.heap.size + 2) w.heap.size) 54
  rw [h1] at c1
  rw [h2, s1] at c2
  rw [h3, s2] at c3
  have b1 : Below w.heap.size w W1 := h1 ▸ (Below.refl _ _).alloc (Nat.le_refl _) _
  have b2 : Below W1.heap.size W1 W2 := h2 ▸ (Below.refl _ _).alloc (Nat.le_refl _) _
  have b3 : Below W2.heap.size W2 W3 := h3 ▸ (Below.refl _ _).alloc (Nat.le_refl _) _
  exact ⟨cell_later c2 b3, c3, cell_later (cell_later c1 b2) b3, (b1.trans (b2.mono b1.size)).trans (b3.mono (by omega))⟩
set_option maxHeartbeats 4000000 in
set_option maxRecDepth 100000 in
theorem finder_any (gap most : Nat) (w : World) :
    Calls Try.prog 42 #[.int .i64 (gap : Int), .int .i64 (most : Int)] w fun e w' => (∃ gm gf gg, e = .returned (.func (.func 56) #[] #[.pointer (some ⟨gm, 0, none⟩), .pointer (some ⟨gf, 0, none⟩), .pointer (some ⟨gg, 0, none⟩)]) ∧ FEnv gm gf gg most gap w') ∧ Below w.heap.size w w' := by
  have HE := Lib.hid (finder_env (gap : Int) (most : Int) w)
  go_enter Try.func42, Try.ntmps42
  go_wp2
  go_ret
  obtain ⟨e1, e2, e3, e4⟩ := HE.out _ _ _ rfl rfl rfl
  exact ⟨⟨_, _, _, rfl, ⟨e1, e2, e3⟩⟩, e4⟩

theorem fitB_short {most : Nat} (hm : most ≤ 300) : ∀ {t den : Nat}, den * 300 ^ t * (t + 2) ≤ 100000000000000 → fitB most t den
  | 0, den, h => by
    unfold fitB
    have : den ≤ den * 300 ^ 0 * (0 + 2) := by rw [Nat.pow_zero, Nat.mul_one]; exact Nat.le_mul_of_pos_right _ (by omega)
    exact Nat.le_trans (Nat.le_trans this h) (by decide)
  | t + 1, den, h => by
    unfold fitB
    have h1 : (t + 2) * den ≤ den * 300 ^ (t + 1) * (t + 1 + 2) := by
      rw [Nat.mul_comm (t + 2)]
      refine Nat.mul_le_mul (Nat.le_mul_of_pos_right _ (Nat.pow_pos (by decide))) (by omega)
    refine ⟨Nat.le_trans (Nat.le_trans h1 h) (by decide), fun d hd _ => fitB_short hm ?_⟩
    refine Nat.le_trans ?_ h
    have e : den * d * 300 ^ t = den * (300 ^ t * d) := by rw [Nat.mul_assoc, Nat.mul_comm d]
    rw [e]
    refine Nat.mul_le_mul (Nat.mul_le_mul_left den ?_) (by omega)
    rw [Nat.pow_succ]
    exact Nat.mul_le_mul_left _ (by omega)
theorem fit_short {most t den : Nat} (hm : most ≤ 300) (ht : t ≤ 3) (hd : den ≤ 60) : den * 300 ^ t * (t + 2) ≤ 100000000000000 := by
  have h1 : 300 ^ t ≤ 300 ^ 3 := Nat.pow_le_pow_right (by decide) ht
  exact Nat.le_trans (Nat.mul_le_mul (Nat.mul_le_mul hd h1) (show t + 2 ≤ 5 by omega)) (by decide)

/-- The arguments that Short takes. -/
def shortOk (a b t m : Int) : Bool := isSh a b && decide (1 ≤ t) && decide (t ≤ 4) && decide (2 ≤ m) && decide (m ≤ 300)
/-- What Short answers. -/
def shC (most a b c : Nat) : Option (List Nat) := fnd 1 most (c - 1) a b 1
def shF (most terms a b : Nat) : Option (List Nat) := fs (shC most a b) 1 terms
/-- A list, or ErrNone. -/
def SRes (R : Option (List Nat)) (B : Nat) (e : Ending) (w' : World) : Prop :=
  match R with
  | some L => ∃ g c, e = .returned (.tuple #[.slice (some ⟨g, 0, none⟩) L.length c, .int .i64 0]) ∧ Row B (.slice (some ⟨g, 0, none⟩) L.length c) (nats L) w'
  | none => e = .returned (.tuple #[.slice none 0 0, .int .i64 4])
theorem Short_no (a b t m : Int) (h : shortOk a b t m = false) (w : World) :
    Calls Try.prog 22 #[.int .i64 a, .int .i64 b, .int .i64 t, .int .i64 m] w fun e w' => e = .returned (.tuple #[.slice none 0 0, .int .i64 2]) ∧ w = w' := by
  have hV := fun w => valid_any a b w
  unfold shortOk at h
  obtain ⟨B, hB⟩ : ∃ B, isSh a b = B := ⟨_, rfl⟩
  rw [hB] at hV h
  have HV := Lib.hid hV
  clear hV hB
  cases B with
  | false =>
    clear h
    go_enter Try.func22, Try.ntmps22
    go_wp2_with fail
    refine (HV.out _).mono ?_
    rintro e w1 ⟨rfl, rfl⟩
    go_wp2
    go_ret2
    exact ⟨rfl, rfl⟩
  | true =>
    by_cases h1 : t < 1
    · clear h
      have b1 : decide (t < 1) = true := by simpa using h1
      go_enter Try.func22, Try.ntmps22
      go_wp2_with fail
      refine (HV.out _).mono ?_
      rintro e w1 ⟨rfl, rfl⟩
      go_wp2
      go_ret2
      exact ⟨rfl, rfl⟩
    · have b1 : decide (t < 1) = false := by simpa using h1
      by_cases h2 : 4 < t
      · clear h
        have b2 : decide (4 < t) = true := by simpa using h2
        go_enter Try.func22, Try.ntmps22
        go_wp2_with fail
        refine (HV.out _).mono ?_
        rintro e w1 ⟨rfl, rfl⟩
        go_wp2
        go_ret2
        exact ⟨rfl, rfl⟩
      · have b2 : decide (4 < t) = false := by simpa using h2
        by_cases h3 : m < 2
        · clear h
          have b3 : decide (m < 2) = true := by simpa using h3
          go_enter Try.func22, Try.ntmps22
          go_wp2_with fail
          refine (HV.out _).mono ?_
          rintro e w1 ⟨rfl, rfl⟩
          go_wp2
          go_ret2
          exact ⟨rfl, rfl⟩
        · have b3 : decide (m < 2) = false := by simpa using h3
          by_cases h4 : 300 < m
          · clear h
            have b4 : decide (300 < m) = true := by simpa using h4
            go_enter Try.func22, Try.ntmps22
            go_wp2_with fail
            refine (HV.out _).mono ?_
            rintro e w1 ⟨rfl, rfl⟩
            go_wp2
            go_ret2
            exact ⟨rfl, rfl⟩
          · exfalso
            have g1 : decide (1 ≤ t) = true := by simp; omega
            have g2 : decide (t ≤ 4) = true := by simp; omega
            have g3 : decide (2 ≤ m) = true := by simp; omega
            have g4 : decide (m ≤ 300) = true := by simp; omega
            rw [g1, g2, g3, g4] at h
            cases h

set_option maxHeartbeats 4000000 in
set_option maxRecDepth 100000 in
theorem Short_yes (a b t m : Nat) (ha : 0 < a) (hab : a < b) (hb : b ≤ 60) (ht1 : 1 ≤ t) (ht : t ≤ 4) (hm2 : 2 ≤ m) (hm : m ≤ 300) (w : World) :
    Calls Try.prog 22 #[.int .i64 (a : Int), .int .i64 (b : Int), .int .i64 (t : Int), .int .i64 (m : Int)] w fun e w' => SRes (shF m t a b) w.heap.size e w' ∧ Below w.heap.size w w' := by
  have hV := fun w => valid_any a b w
  rw [isSh_spec.2 ⟨by omega, by omega, by omega⟩] at hV
  have HV := Lib.hid hV
  obtain ⟨R, hR⟩ : ∃ R, shF m t a b = R := ⟨_, rfl⟩
  rw [hR]
  unfold shF at hR
  have HR := Lib.hid hR
  have b1 : ¬ (t : Int) < 1 := by omega
  have b2 : ¬ (4 : Int) < (t : Int) := by omega
  have b3 : ¬ (m : Int) < 2 := by omega
  have b4 : ¬ (300 : Int) < (m : Int) := by omega
  clear hV hR
  go_enter Try.func22, Try.ntmps22
  go_wp2_with fail
  refine (HV.out _).mono ?_
  rintro e w1 ⟨rfl, rfl⟩
  go_wp2_with fail
  refine (finder_any 1 m _).mono ?_
  rintro e w1 ⟨⟨gm, gf, gg, rfl, he⟩, hb1⟩
  have HE := Lib.hid he
  have HB1 := Lib.hid hb1
  clear he hb1
  go_wp2
  go_loopg [11] t (fun gk s11 wr => ∃ c : Nat, s11 = .int .i64 (c : Int) ∧ c + gk = t + 1 ∧ 1 ≤ c ∧ fs (shC m a b) c gk = R ∧ Below w1.heap.size w1 wr)
  case atStart => exact ⟨1, rfl, by omega, Nat.le_refl _, HR.out, Below.refl _ _⟩
  case round =>
    obtain ⟨c, rfl, hgk, hc1, hfs, hb⟩ := hrel
    have HFS := Lib.hid hfs
    have HB := Lib.hid hb
    have HGK := Lib.hid hgk
    clear hfs hb
    by_cases hct : c ≤ t
    · obtain ⟨k, rfl⟩ : ∃ k, gk = k + 1 := ⟨gk - 1, by omega⟩
      have l1 : (c : Int) ≤ (t : Int) := by omega
      obtain ⟨d, hd⟩ : ∃ d, c = d + 1 := ⟨c - 1, by omega⟩
      have hF := fun w he => find_any 1 m gm gf gg (by omega) d a b 1 w (by omega) ha (by omega) (Nat.le_trans (Nat.le_of_lt hab) (Nat.le_trans hb (by decide))) (fitB_short hm (fit_short hm (by omega) hb)) (by omega) he
      have hfn : shC m a b c = fnd 1 m d a b 1 := by unfold shC; rw [hd]; rfl
      rw [← hd] at hF
      obtain ⟨R', hR'⟩ : ∃ R', fnd 1 m d a b 1 = R' := ⟨_, rfl⟩
      rw [hR'] at hF hfn
      have hF2 := hF wr (HE.out.below HB.out)
      have HF := Lib.hid hF2
      have HFN := Lib.hid hfn
      clear hgk hd hF hfn hR' hF2
      go_wp2_with fail
      refine HF.out.mono ?_
      rintro e w2 ⟨hf, hb2⟩
      have HB2 := Lib.hid (HB.out.trans (hb2.mono HB.out.size))
      clear hb2
      cases R' with
      | none =>
        have he : e = .returned (.slice none 0 0) := hf
        subst he
        have hfs := HFS.out
        rw [fs_no k HFN.out] at hfs
        have HFX := Lib.hid hfs
        clear hf hfs
        go_wp2
        go_roundg k
        case rel => exact ⟨c + 1, by go_num, by have := HGK.out; omega, by omega, HFX.out, HB2.out⟩
        case measure => omega
      | some L =>
        obtain ⟨g, cc, rfl, hr⟩ := hf
        have hfs := HFS.out
        rw [fs_yes k HFN.out] at hfs
        have HFX := Lib.hid hfs
        have hsz : w.heap.size ≤ wr.heap.size := Nat.le_trans HB1.out.size HB.out.size
        have HR2 := Lib.hid (hr.mono hsz)
        have HB3 := Lib.hid (HB1.out.trans (HB2.out.mono HB1.out.size))
        clear hr hfs hsz
        go_wp2
        go_ret2
        refine ⟨?_, HB3.out⟩
        rw [← HFX.out]
        exact ⟨g, cc, rfl, HR2.out⟩
    · have l1 : ¬ (c : Int) ≤ (t : Int) := by omega
      obtain rfl : gk = 0 := by omega
      have hfs := HFS.out
      rw [fs_zero] at hfs
      have HFX := Lib.hid hfs
      have HB3 := Lib.hid (HB1.out.trans (HB.out.mono HB1.out.size))
      clear hgk hfs
      go_wp2
      go_ret2
      refine ⟨?_, HB3.out⟩
      rw [← HFX.out]
      exact rfl
end Go.Proofs.Ytbdiknlbmjdpeaa
