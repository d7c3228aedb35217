/- The walk of lift. Condition: the slice lies in memory, the numbers are in range. -/
import Derived.Test.YtjlaclbgfidiiaaDeriv
namespace Go.Proofs.Ytjlaclbgfidiiaa
open Go.RowKit
attribute [local go_sem] Oper.semAt_some

theorem Row.ints {B : Nat} {v : Value} {xs : List Int} {W : World} (h : Row B v xs W) : ∃ a n c, v = .slice a n c ∧ Ints W a n xs ∧ n = xs.length := by
  obtain ⟨a, c, h1, h2, -, -⟩ := h.form
  exact ⟨a, _, c, h1, h2, rfl⟩
theorem dv_bound {x0 : Int} {t : List Int} {m : Nat} (hl : t.length = m) (hm : m ≤ 20) (hx : ∀ j, j < m + 1 → -2000 ≤ (x0 :: t).getD j 0 ∧ (x0 :: t).getD j 0 ≤ 2000) : ∀ j, j < m → -100000 ≤ (dvF 1 t).getD j 0 ∧ (dvF 1 t).getD j 0 ≤ 100000 := by
  intro j hj
  rw [dvF_get]
  have h1 := hx (j + 1) (by omega)
  rw [List.getD_cons_succ] at h1
  have := mul_abs (show 0 ≤ (1 : Int) + (j : Int) by omega) (show (1 : Int) + (j : Int) ≤ 21 by omega) h1.1 h1.2
  omega
/-- What lift returns: the root above r. -/
structure LRes (f : List Int) (q k : Nat) (r X : Int) : Prop where
  x0 : 0 ≤ X
  x1 : X < ((q ^ k : Nat) : Int)
  r : X % (q : Int) = r
  e : ev f X % ((q ^ k : Nat) : Int) = 0
theorem pow_pos_of {q : Nat} (h : 2 ≤ q) (k : Nat) : 0 < q ^ k := Nat.pow_pos (by omega)

set_option maxHeartbeats 4000000 in
set_option maxRecDepth 100000 in
theorem lift_any (a : Option Addr) (n c : Nat) (f : List Int) (q k : Nat) (r : Int) (w : World) (h : Ints w a n f) (hn1 : 2 ≤ n) (hn : n ≤ 20) (hx : ∀ j, j < n → -2000 ≤ f.getD j 0 ∧ f.getD j 0 ≤ 2000)
    (hq : q ∈ [2, 3, 5, 7, 11, 13]) (hk : 1 ≤ k) (hM : q ^ k ≤ 20000) (r0 : 0 ≤ r) (r1 : r < (q : Int)) (er : (q : Int) ∣ ev f r) (dr : ¬ (q : Int) ∣ dev f r) :
    Calls Try.prog 59 #[.slice a n c, .int .i64 (q : Int), .int .i64 ((q ^ k : Nat) : Int), .int .i64 r] w fun e w' => (∃ X, e = .returned (.int .i64 X) ∧ LRes f q k r X) ∧ Below w.heap.size w w' := by
  obtain ⟨q2, q13⟩ := pr_bounds hq
  obtain ⟨x0, t, rfl⟩ : ∃ x0 t, f = x0 :: t := by
    cases f with
    | nil => have := h.1; simp at this; omega
    | cons x t => exact ⟨x, t, rfl⟩
  obtain ⟨m, rfl⟩ : ∃ m, n = m + 1 := ⟨n - 1, by omega⟩
  have hl : t.length = m := by have := h.1; simpa using this
  have hq0 : (q : Int) ≠ 0 := by omega
  have HD := Lib.hid (fun w1 (hb : Below w.heap.size w w1) => derivative_any a m c x0 t w1 (h.below hb) (by omega) hx)
  have hdb := dv_bound hl (by omega) hx
  have HA1 := Lib.hid (fun g w1 (h1 : Ints w1 (some ⟨g, 0, none⟩) m (dvF 1 t)) => at_any (some ⟨g, 0, none⟩) m m (dvF 1 t) r (q : Int) w1 h1 (by omega) hdb r0 r1 (by omega))
  rw [ev_dv r x0 t] at HA1
  have HA2 := Lib.hid (fun w1 (hb : Below w.heap.size w w1) X (h0 : 0 ≤ X) (h1 : X < ((q ^ k : Nat) : Int)) => at_any a (m + 1) c (x0 :: t) X ((q ^ k : Nat) : Int) w1 (h.below hb) (by omega) (fun j hj => ⟨by have := (hx j hj).1; omega, by have := (hx j hj).2; omega⟩) h0 h1 (by omega))
  obtain ⟨f, hf⟩ : ∃ f, x0 :: t = f := ⟨_, rfl⟩
  rw [hf] at er dr HA1 HA2 ⊢
  have dn0 := Int.emod_nonneg (dev f r) hq0
  have dn1 := Int.emod_lt_of_pos (dev f r) (show (0 : Int) < q by omega)
  have dn2 : dev f r % (q : Int) ≠ 0 := fun e => dr (Int.dvd_of_emod_eq_zero e)
  obtain ⟨D, hD⟩ : ∃ D, dev f r % (q : Int) = D := ⟨_, rfl⟩
  rw [hD] at dn0 dn1 dn2
  simp only [hD] at HA1
  have HI := Lib.hid (fun w1 => inverse_any q hq D w1 (by omega) dn1)
  have hqk := pow_pos_of q2 k
  have hqq : q ≤ q ^ k := by have := Nat.pow_le_pow_right (n := q) (i := 1) (j := k) (by omega) hk; simpa using this
  have HPOW : RowKit.Hid (∀ i, i ≤ k → ((q ^ i : Nat) : Int) = (q : Int) ^ i) := Lib.hid (fun i _ => Int.natCast_pow q i)
  have HPL : RowKit.Hid (∀ i, i < k → q ^ i * q ≤ q ^ k ∧ q ^ i < q ^ k) := Lib.hid (fun i hi => by
    have h1 : q ^ (i + 1) ≤ q ^ k := Nat.pow_le_pow_right (by omega) hi
    have h2 := pow_pos_of q2 i
    rw [Nat.pow_succ] at h1
    exact ⟨h1, Nat.lt_of_lt_of_le (by have := Nat.mul_le_mul_left (q ^ i) q2; omega) h1⟩)
  have HPS : RowKit.Hid (∀ i, q ^ (i + 1) = q ^ i * q) := Lib.hid (fun i => Nat.pow_succ q i)
  have HDV : RowKit.Hid (∀ u, D * u % (q : Int) = 1 → (q : Int) ∣ dev f r * u - 1) := Lib.hid (fun u hu => by
    have h1 : (q : Int) ∣ dev f r * u - D * u := by
      rw [← Int.sub_mul, ← hD]
      exact Int.dvd_mul_of_dvd_left (by have := emod_sub_dvd (dev f r) (q : Int); obtain ⟨s, hs⟩ := this; exact ⟨-s, by rw [Int.mul_neg]; omega⟩)
    have h2 : (q : Int) ∣ D * u - 1 := by have := emod_sub_dvd (D * u) (q : Int); rw [hu] at this; obtain ⟨s, hs⟩ := this; exact ⟨-s, by rw [Int.mul_neg]; omega⟩
    have h3 := Int.dvd_add h1 h2
    rwa [show dev f r * u - D * u + (D * u - 1) = dev f r * u - 1 by omega] at h3)
  have HFIN : RowKit.Hid (∀ X, 0 ≤ X → X < ((q ^ k : Nat) : Int) → (q : Int) ∣ X - r → ((q ^ k : Nat) : Int) ∣ ev f X → LRes f q k r X) := Lib.hid (fun X a b hc d =>
    ⟨a, b, by rw [dvd_emod hc, Int.emod_eq_of_lt r0 r1], Int.emod_eq_zero_of_dvd d⟩)
  have HSTEP : RowKit.Hid (∀ j X Y u, 0 < j → j < k → (q : Int) ∣ X - r → (q : Int) ∣ dev f r * u - 1 → ((q ^ j : Nat) : Int) ∣ ev f X → Y = (X - ev f X % ((q ^ k : Nat) : Int) * u) % ((q ^ k : Nat) : Int) → (q : Int) ∣ Y - r ∧ ((q ^ (j + 1) : Nat) : Int) ∣ ev f Y) := Lib.hid (fun j X Y u j0 jk a1 a2 a3 a4 => by
    have b := lift_step (f := f) (v := ev f X % ((q ^ k : Nat) : Int)) j0 jk a1 a2 (by rw [← Int.natCast_pow]; exact a3) (by rw [← Int.natCast_pow]; exact emod_sub_dvd _ _) (y := Y) (by rw [← Int.natCast_pow, a4]; exact emod_sub_dvd _ _)
    rw [← Int.natCast_pow] at b
    exact b)
  have HER : RowKit.Hid (((q ^ 1 : Nat) : Int) ∣ ev f r) := Lib.hid (by rw [Nat.pow_one]; exact er)
  have HK := Lib.hid hk
  clear h hx hq er dr hdb hl hD hf hk
  obtain ⟨M, hMM⟩ : ∃ M, q ^ k = M := ⟨_, rfl⟩
  rw [hMM] at hM hqk hqq HA2 HFIN HSTEP HPL ⊢
  have HMM := Lib.hid hMM
  clear hMM
  go_enter Try.func59, Try.ntmps59
  go_wp2_with fail
  refine (HD.out w (Below.refl _ _)).mono ?_
  rintro e w1 ⟨g, rfl, hr, hb⟩
  have HB := Lib.hid hb
  obtain ⟨a1, n1, c1, e1, i1, en⟩ := hr.ints
  cases e1
  have HA3 := Lib.hid (HA1.out g w1 i1)
  clear hr hb i1 en HA1 HD
  go_wp2_with fail
  refine HA3.out.mono ?_
  rintro e w2 ⟨rfl, rfl⟩
  go_wp2_with fail
  refine (HI.out _).mono ?_
  rintro e w2 ⟨⟨u, rfl, u0, u1, hu⟩, rfl⟩
  have HU := Lib.hid (HDV.out u hu)
  clear hu HDV HI HA3
  go_wp2
  go_loopg [10, 11] (k - 1) (fun gk s10 s11 wr => ∃ (j P : Nat) (X : Int), s10 = .int .i64 X ∧ s11 = .int .i64 (P : Int) ∧ RowKit.Hid (q ^ j = P) ∧ P ≤ M ∧ 1 ≤ j ∧ j + gk = k ∧ 0 ≤ X ∧ X < (M : Int) ∧ RowKit.Hid ((q : Int) ∣ X - r) ∧ RowKit.Hid ((P : Int) ∣ ev f X) ∧ wr = w1)
  case atStart => exact ⟨1, q, r, rfl, rfl, Lib.hid (Nat.pow_one q), hqq, by omega, by have := HK.out; omega, r0, by omega, Lib.hid ⟨0, by omega⟩, Lib.hid (by have := HER.out; rw [Nat.pow_one] at this; exact this), rfl⟩
  case round =>
    obtain ⟨j, P, X, rfl, rfl, HP, hPM, hj1, hjk, hX0, hX1, HXR, HXE, rfl⟩ := hrel
    have HJ := Lib.hid hjk
    by_cases hlt : P < M
    · have l1 : (P : Int) < (M : Int) := by omega
      have hjk2 : j < k := by
        apply Decidable.byContradiction
        intro hc
        have e : j = k := by omega
        have := HP.out
        rw [e, HMM.out] at this
        omega
      have hA := HA2.out wr HB.out X hX0 hX1
      have HSX := Lib.hid (fun Y (e : Y = (X - ev f X % (M : Int) * u) % (M : Int)) => HSTEP.out j X Y u (by omega) hjk2 HXR.out HU.out (by rw [HP.out]; exact HXE.out) e)
      have v0 := Int.emod_nonneg (ev f X) (show (M : Int) ≠ 0 by omega)
      have v1 := Int.emod_lt_of_pos (ev f X) (show (0 : Int) < (M : Int) by omega)
      obtain ⟨V, hV⟩ : ∃ V, ev f X % (M : Int) = V := ⟨_, rfl⟩
      rw [hV] at hA v0 v1
      simp only [hV] at HSX
      obtain ⟨p0, p1⟩ := prod_le v0 (show V ≤ 20000 by omega) u0 (show u ≤ 13 by omega)
      have hC := fun w => residue_any (X - V * u) (M : Int) w (by omega) (by omega) (by omega) (by omega)
      have y0 := Int.emod_nonneg (X - V * u) (show (M : Int) ≠ 0 by omega)
      have y1 := Int.emod_lt_of_pos (X - V * u) (show (0 : Int) < (M : Int) by omega)
      obtain ⟨Y, hY⟩ : ∃ Y, (X - V * u) % (M : Int) = Y := ⟨_, rfl⟩
      rw [hY] at y0 y1
      simp only [hY] at hC
      have HY := Lib.hid (HSX.out Y hY.symm)
      have hPL := (HPL.out j hjk2).1
      rw [HP.out] at hPL
      have HPQ := Lib.hid (HPS.out j)
      rw [HP.out] at HPQ
      obtain ⟨PQ, hPQ⟩ : ∃ PQ, P * q = PQ := ⟨_, rfl⟩
      rw [hPQ] at hPL HPQ
      have epq : (P : Int) * (q : Int) = (PQ : Int) := by rw [← hPQ]; simp
      have pq1 : (PQ : Int) ≤ 20000 := by omega
      have pq0 : (0 : Int) ≤ (PQ : Int) := by omega
      rw [HPQ.out] at HY
      have HC := Lib.hid hC
      have HA := Lib.hid hA
      clear hC hA hV hY hPQ HSX HXR HXE hjk
      go_wp2_with fail
      refine HA.out.mono ?_
      rintro e w2 ⟨rfl, rfl⟩
      go_wp2_with fail
      refine (HC.out _).mono ?_
      rintro e w2 ⟨rfl, rfl⟩
      go_wp2
      go_roundg (gk - 1)
      case rel => exact ⟨j + 1, PQ, Y, rfl, rfl, HPQ, hPL, by omega, by have := HJ.out; omega, y0, y1, Lib.hid HY.out.1, Lib.hid HY.out.2, rfl⟩
      case measure => have := HJ.out; omega
    · have l1 : ¬ (P : Int) < (M : Int) := by omega
      have e : P = M := by omega
      have hF := HFIN.out X hX0 hX1 HXR.out (by rw [← e]; exact HXE.out)
      have HF := Lib.hid hF
      clear hF e hjk
      go_wp2
      go_ret
      exact ⟨⟨X, rfl, HF.out⟩, HB.out⟩
end Go.Proofs.Ytjlaclbgfidiiaa
