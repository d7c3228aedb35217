/- The walks of unmoved, Teich and Square, and of the reference's. Condition: the numbers are in range. -/
import Derived.Test.YtjlaclbgfidiiaaRefLift
namespace Go.Proofs.Ytjlaclbgfidiiaa
open Go.RowKit
attribute [local go_sem] Oper.semAt_some

/-- x^q - x, as coefficients. -/
def unmL (q : Nat) : List Int := (List.range (q + 1)).map fun j => if j = q then 1 else if j = 1 then -1 else 0
theorem unmL_at {q j : Nat} (h : j < q + 1) : (unmL q).getD j 0 = if j = q then 1 else if j = 1 then -1 else 0 := by
  simp [unmL, List.getD, h]
theorem unmL_len (q : Nat) : (unmL q).length = q + 1 := by simp [unmL]
theorem unm_ev {q : Nat} (hq : q ∈ [2, 3, 5, 7, 11, 13]) (x : Int) : ev (unmL q) x = x ^ q - x := by
  simp only [List.mem_cons, List.not_mem_nil, or_false] at hq
  rcases hq with rfl | rfl | rfl | rfl | rfl | rfl
  · rw [show unmL 2 = [0, -1, 1] by decide]; simp only [ev]; grind
  · rw [show unmL 3 = [0, -1, 0, 1] by decide]; simp only [ev]; grind
  · rw [show unmL 5 = [0, -1, 0, 0, 0, 1] by decide]; simp only [ev]; grind
  · rw [show unmL 7 = [0, -1, 0, 0, 0, 0, 0, 1] by decide]; simp only [ev]; grind
  · rw [show unmL 11 = [0, -1, 0, 0, 0, 0, 0, 0, 0, 0, 0, 1] by decide]; simp only [ev]; grind
  · rw [show unmL 13 = [0, -1, 0, 0, 0, 0, 0, 0, 0, 0, 0, 0, 0, 1] by decide]; simp only [ev]; grind
theorem unm_dev {q : Nat} (hq : q ∈ [2, 3, 5, 7, 11, 13]) (x : Int) : dev (unmL q) x = (q : Int) * x ^ (q - 1) - 1 := by
  simp only [List.mem_cons, List.not_mem_nil, or_false] at hq
  rcases hq with rfl | rfl | rfl | rfl | rfl | rfl
  · rw [show unmL 2 = [0, -1, 1] by decide]; simp only [ev, dev]; grind
  · rw [show unmL 3 = [0, -1, 0, 1] by decide]; simp only [ev, dev]; grind
  · rw [show unmL 5 = [0, -1, 0, 0, 0, 1] by decide]; simp only [ev, dev]; grind
  · rw [show unmL 7 = [0, -1, 0, 0, 0, 0, 0, 1] by decide]; simp only [ev, dev]; grind
  · rw [show unmL 11 = [0, -1, 0, 0, 0, 0, 0, 0, 0, 0, 0, 1] by decide]; simp only [ev, dev]; grind
  · rw [show unmL 13 = [0, -1, 0, 0, 0, 0, 0, 0, 0, 0, 0, 0, 0, 1] by decide]; simp only [ev, dev]; grind
theorem unm_nd {q : Nat} (hq : q ∈ [2, 3, 5, 7, 11, 13]) (x : Int) : ¬ (q : Int) ∣ dev (unmL q) x := by
  rw [unm_dev hq]
  rintro ⟨s, hs⟩
  have h2 := (pr_bounds hq).1
  have h1 : (q : Int) ∣ 1 := ⟨x ^ (q - 1) - s, by rw [Int.mul_sub]; omega⟩
  have := Int.le_of_dvd (by omega) h1
  omega
theorem unm_root {q : Nat} (hq : q ∈ [2, 3, 5, 7, 11, 13]) {r : Int} (r0 : 0 ≤ r) (r1 : r < (q : Int)) : (q : Int) ∣ ev (unmL q) r := by
  rw [unm_ev hq]
  obtain ⟨R, rfl⟩ : ∃ R : Nat, r = (R : Int) := ⟨r.toNat, by omega⟩
  have h := fermatF q hq R (by omega)
  refine Int.dvd_of_emod_eq_zero ?_
  have e : (R : Int) ^ q % (q : Int) = (R : Int) := by rw [← Int.natCast_pow, ← Int.natCast_emod, h]
  rw [Int.sub_emod, e, Int.emod_eq_of_lt r0 r1, Int.sub_self, Int.zero_emod]
theorem unm_ex {q k : Nat} (hq : q ∈ [2, 3, 5, 7, 11, 13]) (hk : 1 ≤ k) {r : Int} (r0 : 0 ≤ r) (r1 : r < (q : Int)) : ∃ X, LRes (unmL q) q k r X :=
  LRes_ex hq (unm_root hq r0 r1) (unm_nd hq r) hk r0 r1

set_option maxHeartbeats 4000000 in
set_option maxRecDepth 100000 in
theorem unmoved_any (q : Nat) (q2 : 2 ≤ q) (q13 : q ≤ 13) (w : World) :
    Calls Try.prog 72 #[.int .i64 (q : Int)] w fun e w' => ∃ g, e = .returned (.slice (some ⟨g, 0, none⟩) (q + 1) (q + 1)) ∧ Row w.heap.size (.slice (some ⟨g, 0, none⟩) (q + 1) (q + 1)) (unmL q) w' ∧ Below w.heap.size w w' := by
  obtain ⟨i0, hi, hz0, hz1, hz2⟩ := info_parts info3
  obtain ⟨N, hN⟩ : ∃ N, q + 1 = N := ⟨_, rfl⟩
  have HL : RowKit.Hid ((unmL q).length = N) := Lib.hid (by rw [unmL_len, hN])
  have HA : RowKit.Hid (∀ j, j < N → (unmL q).getD j 0 = if j = q then 1 else if j = 1 then -1 else 0) := Lib.hid (fun j hj => unmL_at (by omega))
  rw [hN]
  have eN : (q : Int) + 1 = (N : Int) := by omega
  have q00 : (0 : Int) ≤ (q : Int) := by omega
  have N0 : (0 : Int) ≤ (N : Int) := by omega
  have N14 : N ≤ 14 := by omega
  have l1 : (q : Int) < (N : Int) := by omega
  have l2 : (1 : Int) < (N : Int) := by omega
  have l3 : q < N := by omega
  have l4 : 1 < N := by omega
  clear hN
  go_enter Try.func72, Try.ntmps72
  go_wp2_with (at_make; refine wpList_make_full _ rfl _ _ 86 rfl w.heap.size 3 i0 (.int .i64 0) 1 Try.underlying86 hi hz0 hz1 _ _ _ _ N rfl rfl (by omega) (by omega) (by rw [hz2]; omega) (by unfold maxLen; omega) (Nat.le_refl _) ?_; intro w1 hown hgrow; have hs0 := CoState.made hown ((Below.refl w.heap.size w).grown hgrow (Nat.le_refl _) (fun k e => by cases e)); have c1 := hs0.cell (j := 1) (by omega); have cq := hs0.cell (j := q) (by omega); have f1 := hs0.frozen 1; have fq := hs0.frozen q; have S0 := Lib.hid hs0; clear hown hgrow hs0)
  go_ret
  have hs := ((S0.out.put 1 (-1)).put q 1).congr (f' := fun j => if j = q then 1 else if j = 1 then -1 else 0) fun j _ => rfl
  have ho := hs.own
  rw [range_cells (unmL q) N HL.out _ (fun j hj => (HA.out j hj).symm)] at ho
  exact ⟨_, rfl, (Row.of ho).1, hs.b⟩

theorem Teich_no (r p k : Int) (w : World) (hno : (isPK p k && (decide (0 ≤ r) && decide (r < p))) = false) :
    Calls Try.prog 41 #[.int .i64 r, .int .i64 p, .int .i64 k] w fun e w' => e = .returned (.tuple #[.int .i64 0, .int .i64 2]) ∧ w = w' := by
  have hP := fun w => power_any p k w
  cases hpk : isPK p k with
  | false =>
    rw [hpk] at hP
    have HP := Lib.hid hP
    clear hP hno hpk
    go_enter Try.func41, Try.ntmps41
    go_wp2_with fail
    refine (HP.out _).mono ?_
    rintro e w1 ⟨rfl, rfl⟩
    go_wp2
    go_ret2
    exact ⟨rfl, rfl⟩
  | true =>
    rw [hpk] at hP
    rw [hpk, Bool.true_and] at hno
    have HP := Lib.hid hP
    by_cases h0 : r < 0
    · clear hP hno hpk
      go_enter Try.func41, Try.ntmps41
      go_wp2_with fail
      refine (HP.out _).mono ?_
      rintro e w1 ⟨rfl, rfl⟩
      go_wp2
      go_ret2
      exact ⟨rfl, rfl⟩
    · have h1 : p ≤ r := by
        rw [decide_eq_true (show 0 ≤ r by omega), Bool.true_and, decide_eq_false_iff_not] at hno
        omega
      clear hP hno hpk
      go_enter Try.func41, Try.ntmps41
      go_wp2_with fail
      refine (HP.out _).mono ?_
      rintro e w1 ⟨rfl, rfl⟩
      go_wp2
      go_ret2
      exact ⟨rfl, rfl⟩
set_option maxHeartbeats 4000000 in
set_option maxRecDepth 100000 in
theorem Teich_yes (r : Int) (q k : Nat) (w : World) (hpk : isPK (q : Int) (k : Int) = true) (r0 : 0 ≤ r) (r1 : r < (q : Int)) :
    Calls Try.prog 41 #[.int .i64 r, .int .i64 (q : Int), .int .i64 (k : Int)] w fun e w' => (∃ X, e = .returned (.tuple #[.int .i64 X, .int .i64 0]) ∧ LRes (unmL q) q k r X) ∧ Below w.heap.size w w' := by
  have hP := fun w => power_any (q : Int) (k : Int) w
  rw [pkN_yes hpk, hpk] at hP
  obtain ⟨q', j, e1, e2, hq, hk1, -, hM⟩ := isPK_spec hpk
  obtain rfl : q = q' := by omega
  obtain rfl : k = j := by omega
  obtain ⟨q2, q13⟩ := pr_bounds hq
  have HU := Lib.hid (fun w => unmoved_any q q2 q13 w)
  have hL := fun g w1 (h : Ints w1 (some ⟨g, 0, none⟩) (q + 1) (unmL q)) => lift_any (some ⟨g, 0, none⟩) (q + 1) (q + 1) (unmL q) q k r w1 h (by omega) (by omega) (fun j hj => by
    rw [unmL_at hj]; split
    · omega
    · split <;> omega) hq hk1 hM r0 r1 (unm_root hq r0 r1) (unm_nd hq r)
  obtain ⟨M, hMM⟩ : ∃ M, q ^ k = M := ⟨_, rfl⟩
  rw [hMM] at hP hL
  obtain ⟨N, hN⟩ : ∃ N, q + 1 = N := ⟨_, rfl⟩
  rw [hN] at HU hL
  have HNL : RowKit.Hid ((unmL q).length = N) := Lib.hid (by rw [unmL_len, hN])
  have HP := Lib.hid hP
  have HL := Lib.hid hL
  have r1' : ¬ (q : Int) ≤ r := by omega
  have r0' : ¬ r < 0 := by omega
  clear hP hL hpk hq hMM hN e1 e2
  go_enter Try.func41, Try.ntmps41
  go_wp2_with fail
  refine (HP.out _).mono ?_
  rintro e w1 ⟨rfl, rfl⟩
  go_wp2_with fail
  refine (HU.out _).mono ?_
  rintro e w1 ⟨g, rfl, hr, hb⟩
  obtain ⟨a1, n1, c1, ea, i1, en⟩ := hr.ints
  cases ea
  have HL2 := Lib.hid (HL.out g w1 i1)
  have HB := Lib.hid hb
  clear hr hb i1 en HL HU
  go_wp2_with fail
  refine HL2.out.mono ?_
  rintro e w2 ⟨⟨X, rfl, hX⟩, hb⟩
  have HX := Lib.hid hX
  have HB2 := Lib.hid (HB.out.trans (hb.mono HB.out.size))
  clear hX hb
  go_wp2
  go_ret2
  exact ⟨⟨X, rfl, HX.out⟩, HB2.out⟩

set_option maxHeartbeats 4000000 in
set_option maxRecDepth 100000 in
theorem teichR_any (r X : Int) (q k : Nat) (w : World) (hpk : isPK (q : Int) (k : Int) = true) (r0 : 0 ≤ r) (r1 : r < (q : Int)) (hX : LRes (unmL q) q k r X) :
    Calls Try.prog 43 #[.int .i64 r, .int .i64 (q : Int), .int .i64 ((q ^ k : Nat) : Int)] w fun e w' => e = .returned (.int .i64 X) ∧ w = w' := by
  obtain ⟨q', j, e1, e2, hq, hk1, -, hM⟩ := isPK_spec hpk
  obtain rfl : q = q' := by omega
  obtain rfl : k = j := by omega
  obtain ⟨q2, q13⟩ := pr_bounds hq
  have hMp := pow_pos_of q2 k
  have HFIX : RowKit.Hid (∀ x : Int, 0 ≤ x → x < ((q ^ k : Nat) : Int) → x % (q : Int) = r → x ^ q % ((q ^ k : Nat) : Int) = x → x = X) := Lib.hid (fun x a b c d => by
    refine LRes.uniq hq (unm_nd hq r) (h1 := ⟨a, b, c, ?_⟩) hX
    rw [unm_ev hq, Int.sub_emod, d, Int.emod_eq_of_lt a b, Int.sub_self, Int.zero_emod])
  have HXX : RowKit.Hid (X ^ q % ((q ^ k : Nat) : Int) = X) := Lib.hid (by
    have h := hX.e
    rw [unm_ev hq] at h
    have h2 := dvd_emod (Int.dvd_of_emod_eq_zero h)
    rw [h2, Int.emod_eq_of_lt hX.x0 hX.x1])
  have X0 := hX.x0
  have X1 := hX.x1
  have HXI : RowKit.Hid (X = r + (q : Int) * (X / (q : Int))) := Lib.hid (by have := Int.emod_add_mul_ediv X (q : Int); rw [hX.r] at this; omega)
  have hI0 : 0 ≤ X / (q : Int) := Int.ediv_nonneg X0 (by omega)
  obtain ⟨I, hI⟩ : ∃ I : Nat, X / (q : Int) = (I : Int) := ⟨(X / (q : Int)).toNat, by omega⟩
  rw [hI] at HXI
  have HRQ : RowKit.Hid (∀ i : Nat, (r + (q : Int) * (i : Int)) % (q : Int) = r) := Lib.hid (fun i => by rw [Int.add_mul_emod_self_left, Int.emod_eq_of_lt r0 r1])
  have HMO : RowKit.Hid (∀ i : Nat, i < I → r + (q : Int) * (i : Int) + (q : Int) ≤ X) := Lib.hid (fun i hi => by
    have h1 : (q : Int) * ((i : Int) + 1) ≤ (q : Int) * (I : Int) := Int.mul_le_mul_of_nonneg_left (by omega) (by omega)
    have h2 : (q : Int) * ((i : Int) + 1) = (q : Int) * (i : Int) + (q : Int) := by rw [Int.mul_add, Int.mul_one]
    have := HXI.out
    omega)
  have HNX : RowKit.Hid (∀ i : Nat, r + (q : Int) * ((i + 1 : Nat) : Int) = r + (q : Int) * (i : Int) + (q : Int)) := Lib.hid (fun i => by rw [show ((i + 1 : Nat) : Int) = (i : Int) + 1 from rfl, Int.mul_add, Int.mul_one]; omega)
  obtain ⟨M, hMM⟩ : ∃ M, q ^ k = M := ⟨_, rfl⟩
  rw [hMM] at hM hMp X1 HFIX HXX ⊢
  have mne : ¬ (M : Int) = 0 := by omega
  have hXb : X ≤ 20000 := by omega
  clear hX hpk hq hMM hI hI0 e1 e2
  go_enter Try.func43, Try.ntmps43
  go_wp2
  go_loopg [7, 8, 19] I (fun gk s7 s8 s19 wr => ∃ (i : Nat) (x : Int), s7 = .int .i64 x ∧ RowKit.Hid (x = r + (q : Int) * (i : Int)) ∧ i + gk = I ∧ 0 ≤ x ∧ x ≤ X ∧ wr = w)
  case atStart => exact ⟨0, r, rfl, Lib.hid (by simp), by omega, r0, by have := HXI.out; have h := Int.mul_nonneg (show 0 ≤ (q : Int) by omega) (show 0 ≤ (I : Int) by omega); omega, rfl⟩
  case round =>
    obtain ⟨i, x, rfl, HXI2, hi, x0, x1, rfl⟩ := hrel
    have HI := Lib.hid hi
    have l1 : x < (M : Int) := by omega
    have e1 := Int.emod_nonneg 1 mne
    have e2 := Int.emod_lt_of_pos 1 (show (0 : Int) < (M : Int) by omega)
    clear hi
    go_wp2
    go_loopg [8, 19] q (fun gk2 s8 s19 w3 => ∃ (j : Nat) (y : Int), s8 = .int .i64 y ∧ s19 = .int .i64 (j : Int) ∧ j + gk2 = q ∧ RowKit.Hid (y = x ^ j % (M : Int)) ∧ 0 ≤ y ∧ y < (M : Int) ∧ w3 = wr)
    case atStart => exact ⟨0, 1 % (M : Int), rfl, rfl, by omega, Lib.hid (by simp), e1, e2, rfl⟩
    case round =>
      obtain ⟨j, y, rfl, rfl, hj, HY, y0, y1, rfl⟩ := hrel
      have HJ := Lib.hid hj
      by_cases hjq : j < q
      · have l2 : (j : Int) < (q : Int) := by omega
        obtain ⟨p0, p1⟩ := prod_le y0 (show y ≤ 20000 by omega) x0 (show x ≤ 20000 by omega)
        have r2 := Int.emod_nonneg (y * x) mne
        have r3 := Int.emod_lt_of_pos (y * x) (show (0 : Int) < (M : Int) by omega)
        have HPW := Lib.hid (pow_step (j := j) (x := x) (m := (M : Int)) HY.out)
        clear hj HY
        go_wp2
        go_roundg (q - j - 1)
        case rel => exact ⟨j + 1, _, rfl, by go_num, by have := HJ.out; omega, HPW, r2, r3, rfl⟩
        case measure => have := HJ.out; omega
      · have l2 : ¬ (j : Int) < (q : Int) := by omega
        have hjq2 : j = q := by omega
        have HYQ : RowKit.Hid (y = x ^ q % (M : Int)) := Lib.hid (by have := HY.out; rw [hjq2] at this; exact this)
        clear hj hjq2 HY
        by_cases hyx : y = x
        · have HF := Lib.hid (HFIX.out x x0 l1 (by rw [HXI2.out]; exact HRQ.out i) (by rw [← HYQ.out]; exact hyx))
          subst hyx
          go_wp2
          go_ret
          exact ⟨ret_int HF.out, rfl⟩
        · have hyf : (y == x) = false := by rw [beq_eq_false_iff_ne]; exact hyx
          have hne : x ≠ X := by
            intro e
            apply hyx
            rw [HYQ.out, e]
            exact HXX.out
          have hiI : i < I := by
            apply Decidable.byContradiction
            intro h
            have : i = I := by have := HI.out; omega
            apply hne
            rw [HXI2.out, this]
            exact HXI.out.symm
          have hmo := HMO.out i hiI
          rw [← HXI2.out] at hmo
          have HN2 : RowKit.Hid (x + (q : Int) = r + (q : Int) * ((i + 1 : Nat) : Int)) := Lib.hid (by rw [HNX.out, ← HXI2.out])
          have HII := Lib.hid hiI
          clear hne hiI
          go_wp2
          go_roundg (I - i - 1)
          case rel => exact ⟨i + 1, x + (q : Int), rfl, HN2, by have := HII.out; omega, by omega, hmo, rfl⟩
          case measure => have := HI.out; have := HII.out; omega
end Go.Proofs.Ytjlaclbgfidiiaa
