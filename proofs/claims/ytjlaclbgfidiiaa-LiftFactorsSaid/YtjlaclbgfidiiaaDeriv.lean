/- The walks of derivative, inverse and lift. Condition: the slice lies in memory, the numbers are in range. -/
import Derived.Test.YtjlaclbgfidiiaaRoots
namespace Go.Proofs.Ytjlaclbgfidiiaa
open Go.RowKit
attribute [local go_sem] Oper.semAt_some

theorem mul_abs {a b A B : Int} (a0 : 0 ≤ a) (aA : a ≤ A) (b0 : -B ≤ b) (bB : b ≤ B) : -(A * B) ≤ a * b ∧ a * b ≤ A * B := by
  have hB : 0 ≤ B := by omega
  have h1 : a * b ≤ a * B := Int.mul_le_mul_of_nonneg_left bB a0
  have h2 : a * B ≤ A * B := Int.mul_le_mul_of_nonneg_right aA hB
  have h3 : a * (-B) ≤ a * b := Int.mul_le_mul_of_nonneg_left b0 a0
  have h4 : a * (-B) = -(a * B) := Int.mul_neg _ _
  omega
theorem range_cells (L : List Int) (m : Nat) (hl : L.length = m) (f : Nat → Int) (hf : ∀ j, j < m → f j = L.getD j 0) : ((List.range m).map fun j : Nat => Value.int .i64 (f j)) = L.map (Value.int .i64) := by
  subst hl
  apply List.ext_getElem
  · simp
  · intro j h1 h2
    have hj : j < L.length := by simpa using h1
    have := hf j hj
    simp [List.getD, hj] at this
    simp [this]

set_option maxHeartbeats 4000000 in
set_option maxRecDepth 100000 in
theorem derivative_any (a : Option Addr) (m c : Nat) (x0 : Int) (t : List Int) (w : World) (h : Ints w a (m + 1) (x0 :: t)) (hm : m ≤ 20) (hx : ∀ j, j < m + 1 → -2000 ≤ (x0 :: t).getD j 0 ∧ (x0 :: t).getD j 0 ≤ 2000) :
    Calls Try.prog 58 #[.slice a (m + 1) c] w fun e w' => ∃ g, e = .returned (.slice (some ⟨g, 0, none⟩) m m) ∧ Row w.heap.size (.slice (some ⟨g, 0, none⟩) m m) (dvF 1 t) w' ∧ Below w.heap.size w w' := by
  obtain ⟨i0, hi, hz0, hz1, hz2⟩ := info_parts info3
  have H := Lib.hid h
  have HL : RowKit.Hid (t.length = m) := Lib.hid (by have := h.1; simpa using this)
  have HX := Lib.hid hx
  clear h hx
  have n0 : (0 : Int) ≤ (m : Int) := by omega
  have e0 : ((m + 1 : Nat) : Int) - 1 = (m : Int) := by omega
  go_enter Try.func58, Try.ntmps58
  go_wp2_with (at_make; refine wpList_make_full _ rfl _ _ 86 rfl w.heap.size 3 i0 (.int .i64 0) 1 Try.underlying86 hi hz0 hz1 _ _ _ _ m rfl rfl (by omega) (by omega) (by rw [hz2]; omega) (by unfold maxLen; omega) (Nat.le_refl _) ?_; intro w1 hown hgrow)
  clear hi hz0 hz1 hz2
  have S0 := Lib.hid (CoState.made hown ((Below.refl w.heap.size w).grown hgrow (Nat.le_refl _) (fun k e => by cases e)))
  clear hown hgrow
  obtain ⟨g, hg⟩ : ∃ g, w.heap.size = g := ⟨_, rfl⟩
  rw [hg] at S0 ⊢
  have HG := Lib.hid hg
  clear hg
  go_loopg [11] m (fun gk i wr => ∃ (k : Nat), k + gk = m ∧ i = .int .i64 (k : Int) ∧ CoState g m (fun j => if j < k then ((j : Int) + 1) * t.getD j 0 else 0) w wr)
  case atStart => exact ⟨0, by omega, rfl, S0.out.congr fun j _ => by rw [if_neg (by omega)]⟩
  case round =>
    obtain ⟨k, hk, rfl, hs⟩ := hrel
    have HS := Lib.hid hs
    clear hs S0
    by_cases hkn : k = m
    · have hge : ¬ (k : Int) < (m : Int) := by omega
      have ho := HS.out.own
      rw [range_cells (dvF 1 t) m (by rw [dvF_len, HL.out]) _ (fun j hj => by rw [if_pos (by omega), dvF_get, Int.add_comm 1])] at ho
      have HR := Lib.hid (Row.of ho).1
      clear hkn ho
      go_wp2
      go_ret
      exact ⟨g, rfl, HR.out, HS.out.b⟩
    · have hlt : (k : Int) < (m : Int) := by omega
      have hlt2 : k < m := by omega
      obtain ⟨b, off, rfl, hb, hc⟩ := H.out.at (by omega)
      have hck := (HS.out.b.cell (p := ⟨b, off + (k + 1), none⟩) hb).trans (hc (k + 1) (by omega))
      obtain ⟨hx0, hx1⟩ := HX.out (k + 1) (by omega)
      rw [List.getD_cons_succ] at hck hx0 hx1
      obtain ⟨x, hx⟩ : ∃ x, t.getD k 0 = x := ⟨_, rfl⟩
      rw [hx] at hck hx0 hx1
      have HXX := Lib.hid hx
      have hcg := HS.out.cell (j := k) hlt2
      have hfg := HS.out.frozen k
      obtain ⟨u, hu⟩ : ∃ u : Int, (if k < k then ((k : Int) + 1) * t.getD k 0 else 0) = u := ⟨_, rfl⟩
      rw [hu] at hcg
      have HK := Lib.hid hk
      have k0 : (0 : Int) ≤ (k : Int) := by omega
      obtain ⟨p0, p1⟩ := mul_abs (show 0 ≤ (k : Int) + 1 by omega) (show (k : Int) + 1 ≤ 21 by omega) hx0 hx1
      have q0 : -42000 ≤ ((k : Int) + 1) * x := by omega
      have q1 : ((k : Int) + 1) * x ≤ 42000 := by omega
      clear hc hx hu hkn hk p0 p1
      go_wp2
      have HS2 := Lib.hid (show CoState g m (fun j => if j < k + 1 then ((j : Int) + 1) * t.getD j 0 else 0) w (wr.setCell ⟨g, k, none⟩ (.int .i64 (((k : Int) + 1) * x))) from
        (HS.out.put k (((k : Int) + 1) * x)).congr fun j _ => by
          by_cases hj : j = k
          · subst hj
            rw [if_pos rfl, if_pos (by omega), HXX.out]
          · rw [if_neg hj]
            by_cases hj2 : j < k
            · rw [if_pos hj2, if_pos (by omega)]
            · rw [if_neg hj2, if_neg (by omega)])
      go_roundg (m - k - 1)
      case rel => exact ⟨k + 1, by have := HK.out; omega, by go_num, HS2.out⟩
      case measure => have := HK.out; omega

set_option maxHeartbeats 4000000 in
set_option maxRecDepth 100000 in
theorem inverse_any (q : Nat) (hq : q ∈ [2, 3, 5, 7, 11, 13]) (n : Int) (w : World) (n0 : 0 < n) (n1 : n < (q : Int)) :
    Calls Try.prog 81 #[.int .i64 n, .int .i64 (q : Int)] w fun e w' => (∃ b : Int, e = .returned (.int .i64 b) ∧ 0 ≤ b ∧ b < (q : Int) ∧ n * b % (q : Int) = 1) ∧ w = w' := by
  obtain ⟨q2, q13⟩ := pr_bounds hq
  obtain ⟨N, rfl⟩ : ∃ N : Nat, n = (N : Int) := ⟨n.toNat, by omega⟩
  obtain ⟨b0, hb0, hb1⟩ := inverseF q hq N (by omega) (by omega)
  have HB : RowKit.Hid ((N : Int) * (b0 : Int) % (q : Int) = 1) := Lib.hid (by rw [← Int.natCast_mul, ← Int.natCast_emod, hb1]; rfl)
  have HB0 := Lib.hid hb0
  have HQ := Lib.hid hq
  clear hq hb1 hb0
  go_enter Try.func81, Try.ntmps81
  go_wp2
  go_loopg [5, 7] b0 (fun gk s5 s7 wr => ∃ d : Nat, s7 = .int .i64 (d : Int) ∧ d + gk = b0 ∧ wr = w)
  case atStart => exact ⟨0, rfl, by omega, rfl⟩
  case round =>
    obtain ⟨d, rfl, hd, rfl⟩ := hrel
    have HD := Lib.hid hd
    have hdq : d < q := by have := HB0.out; omega
    have l1 : (d : Int) < (q : Int) := by omega
    have d0 : (0 : Int) ≤ (d : Int) := by omega
    obtain ⟨p0, p1⟩ := prod_le (show (0 : Int) ≤ (N : Int) by omega) (show (N : Int) ≤ 13 by omega) d0 (show (d : Int) ≤ 13 by omega)
    have hC := fun w => residue_any ((N : Int) * (d : Int)) (q : Int) w (by omega) (by omega) (by omega) (by omega)
    obtain ⟨Z, hZ⟩ : ∃ Z, ((N : Int) * (d : Int)) % (q : Int) = Z := ⟨_, rfl⟩
    simp only [hZ] at hC
    have HZ := Lib.hid hZ
    have HC := Lib.hid hC
    clear hC hZ
    by_cases hz : Z = 1
    · subst hz
      clear hd
      go_wp2_with fail
      refine (HC.out _).mono ?_
      rintro e w1 ⟨rfl, rfl⟩
      go_wp2
      go_ret
      exact ⟨⟨_, rfl, d0, l1, HZ.out⟩, rfl⟩
    · have hne : d ≠ b0 := by
        intro e
        subst e
        exact hz (HZ.out.symm.trans HB.out)
      have HNE := Lib.hid hne
      clear hne hd
      go_wp2_with fail
      refine (HC.out _).mono ?_
      rintro e w1 ⟨rfl, rfl⟩
      go_wp2
      go_roundg (gk - 1)
      case rel => exact ⟨d + 1, by go_num, by have := HD.out; have := HNE.out; omega, rfl⟩
      case measure => have := HD.out; have := HNE.out; omega

theorem dvd_of_emod {a b : Int} (h : a % b = 0) : b ∣ a := Int.dvd_of_emod_eq_zero h
theorem emod_sub_dvd (a m : Int) : m ∣ a % m - a := ⟨-(a / m), by have := Int.emod_add_mul_ediv a m; rw [Int.mul_neg]; omega⟩
theorem dvd_emod {m a b : Int} (h : m ∣ a - b) : a % m = b % m := Int.emod_eq_emod_iff_emod_sub_eq_zero.2 (Int.emod_eq_zero_of_dvd h)
theorem small_dvd {m a b : Int} (h : m ∣ a - b) (a0 : 0 ≤ a) (a1 : a < m) (b0 : 0 ≤ b) (b1 : b < m) : a = b := by
  have := dvd_emod h
  rwa [Int.emod_eq_of_lt a0 a1, Int.emod_eq_of_lt b0 b1] at this
end Go.Proofs.Ytjlaclbgfidiiaa
