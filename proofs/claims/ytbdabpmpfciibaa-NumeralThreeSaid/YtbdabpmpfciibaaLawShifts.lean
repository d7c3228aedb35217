/- The walks of numeral.Circle at any numbers, of the reference's Circle, and of the law NumeralShifts. No condition. -/
import Derived.Test.YtbdabpmpfciibaaCirc
namespace Go.Proofs.Ytbdabpmpfciibaa
open Go.RowKit
attribute [local go_sem] Oper.semAt_some

set_option maxHeartbeats 1000000 in
theorem Circle_any (a b : Int) (w : World) :
    Calls Try.prog 33 #[.int .i64 a, .int .i64 b] w fun e w' => e = .returned (.tuple #[.int .i64 (ciV a b), .int .i64 (ciE a b)]) ∧ Below w.heap.size w w' := by
  by_cases ha : isNum a = true
  · by_cases hb : isNum b = true
    · refine (Circle_yes a b w ha hb).mono ?_
      rintro e w' ⟨rfl, h⟩
      exact ⟨ret_two (by unfold ciV; rw [if_pos ⟨ha, hb⟩]) (by unfold ciE; rw [if_pos ⟨ha, hb⟩]), h⟩
    · have h1 : ciV a b = 0 := by unfold ciV; rw [if_neg (fun h => hb h.2)]
      have h2 : ciE a b = 2 := by unfold ciE; rw [if_neg (fun h => hb h.2)]
      rw [h1, h2]
      have HX := Lib.hid ha
      have HY := Lib.hid (show isNum b = false by simpa using hb)
      clear ha hb h1 h2
      go_enter Try.func33, Try.ntmps33
      go_wp2_with fail
      refine (validNumber_any _ _).mono ?_
      rintro e w' ⟨rfl, rfl⟩
      rw [HX.out]
      go_wp2_with fail
      refine (validNumber_any _ _).mono ?_
      rintro e w'' ⟨rfl, rfl⟩
      rw [HY.out]
      go_wp2
      go_ret2
      exact ⟨rfl, Below.refl _ _⟩
  · have h1 : ciV a b = 0 := by unfold ciV; rw [if_neg (fun h => ha h.1)]
    have h2 : ciE a b = 2 := by unfold ciE; rw [if_neg (fun h => ha h.1)]
    rw [h1, h2]
    have HX := Lib.hid (show isNum a = false by simpa using ha)
    clear ha h1 h2
    go_enter Try.func33, Try.ntmps33
    go_wp2_with fail
    refine (validNumber_any _ _).mono ?_
    rintro e w' ⟨rfl, rfl⟩
    rw [HX.out]
    go_wp2
    go_ret2
    exact ⟨rfl, Below.refl _ _⟩

theorem fibN_70 : fibN 70 = 190392490709135 := by decide +kernel
/-- Indices whose sums are all small make a small sum. -/
theorem sumF_bd (i : Int) (M : Int) : ∀ l : List Int, (∀ x ∈ l, fibI (x + i) ≤ M) → sumF i l ≤ M * l.length
  | [], _ => by simp [sumF]
  | k :: r, h => by
    have h1 := h k (by simp)
    have h2 := sumF_bd i M r (fun x hx => h x (by simp [hx]))
    simp only [sumF, List.length_cons]
    have e : M * ((r.length + 1 : Nat) : Int) = M * r.length + M := by
      rw [show ((r.length + 1 : Nat) : Int) = (r.length : Int) + 1 by omega, Int.mul_add, Int.mul_one]
    rw [e]; omega
theorem sumF_bd30 {i : Int} {l : List Int} (hl : l.length ≤ 30) (h : ∀ x ∈ l, x + i ≤ 70) : sumF i l ≤ 5711774721274050 := by
  have h1 := sumF_bd i 190392490709135 l (fun x hx => fibI_le (b := 70) (h x hx) fibN_70)
  omega
theorem big_one {A B : List Int} {x y : Int} (hx : x ∈ A) (hy : y ∈ B) (h : 70 < x + y) : 1000000000000 < cirS A B := by
  have h1 := cirS_mem_le A B y hy
  have h2 := sumF_mem_le y A x hx
  have h3 : fibI ((71 : Nat) : Int) ≤ fibI (x + y) := fibI_mono (by omega)
  rw [fibI_nat, fibN_71] at h3
  omega
theorem sz_big {n : Int} (h : 1000000000000 < n) : szV n = 0 ∧ szE n = 6 := by
  unfold szV szE
  rw [if_pos h, if_pos h]
  exact ⟨rfl, rfl⟩

set_option maxHeartbeats 4000000 in
set_option maxRecDepth 100000 in
theorem refCircle_any (a b : Int) (w : World) (ha : isNum a = true) (hb : isNum b = true) :
    Calls Try.prog 35 #[.int .i64 a, .int .i64 b] w fun e w' => e = .returned (.tuple #[.int .i64 (szV (ciN a b)), .int .i64 (szE (ciN a b))]) ∧ Below w.heap.size w w' := by
  have hE := refEncodeI a ha
  have hE2 := refEncodeI b hb
  have hma := enc_mem ha
  have hmb := enc_mem hb
  have hla := enc_len ha
  have hlb := enc_len hb
  have hci : ciN a b = cirS (enc b) (enc a) := cirS_comm _ _
  rw [hci]
  obtain ⟨A, hA⟩ : ∃ A, enc a = A := ⟨_, rfl⟩
  obtain ⟨B, hB⟩ : ∃ B, enc b = B := ⟨_, rfl⟩
  rw [hA] at hE hma hla ⊢
  rw [hB] at hE2 hmb hlb ⊢
  have hbig : ∀ i j, i < A.length → j < B.length → 70 < A.getD i 0 + B.getD j 0 → szV (cirS B A) = 0 ∧ szE (cirS B A) = 6 := fun i j hi hj h =>
    sz_big (big_one (getD_mem hj) (getD_mem hi) (by omega))
  have HZ := Lib.hid (sized_any (cirS B A))
  have HBIG := Lib.hid hbig
  obtain ⟨S, hS⟩ : ∃ S, cirS B A = S := ⟨_, rfl⟩
  rw [hS] at HZ HBIG ⊢
  have HSS := Lib.hid hS
  obtain ⟨V, hV⟩ : ∃ V, szV S = V := ⟨_, rfl⟩
  obtain ⟨E, hEE⟩ : ∃ E, szE S = E := ⟨_, rfl⟩
  rw [hV, hEE] at HZ HBIG ⊢
  have HE := Lib.hid hE
  have HE2 := Lib.hid hE2
  have HMA := Lib.hid hma
  have HMB := Lib.hid hmb
  clear ha hb hE hE2 hma hmb hci hA hB hbig hS hV hEE
  go_enter Try.func35, Try.ntmps35
  go_wp2_with fail
  refine (HE.out w).mono ?_
  rintro e w1 ⟨a1, n, c1, rfl, hi1, hn, -, -, hb1⟩
  have H1 := Lib.hid hi1
  have L1 := Lib.hid hi1.1
  have B1 := Lib.hid hb1
  clear hi1 hb1 HE
  go_wp2
  go_loopg [6, 10, 14, 20, 21] n (fun gk s u10 i u20 u21 wr => ∃ (k : Nat), k + gk = n ∧ i = .int .i64 (k : Int) ∧ s = .int .i64 (cirS B (A.take k)) ∧ cirS B (A.take k) ≤ 5711774721274050 * (k : Int) ∧ (∀ i, i < k → ∀ j, j < B.length → A.getD i 0 + B.getD j 0 ≤ 70) ∧ Below w1.heap.size w1 wr)
  case atStart => exact ⟨0, by omega, rfl, rfl, by simp [cirS], fun i hi => by omega, Below.refl _ _⟩
  case round =>
    obtain ⟨k, hk, rfl, rfl, hs, hall, hbw⟩ := hrel
    have HALL := Lib.hid hall
    have HBW := Lib.hid hbw
    have hs0 := cirS_nonneg B (A.take k)
    clear hall hbw
    by_cases hkn : k = n
    · have hge : ¬ (k : Int) < (n : Int) := by omega
      have hge2 : ¬ k < n := by omega
      have hlen : A.take k = A := List.take_of_length_le (by have := L1.out; omega)
      rw [hlen, HSS.out]
      clear hkn hlen hs hs0
      go_wp2_with fail
      refine (HZ.out _).mono ?_
      rintro e w3 ⟨rfl, rfl⟩
      have HB3 := Lib.hid (B1.out.trans (HBW.out.mono B1.out.size))
      go_wp2
      go_ret2
      exact ⟨rfl, HB3.out⟩
    · have hlt : (k : Int) < (n : Int) := by omega
      have hlt2 : k < n := by omega
      obtain ⟨b1, off1, rfl, hb1, hc1⟩ := H1.out.at (by omega)
      have hck := (HBW.out.cell (p := ⟨b1, off1 + k, none⟩) hb1).trans (hc1 k hlt2)
      have hx2 := HMA.out k (by have := L1.out; omega)
      have hst := cirS_take (xs := B) (ys := A) (k := k) (by have := L1.out; omega)
      obtain ⟨x, hx⟩ : ∃ x, A.getD k 0 = x := ⟨_, rfl⟩
      rw [hx] at hck hx2 hst
      have HX := Lib.hid hx
      have HST := Lib.hid hst
      have HK := Lib.hid hk
      have k0 : (0 : Int) ≤ (k : Int) := by omega
      obtain ⟨T, hT⟩ : ∃ T, cirS B (A.take k) = T := ⟨_, rfl⟩
      rw [hT] at hs hs0 HST ⊢
      have hk30 : k < 30 := by omega
      obtain ⟨wr0, hwr0⟩ : ∃ wr0, wr = wr0 := ⟨_, rfl⟩
      rw [hwr0] at HBW hck ⊢
      clear hc1 hx hst hk hT hkn hwr0
      go_wp2_with fail
      refine (HE2.out _).mono ?_
      rintro e w5 ⟨a5, m, c5, rfl, hi5, hm, -, -, hb5⟩
      have H5 := Lib.hid hi5
      have L5 := Lib.hid hi5.1
      have B5 := Lib.hid (HBW.out.trans (hb5.mono HBW.out.size))
      clear hi5 hb5
      go_wp2
      go_loopg [6, 10, 21] m (fun gk s u10 i wr => ∃ (q : Nat), q + gk = m ∧ i = .int .i64 (q : Int) ∧ s = .int .i64 (T + sumF x (B.take q)) ∧ (∀ j, j < q → x + B.getD j 0 ≤ 70) ∧ wr = w5)
      case atStart => exact ⟨0, by omega, rfl, by rw [List.take_zero, sumF, Int.add_zero], fun j hj => by omega, rfl⟩
      case round =>
        obtain ⟨q, hq, rfl, rfl, hqall, rfl⟩ := hrel
        have HQ := Lib.hid hqall
        have hbd : sumF x (B.take q) ≤ 5711774721274050 := sumF_bd30 (by rw [List.length_take]; omega) (fun z hz => by
          obtain ⟨j, hj, rfl⟩ := List.getElem_of_mem hz
          rw [List.length_take] at hj
          have := hqall j (by omega)
          rw [List.getElem_take]
          simp [List.getD, show j < B.length by omega] at this
          omega)
        have hn0 := sumF_nonneg x (B.take q)
        clear hqall
        by_cases hqm : q = m
        · have hge : ¬ (q : Int) < (m : Int) := by omega
          have hge2 : ¬ q < m := by omega
          have hlen : B.take q = B := List.take_of_length_le (by have := L5.out; omega)
          rw [hlen] at hbd hn0 ⊢
          have HQM := Lib.hid hqm
          obtain ⟨U, hU⟩ : ∃ U, sumF x B = U := ⟨_, rfl⟩
          rw [hU] at hbd hn0 HST ⊢
          clear hqm hlen hU hq
          go_wp2
          go_roundg (n - k - 1)
          case rel =>
            refine ⟨k + 1, by have := HK.out; omega, by go_num, by rw [HST.out], by rw [HST.out]; omega, fun i hi j hj => ?_, B5.out⟩
            by_cases hik : i = k
            · subst hik
              have := HQ.out j (by have := HQM.out; have := L5.out; omega)
              rw [HX.out]; exact this
            · exact HALL.out i (by omega) j hj
          case measure => have := HK.out; omega
        · have hqlt : (q : Int) < (m : Int) := by omega
          have hqlt2 : q < m := by omega
          obtain ⟨b5, off5, rfl, hb5, hc5⟩ := H5.out.at (by omega)
          have hcq := hc5 q hqlt2
          have hy2 := HMB.out q (by have := L5.out; omega)
          have hst2 := sumF_take (l := B) (k := q) (by have := L5.out; omega) x
          obtain ⟨y, hy⟩ : ∃ y, B.getD q 0 = y := ⟨_, rfl⟩
          rw [hy] at hcq hy2 hst2
          have HYY := Lib.hid hy
          have q0 : (0 : Int) ≤ (q : Int) := by omega
          have HQK := Lib.hid hq
          obtain ⟨U, hU⟩ : ∃ U, sumF x (B.take q) = U := ⟨_, rfl⟩
          rw [hU] at hbd hn0 hst2 ⊢
          clear hc5 hy hqm hq hU
          by_cases hbig : 70 < x + y
          · have hz := HBIG.out k q (by have := L1.out; omega) (by have := L5.out; omega) (by rw [HX.out, HYY.out]; exact hbig)
            obtain ⟨hz1, hz2⟩ := hz
            have HB3 := Lib.hid (B1.out.trans (B5.out.mono B1.out.size))
            have HZZ := Lib.hid (And.intro hz1 hz2)
            clear hz1 hz2 hst2
            go_wp2
            go_ret2
            exact ⟨ret_two HZZ.out.1.symm HZZ.out.2.symm, HB3.out⟩
          · obtain ⟨z, hz⟩ : ∃ z : Nat, x + y = (z : Int) := ⟨(x + y).toNat, by omega⟩
            have hz90 : z ≤ 90 := by omega
            have hzb : fibN z ≤ 190392490709135 := fibN_le (b := 70) (by omega) fibN_70
            have hF := refF_any z hz90 wr
            have hz0 := fibN_nonneg z
            rw [show y + x = (z : Int) by omega, fibI_nat] at hst2
            obtain ⟨F, hFz⟩ : ∃ F, fibN z = F := ⟨_, rfl⟩
            rw [hFz] at hzb hF hz0 hst2
            have HF := Lib.hid hF
            have HST2 := Lib.hid hst2
            have HZZ := Lib.hid hz
            clear hF hFz hst2
            go_wp2_with (go_at_call 68; refine HF.out.mono ?_; rintro e w' ⟨rfl, rfl⟩)
            go_roundg (m - q - 1)
            case rel =>
              refine ⟨q + 1, by have := HQK.out; omega, by go_num, by rw [HST2.out, Int.add_assoc], fun j hj => ?_, rfl⟩
              by_cases hjq : j = q
              · subst hjq
                rw [HYY.out]; omega
              · exact HQ.out j (by omega)
            case measure => have := HQK.out; omega
end Go.Proofs.Ytbdabpmpfciibaa
