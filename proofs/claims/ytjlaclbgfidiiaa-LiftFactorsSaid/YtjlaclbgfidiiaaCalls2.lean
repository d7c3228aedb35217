/- The walks of Lift, and of the reference's. Condition: the slices lie in memory. -/
import Derived.Test.YtjlaclbgfidiiaaCalls
namespace Go.Proofs.Ytjlaclbgfidiiaa
open Go.RowKit
attribute [local go_sem] Oper.semAt_some

/-- Where Lift has arguments that are valid. -/
def liftOK (f : List Int) (p k r : Int) : Bool := (isPK p k && isPoly f) && (decide (0 ≤ r) && decide (r < p) && decide (ev f r % p = 0))
theorem poly_cons {f : List Int} (h : isPoly f = true) : ∃ x t, f = x :: t := by
  cases f with
  | nil => cases h
  | cons x t => exact ⟨x, t, rfl⟩

set_option maxHeartbeats 4000000 in
set_option maxRecDepth 100000 in
theorem Lift_no (p k r : Int) (a : Option Addr) (n c : Nat) (f : List Int) (w : World) (h : Ints w a n f) (hn : n ≤ 4611686018427387904) (hno : liftOK f p k r = false) :
    Calls Try.prog 18 #[.slice a n c, .int .i64 p, .int .i64 k, .int .i64 r] w fun e w' => e = .returned (.tuple #[.int .i64 0, .int .i64 2]) ∧ ∃ q, w' = w.drewN q := by
  have hP := fun w => power_any p k w
  have hV := valid_any a n c f w h hn
  unfold liftOK at hno
  cases hpk : isPK p k with
  | false =>
    rw [hpk] at hP
    have HP := Lib.hid hP
    clear hP hV hno h hpk
    go_enter Try.func18, Try.ntmps18
    go_wp2_with fail
    refine (HP.out _).mono ?_
    rintro e w1 ⟨rfl, rfl⟩
    go_wp2
    go_ret2
    exact ⟨rfl, 0, rfl⟩
  | true =>
    rw [hpk] at hP
    rw [hpk, Bool.true_and] at hno
    cases hf : isPoly f with
    | false =>
      rw [hf] at hV
      have HP := Lib.hid hP
      have HV := Lib.hid hV
      clear hP hV hno h hpk hf
      go_enter Try.func18, Try.ntmps18
      go_wp2_with fail
      refine (HP.out _).mono ?_
      rintro e w1 ⟨rfl, rfl⟩
      go_wp2_with fail
      refine HV.out.mono ?_
      rintro e w1 ⟨rfl, q, rfl⟩
      go_wp2
      go_ret2
      exact ⟨rfl, q, rfl⟩
    | true =>
      rw [hf] at hV
      rw [hf, Bool.true_and] at hno
      have HP := Lib.hid hP
      have HV := Lib.hid hV
      by_cases h0 : r < 0
      · clear hP hV hno h hpk hf
        go_enter Try.func18, Try.ntmps18
        go_wp2_with fail
        refine (HP.out _).mono ?_
        rintro e w1 ⟨rfl, rfl⟩
        go_wp2_with fail
        refine HV.out.mono ?_
        rintro e w1 ⟨rfl, q, rfl⟩
        go_wp2
        go_ret2
        exact ⟨rfl, q, rfl⟩
      · by_cases h1 : p ≤ r
        · clear hP hV hno h hpk hf
          go_enter Try.func18, Try.ntmps18
          go_wp2_with fail
          refine (HP.out _).mono ?_
          rintro e w1 ⟨rfl, rfl⟩
          go_wp2_with fail
          refine HV.out.mono ?_
          rintro e w1 ⟨rfl, q, rfl⟩
          go_wp2
          go_ret2
          exact ⟨rfl, q, rfl⟩
        · obtain ⟨q, j, rfl, rfl, hq, -, -, -⟩ := isPK_spec hpk
          obtain ⟨q2, q13⟩ := pr_bounds hq
          obtain ⟨g1, g2, g3⟩ := poly_bounds h.1 hf
          rw [decide_eq_true (show 0 ≤ r by omega), decide_eq_true (show r < (q : Int) by omega), Bool.true_and, Bool.true_and, decide_eq_false_iff_not] at hno
          have hA := fun z => at_any a n c f r (q : Int) (w.drewN z) (h.below (drew_below w z)) (by omega) (fun j hj => ⟨by have := (g3 j hj).1; omega, by have := (g3 j hj).2; omega⟩) (by omega) (by omega) (by omega)
          obtain ⟨Z, hZ⟩ : ∃ Z, ev f r % (q : Int) = Z := ⟨_, rfl⟩
          rw [hZ] at hno
          simp only [hZ] at hA
          have HA := Lib.hid hA
          have hzt : (Z != 0) = true := by rw [bne_iff_ne]; exact hno
          clear hP hV h hpk hf g3 hq hA hZ hno
          go_enter Try.func18, Try.ntmps18
          go_wp2_with fail
          refine (HP.out _).mono ?_
          rintro e w1 ⟨rfl, rfl⟩
          go_wp2_with fail
          refine HV.out.mono ?_
          rintro e w1 ⟨rfl, z, rfl⟩
          go_wp2_with fail
          refine (HA.out z).mono ?_
          rintro e w1 ⟨rfl, rfl⟩
          go_wp2
          go_ret2
          exact ⟨rfl, z, rfl⟩

/-- What Lift answers at valid arguments. -/
def LAns (f : List Int) (q j : Nat) (r : Int) (e : Ending) : Prop :=
  ((q : Int) ∣ dev f r ∧ e = .returned (.tuple #[.int .i64 0, .int .i64 5])) ∨ (¬ (q : Int) ∣ dev f r ∧ ∃ X, LRes f q j r X ∧ e = .returned (.tuple #[.int .i64 X, .int .i64 0]))

set_option maxHeartbeats 4000000 in
set_option maxRecDepth 100000 in
theorem Lift_yes (q k : Nat) (r : Int) (a : Option Addr) (n c : Nat) (f : List Int) (w : World) (h : Ints w a n f) (hok : liftOK f (q : Int) (k : Int) r = true) :
    Calls Try.prog 18 #[.slice a n c, .int .i64 (q : Int), .int .i64 (k : Int), .int .i64 r] w fun e w' => LAns f q k r e ∧ Below w.heap.size w w' := by
  unfold liftOK at hok
  simp only [Bool.and_eq_true, decide_eq_true_eq] at hok
  obtain ⟨⟨hpk, hf⟩, ⟨r0, r1⟩, er⟩ := hok
  have hP := fun w => power_any (q : Int) (k : Int) w
  rw [pkN_yes hpk, hpk] at hP
  obtain ⟨q', j, e1, e2, hq, hk1, -, hM⟩ := isPK_spec hpk
  obtain rfl : q = q' := by omega
  obtain rfl : k = j := by omega
  obtain ⟨q2, q13⟩ := pr_bounds hq
  obtain ⟨g1, g2, g3⟩ := poly_bounds h.1 hf
  have hV := valid_any a n c f w h (by omega)
  rw [hf] at hV
  have hA := fun z => at_any a n c f r (q : Int) (w.drewN z) (h.below (drew_below w z)) (by omega) (fun j hj => ⟨by have := (g3 j hj).1; omega, by have := (g3 j hj).2; omega⟩) r0 r1 (by omega)
  simp only [er] at hA
  have HLI := Lib.hid (fun w1 (hb : Below w.heap.size w w1) hd => lift_any a n c f q k r w1 (h.below hb) g1 (by omega) (fun j hj => ⟨by have := (g3 j hj).1; omega, by have := (g3 j hj).2; omega⟩) hq hk1 hM r0 r1 (Int.dvd_of_emod_eq_zero er) hd)
  obtain ⟨x0, t, hft⟩ := poly_cons hf
  obtain ⟨m, hm⟩ : ∃ m, n = m + 1 := ⟨n - 1, by omega⟩
  have hD : ∀ w1, Below w.heap.size w w1 → Calls Try.prog 58 #[.slice a n c] w1 fun e w' => ∃ g, e = .returned (.slice (some ⟨g, 0, none⟩) m m) ∧ Row w1.heap.size (.slice (some ⟨g, 0, none⟩) m m) (dvF 1 t) w' ∧ Below w1.heap.size w1 w' := by
    intro w1 hb
    have hi := h.below hb
    subst hft hm
    exact derivative_any a m c x0 t w1 hi (by omega) (fun j hj => ⟨by have := (g3 j hj).1; omega, by have := (g3 j hj).2; omega⟩)
  have hA1 : ∀ g w1, Ints w1 (some ⟨g, 0, none⟩) m (dvF 1 t) → Calls Try.prog 57 #[.slice (some ⟨g, 0, none⟩) m m, .int .i64 r, .int .i64 (q : Int)] w1 fun e w' => e = .returned (.int .i64 (dev f r % (q : Int))) ∧ w1 = w' := by
    intro g w1 h1
    subst hft hm
    have hl : t.length = m := by have := h.1; simpa using this
    rw [← ev_dv r x0 t]
    exact at_any (some ⟨g, 0, none⟩) m m (dvF 1 t) r (q : Int) w1 h1 (by omega) (dv_bound (x0 := x0) hl (by omega) (fun j hj => ⟨by have := (g3 j hj).1; omega, by have := (g3 j hj).2; omega⟩)) r0 r1 (by omega)
  have HD := Lib.hid hD
  have HA1 := Lib.hid hA1
  have HV := Lib.hid hV
  have HP := Lib.hid hP
  have HA := Lib.hid hA
  have hdv : (q : Int) ∣ dev f r ↔ dev f r % (q : Int) = 0 := ⟨Int.emod_eq_zero_of_dvd, Int.dvd_of_emod_eq_zero⟩
  unfold LAns
  obtain ⟨D, hDD⟩ : ∃ D, dev f r % (q : Int) = D := ⟨_, rfl⟩
  simp only [hDD] at HA1
  rw [hDD] at hdv
  have HDV := Lib.hid hdv
  obtain ⟨M, hMM⟩ : ∃ M, q ^ k = M := ⟨_, rfl⟩
  rw [hMM] at HP HLI
  have r1' : ¬ (q : Int) ≤ r := by omega
  have r0' : ¬ r < 0 := by omega
  clear hP hV hA hD hA1 h hpk hf g3 hq hft hm er hdv hDD hMM e1 e2
  go_enter Try.func18, Try.ntmps18
  go_wp2_with fail
  refine (HP.out _).mono ?_
  rintro e w1 ⟨rfl, rfl⟩
  go_wp2_with fail
  refine HV.out.mono ?_
  rintro e w1 ⟨rfl, z, rfl⟩
  go_wp2_with fail
  refine (HA.out z).mono ?_
  rintro e w1 ⟨rfl, rfl⟩
  have hbz := drew_below w z
  obtain ⟨W1, hW1⟩ : ∃ W1, w.drewN z = W1 := ⟨_, rfl⟩
  rw [hW1] at hbz ⊢
  have HBZ := Lib.hid hbz
  clear hW1 hbz HA HV HP
  go_wp2_with fail
  refine (HD.out _ HBZ.out).mono ?_
  rintro e w2 ⟨g, rfl, hr, hb⟩
  obtain ⟨a1, n1, c1, ea, i1, en⟩ := hr.ints
  cases ea
  have HA3 := Lib.hid (HA1.out g w2 i1)
  have HB := Lib.hid (HBZ.out.trans (hb.mono HBZ.out.size))
  clear hr hb i1 en HA1 HD
  go_wp2_with fail
  refine HA3.out.mono ?_
  rintro e w3 ⟨rfl, rfl⟩
  by_cases hd0 : D = 0
  · have HF := Lib.hid (HDV.out.2 hd0)
    subst hd0
    go_wp2
    go_ret2
    exact ⟨.inl ⟨HF.out, rfl⟩, HB.out⟩
  · have HF := Lib.hid (fun h => hd0 (HDV.out.1 h))
    have HL2 := Lib.hid (HLI.out w2 HB.out (fun h => hd0 (HDV.out.1 h)))
    clear HLI HDV HA3
    go_wp2_with fail
    refine HL2.out.mono ?_
    rintro e w3 ⟨⟨X, rfl, hX⟩, hb⟩
    have HX := Lib.hid hX
    have HB2 := Lib.hid (HB.out.trans (hb.mono HB.out.size))
    clear hX hb
    go_wp2
    go_ret2
    exact ⟨.inr ⟨HF.out, X, HX.out, rfl⟩, HB2.out⟩

theorem LRes.uniq {f : List Int} {q j : Nat} {r X Y : Int} (hq : q ∈ [2, 3, 5, 7, 11, 13]) (hd : ¬ (q : Int) ∣ dev f r) (h1 : LRes f q j r X) (h2 : LRes f q j r Y) : X = Y := by
  refine small_dvd (m := ((q ^ j : Nat) : Int)) ?_ h1.x0 h1.x1 h2.x0 h2.x1
  rw [Int.natCast_pow]
  have e : ∀ Z, Z % (q : Int) = r → (q : Int) ∣ Z - r := fun Z h => by
    have := emod_sub_dvd Z (q : Int)
    rw [h] at this
    obtain ⟨s, hs⟩ := this
    exact ⟨-s, by rw [Int.mul_neg]; omega⟩
  exact root_one hq (e Y h2.r) (e X h1.r) hd (by rw [← Int.natCast_pow]; exact Int.dvd_of_emod_eq_zero h2.e) (by rw [← Int.natCast_pow]; exact Int.dvd_of_emod_eq_zero h1.e)
theorem mem_at {L : List Int} {x : Int} (h : x ∈ L) : ∃ i, i < L.length ∧ L.getD i 0 = x := by
  obtain ⟨i, hi, he⟩ := List.getElem_of_mem h
  exact ⟨i, hi, by simp [List.getD, hi, he]⟩
theorem at_mem {L : List Int} {i : Nat} (h : i < L.length) : L.getD i 0 ∈ L := by simp [List.getD, h]
end Go.Proofs.Ytjlaclbgfidiiaa
