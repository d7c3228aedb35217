/- The walks of numeral.Digits and Along: the documented results, or the documented error. Condition: the slices lie in memory. -/
import Derived.Test.YtbdabpmpfciibaaIsAlong
namespace Go.Proofs.Ytbdabpmpfciibaa
open Go.RowKit
attribute [local go_sem] Oper.semAt_some

set_option maxHeartbeats 2000000 in
theorem end_any (a : Option Addr) (n c : Nat) (q : List Int) (w : World) (h : Ints w a n q) (hq : isQ q = true) :
    Calls Try.prog 79 #[.slice a n c] w fun e w' => e = .returned (.int .i64 (dN q n)) ∧ Below w.heap.size w w' := by
  have HD := Lib.hid (den_prog a n c q w h hq)
  have hn := isQ_yes hq
  rw [h.1] at hn
  have hn10 : n ≤ 10 := hn.2.1
  have hat := denL_at (q := q) (Nat.le_refl n)
  obtain ⟨D, hDD⟩ : ∃ D, dN q n = D := ⟨_, rfl⟩
  rw [hDD] at hat ⊢
  have HAT := Lib.hid hat
  have n0 : (0 : Int) ≤ (n : Int) := by omega
  clear h hq hn hat hDD
  go_enter Try.func79, Try.ntmps79
  go_wp2_with (go_at_call 102; refine HD.out.mono ?_; rintro e w1 ⟨b1, c1, rfl, hi1, -, -, hb1⟩; obtain ⟨p1, hp1⟩ : (∃ p1, n + 1 = p1) := ⟨_, rfl⟩; rw [hp1] at hi1 ⊢; obtain ⟨b', off', rfl, hbl, hc'⟩ := hi1.at (by omega); have hcn := hc' n (by omega); rw [HAT.out] at hcn; have HB := Lib.hid hb1; have g1 : n < p1 := (by omega); have g2 : (n : Int) < (p1 : Int) := (by omega); clear hi1 hb1 hc' hp1)
  go_ret
  exact ⟨rfl, HB.out⟩

/-- What Digits and Along tell. -/
def isD (q : List Int) (x : Int) : Bool := isQ q && decide (0 ≤ x) && decide (x < dN q q.length)
def dgL (q : List Int) (x : Int) : List Int := if isD q x = true then digL q x else []
def dgE (q : List Int) (x : Int) : Int := if isD q x = true then 0 else 2
def isAL (q c : List Int) : Bool := isQ q && isA q c
def alV (q c : List Int) : Int := if isAL q c = true then numA q c q.length else 0
def alE (q c : List Int) : Int := if isAL q c = true then 0 else 2
theorem isD_yes {q : List Int} {x : Int} (h : isD q x = true) : isQ q = true ∧ 0 ≤ x ∧ x < dN q q.length := by
  simp only [isD, Bool.and_eq_true, decide_eq_true_eq] at h
  exact ⟨h.1.1, h.1.2, h.2⟩
theorem isD_mk {q : List Int} {x : Int} (h : isQ q = true) (h1 : 0 ≤ x) (h2 : x < dN q q.length) : isD q x = true := by
  simp only [isD, Bool.and_eq_true, decide_eq_true_eq]
  exact ⟨⟨h, h1⟩, h2⟩
theorem isD_no {q : List Int} {x : Int} (h : ¬ (isQ q = true ∧ 0 ≤ x ∧ x < dN q q.length)) : isD q x = false := by
  cases hh : isD q x with
  | false => rfl
  | true => exact absurd (isD_yes hh) h

set_option maxHeartbeats 4000000 in
theorem Digits_yes (a : Option Addr) (n c : Nat) (q : List Int) (x : Int) (w : World) (h : Ints w a n q) (hD : isD q x = true) :
    Calls Try.prog 45 #[.slice a n c, .int .i64 x] w fun e w' => ∃ ao co, e = .returned (.tuple #[.slice ao n co, .int .i64 0]) ∧ Ints w' ao n (digL q x) ∧ n ≤ co ∧ co ≤ maxLen ∧ Below w.heap.size w w' := by
  obtain ⟨hq, x0, x1⟩ := isD_yes hD
  have hn := isQ_yes hq
  rw [h.1] at hn
  have hn10 : n ≤ 10 := hn.2.1
  have hdl := dN_le hq (k := q.length) (Nat.le_refl _)
  rw [h.1] at x1 hdl
  have H := Lib.hid h
  have HQ := Lib.hid hq
  have HE := Lib.hid (fun w' hi => end_any a n c q w' hi hq)
  have HG := Lib.hid (fun w' hi => digits_prog a n c q x w' hi hq x0 (by omega))
  obtain ⟨D, hDD⟩ : ∃ D, dN q n = D := ⟨_, rfl⟩
  rw [hDD] at x1 HE
  have g1 : ¬ x < 0 := by omega
  have g2 : ¬ D ≤ x := by omega
  clear h hq hn hD hDD hdl
  go_enter Try.func45, Try.ntmps45
  go_wp2_with fail
  refine (fracValid_any a n c q w H.out (by omega)).mono ?_
  rintro e w' ⟨rfl, rfl⟩
  rw [HQ.out]
  go_wp2_with fail
  refine (HE.out w' H.out).mono ?_
  rintro e w1 ⟨rfl, hb⟩
  have HI := Lib.hid (H.out.below hb)
  have HB := Lib.hid hb
  clear hb
  go_wp2_with fail
  refine (HG.out w1 HI.out).mono ?_
  rintro e w2 ⟨ao, co, rfl, hi2, h21, h22, hb2⟩
  have HI2 := Lib.hid (And.intro hi2 (And.intro h21 (And.intro h22 (HB.out.trans (hb2.mono HB.out.size)))))
  clear hi2 h21 h22 hb2
  go_wp2
  go_ret2
  exact ⟨ao, co, rfl, HI2.out.1, HI2.out.2.1, HI2.out.2.2.1, HI2.out.2.2.2⟩
set_option maxHeartbeats 4000000 in
theorem Digits_no (a : Option Addr) (n c : Nat) (q : List Int) (x : Int) (w : World) (h : Ints w a n q) (hn : n ≤ 4611686018427387904) (hD : isD q x = false) :
    Calls Try.prog 45 #[.slice a n c, .int .i64 x] w fun e w' => e = .returned (.tuple #[.slice none 0 0, .int .i64 2]) ∧ Below w.heap.size w w' := by
  have H := Lib.hid h
  by_cases hq : isQ q = true
  · have HQ := Lib.hid hq
    have hx : x < 0 ∨ dN q n ≤ x := by
      by_cases h0 : x < 0
      · exact .inl h0
      · by_cases h1 : dN q n ≤ x
        · exact .inr h1
        · rw [isD_mk hq (by omega) (by rw [h.1]; omega)] at hD
          cases hD
    have HE := Lib.hid (fun w' hi => end_any a n c q w' hi hq)
    obtain ⟨D, hDD⟩ : ∃ D, dN q n = D := ⟨_, rfl⟩
    rw [hDD] at hx HE
    clear h hq hD hDD
    by_cases h0 : x < 0
    · clear hx
      go_enter Try.func45, Try.ntmps45
      go_wp2_with fail
      refine (fracValid_any a n c q w H.out hn).mono ?_
      rintro e w' ⟨rfl, rfl⟩
      rw [HQ.out]
      go_wp2
      go_ret2
      exact ⟨rfl, Below.refl _ _⟩
    · have h1 : D ≤ x := by omega
      clear hx
      go_enter Try.func45, Try.ntmps45
      go_wp2_with fail
      refine (fracValid_any a n c q w H.out hn).mono ?_
      rintro e w' ⟨rfl, rfl⟩
      rw [HQ.out]
      go_wp2_with fail
      refine (HE.out w' H.out).mono ?_
      rintro e w1 ⟨rfl, hb⟩
      have HB := Lib.hid hb
      clear hb
      go_wp2
      go_ret2
      exact ⟨rfl, HB.out⟩
  · have HQ := Lib.hid (show isQ q = false by simpa using hq)
    clear h hq hD
    go_enter Try.func45, Try.ntmps45
    go_wp2_with fail
    refine (fracValid_any a n c q w H.out hn).mono ?_
    rintro e w' ⟨rfl, rfl⟩
    rw [HQ.out]
    go_wp2
    go_ret2
    exact ⟨rfl, Below.refl _ _⟩
theorem Digits_any (a : Option Addr) (n c : Nat) (q : List Int) (x : Int) (w : World) (h : Ints w a n q) (hn : n ≤ 4611686018427387904) :
    Calls Try.prog 45 #[.slice a n c, .int .i64 x] w fun e w' => ∃ ao N co, e = .returned (.tuple #[.slice ao N co, .int .i64 (dgE q x)]) ∧ Ints w' ao N (dgL q x) ∧ N ≤ 10 ∧ N ≤ co ∧ co ≤ maxLen ∧ Below w.heap.size w w' := by
  by_cases hD : isD q x = true
  · refine (Digits_yes a n c q x w h hD).mono ?_
    rintro e w' ⟨ao, co, rfl, h1, h2, h3, h4⟩
    have := isQ_yes (isD_yes hD).1
    rw [h.1] at this
    exact ⟨ao, n, co, ret_one_two (by unfold dgE; rw [if_pos hD]), by unfold dgL; rw [if_pos hD]; exact h1, this.2.1, h2, h3, h4⟩
  · refine (Digits_no a n c q x w h hn (by simpa using hD)).mono ?_
    rintro e w' ⟨rfl, hb⟩
    exact ⟨none, 0, 0, ret_one_two (by unfold dgE; rw [if_neg hD]), by unfold dgL; rw [if_neg hD]; exact Ints.nil _ _, by omega, by omega, by unfold maxLen; omega, hb⟩

set_option maxHeartbeats 4000000 in
theorem Along_any (a1 a2 : Option Addr) (n c m d : Nat) (q cs : List Int) (w : World) (h : Ints w a1 n q) (h2 : Ints w a2 m cs) (hn : n ≤ 4611686018427387904) (hm : m ≤ 4611686018427387904) :
    Calls Try.prog 46 #[.slice a1 n c, .slice a2 m d] w fun e w' => e = .returned (.tuple #[.int .i64 (alV q cs), .int .i64 (alE q cs)]) ∧ Below w.heap.size w w' := by
  have H := Lib.hid h
  have H2 := Lib.hid h2
  by_cases hq : isQ q = true
  · by_cases hA : isA q cs = true
    · have e0 : isAL q cs = true := by unfold isAL; rw [hq, hA]; rfl
      have e1 : alV q cs = numA q cs q.length := by unfold alV; rw [if_pos e0]
      have e2 : alE q cs = 0 := by unfold alE; rw [if_pos e0]
      rw [e1, e2]
      have HN := Lib.hid (number_prog a1 a2 n c m d q cs w h h2 hq hA)
      obtain ⟨V, hV⟩ : ∃ V, numA q cs q.length = V := ⟨_, rfl⟩
      rw [hV] at HN ⊢
      have HQ := Lib.hid hq
      have HAA := Lib.hid hA
      have HVA := Lib.hid (validA_any a1 a2 n c m d q cs w h h2 hq hm)
      clear h h2 hq hA e0 e1 e2 hV
      go_enter Try.func46, Try.ntmps46
      go_wp2_with fail
      refine (fracValid_any a1 n c q w H.out hn).mono ?_
      rintro e w' ⟨rfl, rfl⟩
      rw [HQ.out]
      go_wp2_with fail
      refine HVA.out.mono ?_
      rintro e w'' ⟨rfl, rfl⟩
      rw [HAA.out]
      go_wp2_with fail
      refine HN.out.mono ?_
      rintro e w1 ⟨rfl, hb⟩
      have HB := Lib.hid hb
      clear hb
      go_wp2
      go_ret2
      exact ⟨rfl, HB.out⟩
    · have hA' : isA q cs = false := by simpa using hA
      have e0 : isAL q cs = false := by unfold isAL; rw [hA', Bool.and_false]
      have e1 : alV q cs = 0 := by unfold alV; rw [e0]; rfl
      have e2 : alE q cs = 2 := by unfold alE; rw [e0]; rfl
      rw [e1, e2]
      have HQ := Lib.hid hq
      have HAA := Lib.hid hA'
      have HVA := Lib.hid (validA_any a1 a2 n c m d q cs w h h2 hq hm)
      clear h h2 hq hA hA' e0 e1 e2
      go_enter Try.func46, Try.ntmps46
      go_wp2_with fail
      refine (fracValid_any a1 n c q w H.out hn).mono ?_
      rintro e w' ⟨rfl, rfl⟩
      rw [HQ.out]
      go_wp2_with fail
      refine HVA.out.mono ?_
      rintro e w'' ⟨rfl, rfl⟩
      rw [HAA.out]
      go_wp2
      go_ret2
      exact ⟨rfl, Below.refl _ _⟩
  · have hq' : isQ q = false := by simpa using hq
    have e0 : isAL q cs = false := by unfold isAL; rw [hq', Bool.false_and]
    have e1 : alV q cs = 0 := by unfold alV; rw [e0]; rfl
    have e2 : alE q cs = 2 := by unfold alE; rw [e0]; rfl
    rw [e1, e2]
    have HQ := Lib.hid hq'
    clear h h2 hq hq' e0 e1 e2
    go_enter Try.func46, Try.ntmps46
    go_wp2_with fail
    refine (fracValid_any a1 n c q w H.out hn).mono ?_
    rintro e w' ⟨rfl, rfl⟩
    rw [HQ.out]
    go_wp2
    go_ret2
    exact ⟨rfl, Below.refl _ _⟩

theorem isD_take (q : List Int) (x : Int) : isD (q.take 40) x = isD q x := by
  unfold isD
  rw [isQ_take]
  by_cases h : isQ q = true
  · rw [isQ_take_yes h]
  · have : isQ q = false := by simpa using h
    rw [this]; simp
theorem dgL_take (q : List Int) (x : Int) : dgL (q.take 40) x = dgL q x := by
  unfold dgL
  rw [isD_take]
  by_cases h : isD q x = true
  · rw [isQ_take_yes (isD_yes h).1]
  · rw [if_neg h, if_neg h]
theorem dgE_take (q : List Int) (x : Int) : dgE (q.take 40) x = dgE q x := by unfold dgE; rw [isD_take]
theorem isAL_take (q c : List Int) : isAL (q.take 40) (c.take 40) = isAL q c := by
  unfold isAL
  rw [isQ_take]
  by_cases h : isQ q = true
  · rw [isQ_take_yes h, isA_take h]
  · have : isQ q = false := by simpa using h
    rw [this, Bool.false_and, Bool.false_and]
theorem isAL_yes {q c : List Int} (h : isAL q c = true) : isQ q = true ∧ isA q c = true := by
  simpa [isAL, Bool.and_eq_true] using h
theorem alV_take (q c : List Int) : alV (q.take 40) (c.take 40) = alV q c := by
  unfold alV
  rw [isAL_take]
  by_cases h : isAL q c = true
  · rw [isQ_take_yes (isAL_yes h).1, isA_take_yes (isAL_yes h).1 (isAL_yes h).2]
  · rw [if_neg h, if_neg h]
theorem alE_take (q c : List Int) : alE (q.take 40) (c.take 40) = alE q c := by unfold alE; rw [isAL_take]
end Go.Proofs.Ytbdabpmpfciibaa
