/- The law NumeralCold: its walk in every case. No condition. -/
import Derived.Test.YtbdabpmpfciibaaRefMove
namespace Go.Proofs.Ytbdabpmpfciibaa
open Go.RowKit
attribute [local go_sem] Oper.semAt_some

def pairV (n : Int) : Int × Int := if 0 ≤ n ∧ n ≤ 100000 then (coldA n, coldA n + n) else (0, 0)
def pairE (n : Int) : Int := if 0 ≤ n ∧ n ≤ 100000 then 0 else 2
theorem Pair_all (n : Int) (w : World) :
    Calls Try.prog 40 #[.int .i64 n] w fun e w' => e = .returned (.tuple #[.agg #[.int .i64 (pairV n).1, .int .i64 (pairV n).2], .int .i64 (pairE n)]) ∧ Below w.heap.size w w' := by
  unfold pairV pairE
  by_cases h : 0 ≤ n ∧ n ≤ 100000
  · rw [if_pos h, if_pos h]
    exact Pair_yes n w h.1 h.2
  · rw [if_neg h, if_neg h]
    exact Pair_no n w (by omega)

/-- The two boxes of the law. -/
structure CX (w : World) (g : Nat) (m p : Int × Int) (W : World) : Prop where
  b : Below w.heap.size w W
  m0 : W.cell? ⟨g, 0, none⟩ = some (.int .i64 m.1)
  m1 : W.cell? ⟨g, 1, none⟩ = some (.int .i64 m.2)
  lt : g < W.heap.size
theorem CX.later {w W W' : World} {g : Nat} {m p : Int × Int} (h : CX w g m p W) (hb : Below W.heap.size W W') : CX w g m p W' :=
  ⟨h.b.trans (hb.mono h.b.size), (hb.cell (p := ⟨g, 0, none⟩) h.lt).trans h.m0, (hb.cell (p := ⟨g, 1, none⟩) h.lt).trans h.m1, Nat.lt_of_lt_of_le h.lt hb.size⟩

set_option maxHeartbeats 8000000 in
set_option maxRecDepth 100000 in
theorem lawCold_any (a b n : Int) (w : World) :
    Calls Try.prog 7 #[.int .i64 a, .int .i64 b, .int .i64 n] w fun e w' => e = .returned (.bool true) ∧ Below w.heap.size w w' := by
  have HM := Lib.hid (fun w => Move_any a b w)
  have HP := Lib.hid (fun w => Pair_all n w)
  have hq := eql46
  have hnq := neq46
  have hgd := guard46
  go_enter Try.func7, Try.ntmps7
  go_wp2_with fail
  refine (Cold_any a b _).mono ?_
  rintro e w1 ⟨rfl, hb1⟩
  have HB1 := Lib.hid hb1
  clear hb1
  go_wp2_with fail
  refine (HM.out _).mono ?_
  rintro e w2 ⟨rfl, hb2⟩
  have HB2 := Lib.hid (HB1.out.trans (hb2.mono HB1.out.size))
  clear hb2
  obtain ⟨M, hM⟩ : ∃ M, moveV a b = M := ⟨_, rfl⟩
  obtain ⟨m0, m1⟩ := M
  have HMV := Lib.hid hM
  rw [hM]
  clear hM
  go_wp2_with fail
  refine (HP.out _).mono ?_
  rintro e w3 ⟨rfl, hb3⟩
  have hA : CX w w2.heap.size (m0, m1) (0, 0) (w2.alloc (.cells #[.int .i64 m0, .int .i64 m1] 46)) :=
    ⟨HB2.out.alloc HB2.out.size _, by simp, by simp, by simp⟩
  have hX := (hA.later hb3).later ((Below.refl w3.heap.size w3).alloc (Nat.le_refl _) (.cells #[.int .i64 (pairV n).1, .int .i64 (pairV n).2] 46))
  obtain ⟨g, hg⟩ : ∃ g, w2.heap.size = g := ⟨_, rfl⟩
  rw [hg] at hX ⊢
  have HX := Lib.hid hX
  clear hA hX hb3 hg HB1 HB2 HM HP
  by_cases hn : 0 ≤ n ∧ n ≤ 100000
  · have p1 : pairV n = (coldA n, coldA n + n) := by unfold pairV; rw [if_pos hn]
    have p2 : pairE n = 0 := by unfold pairE; rw [if_pos hn]
    rw [p1] at HX ⊢
    rw [p2]
    have HRP := Lib.hid (fun w => refPair_any n w hn.1 (by omega))
    obtain ⟨A, hA⟩ : ∃ A, coldA n = A := ⟨_, rfl⟩
    rw [hA] at HRP HX ⊢
    obtain ⟨B, hB⟩ : ∃ B, A + n = B := ⟨_, rfl⟩
    rw [hB] at HRP HX
    simp only at HX ⊢
    rw [hB]
    have n0 : ¬ n < 0 := by omega
    have n1 : ¬ 100000 < n := by omega
    clear hn p1 p2 hA hB
    have z0 : (w3.alloc (.cells #[.int .i64 A, .int .i64 B] 46)).cell? ⟨w3.heap.size, 0, none⟩ = some (.int .i64 A) := by simp
    have z1 : (w3.alloc (.cells #[.int .i64 A, .int .i64 B] 46)).cell? ⟨w3.heap.size, 1, none⟩ = some (.int .i64 B) := by simp
    obtain ⟨W4, hW4⟩ : ∃ W4, w3.alloc (.cells #[.int .i64 A, .int .i64 B] 46) = W4 := ⟨_, rfl⟩
    have hzl : w3.heap.size < W4.heap.size := by rw [← hW4]; simp
    rw [hW4] at HX z0 z1
    have HZ := Lib.hid (And.intro z0 (And.intro z1 hzl))
    go_wp2_with fail
    clear hW4
    go_region_held3 (fun w' => w'.cell? ⟨w3.heap.size, 0, none⟩ = some (.int .i64 A) ∧ w'.cell? ⟨w3.heap.size, 1, none⟩ = some (.int .i64 B))
      (first | exact ⟨HZ.out.1, HZ.out.2.1⟩ | exact ⟨(hb.cell (p := ⟨w3.heap.size, 0, none⟩) HZ.out.2.2).trans HZ.out.1, (hb.cell (p := ⟨w3.heap.size, 1, none⟩) HZ.out.2.2).trans HZ.out.2.1⟩)
      (first | (go_at_call 41; refine (HRP.out _).mono ?_; rintro e w5 ⟨rfl, hb⟩))
    have hcx := HX.out.later (show Below W4.heap.size W4 w5 from ⟨hb.os, hb.tape, hb.output, hb.size, hb.block⟩)
    clear hb HX HZ HRP hzl z0 z1
    have HBd := Lib.hid hcx
    clear hcx
    by_cases hp : isHp a b = true
    · have k1 : coldV a b = isCold a b := by unfold coldV; rw [hp, Bool.true_and]
      have k2 : coldE a b = 0 := by unfold coldE; rw [if_pos hp]
      rw [k1, k2]
      have HRM := Lib.hid (fun w => refMove_any a b w hp)
      have HRC := Lib.hid (fun w => refCold_any a b w hp)
      rw [HMV.out] at HRM
      have HHP := Lib.hid (show isHp a b = true from hp)
      obtain ⟨E, hE⟩ : ∃ E, moveE a b = E := ⟨_, rfl⟩
      rw [hE] at HRM ⊢
      obtain ⟨C, hC⟩ : ∃ C, isCold a b = C := ⟨_, rfl⟩
      rw [hC] at HRC ⊢
      clear hp k1 k2 hE hC
      go_wp2_with fail
      refine (heaps_any a b _).mono ?_
      rintro e wh ⟨rfl, rfl⟩
      rw [HHP.out]
      go_wp2_with fail
      refine (HRM.out _).mono ?_
      rintro e w6 ⟨rfl, hb6⟩
      have HB6 := Lib.hid (HBd.out.later hb6)
      have HB7 := Lib.hid (HB6.out.later ((Below.refl w6.heap.size w6).alloc (Nat.le_refl _) (.cells #[.int .i64 m0, .int .i64 m1] 46)))
      clear hb6 HRM
      go_wp2_with fail
      refine (HRC.out _).mono ?_
      rintro e w8 ⟨rfl, hb8⟩
      have HB8 := Lib.hid (HB7.out.later hb8)
      have x0 := (hb8.cell (p := ⟨w6.heap.size, 0, none⟩) (by simp)).trans (show (w6.alloc (.cells #[.int .i64 m0, .int .i64 m1] 46)).cell? ⟨w6.heap.size, 0, none⟩ = some (.int .i64 m0) by simp)
      have x1 := (hb8.cell (p := ⟨w6.heap.size, 1, none⟩) (by simp)).trans (show (w6.alloc (.cells #[.int .i64 m0, .int .i64 m1] 46)).cell? ⟨w6.heap.size, 1, none⟩ = some (.int .i64 m1) by simp)
      have y0 := HB8.out.m0
      have y1 := HB8.out.m1
      simp only at y0 y1
      clear hb8 HRC
      go_wp2_with fail
      refine (awake_any _).mono ?_
      rintro e w9 ⟨rfl, hb9⟩
      have HB9 := Lib.hid (HB8.out.later hb9)
      clear hb9 x0 x1 y0 y1
      go_wp2
      go_ret
      exact ⟨rfl, HB9.out.b⟩
    · have hp' : isHp a b = false := by simpa using hp
      have k1 : coldV a b = false := by unfold coldV; rw [hp', Bool.false_and]
      have k2 : coldE a b = 2 := by unfold coldE; rw [if_neg hp]
      have k3 : moveE a b = 2 := by unfold moveE; rw [if_neg hp]
      have k4 : m0 = 0 ∧ m1 = 0 := by
        have h := HMV.out
        unfold moveV at h
        rw [if_neg hp] at h
        injection h with h1 h2
        exact ⟨h1.symm, h2.symm⟩
      obtain ⟨rfl, rfl⟩ := k4
      rw [k1, k2, k3]
      have HHP := Lib.hid hp'
      clear hp hp' k1 k2 k3
      go_wp2_with fail
      refine (heaps_any a b _).mono ?_
      rintro e wh ⟨rfl, rfl⟩
      rw [HHP.out]
      have y0 := HBd.out.m0
      have y1 := HBd.out.m1
      simp only at y0 y1
      go_wp2_with fail
      refine (awake_any _).mono ?_
      rintro e w9 ⟨rfl, hb9⟩
      have HB9 := Lib.hid (HBd.out.later hb9)
      clear hb9 y0 y1
      go_wp2
      go_ret
      exact ⟨rfl, HB9.out.b⟩
  · have p1 : pairV n = (0, 0) := by unfold pairV; rw [if_neg hn]
    have p2 : pairE n = 2 := by unfold pairE; rw [if_neg hn]
    rw [p1] at HX ⊢
    rw [p2]
    simp only at HX ⊢
    have z0 : (w3.alloc (.cells #[.int .i64 0, .int .i64 0] 46)).cell? ⟨w3.heap.size, 0, none⟩ = some (.int .i64 0) := by simp
    have z1 : (w3.alloc (.cells #[.int .i64 0, .int .i64 0] 46)).cell? ⟨w3.heap.size, 1, none⟩ = some (.int .i64 0) := by simp
    have hcx := HX.out
    rcases (show n < 0 ∨ (¬ n < 0 ∧ 100000 < n) by omega) with hn1 | ⟨hn1, hn2⟩
    · clear hn p1 p2 HX
      go_wp2_with fail
      clear z0 z1
      have HBd := Lib.hid hcx
      clear hcx
      by_cases hp : isHp a b = true
      · have k1 : coldV a b = isCold a b := by unfold coldV; rw [hp, Bool.true_and]
        have k2 : coldE a b = 0 := by unfold coldE; rw [if_pos hp]
        rw [k1, k2]
        have HRM := Lib.hid (fun w => refMove_any a b w hp)
        have HRC := Lib.hid (fun w => refCold_any a b w hp)
        rw [HMV.out] at HRM
        have HHP := Lib.hid (show isHp a b = true from hp)
        obtain ⟨E, hE⟩ : ∃ E, moveE a b = E := ⟨_, rfl⟩
        rw [hE] at HRM ⊢
        obtain ⟨C, hC⟩ : ∃ C, isCold a b = C := ⟨_, rfl⟩
        rw [hC] at HRC ⊢
        clear hp k1 k2 hE hC
        try go_wp2_with fail
        refine (heaps_any a b _).mono ?_
        rintro e wh ⟨rfl, rfl⟩
        rw [HHP.out]
        go_wp2_with fail
        refine (HRM.out _).mono ?_
        rintro e w6 ⟨rfl, hb6⟩
        have HB6 := Lib.hid (HBd.out.later hb6)
        have HB7 := Lib.hid (HB6.out.later ((Below.refl w6.heap.size w6).alloc (Nat.le_refl _) (.cells #[.int .i64 m0, .int .i64 m1] 46)))
        clear hb6 HRM
        go_wp2_with fail
        refine (HRC.out _).mono ?_
        rintro e w8 ⟨rfl, hb8⟩
        have HB8 := Lib.hid (HB7.out.later hb8)
        have x0 := (hb8.cell (p := ⟨w6.heap.size, 0, none⟩) (by simp)).trans (show (w6.alloc (.cells #[.int .i64 m0, .int .i64 m1] 46)).cell? ⟨w6.heap.size, 0, none⟩ = some (.int .i64 m0) by simp)
        have x1 := (hb8.cell (p := ⟨w6.heap.size, 1, none⟩) (by simp)).trans (show (w6.alloc (.cells #[.int .i64 m0, .int .i64 m1] 46)).cell? ⟨w6.heap.size, 1, none⟩ = some (.int .i64 m1) by simp)
        have y0 := HB8.out.m0
        have y1 := HB8.out.m1
        simp only at y0 y1
        clear hb8 HRC
        go_wp2_with fail
        refine (awake_any _).mono ?_
        rintro e w9 ⟨rfl, hb9⟩
        have HB9 := Lib.hid (HB8.out.later hb9)
        clear hb9 x0 x1 y0 y1
        go_wp2
        go_ret
        exact ⟨rfl, HB9.out.b⟩
      · have hp' : isHp a b = false := by simpa using hp
        have k1 : coldV a b = false := by unfold coldV; rw [hp', Bool.false_and]
        have k2 : coldE a b = 2 := by unfold coldE; rw [if_neg hp]
        have k3 : moveE a b = 2 := by unfold moveE; rw [if_neg hp]
        have k4 : m0 = 0 ∧ m1 = 0 := by
          have h := HMV.out
          unfold moveV at h
          rw [if_neg hp] at h
          injection h with h1 h2
          exact ⟨h1.symm, h2.symm⟩
        obtain ⟨rfl, rfl⟩ := k4
        rw [k1, k2, k3]
        have HHP := Lib.hid hp'
        clear hp hp' k1 k2 k3
        try go_wp2_with fail
        refine (heaps_any a b _).mono ?_
        rintro e wh ⟨rfl, rfl⟩
        rw [HHP.out]
        have y0 := HBd.out.m0
        have y1 := HBd.out.m1
        simp only at y0 y1
        go_wp2_with fail
        refine (awake_any _).mono ?_
        rintro e w9 ⟨rfl, hb9⟩
        have HB9 := Lib.hid (HBd.out.later hb9)
        clear hb9 y0 y1
        go_wp2
        go_ret
        exact ⟨rfl, HB9.out.b⟩
    · clear hn p1 p2 HX
      go_wp2_with fail
      clear z0 z1
      have HBd := Lib.hid hcx
      clear hcx
      by_cases hp : isHp a b = true
      · have k1 : coldV a b = isCold a b := by unfold coldV; rw [hp, Bool.true_and]
        have k2 : coldE a b = 0 := by unfold coldE; rw [if_pos hp]
        rw [k1, k2]
        have HRM := Lib.hid (fun w => refMove_any a b w hp)
        have HRC := Lib.hid (fun w => refCold_any a b w hp)
        rw [HMV.out] at HRM
        have HHP := Lib.hid (show isHp a b = true from hp)
        obtain ⟨E, hE⟩ : ∃ E, moveE a b = E := ⟨_, rfl⟩
        rw [hE] at HRM ⊢
        obtain ⟨C, hC⟩ : ∃ C, isCold a b = C := ⟨_, rfl⟩
        rw [hC] at HRC ⊢
        clear hp k1 k2 hE hC
        try go_wp2_with fail
        refine (heaps_any a b _).mono ?_
        rintro e wh ⟨rfl, rfl⟩
        rw [HHP.out]
        go_wp2_with fail
        refine (HRM.out _).mono ?_
        rintro e w6 ⟨rfl, hb6⟩
        have HB6 := Lib.hid (HBd.out.later hb6)
        have HB7 := Lib.hid (HB6.out.later ((Below.refl w6.heap.size w6).alloc (Nat.le_refl _) (.cells #[.int .i64 m0, .int .i64 m1] 46)))
        clear hb6 HRM
        go_wp2_with fail
        refine (HRC.out _).mono ?_
        rintro e w8 ⟨rfl, hb8⟩
        have HB8 := Lib.hid (HB7.out.later hb8)
        have x0 := (hb8.cell (p := ⟨w6.heap.size, 0, none⟩) (by simp)).trans (show (w6.alloc (.cells #[.int .i64 m0, .int .i64 m1] 46)).cell? ⟨w6.heap.size, 0, none⟩ = some (.int .i64 m0) by simp)
        have x1 := (hb8.cell (p := ⟨w6.heap.size, 1, none⟩) (by simp)).trans (show (w6.alloc (.cells #[.int .i64 m0, .int .i64 m1] 46)).cell? ⟨w6.heap.size, 1, none⟩ = some (.int .i64 m1) by simp)
        have y0 := HB8.out.m0
        have y1 := HB8.out.m1
        simp only at y0 y1
        clear hb8 HRC
        go_wp2_with fail
        refine (awake_any _).mono ?_
        rintro e w9 ⟨rfl, hb9⟩
        have HB9 := Lib.hid (HB8.out.later hb9)
        clear hb9 x0 x1 y0 y1
        go_wp2
        go_ret
        exact ⟨rfl, HB9.out.b⟩
      · have hp' : isHp a b = false := by simpa using hp
        have k1 : coldV a b = false := by unfold coldV; rw [hp', Bool.false_and]
        have k2 : coldE a b = 2 := by unfold coldE; rw [if_neg hp]
        have k3 : moveE a b = 2 := by unfold moveE; rw [if_neg hp]
        have k4 : m0 = 0 ∧ m1 = 0 := by
          have h := HMV.out
          unfold moveV at h
          rw [if_neg hp] at h
          injection h with h1 h2
          exact ⟨h1.symm, h2.symm⟩
        obtain ⟨rfl, rfl⟩ := k4
        rw [k1, k2, k3]
        have HHP := Lib.hid hp'
        clear hp hp' k1 k2 k3
        try go_wp2_with fail
        refine (heaps_any a b _).mono ?_
        rintro e wh ⟨rfl, rfl⟩
        rw [HHP.out]
        have y0 := HBd.out.m0
        have y1 := HBd.out.m1
        simp only at y0 y1
        go_wp2_with fail
        refine (awake_any _).mono ?_
        rintro e w9 ⟨rfl, hb9⟩
        have HB9 := Lib.hid (HBd.out.later hb9)
        clear hb9 y0 y1
        go_wp2
        go_ret
        exact ⟨rfl, HB9.out.b⟩
end Go.Proofs.Ytbdabpmpfciibaa
