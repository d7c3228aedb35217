/- The law NumeralShifts: its walk in every case. No condition. -/
import Derived.Test.YtbdabpmpfciibaaLawShifts
namespace Go.Proofs.Ytbdabpmpfciibaa
open Go.RowKit

set_option maxHeartbeats 4000000 in
set_option maxRecDepth 100000 in
theorem lawShifts_any (a b : Int) (w : World) :
    Calls Try.prog 5 #[.int .i64 a, .int .i64 b] w fun e w' => e = .returned (.bool true) ∧ Below w.heap.size w w' := by
  obtain ⟨SV, hSV⟩ : ∃ V, shV a = V := ⟨_, rfl⟩
  obtain ⟨SE, hSE⟩ : ∃ V, shE a = V := ⟨_, rfl⟩
  obtain ⟨CV, hCV⟩ : ∃ V, ciV a b = V := ⟨_, rfl⟩
  obtain ⟨CE, hCE⟩ : ∃ V, ciE a b = V := ⟨_, rfl⟩
  have HD := Lib.hid (And.intro hSV (And.intro hSE (And.intro hCV hCE)))
  clear hSV hSE hCV hCE
  go_enter Try.func5, Try.ntmps5
  go_wp2_with fail
  refine (Shift_any a _).mono ?_
  rintro e w1 ⟨rfl, hb1⟩
  rw [HD.out.1, HD.out.2.1]
  have B1 := Lib.hid hb1
  clear hb1
  go_wp2_with fail
  refine (Circle_any a b _).mono ?_
  rintro e w2 ⟨rfl, hb2⟩
  rw [HD.out.2.2.1, HD.out.2.2.2]
  have B2 := Lib.hid (B1.out.trans (hb2.mono B1.out.size))
  clear hb2 B1
  go_wp2_with fail
  refine (refNumber_any a _).mono ?_
  rintro e w' ⟨rfl, rfl⟩
  by_cases ha : isNum a = true
  · have HA := Lib.hid ha
    have h1 : szV (shN a) = SV := by rw [← HD.out.1]; unfold shV; rw [if_pos ha]
    have h2 : szE (shN a) = SE := by rw [← HD.out.2.1]; unfold shE; rw [if_pos ha]
    have H12 := Lib.hid (And.intro h1 h2)
    rw [ha]
    clear ha h1 h2
    go_wp2_with fail
    refine (refShift_any a _ HA.out).mono ?_
    rintro e w3 ⟨rfl, hb3⟩
    rw [H12.out.1, H12.out.2]
    have B3 := Lib.hid (B2.out.trans (hb3.mono B2.out.size))
    clear hb3 B2
    go_wp2_with fail
    refine (awake_any _).mono ?_
    rintro e w4 ⟨rfl, hb4⟩
    have B4 := Lib.hid (B3.out.trans (hb4.mono B3.out.size))
    clear hb4 B3
    go_wp2_with fail
    refine (refNumber_any b _).mono ?_
    rintro e w' ⟨rfl, rfl⟩
    by_cases hb : isNum b = true
    · have HB := Lib.hid hb
      have h3 : szV (ciN a b) = CV := by rw [← HD.out.2.2.1]; unfold ciV; rw [if_pos ⟨HA.out, hb⟩]
      have h4 : szE (ciN a b) = CE := by rw [← HD.out.2.2.2]; unfold ciE; rw [if_pos ⟨HA.out, hb⟩]
      have H34 := Lib.hid (And.intro h3 h4)
      rw [hb]
      clear hb h3 h4
      go_wp2_with fail
      refine (refCircle_any a b _ HA.out HB.out).mono ?_
      rintro e w5 ⟨rfl, hb5⟩
      rw [H34.out.1, H34.out.2]
      have B5 := Lib.hid (B4.out.trans (hb5.mono B4.out.size))
      clear hb5 B4
      go_wp2
      go_ret
      exact ⟨rfl, B5.out⟩
    · have h3 : CV = 0 := by rw [← HD.out.2.2.1]; unfold ciV; rw [if_neg (fun h => hb h.2)]
      have h4 : CE = 2 := by rw [← HD.out.2.2.2]; unfold ciE; rw [if_neg (fun h => hb h.2)]
      have hb' : isNum b = false := by simpa using hb
      rw [hb']
      subst h3 h4
      clear hb hb' HD
      go_wp2
      go_ret
      exact ⟨rfl, B4.out⟩
  · have h1 : SV = 0 := by rw [← HD.out.1]; unfold shV; rw [if_neg ha]
    have h2 : SE = 2 := by rw [← HD.out.2.1]; unfold shE; rw [if_neg ha]
    have h3 : CV = 0 := by rw [← HD.out.2.2.1]; unfold ciV; rw [if_neg (fun h => ha h.1)]
    have h4 : CE = 2 := by rw [← HD.out.2.2.2]; unfold ciE; rw [if_neg (fun h => ha h.1)]
    have ha' : isNum a = false := by simpa using ha
    rw [ha']
    subst h1 h2 h3 h4
    clear ha ha' HD
    go_wp2_with fail
    refine (awake_any _).mono ?_
    rintro e w4 ⟨rfl, hb4⟩
    have B4 := Lib.hid (B2.out.trans (hb4.mono B2.out.size))
    clear hb4
    go_wp2
    go_ret
    exact ⟨rfl, B4.out⟩
end Go.Proofs.Ytbdabpmpfciibaa
