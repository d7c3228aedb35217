/- The walk of the reference's Shown. Condition: the slice lies in memory. -/
import Derived.Test.YtopfcppmbkidgaaOwnS
namespace Go.Proofs.Ytopfcppmbkidgaa
open Go.RowKit Go.Shelf
attribute [local go_sem] Oper.semAt_some

def shS (a n : Int) (S : List Stp) : Nat → Stp | 0 => ⟨0, a, n, 1⟩ | k + 1 => nth4 S k
def shV (t : Stp) : Int := if t.a = 0 ∧ 1 < t.n then 0 else t.s

set_option maxHeartbeats 8000000 in
set_option maxRecDepth 100000 in
theorem shown_any (a n : Int) (al : Option Addr) (nl cl : Nat) (S : List Stp) (w : World) (h : Ag w al nl S) (hl : nl ≤ 4611686018427387904) :
    Calls Try.prog 45 #[.int .i64 a, .int .i64 n, .slice al nl cl] w fun e w' => e = .returned (.int .i64 (shV (shS a n S nl))) ∧ Below w.heap.size w w' := by
  have HA := Lib.hid h
  have HSL := Lib.hid h.1
  clear h
  go_enter Try.func45, Try.ntmps45
  go_wp2
  go_loopg [0, 1, 7, 9, 12] nl (fun gk s0 s1 s7 s9 s12 wr => ∃ k : Nat, k + gk = nl ∧ s12 = .int .i64 (k : Int) ∧ s0 = .int .i64 (shS a n S k).a ∧ s1 = .int .i64 (shS a n S k).n ∧ s7 = .int .i64 (shS a n S k).s ∧ Below w.heap.size w wr)
  case atStart => exact ⟨0, by omega, rfl, rfl, rfl, rfl, Below.refl _ _⟩
  case round =>
    obtain ⟨k, hk, rfl, rfl, rfl, rfl, hb⟩ := hrel
    have HK := Lib.hid hk
    have HBB := Lib.hid hb
    obtain ⟨⟨y0, y1, y2, y3⟩, hy⟩ : ∃ t, shS a n S k = t := ⟨_, rfl⟩
    rw [hy]
    have HY := Lib.hid hy
    simp only
    by_cases hlt : k < nl
    · have l1 : (k : Int) < (nl : Int) := by omega
      have l0 : (0 : Int) ≤ (k : Int) := by omega
      obtain ⟨b, o, rfl, -, hcc⟩ := (HA.out.later hb).pos (by omega)
      obtain ⟨t0, t1, t2, t3⟩ := hcc k hlt
      obtain ⟨⟨x0, x1, x2, x3⟩, hx⟩ : ∃ x, nth4 S k = x := ⟨_, rfl⟩
      rw [hx] at t0 t1 t2 t3
      simp only at t0 t1 t2 t3
      have HX := Lib.hid (show shS a n S (k + 1) = ⟨x0, x1, x2, x3⟩ from hx)
      have hsz := HBB.out.size
      have HB0 := Lib.hid (HBB.out.alloc hsz (.cells #[.int .i64 x0, .int .i64 x1, .int .i64 x2, .int .i64 x3] 55))
      obtain ⟨q0, q1, q2, q3⟩ := cell_four wr (.int .i64 x0) (.int .i64 x1) (.int .i64 x2) (.int .i64 x3) 55
      clear hx hy hk hb hcc
      go_wp2_with fail
      go_quiet (fail)
      go_wp2
      go_roundg (gk - 1)
      case rel => exact ⟨k + 1, by have := HK.out; omega, by go_num, by rw [HX.out], by rw [HX.out], by rw [HX.out], by first | exact HB0.out | exact below_drewN HB0.out _⟩
      case measure => have := HK.out; omega
    · have l1 : ¬ (k : Int) < (nl : Int) := by omega
      have hkn : k = nl := by omega
      have HF := Lib.hid (show shV (shS a n S nl) = shV ⟨y0, y1, y2, y3⟩ by rw [← hkn, HY.out])
      clear hk hy hb hkn
      by_cases h0 : y1 = 0
      · by_cases h1 : 1 < y2
        · have HV := Lib.hid (show shV ⟨y0, y1, y2, y3⟩ = 0 by unfold shV; rw [if_pos ⟨h0, h1⟩])
          go_wp2
          go_ret
          exact ⟨ret_int (HF.out.trans HV.out).symm, HBB.out⟩
        · have HV := Lib.hid (show shV ⟨y0, y1, y2, y3⟩ = y3 by unfold shV; rw [if_neg fun c => h1 c.2])
          go_wp2
          go_ret
          exact ⟨ret_int (HF.out.trans HV.out).symm, HBB.out⟩
      · have HV := Lib.hid (show shV ⟨y0, y1, y2, y3⟩ = y3 by unfold shV; rw [if_neg fun c => h0 c.1])
        go_wp2
        go_ret
        exact ⟨ret_int (HF.out.trans HV.out).symm, HBB.out⟩
end Go.Proofs.Ytopfcppmbkidgaa
