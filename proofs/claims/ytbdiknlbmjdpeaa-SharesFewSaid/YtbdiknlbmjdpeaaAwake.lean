/- The walk of the law SharesGreedy. No condition. -/
import Derived.Test.YtbdiknlbmjdpeaaEng
namespace Go.Proofs.Ytbdiknlbmjdpeaa
open Go.RowKit
attribute [local go_sem] Oper.semAt_some


theorem Row.ints {B : Nat} {v : Value} {xs : List Int} {W : World} (h : Row B v xs W) : ∃ a n c, v = .slice a n c ∧ Ints W a n xs ∧ n = xs.length := by
  obtain ⟨a, c, h1, h2, -, -⟩ := h.form
  exact ⟨a, _, c, h1, h2, rfl⟩
theorem equal_rows {B1 B2 : Nat} {v1 v2 : Value} {xs ys : List Int} (w : World) (h1 : Row B1 v1 xs w) (h2 : Row B2 v2 ys w) (hx : xs.length ≤ 1000000) (hy : ys.length ≤ 1000000) :
    Calls Try.prog 20 #[v1, v2] w fun e w' => e = .returned (.bool (xs == ys)) ∧ ∃ q, w' = w.drewN q := by
  obtain ⟨a1, n1, c1, rfl, i1, e1⟩ := h1.ints
  obtain ⟨a2, n2, c2, rfl, i2, e2⟩ := h2.ints
  exact equal_any a1 a2 n1 n2 c1 c2 xs ys w i1 i2 (by omega) (by omega)
theorem Row.drew {B : Nat} {v : Value} {xs : List Int} {W : World} (h : Row B v xs W) (q : Nat) : Row B v xs (W.drewN q) := own_same h (fun _ _ _ => rfl)
theorem Row.lit (w : World) (x : Int) : Ints (w.alloc (.cells #[.int .i64 x] 3)) (some ⟨w.heap.size, 0, none⟩) 1 [x] := by
  refine ⟨rfl, .inr ⟨w.heap.size, 0, rfl, by simp, fun j hj => ?_⟩⟩
  have : j = 0 := by omega
  subst this
  exact cell_box w (.int .i64 x) 3
theorem grd12 : grd 1 1 2 = some [2] := by decide +kernel

set_option maxHeartbeats 4000000 in
set_option maxRecDepth 100000 in
theorem awake_any (w : World) : Calls Try.prog 18 #[] w fun e w' => e = .returned (.bool true) ∧ Below w.heap.size w w' := by
  have HG := Lib.hid (fun w => Greedy_yes 1 2 (by omega) (by omega) (by omega) w)
  rw [grd12] at HG
  go_enter Try.func18, Try.ntmps18
  go_wp2_with fail
  refine (HG.out _).mono ?_
  rintro e w1 ⟨⟨v, rfl, hr⟩, hb⟩
  obtain ⟨a, n, c, rfl, hi, hn⟩ := hr.ints
  have hn2 : n = 1 := hn
  subst hn2
  have HB := Lib.hid hb
  have HI := Lib.hid hi
  have HL := Lib.hid (Row.lit w1 2)
  have hb2 := (Below.refl w1.heap.size w1).alloc (Nat.le_refl _) (.cells #[.int .i64 2] 3)
  have HB2 := Lib.hid hb2
  clear hr hb hn hi hb2
  go_wp2_with fail
  refine (equal_any _ _ _ _ _ _ _ _ _ (HI.out.below HB2.out) HL.out (by omega) (by omega)).mono ?_
  rintro e w2 ⟨rfl, q, rfl⟩
  go_wp2
  go_ret
  exact ⟨ret_bool (by decide), below_drewN (HB.out.trans (HB2.out.mono HB.out.size)) q⟩
end Go.Proofs.Ytbdiknlbmjdpeaa
