/- The law LatticeDuality, for every input: the call returns true and leaves memory and its arguments as they were. No condition. -/
import Derived.Test.YtgfenponlkmfmaaRows
import Derived.Test.YtgfenponlkmfmaaKit
import Derived.Test.YtgfenponlkmfmaaLawDua
import Derived.WalkKit
import Derived.ProofKit
import Derived.OpenShut
import Derived.SizedLaws
namespace Go.Proofs.Ytgfenponlkmfmaa.latticeDuality
open Go.ChangeShapes Go.WideShapes Go.ChangeAt Go.RowKit

set_option maxRecDepth 100000 in
theorem lifted (os : Os) (started : os.Started) (H : Type) (enc : TypeId × Value → H) :
    ReturnsInHanded {} Try.checked os 17 .any (Rows.latticeDualitySpec.pre6 enc Try.prog Try.f17 Rows.latticeDualityRow.domain false) (Rows.latticeDualitySpec.post enc Try.prog Try.f17 false true false false) := by
  refine returnsInHanded_of_change_sized (C := Try.checked) Try.own started (by kernel_rfl) Try.func17
    (ChangeSpec.witness6 (enc := enc) (C := Try.checked) false ⟨#[], #[.slice none 0 0, .slice none 0 0], []⟩ 8 (by kernel_rfl) (by kernel_rfl) (by kernel_rfl) (by kernel_rfl)) ?_
  intro W base args ds gs before hval0 hW _ hsz0 _
  have hsz : (DataW.weightsEach Try.prog (Try.f17.params.toList ++ Rows.latticeDualitySpec.plain.varTypes Try.prog) (ds ++ gs)).all (· ≤ reachBytes) = true := hsz0
  have hval : ∀ (j : Nat) t v, Try.f17.params[j]? = some t → args[j]? = some v → Value.okWide Try.prog W .any base t v := hval0
  have hW' := hW
  obtain ⟨p, q, hA0, hV, rfl, hfz, hnd⟩ := hW
  have hA : DataW.TrodAll enc Try.prog W 0 (fun _ => true) true Try.f17.params.toList args.toList ds p := hA0
  rw [Try.params17] at hA hval hsz
  obtain ⟨v0, vs0, d0, ds0, p0, q0, hargs, rfl, rfl, h0, r0⟩ := trodAll_cons hA
  obtain ⟨v1, vs1, d1, ds1, p1, q1, rfl, rfl, rfl, h1, r1⟩ := trodAll_cons r0
  obtain ⟨rfl, rfl, rfl⟩ := trodAll_nil r1
  obtain rfl : args = #[v0, v1] := by cases args; simp_all
  obtain ⟨rfl, rfl⟩ := trodVars_none hV
  obtain ⟨a0, n0, c0, xs0, rfl, i0, l0, b0, m0⟩ := open_table (hval 0 22 v0 rfl rfl) h0 (fun e s hd => sized_slice hsz (j := 0) (t := 22) (e := 35) rfl (by rw [hd]; rfl) Try.underlying22)
  obtain ⟨a1, n1, c1, xs1, rfl, i1, l1, b1, m1⟩ := open_row (hval 1 35 v1 rfl rfl) h1 (fun e s hd => sized_slice hsz (j := 1) (t := 35) (e := 3) rfl (by rw [hd]; rfl) Try.underlying35)
  clear hA0 hval0
  simp only [List.append_nil] at hW'
  have lt0 : ∀ y ∈ p0, y.block < W.heap.size := fun y hy => by simpa using hW'.lt y (by simp [hy])
  have lt1 : ∀ y ∈ p1, y.block < W.heap.size := fun y hy => by simpa using hW'.lt y (by simp [hy])
  refine (LawDua_any a0 n0 c0 xs0 a1 n1 c1 xs1 W i0 b0 i1 b1 l1 m1).mono fun e W' ⟨he, hg⟩ => ?_
  subst he
  exact ⟨_, rfl, _, _, _, [], _, [], hW', trodAll_mk1 (shut_bool Try.underlying4 _), (trodAll_cons_mk (again_row h0 (by kernel_rfl) (of_decide_eq_true (by kernel_rfl)) hg lt0) (trodAll_cons_mk (again_row h1 (by kernel_rfl) (of_decide_eq_true (by kernel_rfl)) hg lt1) trodAll_mk0)), rfl, hg.frame _, fun h => by cases h⟩

theorem over : Rows.latticeDualityRow.holds Try.pinned (OpenSpec.ofChange Rows.latticeDualitySpec) :=
  OpenClaim.holds_of_wide 17 Try.f17 rfl rfl rfl rfl rfl rfl rfl ⟨rfl, rfl, rfl, rfl, rfl⟩ rfl rfl rfl rfl rfl (by kernel_rfl) Try.func17 (by kernel_rfl)
    (of_decide_eq_true (by kernel_rfl)) (by unfold Func.isWrapper; first | (rw [if_pos (by decide +kernel)]; kernel_rfl) | (rw [if_neg (by decide +kernel)]; exact ⟨rfl, rfl⟩))
    (fun os started H enc _ => lifted os started H enc)

theorem proved : Rows.LatticeDualitySaid :=
  over
end Go.Proofs.Ytgfenponlkmfmaa.latticeDuality
