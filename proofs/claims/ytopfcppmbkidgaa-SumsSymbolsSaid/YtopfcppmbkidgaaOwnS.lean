/- The walks of own and steps. Condition: the slices lie in memory. -/
import Derived.Test.YtopfcppmbkidgaaRow5
namespace Go.Proofs.Ytopfcppmbkidgaa
open Go.RowKit Go.Shelf
attribute [local go_sem] Oper.semAt_some

theorem cell_four (W : World) (x y z u : Value) (t : TypeId) : (W.alloc (.cells #[x, y, z, u] t)).cell? ⟨W.heap.size, 0, none⟩ = some x ∧ (W.alloc (.cells #[x, y, z, u] t)).cell? ⟨W.heap.size, 1, none⟩ = some y ∧ (W.alloc (.cells #[x, y, z, u] t)).cell? ⟨W.heap.size, 2, none⟩ = some z ∧ (W.alloc (.cells #[x, y, z, u] t)).cell? ⟨W.heap.size, 3, none⟩ = some u := by
  refine ⟨?_, ?_, ?_, ?_⟩ <;> (unfold World.cell?; rw [heap_alloc_last]; rfl)

set_option maxHeartbeats 8000000 in
set_option maxRecDepth 100000 in
theorem own_any (a : Option Addr) (n c : Nat) (S : List Stp) (w : World) (h : Ag w a n S) (hl : n ≤ 5000000000) :
    Calls Try.prog 44 #[.slice a n c] w fun e w' => (∃ v', e = .returned v' ∧ Row5 w.heap.size v' S w') ∧ Below w.heap.size w w' := by
  have HA := Lib.hid h
  have HSL := Lib.hid h.1
  clear h
  go_enter Try.func44, Try.ntmps44
  go_wp2
  go_loopg [3, 5, 8] n (fun gk s3 s5 s8 wr => ∃ k : Nat, k + gk = n ∧ s8 = .int .i64 (k : Int) ∧ Row5 w.heap.size s3 (S.take k) wr ∧ Below w.heap.size w wr)
  case atStart => exact ⟨0, by omega, rfl, Row5.nil _ _, Below.refl _ _⟩
  case round =>
    obtain ⟨k, hk, rfl, hr, hb⟩ := hrel
    have HK := Lib.hid hk
    have HRR := Lib.hid hr
    have HBB := Lib.hid hb
    by_cases hlt : k < n
    · have l1 : (k : Int) < (n : Int) := by omega
      have l0 : (0 : Int) ≤ (k : Int) := by omega
      obtain ⟨b, o, rfl, -, hcc⟩ := (HA.out.later hb).pos (by omega)
      obtain ⟨t0, t1, t2, t3⟩ := hcc k hlt
      have hst := take_succ4 (S := S) (k := k) (by rw [HSL.out]; exact hlt)
      obtain ⟨⟨x0, x1, x2, x3⟩, hx⟩ : ∃ x, nth4 S k = x := ⟨_, rfl⟩
      rw [hx] at t0 t1 t2 t3 hst
      simp only at t0 t1 t2 t3
      have HST := Lib.hid hst
      obtain ⟨i0, hi, hz0, hz1, hz2⟩ := info_parts info55
      have hr2 := hr
      unfold Row5 at hr2
      have hsz := HBB.out.size
      have hln : (S.take k).length ≤ 5000000000 := by rw [List.length_take]; omega
      obtain ⟨Q, hQ⟩ : ∃ Q, (S.take k).length = Q := ⟨_, rfl⟩
      rw [hQ] at hr2 hln
      have HQ := Lib.hid hQ
      have HB0 := Lib.hid (HBB.out.alloc hsz (.cells #[.int .i64 x0, .int .i64 x1, .int .i64 x2, .int .i64 x3] 66))
      have hr3 := World.ownsRow.alloc (h := hr2) (.cells #[.int .i64 x0, .int .i64 x1, .int .i64 x2, .int .i64 x3] 66)
      have hsz3 := HB0.out.size
      clear hst hx hk hr hb hQ hr2 hcc
      go_wp2_with (at_builtin; refine wpList_append_own _ rfl _ _ 43 rfl (w.heap.size) 55 i0 (.agg #[.int .i64 0, .int .i64 0, .int .i64 0, .int .i64 0]) 4 32 Try.underlying43 hi hz0 hz1 hz2 rfl (by decide) _ _ _ rfl (World.ownsRow.alloc (h := hr3) _) ⟨wr.heap.size + 1, 0, none⟩ 1 1 (fl4 [⟨x0, x1, x2, x3⟩]) rfl rfl (by have := cell4_new (wr.alloc (.cells #[.int .i64 x0, .int .i64 x1, .int .i64 x2, .int .i64 x3] 66)) ⟨x0, x1, x2, x3⟩ 55; simpa using this) (fl4_one _) (by unfold maxLen; omega) (by omega) (by simp; omega) ?_; intro v' w3 hown' hgrow _)
      have hb3 : Below w.heap.size w w3 := (HB0.out.alloc hsz3 _).grown hgrow (by first | (simp; done) | (simp; omega)) (fun j e => (World.ownsRow.lt hr3 j e).1)
      have hrow : Row5 w.heap.size v' (S.take (k + 1)) w3 := by
        unfold Row5
        rw [HST.out, List.length_append, HQ.out, fl4_app]
        exact hown'
      have HF := Lib.hid (And.intro hrow hb3)
      clear hown' hgrow hrow hb3 hr3
      go_wp2
      go_roundg (gk - 1)
      case rel => exact ⟨k + 1, by have := HK.out; omega, by go_num, HF.out.1, HF.out.2⟩
      case measure => have := HK.out; omega
    · have l1 : ¬ (k : Int) < (n : Int) := by omega
      have hf : S.take k = S := List.take_of_length_le (by have := HSL.out; omega)
      have HF := Lib.hid (show Row5 w.heap.size u3 S wr by have := HRR.out; rwa [hf] at this)
      clear hk hr hb hf
      go_wp2
      go_ret
      exact ⟨⟨_, rfl, HF.out⟩, HBB.out⟩

set_option maxHeartbeats 8000000 in
set_option maxRecDepth 100000 in
theorem steps_any (a : Option Addr) (n c : Nat) (S : List Stp) (w : World) (h : Ag w a n S) (hl : n ≤ 4611686018427387904) :
    Calls Try.prog 39 #[.slice a n c] w fun e w' => (∃ v', e = .returned v' ∧ Row4 w.heap.size v' (S.take 120) w') ∧ Below w.heap.size w w' := by
  have HA := Lib.hid h
  have HSL := Lib.hid h.1
  clear h
  go_enter Try.func39, Try.ntmps39
  go_wp2
  go_loopg [3, 4, 5, 8] n (fun gk s3 s4 s5 s8 wr => ∃ k : Nat, k + gk = n ∧ s8 = .int .i64 (k : Int) ∧ Row4 w.heap.size s3 ((S.take 120).take k) wr ∧ Below w.heap.size w wr)
  case atStart => exact ⟨0, by omega, rfl, Row4.nil _ _, Below.refl _ _⟩
  case round =>
    obtain ⟨k, hk, rfl, hr, hb⟩ := hrel
    have HK := Lib.hid hk
    have HRR := Lib.hid hr
    have HBB := Lib.hid hb
    by_cases hlt : k < n
    · have l1 : (k : Int) < (n : Int) := by omega
      have l0 : (0 : Int) ≤ (k : Int) := by omega
      obtain ⟨b, o, rfl, -, hcc⟩ := (HA.out.later hb).pos (by omega)
      obtain ⟨t0, t1, t2, t3⟩ := hcc k hlt
      obtain ⟨⟨x0, x1, x2, x3⟩, hx⟩ : ∃ x, nth4 S k = x := ⟨_, rfl⟩
      rw [hx] at t0 t1 t2 t3
      simp only at t0 t1 t2 t3
      have hsz := HBB.out.size
      have HB0 := Lib.hid (HBB.out.alloc hsz (.cells #[.int .i64 x0, .int .i64 x1, .int .i64 x2, .int .i64 x3] 55))
      by_cases h120 : k < 120
      · have l2 : (k : Int) < 120 := by omega
        have hst : (S.take 120).take (k + 1) = (S.take 120).take k ++ [⟨x0, x1, x2, x3⟩] := by
          have hlen : k < (S.take 120).length := by rw [List.length_take, HSL.out]; omega
          rw [take_succ4 hlen, ← hx]
          congr 2
          simp [nth4, List.getD, h120]
        have HST := Lib.hid hst
        obtain ⟨i0, hi, hz0, hz1, hz2⟩ := info_parts info66
        have hr2 := hr
        unfold Row4 at hr2
        have hln : ((S.take 120).take k).length ≤ 5000000000 := by rw [List.length_take, List.length_take]; omega
        obtain ⟨Q, hQ⟩ : ∃ Q, ((S.take 120).take k).length = Q := ⟨_, rfl⟩
        rw [hQ] at hr2 hln
        have HQ := Lib.hid hQ
        have hr3 := World.ownsRow.alloc (h := hr2) (.cells #[.int .i64 x0, .int .i64 x1, .int .i64 x2, .int .i64 x3] 55)
        have hsz3 := HB0.out.size
        clear hst hx hk hr hb hQ hr2 hcc h120
        go_wp2_with (at_builtin; refine wpList_append_own _ rfl _ _ 45 rfl (w.heap.size) 66 i0 (.agg #[.int .i64 0, .int .i64 0, .int .i64 0, .int .i64 0]) 4 32 Try.underlying45 hi hz0 hz1 hz2 rfl (by decide) _ _ _ rfl (World.ownsRow.alloc (h := hr3) _) ⟨wr.heap.size + 1, 0, none⟩ 1 1 (fl4 [⟨x0, x1, x2, x3⟩]) rfl rfl (by have := cell4_new (wr.alloc (.cells #[.int .i64 x0, .int .i64 x1, .int .i64 x2, .int .i64 x3] 55)) ⟨x0, x1, x2, x3⟩ 66; simpa using this) (fl4_one _) (by unfold maxLen; omega) (by omega) (by simp; omega) ?_; intro v' w3 hown' hgrow _)
        have hb3 : Below w.heap.size w w3 := (HB0.out.alloc hsz3 _).grown hgrow (by first | (simp; done) | (simp; omega)) (fun j e => (World.ownsRow.lt hr3 j e).1)
        have hrow : Row4 w.heap.size v' ((S.take 120).take (k + 1)) w3 := by
          unfold Row4
          rw [HST.out, List.length_append, HQ.out, fl4_app]
          exact hown'
        have HF := Lib.hid (And.intro hrow hb3)
        clear hown' hgrow hrow hb3 hr3
        go_wp2
        go_roundg (gk - 1)
        case rel => exact ⟨k + 1, by have := HK.out; omega, by go_num, HF.out.1, HF.out.2⟩
        case measure => have := HK.out; omega
      · have l2 : ¬ (k : Int) < 120 := by omega
        have hst : (S.take 120).take (k + 1) = (S.take 120).take k := by
          rw [List.take_of_length_le (l := S.take 120) (i := k + 1) (by rw [List.length_take]; omega), List.take_of_length_le (l := S.take 120) (i := k) (by rw [List.length_take]; omega)]
        have HF := Lib.hid (show Row4 w.heap.size u3 ((S.take 120).take (k + 1)) (wr.alloc (.cells #[.int .i64 x0, .int .i64 x1, .int .i64 x2, .int .i64 x3] 55)) by rw [hst]; exact World.ownsRow.alloc (h := hr) _)
        clear hst hx hk hr hb hcc h120
        go_wp2
        go_roundg (gk - 1)
        case rel => exact ⟨k + 1, by have := HK.out; omega, by go_num, HF.out, HB0.out⟩
        case measure => have := HK.out; omega
    · have l1 : ¬ (k : Int) < (n : Int) := by omega
      have hf : (S.take 120).take k = S.take 120 := List.take_of_length_le (by rw [List.length_take, HSL.out]; omega)
      have HF := Lib.hid (show Row4 w.heap.size u3 (S.take 120) wr by have := HRR.out; rwa [hf] at this)
      clear hk hr hb hf
      go_wp2
      go_ret
      exact ⟨⟨_, rfl, HF.out⟩, HBB.out⟩
end Go.Proofs.Ytopfcppmbkidgaa
