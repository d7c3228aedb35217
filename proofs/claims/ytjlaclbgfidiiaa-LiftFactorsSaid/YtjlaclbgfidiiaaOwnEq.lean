/- The walk of own, and of slices.Equal at the reference's sides and at fractions, where both rows hold the same. Condition: the slices lie in memory. -/
import Derived.Test.YtjlaclbgfidiiaaRSlp
import Derived.Test.YtjlaclbgfidiiaaContF
namespace Go.Proofs.Ytjlaclbgfidiiaa
open Go.RowKit
attribute [local go_sem] Oper.semAt_some

theorem take_succ4 {S : List Sd} {k : Nat} (h : k < S.length) : S.take (k + 1) = S.take k ++ [nth4 S k] := by
  rw [List.take_succ_eq_append_getElem h]
  simp [nth4, List.getD, h]

set_option maxHeartbeats 8000000 in
set_option maxRecDepth 100000 in
theorem own_any {B : Nat} {v : Value} {S : List Sd} (w : World) (h : Row4 B v S w) (hl : S.length ≤ 1000) :
    Calls Try.prog 31 #[v] w fun e w' => (∃ v', e = .returned v' ∧ Row5 w.heap.size v' S w') ∧ Below w.heap.size w w' := by
  obtain ⟨a2, c2, rfl, h1, h2, h3⟩ := h.form
  have HR := Lib.hid h
  have HFM := Lib.hid h3
  clear h h3
  go_enter Try.func31, Try.ntmps31
  go_wp2
  go_loopg [3, 5, 8] S.length (fun gk s3 s5 s8 wr => ∃ k : Nat, k + gk = S.length ∧ s8 = .int .i64 (k : Int) ∧ Row5 w.heap.size s3 (S.take k) wr ∧ Below w.heap.size w wr)
  case atStart => exact ⟨0, by omega, rfl, Row5.nil _ _, Below.refl _ _⟩
  case round =>
    obtain ⟨k, hk, rfl, hr, hb⟩ := hrel
    have HK := Lib.hid hk
    have HRR := Lib.hid hr
    have HBB := Lib.hid hb
    by_cases hlt : k < S.length
    · have l1 : (k : Int) < (S.length : Int) := by omega
      have l0 : (0 : Int) ≤ (k : Int) := by omega
      rcases HFM.out with ⟨-, h3, -⟩ | ⟨g, hg, -, hgl⟩
      · rw [h3] at hlt; exact absurd hlt (by simp)
      · subst hg
        obtain ⟨k0, k1, k2, k3⟩ := HR.out.cell hlt
        have t0 := (hb.cell (p := ⟨g, k * 4, none⟩) hgl).trans k0
        have t1 := (hb.cell (p := ⟨g, k * 4 + 1, none⟩) hgl).trans k1
        have t2 := (hb.cell (p := ⟨g, k * 4 + 2, none⟩) hgl).trans k2
        have t3 := (hb.cell (p := ⟨g, k * 4 + 3, none⟩) hgl).trans k3
        have hst := take_succ4 hlt
        obtain ⟨⟨x0, x1, x2, x3⟩, hx⟩ : ∃ x, nth4 S k = x := ⟨_, rfl⟩
        rw [hx] at t0 t1 t2 t3 hst
        simp only at t0 t1 t2 t3
        have HST := Lib.hid hst
        obtain ⟨i0, hi, hz0, hz1, hz2⟩ := info_parts info50
        have hr2 := hr
        unfold Row5 at hr2
        have hsz := HBB.out.size
        have hln : (S.take k).length ≤ 1000 := by rw [List.length_take]; omega
        obtain ⟨Q, hQ⟩ : ∃ Q, (S.take k).length = Q := ⟨_, rfl⟩
        rw [hQ] at hr2 hln
        have HQ := Lib.hid hQ
        have HB0 := Lib.hid (HBB.out.alloc hsz (.cells #[.int .i64 x0, .int .i64 x1, .int .i64 x2, .int .i64 x3] 69))
        obtain ⟨q0, q1, q2, q3⟩ := cell_four wr (.int .i64 x0) (.int .i64 x1) (.int .i64 x2) (.int .i64 x3) 69
        have hr3 := World.ownsRow.alloc (h := hr2) (.cells #[.int .i64 x0, .int .i64 x1, .int .i64 x2, .int .i64 x3] 69)
        have hsz3 := HB0.out.size
        clear hst hx hk hr hb k0 k1 k2 k3 hQ hr2 q0 q1 q2 q3
        go_wp2_with (at_builtin; refine wpList_append_own _ rfl _ _ 46 rfl (w.heap.size) 50 i0 (.agg #[.int .i64 0, .int .i64 0, .int .i64 0, .int .i64 0]) 4 32 Try.underlying46 hi hz0 hz1 hz2 rfl (by decide) _ _ _ rfl (World.ownsRow.alloc (h := hr3) _) ⟨wr.heap.size + 1, 0, none⟩ 1 1 (fl4 [(x0, x1, x2, x3)]) rfl rfl (by have := cell4_new (wr.alloc (.cells #[.int .i64 x0, .int .i64 x1, .int .i64 x2, .int .i64 x3] 69)) (x0, x1, x2, x3) 50; simpa using this) (fl4_one _) (by unfold maxLen; omega) (by omega) (by simp; omega) ?_; intro v' w3 hown' hgrow _)
        have hb3 : Below w.heap.size w w3 := (HB0.out.alloc hsz3 _).grown hgrow (by first | (simp; done) | (simp; omega)) (fun j e => (World.ownsRow.lt hr3 j e).1)
        have hrow : Row5 w.heap.size v' (S.take (k + 1)) w3 := by
          unfold Row5
          rw [HST.out, List.length_append, HQ.out, fl4_app]
          exact hown'
        have HF := Lib.hid (And.intro hrow hb3)
        clear hown' hgrow hrow hb3 hr3
        go_wp2
        go_roundg (gk - 1)
        case rel => exact ⟨k + 1, by have := HK.out; omega, by go_num, HF.out.1, HF.out.2⟩
        case measure => have := HK.out; omega
    · have l1 : ¬ (k : Int) < (S.length : Int) := by omega
      have hf : S.take k = S := List.take_of_length_le (by omega)
      have HF := Lib.hid (show Row5 w.heap.size u3 S wr by have := HRR.out; rwa [hf] at this)
      clear hk hr hb hf
      go_wp2
      go_ret
      exact ⟨⟨_, rfl, HF.out⟩, HBB.out⟩

theorem und50 : Try.prog.underlying 50 = some (.struct (Try.prog.fieldsOf 50)) := by kernel_rfl
theorem held50 : Try.prog.stoodInHeld 50 = false := by kernel_rfl
theorem fl50 : (Try.prog.fieldsOf 50).toList.map (fun f => (f.name, f.type, f.offset)) = [("From", 3, 0), ("To", 3, 1), ("Slope", 48, 2)] := by kernel_rfl
theorem agg48 (w : World) : (isAgg 48).run Try.prog w = .ok true w := by kernel_rfl
theorem siz48 (w : World) : (Go.sizeOf 48).run Try.prog w = .ok 2 w := by kernel_rfl
theorem eqi48 (w : World) (d : Nat) (a b c e : Int) : (Op.equalIn (d + 2) 48 (.agg #[.int .i64 a, .int .i64 b]) (.agg #[.int .i64 c, .int .i64 e])).run Try.prog w = .ok (a == c && b == e) w := by
  rw [show d + 2 = (d + 1) + 1 from rfl, run_equalIn_struct w (d + 1) 48 _ _ und48 held48]
  have h := fl48
  obtain ⟨f, g, hf⟩ : ∃ f g, (Try.prog.fieldsOf 48).toList = [f, g] := by
    generalize (Try.prog.fieldsOf 48).toList = l at h
    match l, h with
    | [f, g], _ => exact ⟨f, g, rfl⟩
    | [], h => simp at h
    | [_], h => simp at h
    | _ :: _ :: _ :: _, h => simp at h
  rw [hf] at h ⊢
  simp only [List.map_cons, List.map_nil, List.cons.injEq, Prod.mk.injEq, and_true] at h
  obtain ⟨⟨f1, f2, f3⟩, ⟨g1, g2, g3⟩⟩ := h
  have hu := Try.underlying3
  by_cases hac : a = c <;> by_cases hbd : b = e <;> simp [go_sem, Op.eqFields, f1, f2, f3, g1, g2, g3, part, hu, hac, hbd, run_equalIn_int, cells3]
theorem neq48 (w : World) (a b : Int) : (binOp .neq 48 (.agg #[.int .i64 a, .int .i64 b]) (.agg #[.int .i64 a, .int .i64 b])).run Try.prog w = .ok (.bool false) w := by
  rw [run_neq_struct, eqi48 w 9998]
  simp
theorem neq50 (w : World) (a b c d : Int) : (binOp .neq 50 (.agg #[.int .i64 a, .int .i64 b, .int .i64 c, .int .i64 d]) (.agg #[.int .i64 a, .int .i64 b, .int .i64 c, .int .i64 d])).run Try.prog w = .ok (.bool false) w := by
  rw [run_neq_struct, run_equalIn_struct w 9999 50 _ _ und50 held50]
  have h := fl50
  obtain ⟨f, g, k, hf⟩ : ∃ f g k, (Try.prog.fieldsOf 50).toList = [f, g, k] := by
    generalize (Try.prog.fieldsOf 50).toList = l at h
    match l, h with
    | [f, g, k], _ => exact ⟨f, g, k, rfl⟩
    | [], h => simp at h
    | [_], h => simp at h
    | [_, _], h => simp at h
    | _ :: _ :: _ :: _ :: _, h => simp at h
  rw [hf] at h ⊢
  simp only [List.map_cons, List.map_nil, List.cons.injEq, Prod.mk.injEq, and_true] at h
  obtain ⟨⟨f1, f2, f3⟩, ⟨g1, g2, g3⟩, ⟨k1, k2, k3⟩⟩ := h
  have hu := Try.underlying3
  have e48 := fun w => eqi48 w 9996 c d c d
  simp [go_sem, Op.eqFields, f1, f2, f3, g1, g2, g3, k1, k2, k3, part, hu, run_equalIn_int, cells3, agg48, siz48, eqi48]

set_option maxHeartbeats 8000000 in
set_option maxRecDepth 100000 in
theorem equal5_any {B1 B2 : Nat} {v1 v2 : Value} {S : List Sd} (w : World) (h1 : Row5 B1 v1 S w) (h2 : Row5 B2 v2 S w) (hl : S.length ≤ 1000) :
    Calls Try.prog 30 #[v1, v2] w fun e w' => e = .returned (.bool true) ∧ ∃ q, w' = w.drewN q := by
  obtain ⟨a1, c1, rfl, -, -, f1⟩ := h1.form
  obtain ⟨a2, c2, rfl, -, -, f2⟩ := h2.form
  have HR1 := Lib.hid h1
  have HR2 := Lib.hid h2
  have HF1 := Lib.hid f1
  have HF2 := Lib.hid f2
  have HN := Lib.hid (fun w (x : Sd) => neq50 w x.1 x.2.1 x.2.2.1 x.2.2.2)
  clear h1 h2 f1 f2
  go_enter Try.func30, Try.ntmps30
  go_wp2
  go_loopg [5, 13] S.length (fun gk s5 s13 wr => ∃ k q : Nat, k + gk = S.length ∧ s13 = .int .i64 (k : Int) ∧ wr = w.drewN q)
  case atStart => exact ⟨0, 0, by omega, rfl, rfl⟩
  case round =>
    obtain ⟨k, q, hk, rfl, rfl⟩ := hrel
    have HK := Lib.hid hk
    by_cases hlt : k < S.length
    · have l1 : (k : Int) < (S.length : Int) := by omega
      have l0 : (0 : Int) ≤ (k : Int) := by omega
      rcases HF1.out with ⟨-, h3, -⟩ | ⟨g1, e1, -, -⟩
      · rw [h3] at hlt; exact absurd hlt (by simp)
      · subst e1
        rcases HF2.out with ⟨-, h3, -⟩ | ⟨g2, e2, -, -⟩
        · rw [h3] at hlt; exact absurd hlt (by simp)
        · subst e2
          obtain ⟨t0, t1, t2, t3⟩ := HR1.out.cell hlt
          obtain ⟨s0, s1, s2, s3⟩ := HR2.out.cell hlt
          have hne := fun w => HN.out w (nth4 S k)
          obtain ⟨⟨x0, x1, x2, x3⟩, hx⟩ : ∃ x, nth4 S k = x := ⟨_, rfl⟩
          rw [hx] at t0 t1 t2 t3 s0 s1 s2 s3 hne
          simp only at t0 t1 t2 t3 s0 s1 s2 s3 hne
          clear hx hk
          go_wp2
          go_quiet (fail)
          go_wp2
          go_roundg (gk - 1)
          case rel => exact ⟨k + 1, _, by have := HK.out; omega, by go_num, by first | rfl | rw [World.drewN_drewN]⟩
          case measure => have := HK.out; omega
    · have l1 : ¬ (k : Int) < (S.length : Int) := by omega
      clear hk
      go_wp2
      go_ret
      exact ⟨rfl, q, rfl⟩

set_option maxHeartbeats 8000000 in
set_option maxRecDepth 100000 in
theorem equalF_any {B1 B2 : Nat} {v1 v2 : Value} {S : List (Int × Int)} (w : World) (h1 : RowF B1 v1 S w) (h2 : RowF B2 v2 S w) (hl : S.length ≤ 100000) :
    Calls Try.prog 33 #[v1, v2] w fun e w' => e = .returned (.bool true) ∧ ∃ q, w' = w.drewN q := by
  obtain ⟨a1, c1, rfl, -, -, f1⟩ := h1.form
  obtain ⟨a2, c2, rfl, -, -, f2⟩ := h2.form
  have HR1 := Lib.hid h1
  have HR2 := Lib.hid h2
  have HF1 := Lib.hid f1
  have HF2 := Lib.hid f2
  have HN := Lib.hid (fun w (x : Int × Int) => neq48 w x.1 x.2)
  clear h1 h2 f1 f2
  go_enter Try.func33, Try.ntmps33
  go_wp2
  go_loopg [5, 13] S.length (fun gk s5 s13 wr => ∃ k q : Nat, k + gk = S.length ∧ s13 = .int .i64 (k : Int) ∧ wr = w.drewN q)
  case atStart => exact ⟨0, 0, by omega, rfl, rfl⟩
  case round =>
    obtain ⟨k, q, hk, rfl, rfl⟩ := hrel
    have HK := Lib.hid hk
    by_cases hlt : k < S.length
    · have l1 : (k : Int) < (S.length : Int) := by omega
      have l0 : (0 : Int) ≤ (k : Int) := by omega
      rcases HF1.out with ⟨-, h3, -⟩ | ⟨g1, e1, -, -⟩
      · rw [h3] at hlt; exact absurd hlt (by simp)
      · subst e1
        rcases HF2.out with ⟨-, h3, -⟩ | ⟨g2, e2, -, -⟩
        · rw [h3] at hlt; exact absurd hlt (by simp)
        · subst e2
          obtain ⟨t0, t1⟩ := HR1.out.cell hlt
          obtain ⟨s0, s1⟩ := HR2.out.cell hlt
          have hne := fun w => HN.out w (nth S k)
          obtain ⟨⟨x0, x1⟩, hx⟩ : ∃ x, nth S k = x := ⟨_, rfl⟩
          rw [hx] at t0 t1 s0 s1 hne
          simp only at t0 t1 s0 s1 hne
          clear hx hk
          go_wp2
          go_quiet (fail)
          go_wp2
          go_roundg (gk - 1)
          case rel => exact ⟨k + 1, _, by have := HK.out; omega, by go_num, by first | rfl | rw [World.drewN_drewN]⟩
          case measure => have := HK.out; omega
    · have l1 : ¬ (k : Int) < (S.length : Int) := by omega
      clear hk
      go_wp2
      go_ret
      exact ⟨rfl, q, rfl⟩
end Go.Proofs.Ytjlaclbgfidiiaa
