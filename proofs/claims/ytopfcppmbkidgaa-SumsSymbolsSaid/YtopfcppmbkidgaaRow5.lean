/- Steps of the reference: rows of the call's own, arguments, and the walks of own, steps and Equal at them. Conditions as stated in each theorem. -/
import Derived.Test.YtopfcppmbkidgaaIsC
import Derived.BigQuiet
namespace Go.Proofs.Ytopfcppmbkidgaa
open Go.RowKit Go.Shelf
attribute [local go_sem] Oper.semAt_some

def Row5 (B : Nat) (v : Value) (S : List Stp) (W : World) : Prop := W.ownsRow B 55 4 v S.length (fl4 S)
theorem Row5.nil (B : Nat) (W : World) : Row5 B (.slice none 0 0) [] W := World.ownsRow_nil _ _ _ _
theorem Row5.later {B : Nat} {v : Value} {S : List Stp} {W W' : World} (h : Row5 B v S W) (hb : Below W.heap.size W W') : Row5 B v S W' := own_later h hb
theorem Row5.mono {B B' : Nat} {v : Value} {S : List Stp} {W : World} (h : Row5 B v S W) (hb : B' ≤ B) : Row5 B' v S W := Joins.ownsRow_le h hb
theorem info55 : (Try.prog.info? 55).map (fun i => (i.zero, i.size, i.bytes)) = some (some (.agg #[.int .i64 0, .int .i64 0, .int .i64 0, .int .i64 0]), 4, 32) := by kernel_rfl
/-- Steps as they lie. -/
def Ag (w : World) (a : Option Addr) (n : Nat) (S : List Stp) : Prop :=
  S.length = n ∧ (n = 0 ∨ ∃ b off, a = some ⟨b, off, none⟩ ∧ b < w.heap.size ∧ ∀ j, j < n →
    w.cell? ⟨b, off + j * 4, none⟩ = some (.int .i64 (nth4 S j).k) ∧ w.cell? ⟨b, off + j * 4 + 1, none⟩ = some (.int .i64 (nth4 S j).a) ∧ w.cell? ⟨b, off + j * 4 + 2, none⟩ = some (.int .i64 (nth4 S j).n) ∧ w.cell? ⟨b, off + j * 4 + 3, none⟩ = some (.int .i64 (nth4 S j).s))
theorem Ag.later {w w' : World} {a : Option Addr} {n : Nat} {S : List Stp} (h : Ag w a n S) (hb : Below w.heap.size w w') : Ag w' a n S := by
  refine ⟨h.1, h.2.imp id ?_⟩
  rintro ⟨b, off, h1, h2, h3⟩
  refine ⟨b, off, h1, Nat.lt_of_lt_of_le h2 hb.size, fun j hj => ?_⟩
  obtain ⟨c0, c1, c2, c3⟩ := h3 j hj
  exact ⟨(hb.cell (p := ⟨b, _, none⟩) h2).trans c0, (hb.cell (p := ⟨b, _, none⟩) h2).trans c1, (hb.cell (p := ⟨b, _, none⟩) h2).trans c2, (hb.cell (p := ⟨b, _, none⟩) h2).trans c3⟩
theorem Ag.pos {w : World} {a : Option Addr} {n : Nat} {S : List Stp} (h : Ag w a n S) (hn : 0 < n) : ∃ b off, a = some ⟨b, off, none⟩ ∧ b < w.heap.size ∧ ∀ j, j < n →
    w.cell? ⟨b, off + j * 4, none⟩ = some (.int .i64 (nth4 S j).k) ∧ w.cell? ⟨b, off + j * 4 + 1, none⟩ = some (.int .i64 (nth4 S j).a) ∧ w.cell? ⟨b, off + j * 4 + 2, none⟩ = some (.int .i64 (nth4 S j).n) ∧ w.cell? ⟨b, off + j * 4 + 3, none⟩ = some (.int .i64 (nth4 S j).s) := h.2.resolve_left (by omega)
theorem Ag.of {e : TypeId} {B : Nat} {v : Value} {S : List Stp} {W : World} (h : W.ownsRow B e 4 v S.length (fl4 S)) : ∃ a c, v = .slice a S.length c ∧ S.length ≤ c ∧ c ≤ maxLen ∧ Ag W a S.length S := by
  rcases h.2 with ⟨h1, h2⟩ | ⟨g, cap, cur, h1, h2, h3, h4, h5, h6, h7⟩
  · have : S = [] := List.length_eq_zero_iff.1 h2
    subst this
    exact ⟨none, 0, h1, Nat.le_refl _, by unfold maxLen; omega, rfl, .inl rfl⟩
  · subst h1
    refine ⟨_, cap, rfl, h4, h5, rfl, .inr ⟨g, 0, rfl, (Array.getElem?_eq_some_iff.1 h3).1, fun j hj => ?_⟩⟩
    have h' : W.ownsRow B e 4 (.slice (some ⟨g, 0, none⟩) S.length cap) S.length (fl4 S) := h
    obtain ⟨a, b, c, d⟩ := fl4_at S j hj
    rw [Nat.zero_add]
    refine ⟨?_, ?_, ?_, ?_⟩
    · rw [h'.cellAt (j * 4) (by omega)]; exact a
    · rw [h'.cellAt (j * 4 + 1) (by omega)]; exact b
    · rw [h'.cellAt (j * 4 + 2) (by omega)]; exact c
    · rw [h'.cellAt (j * 4 + 3) (by omega)]; exact d
theorem take_succ4 {S : List Stp} {k : Nat} (h : k < S.length) : S.take (k + 1) = S.take k ++ [nth4 S k] := by
  rw [List.take_succ_eq_append_getElem h]
  simp [nth4, List.getD, h]

/-! Equal -/
theorem und55 : Try.prog.underlying 55 = some (.struct (Try.prog.fieldsOf 55)) := by kernel_rfl
theorem held55 : Try.prog.stoodInHeld 55 = false := by kernel_rfl
theorem fl55 : (Try.prog.fieldsOf 55).toList.map (fun f => (f.name, f.type, f.offset)) = [("Kind", 3, 0), ("A", 3, 1), ("N", 3, 2), ("Sign", 3, 3)] := by kernel_rfl
theorem neq55 (w : World) (a b c d a' b' c' d' : Int) : (binOp .neq 55 (.agg #[.int .i64 a, .int .i64 b, .int .i64 c, .int .i64 d]) (.agg #[.int .i64 a', .int .i64 b', .int .i64 c', .int .i64 d'])).run Try.prog w = .ok (.bool (!eqS ⟨a, b, c, d⟩ ⟨a', b', c', d'⟩)) w := by
  rw [run_neq_struct, run_equalIn_struct w 9999 55 _ _ und55 held55]
  have h := fl55
  obtain ⟨f, g, k, l, hf⟩ : ∃ f g k l, (Try.prog.fieldsOf 55).toList = [f, g, k, l] := by
    generalize (Try.prog.fieldsOf 55).toList = l at h
    match l, h with
    | [f, g, k, l], _ => exact ⟨f, g, k, l, rfl⟩
    | [], h => simp at h
    | [_], h => simp at h
    | [_, _], h => simp at h
    | [_, _, _], h => simp at h
    | _ :: _ :: _ :: _ :: _ :: _, h => simp at h
  rw [hf] at h ⊢
  simp only [List.map_cons, List.map_nil, List.cons.injEq, Prod.mk.injEq, and_true] at h
  obtain ⟨⟨f1, f2, f3⟩, ⟨g1, g2, g3⟩, ⟨k1, k2, k3⟩, ⟨l1, l2, l3⟩⟩ := h
  have hu := Try.underlying3
  unfold eqS
  by_cases e1 : a = a' <;> by_cases e2 : b = b' <;> by_cases e3 : c = c' <;> by_cases e4 : d = d' <;>
    simp [go_sem, Op.eqFields, f1, f2, f3, g1, g2, g3, k1, k2, k3, l1, l2, l3, part, hu, run_equalIn_int, cells3', e1, e2, e3, e4]

set_option maxHeartbeats 8000000 in
set_option maxRecDepth 100000 in
theorem equal5_any (a1 a2 : Option Addr) (n1 n2 c1 c2 : Nat) (S T : List Stp) (w : World) (h1 : Ag w a1 n1 S) (h2 : Ag w a2 n2 T) (hl1 : n1 ≤ 4611686018427387904) (hl2 : n2 ≤ 4611686018427387904) (R : Bool) (hR : R = true ↔ S = T) :
    Calls Try.prog 43 #[.slice a1 n1 c1, .slice a2 n2 c2] w fun e w' => e = .returned (.bool R) ∧ Below w.heap.size w w' := by
  have HR := Lib.hid hR
  have HL := Lib.hid (And.intro h1.1 h2.1)
  have HB := Lib.hid (Below.refl w.heap.size w)
  by_cases hn : n1 = n2
  · subst hn
    have H1 := Lib.hid h1
    have H2 := Lib.hid h2
    clear h1 h2 hR
    go_enter Try.func43, Try.ntmps43
    go_wp2
    go_loopg [5, 13] n1 (fun gk s5 s13 wr => ∃ k q : Nat, k + gk = n1 ∧ s13 = .int .i64 (k : Int) ∧ RowKit.Hid (∀ j, j < k → nth4 S j = nth4 T j) ∧ wr = w.drewN q)
    case atStart => exact ⟨0, 0, by omega, rfl, Lib.hid (fun j hj => by omega), rfl⟩
    case round =>
      obtain ⟨k, q, hk, rfl, HP, rfl⟩ := hrel
      have HK := Lib.hid hk
      by_cases hlt : k < n1
      · have l1 : (k : Int) < (n1 : Int) := by omega
        have l0 : (0 : Int) ≤ (k : Int) := by omega
        obtain ⟨b1, o1, rfl, -, hc1⟩ := H1.out.pos (by omega)
        obtain ⟨b2, o2, rfl, -, hc2⟩ := H2.out.pos (by omega)
        obtain ⟨t0, t1, t2, t3⟩ := hc1 k hlt
        obtain ⟨s0, s1, s2, s3⟩ := hc2 k hlt
        obtain ⟨⟨x0, x1, x2, x3⟩, hx⟩ : ∃ x, nth4 S k = x := ⟨_, rfl⟩
        obtain ⟨⟨y0, y1, y2, y3⟩, hy⟩ : ∃ x, nth4 T k = x := ⟨_, rfl⟩
        rw [hx] at t0 t1 t2 t3
        rw [hy] at s0 s1 s2 s3
        simp only at t0 t1 t2 t3 s0 s1 s2 s3
        have hne := fun w => neq55 w x0 x1 x2 x3 y0 y1 y2 y3
        by_cases heq : (⟨x0, x1, x2, x3⟩ : Stp) = ⟨y0, y1, y2, y3⟩
        · rw [(eqS_iff _ _).2 heq] at hne
          have HP2 := Lib.hid (show ∀ j, j < k + 1 → nth4 S j = nth4 T j from fun j hj => by
            by_cases hjk : j = k
            · subst hjk; rw [hx, hy, heq]
            · exact HP.out j (by omega))
          clear hx hy hk heq hc1 hc2
          go_wp2
          go_quiet (fail)
          go_wp2
          go_roundg (gk - 1)
          case rel => exact ⟨k + 1, _, by have := HK.out; omega, by go_num, HP2, by first | rfl | rw [World.drewN_drewN]⟩
          case measure => have := HK.out; omega
        · have hf : eqS ⟨x0, x1, x2, x3⟩ ⟨y0, y1, y2, y3⟩ = false := Bool.eq_false_iff.2 fun e => heq ((eqS_iff _ _).1 e)
          rw [hf] at hne
          have HF := Lib.hid (show R = false from Bool.eq_false_iff.2 fun e => heq (by rw [← hx, ← hy, HR.out.1 e]))
          clear hx hy hk heq hc1 hc2 hf
          go_wp2
          go_quiet (fail)
          go_wp2
          go_ret
          exact ⟨ret_bool HF.out.symm, below_drewN (below_drewN HB.out _) _⟩
      · have l1 : decide ((k : Int) < (n1 : Int)) = false := decide_eq_false (by omega)
        have HF := Lib.hid (show R = true from HR.out.2 (list_eq (by rw [HL.out.1, HL.out.2]) fun j hj => HP.out j (by have := HL.out.1; omega)))
        clear hk
        go_wp2
        go_ret
        exact ⟨ret_bool HF.out.symm, below_drewN HB.out _⟩
  · have l1 : ((n1 : Int) == (n2 : Int)) = false := beq_eq_false_iff_ne.2 (by omega)
    have l2 : ¬ (n1 : Int) = (n2 : Int) := by omega
    have HF := Lib.hid (show R = false from Bool.eq_false_iff.2 fun e => hn (by rw [← HL.out.1, ← HL.out.2, HR.out.1 e]))
    clear h1 h2 hR
    go_enter Try.func43, Try.ntmps43
    go_wp2
    go_ret
    exact ⟨ret_bool HF.out.symm, HB.out⟩
end Go.Proofs.Ytopfcppmbkidgaa
