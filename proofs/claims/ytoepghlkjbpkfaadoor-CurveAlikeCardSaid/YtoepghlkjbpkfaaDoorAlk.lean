/- The walks of alike, Alike and of the reference's Twist and Alike. Conditions as stated in each theorem. -/
import Derived.Test.YtoepghlkjbpkfaaDoorTw
namespace Go.Proofs.YtoepghlkjbpkfaaDoor
open Go.RowKit
attribute [local go_sem] Oper.semAt_some

theorem ret_ii {a b c d : Int} (h1 : a = b) (h2 : c = d) : Ending.returned (.tuple #[.int .i64 a, .int .i64 c]) = .returned (.tuple #[.int .i64 b, .int .i64 d]) := by rw [h1, h2]
theorem ret_ib {a b : Int} {c d : Bool} (h1 : a = b) (h2 : c = d) : Ending.returned (.tuple #[.int .i64 a, .bool c]) = .returned (.tuple #[.int .i64 b, .bool d]) := by rw [h1, h2]
theorem held30 : Tryd.prog.stoodInHeld 30 = false := by kernel_rfl
theorem und30 : Tryd.prog.underlying 30 = some (.struct (Tryd.prog.fieldsOf 30)) := by kernel_rfl
theorem fl30 : (Tryd.prog.fieldsOf 30).toList.map (fun f => (f.name, f.type, f.offset)) = [("P", 3, 0), ("A", 3, 1), ("B", 3, 2)] := by kernel_rfl
def eqC (a1 a2 a3 b1 b2 b3 : Int) : Bool := decide (a1 = b1) && (decide (a2 = b2) && decide (a3 = b3))
theorem eqIn30 (w : World) (a1 a2 a3 b1 b2 b3 : Int) : (Op.equalIn 10000 30 (.agg #[.int .i64 a1, .int .i64 a2, .int .i64 a3]) (.agg #[.int .i64 b1, .int .i64 b2, .int .i64 b3])).run Tryd.prog w = .ok (eqC a1 a2 a3 b1 b2 b3) w := by
  rw [run_equalIn_struct w 9999 30 _ _ und30 held30]
  have h := fl30
  obtain ⟨f, g, k, hf⟩ : ∃ f g k, (Tryd.prog.fieldsOf 30).toList = [f, g, k] := by
    generalize (Tryd.prog.fieldsOf 30).toList = l at h
    match l, h with
    | [f, g, k], _ => exact ⟨f, g, k, rfl⟩
    | [], h => simp at h
    | [_], h => simp at h
    | [_, _], h => simp at h
    | _ :: _ :: _ :: _ :: _, h => simp at h
  rw [hf] at h ⊢
  simp only [List.map_cons, List.map_nil, List.cons.injEq, Prod.mk.injEq, and_true] at h
  obtain ⟨⟨f1, f2, f3⟩, ⟨g1, g2, g3⟩, ⟨k1, k2, k3⟩⟩ := h
  have hu := Tryd.underlying3
  unfold eqC
  by_cases e1 : a1 = b1 <;> by_cases e2 : a2 = b2 <;> by_cases e3 : a3 = b3 <;>
    simp [go_sem, Op.eqFields, f1, f2, f3, g1, g2, g3, k1, k2, k3, part, hu, run_equalIn_int, cells3', e1, e2, e3]
theorem eql30 (w : World) (a1 a2 a3 b1 b2 b3 : Int) : (binOp .eql 30 (.agg #[.int .i64 a1, .int .i64 a2, .int .i64 a3]) (.agg #[.int .i64 b1, .int .i64 b2, .int .i64 b3])).run Tryd.prog w = .ok (.bool (eqC a1 a2 a3 b1 b2 b3)) w := by
  rw [run_eql_struct, eqIn30]
  rfl
theorem neq30 (w : World) (a1 a2 a3 b1 b2 b3 : Int) : (binOp .neq 30 (.agg #[.int .i64 a1, .int .i64 a2, .int .i64 a3]) (.agg #[.int .i64 b1, .int .i64 b2, .int .i64 b3])).run Tryd.prog w = .ok (.bool (!eqC a1 a2 a3 b1 b2 b3)) w := by
  rw [run_neq_struct, eqIn30]
  rfl

/-- whether v shows that two curves are alike -/
def alk (N A B C D : Int) (v : Nat) : Bool := decide (A * ((v : Int) * v) * ((v : Int) * v) % N = C) && decide (B * ((v : Int) * v) * ((v : Int) * v) * ((v : Int) * v) % N = D)
/-- the least such v, 0 if there is none -/
def IsFst (t : Nat → Bool) (N V : Nat) : Prop := (V = 0 ∧ ∀ v, 1 ≤ v → v < N → t v = false) ∨ (1 ≤ V ∧ V < N ∧ t V = true ∧ ∀ v, 1 ≤ v → v < V → t v = false)
theorem fst_ex (t : Nat → Bool) (N : Nat) : ∃ V, IsFst t N V := by
  by_cases h : ∃ v, 1 ≤ v ∧ v < N ∧ t v = true
  · obtain ⟨v, h1, h2, h3⟩ := h
    have : ∀ n v, v ≤ n → 1 ≤ v → v < N → t v = true → ∃ V, IsFst t N V := by
      intro n
      induction n with
      | zero => intro v a b; omega
      | succ n ih =>
        intro v a b c d
        by_cases hh : ∃ u, 1 ≤ u ∧ u < v ∧ t u = true
        · obtain ⟨u, u1, u2, u3⟩ := hh
          exact ih u (by omega) u1 (by omega) u3
        · exact ⟨v, .inr ⟨b, c, d, fun u u1 u2 => Bool.eq_false_iff.2 fun e => hh ⟨u, u1, u2, e⟩⟩⟩
    exact this v v (Nat.le_refl _) h1 h2 h3
  · exact ⟨0, .inl ⟨rfl, fun v h1 h2 => Bool.eq_false_iff.2 fun e => h ⟨v, h1, h2, e⟩⟩⟩
theorem alkR {N A B C D : Int} (h0 : 0 < N) (hC : 0 ≤ C ∧ C < N) (hD : 0 ≤ D ∧ D < N) (v : Nat) (w : Int) (hw : (v : Int) * v * v * v % N = w) :
    alk N A B C D v = (decide ((A * w - C) % N = 0) && decide ((B * w * v * v - D) % N = 0)) := by
  unfold alk
  have h1 : A * ((v : Int) * v) * ((v : Int) * v) % N = A * w % N := by
    rw [← hw, Int.mul_emod A (_ % N), Int.emod_emod, ← Int.mul_emod]
    congr 1
    grind
  have h2 : B * ((v : Int) * v) * ((v : Int) * v) * ((v : Int) * v) % N = B * w * v * v % N := by
    have e : B * w * v * v = (B * v * v) * w := by grind
    rw [e, ← hw, Int.mul_emod (B * v * v) (_ % N), Int.emod_emod, ← Int.mul_emod]
    congr 1
    grind
  rw [h1, h2]
  have h3 : ∀ x y : Int, 0 ≤ y → y < N → decide (x % N = y) = decide ((x - y) % N = 0) := fun x y y0 y1 => by
    rw [Bool.eq_iff_iff]
    simp only [decide_eq_true_iff]
    rw [← Int.emod_eq_emod_iff_emod_sub_eq_zero, Int.emod_eq_of_lt y0 y1]
  rw [h3 _ _ hC.1 hC.2, h3 _ _ hD.1 hD.2]

set_option maxHeartbeats 8000000 in
set_option maxRecDepth 100000 in
theorem alike_any (N : Nat) (A B C D : Int) (hN : 5 ≤ N ∧ N ≤ 31) (hA : 0 ≤ A ∧ A ≤ 31) (hB : 0 ≤ B ∧ B ≤ 31) (V : Nat) (hV : IsFst (alk N A B C D) N V) (w : World) :
    Calls Tryd.prog 74 #[.agg #[.int .i64 (N : Int), .int .i64 A, .int .i64 B], .agg #[.int .i64 (N : Int), .int .i64 C, .int .i64 D]] w fun e w' => e = .returned (.tuple #[.int .i64 (V : Int), .bool (decide (V ≠ 0))]) ∧ Below w.heap.size w w' := by
  have HB := Lib.hid (below2 w (.cells #[.int .i64 (N : Int), .int .i64 A, .int .i64 B] 30) (.cells #[.int .i64 (N : Int), .int .i64 C, .int .i64 D] 30))
  have hc := C3.new w (.int .i64 (N : Int)) (.int .i64 A) (.int .i64 B) 30
  have HC := Lib.hid (hc.later (below1 (w.alloc (.cells #[.int .i64 (N : Int), .int .i64 A, .int .i64 B] 30)) (.cells #[.int .i64 (N : Int), .int .i64 C, .int .i64 D] 30)))
  have hd := C3.new (w.alloc (.cells #[.int .i64 (N : Int), .int .i64 A, .int .i64 B] 30)) (.int .i64 (N : Int)) (.int .i64 C) (.int .i64 D) 30
  rw [show (w.alloc (.cells #[.int .i64 (N : Int), .int .i64 A, .int .i64 B] 30)).heap.size = w.heap.size + 1 by simp] at hd
  have HD := Lib.hid hd
  have HVV := Lib.hid hV
  have HSC := Lib.hid (fun v hv W => scaled_any (N : Int) A B v (by omega) hA hB hv W)
  have HEQ := Lib.hid (fun W x y => eql30 W (N : Int) x y (N : Int) C D)
  clear hc hd hV
  go_enter Tryd.func74, Tryd.ntmps74
  go_wp2
  go_loopg [6] N (fun gk s6 wr => ∃ v : Nat, v + gk = N + 1 ∧ 1 ≤ v ∧ v ≤ N ∧ s6 = .int .i64 (v : Int) ∧ RowKit.Hid (∀ u, 1 ≤ u → u < v → alk N A B C D u = false) ∧ C3 w.heap.size (.int .i64 (N : Int)) (.int .i64 A) (.int .i64 B) wr ∧ C3 (w.heap.size + 1) (.int .i64 (N : Int)) (.int .i64 C) (.int .i64 D) wr ∧ Below w.heap.size w wr)
  case atStart => exact ⟨1, by omega, by omega, by omega, rfl, Lib.hid (fun u h1 h2 => by omega), HC.out, HD.out, HB.out⟩
  case round =>
    obtain ⟨v, hk, hv1, hvN, rfl, HP, hC, hD, hb⟩ := hrel
    have HK := Lib.hid hk
    have HBB := Lib.hid hb
    have HCC := Lib.hid hC
    have HDD := Lib.hid hD
    obtain ⟨q0, q1, q2⟩ := hC
    obtain ⟨r0, r1, r2⟩ := hD
    by_cases hlt : v < N
    · have l1 : (v : Int) < (N : Int) := by omega
      obtain ⟨a0, a1⟩ := mul_in (a := (v : Int)) (b := (v : Int)) 31 31 (by omega) (by omega) (by omega) (by omega)
      have HX := Lib.hid (fun W => HSC.out ((v : Int) * v) (by omega) W)
      have hww : IntKind.i64.wrap ((v : Int) * v) = (v : Int) * v := IntWalk.i64_in _ (by omega)
      obtain ⟨X, hX⟩ : ∃ X, A * ((v : Int) * v) * ((v : Int) * v) % (N : Int) = X := ⟨_, rfl⟩
      obtain ⟨Y, hY⟩ : ∃ Y, B * ((v : Int) * v) * ((v : Int) * v) * ((v : Int) * v) % (N : Int) = Y := ⟨_, rfl⟩
      rw [hX, hY] at HX
      have heq := fun W => HEQ.out W X Y
      have hee : eqC (N : Int) X Y (N : Int) C D = alk N A B C D v := by
        unfold eqC alk
        rw [hX, hY]
        simp
      rw [hee] at heq
      obtain ⟨b, hbq⟩ : ∃ b, alk N A B C D v = b := ⟨_, rfl⟩
      rw [hbq] at heq
      have HBQ := Lib.hid hbq
      clear hX hY hee hbq hk hb hvN
      have HN := Lib.hid (fun (W1 W2 : World) (hb : Below W1.heap.size W1 W2) (h : W1.cell? ⟨w.heap.size, 0, none⟩ = some (.int .i64 (N : Int)) ∧ W1.cell? ⟨w.heap.size, 1, none⟩ = some (.int .i64 A) ∧ W1.cell? ⟨w.heap.size, 2, none⟩ = some (.int .i64 B) ∧ W1.cell? ⟨w.heap.size + 1, 0, none⟩ = some (.int .i64 (N : Int)) ∧ W1.cell? ⟨w.heap.size + 1, 1, none⟩ = some (.int .i64 C) ∧ W1.cell? ⟨w.heap.size + 1, 2, none⟩ = some (.int .i64 D) ∧ BelF wr.heap.size wr W1) => (show W2.cell? ⟨w.heap.size, 0, none⟩ = some (.int .i64 (N : Int)) ∧ W2.cell? ⟨w.heap.size, 1, none⟩ = some (.int .i64 A) ∧ W2.cell? ⟨w.heap.size, 2, none⟩ = some (.int .i64 B) ∧ W2.cell? ⟨w.heap.size + 1, 0, none⟩ = some (.int .i64 (N : Int)) ∧ W2.cell? ⟨w.heap.size + 1, 1, none⟩ = some (.int .i64 C) ∧ W2.cell? ⟨w.heap.size + 1, 2, none⟩ = some (.int .i64 D) ∧ BelF wr.heap.size wr W2 from ⟨cell_later h.1 hb, cell_later h.2.1 hb, cell_later h.2.2.1 hb, cell_later h.2.2.2.1 hb, cell_later h.2.2.2.2.1 hb, cell_later h.2.2.2.2.2.1 hb, h.2.2.2.2.2.2.next hb⟩))
      have HBS := Lib.hid (fun (W1 : World) (h : W1.cell? ⟨w.heap.size, 0, none⟩ = some (.int .i64 (N : Int)) ∧ W1.cell? ⟨w.heap.size, 1, none⟩ = some (.int .i64 A) ∧ W1.cell? ⟨w.heap.size, 2, none⟩ = some (.int .i64 B) ∧ W1.cell? ⟨w.heap.size + 1, 0, none⟩ = some (.int .i64 (N : Int)) ∧ W1.cell? ⟨w.heap.size + 1, 1, none⟩ = some (.int .i64 C) ∧ W1.cell? ⟨w.heap.size + 1, 2, none⟩ = some (.int .i64 D) ∧ BelF wr.heap.size wr W1) => (show Below wr.heap.size wr W1 from h.2.2.2.2.2.2.to))
      have HS0 := Lib.hid (show wr.cell? ⟨w.heap.size, 0, none⟩ = some (.int .i64 (N : Int)) ∧ wr.cell? ⟨w.heap.size, 1, none⟩ = some (.int .i64 A) ∧ wr.cell? ⟨w.heap.size, 2, none⟩ = some (.int .i64 B) ∧ wr.cell? ⟨w.heap.size + 1, 0, none⟩ = some (.int .i64 (N : Int)) ∧ wr.cell? ⟨w.heap.size + 1, 1, none⟩ = some (.int .i64 C) ∧ wr.cell? ⟨w.heap.size + 1, 2, none⟩ = some (.int .i64 D) ∧ BelF wr.heap.size wr wr from ⟨q0, q1, q2, r0, r1, r2, BelF.begin wr⟩)
      go_wp2
      go_region_held3 (fun W => W.cell? ⟨w.heap.size, 0, none⟩ = some (.int .i64 (N : Int)) ∧ W.cell? ⟨w.heap.size, 1, none⟩ = some (.int .i64 A) ∧ W.cell? ⟨w.heap.size, 2, none⟩ = some (.int .i64 B) ∧ W.cell? ⟨w.heap.size + 1, 0, none⟩ = some (.int .i64 (N : Int)) ∧ W.cell? ⟨w.heap.size + 1, 1, none⟩ = some (.int .i64 C) ∧ W.cell? ⟨w.heap.size + 1, 2, none⟩ = some (.int .i64 D) ∧ BelF wr.heap.size wr W)
        (first | exact HS0.out | exact HN.out _ _ hbs (by assumption) | exact HN.out _ _ (drew_below _) (by assumption) | exact HN.out _ _ (drew_below _) HS0.out)
        ((first
          | (go_at_call 72; refine (HX.out _).mono ?_; rintro e wx ⟨rfl, hbs⟩)))
      all_goals
        refine at_world (S := fun W => W.cell? ⟨w.heap.size, 0, none⟩ = some (.int .i64 (N : Int)) ∧ W.cell? ⟨w.heap.size, 1, none⟩ = some (.int .i64 A) ∧ W.cell? ⟨w.heap.size, 2, none⟩ = some (.int .i64 B) ∧ W.cell? ⟨w.heap.size + 1, 0, none⟩ = some (.int .i64 (N : Int)) ∧ W.cell? ⟨w.heap.size + 1, 1, none⟩ = some (.int .i64 C) ∧ W.cell? ⟨w.heap.size + 1, 2, none⟩ = some (.int .i64 D) ∧ BelF wr.heap.size wr W) (G := fun W => Exit.then _ _ _ _ W) (by assumption) ?_
        intro w3 hS
        clear q0 q1 q2 r0 r1 r2
        obtain ⟨q0, q1, q2, r0, r1, r2, hs3⟩ := hS
        have HB3 := Lib.hid (HBB.out.trans (hs3.to.mono HBB.out.size))
        have HC3 := Lib.hid (show C3 w.heap.size (.int .i64 (N : Int)) (.int .i64 A) (.int .i64 B) w3 from ⟨q0, q1, q2⟩)
        have HD3 := Lib.hid (show C3 (w.heap.size + 1) (.int .i64 (N : Int)) (.int .i64 C) (.int .i64 D) w3 from ⟨r0, r1, r2⟩)
        clear hs3
        cases b
        · have HP2 := Lib.hid (show ∀ u, 1 ≤ u → u < v + 1 → alk N A B C D u = false from fun u h1 h2 => by
            by_cases huv : u = v
            · subst huv; exact HBQ.out
            · exact HP.out u h1 (by omega))
          go_wp2
          go_roundg (gk - 1)
          case rel => exact ⟨v + 1, by have := HK.out; omega, by omega, by omega, by go_num, HP2, HC3.out, HD3.out, HB3.out⟩
          case measure => have := HK.out; omega
        · have HVE := Lib.hid (show V = v by
            rcases HVV.out with ⟨h1, h2⟩ | ⟨h1, h2, h3, h4⟩
            · rw [h2 v hv1 hlt] at HBQ; exact absurd HBQ.out (by decide)
            · rcases Nat.lt_trichotomy V v with h | h | h
              · rw [HP.out V h1 h] at h3; cases h3
              · exact h
              · rw [h4 v hv1 h] at HBQ; exact absurd HBQ.out (by decide))
          go_wp2
          go_ret2
          exact ⟨ret_ib (by rw [HVE.out]) (by rw [HVE.out]; exact (decide_eq_true (show v ≠ 0 by omega)).symm), HB3.out⟩
    · have l1 : ¬ (v : Int) < (N : Int) := by omega
      have HVE := Lib.hid (show V = 0 by
        rcases HVV.out with ⟨h1, h2⟩ | ⟨h1, h2, h3, h4⟩
        · exact h1
        · rw [HP.out V h1 (by omega)] at h3; cases h3)
      clear hk hb hvN
      go_wp2
      go_ret2
      exact ⟨ret_ib (by rw [HVE.out]; rfl) (by rw [HVE.out]; rfl), HBB.out⟩

set_option maxHeartbeats 8000000 in
set_option maxRecDepth 100000 in
theorem alikeR_any (N : Nat) (A B C D : Int) (hN : 5 ≤ N ∧ N ≤ 31) (hA : 0 ≤ A ∧ A ≤ 31) (hB : 0 ≤ B ∧ B ≤ 31) (hC0 : 0 ≤ C ∧ C < N) (hD0 : 0 ≤ D ∧ D < N) (V : Nat) (hV : IsFst (alk N A B C D) N V) (E : Int) (hE : (V = 0 → E = 4) ∧ (V ≠ 0 → E = 0)) (w : World) :
    Calls Tryd.prog 47 #[.agg #[.int .i64 (N : Int), .int .i64 A, .int .i64 B], .agg #[.int .i64 (N : Int), .int .i64 C, .int .i64 D]] w fun e w' => e = .returned (.tuple #[.int .i64 (V : Int), .int .i64 E]) ∧ Below w.heap.size w w' := by
  have HB := Lib.hid (below2 w (.cells #[.int .i64 (N : Int), .int .i64 A, .int .i64 B] 23) (.cells #[.int .i64 (N : Int), .int .i64 C, .int .i64 D] 23))
  have HVV := Lib.hid hV
  have HE := Lib.hid hE
  clear hE
  have HM := Lib.hid (fun n W => mod_any n (N : Int) (by omega) (by omega) W)
  have HAL := Lib.hid (fun v w hw => alkR (N := (N : Int)) (A := A) (B := B) (C := C) (D := D) (by omega) hC0 hD0 v w hw)
  clear hV
  have hC1 : C ≤ 31 := by omega
  have hD1 : D ≤ 31 := by omega
  obtain ⟨C0, -⟩ := hC0
  obtain ⟨D0, -⟩ := hD0
  have hne : ¬ (N : Int) = 0 := by omega
  go_enter Tryd.func47, Tryd.ntmps47
  go_wp2
  go_loopg [6, 7] N (fun gk s6 s7 wr => ∃ v : Nat, v + gk = N + 1 ∧ 1 ≤ v ∧ v ≤ N ∧ s6 = .int .i64 (v : Int) ∧ RowKit.Hid (∀ u, 1 ≤ u → u < v → alk N A B C D u = false) ∧ wr = (w.alloc (.cells #[.int .i64 (N : Int), .int .i64 A, .int .i64 B] 23)).alloc (.cells #[.int .i64 (N : Int), .int .i64 C, .int .i64 D] 23))
  case atStart => exact ⟨1, by omega, by omega, by omega, rfl, Lib.hid (fun u h1 h2 => by omega), rfl⟩
  case round =>
    obtain ⟨v, hk, hv1, hvN, rfl, HP, rfl⟩ := hrel
    have HK := Lib.hid hk
    by_cases hlt : v < N
    · have l1 : (v : Int) < (N : Int) := by omega
      obtain ⟨a0, a1⟩ := mul_in (a := (v : Int)) (b := (v : Int)) 31 31 (by omega) (by omega) (by omega) (by omega)
      obtain ⟨b0, b1⟩ := mul_in (a := (v : Int) * v) (b := (v : Int)) 961 31 a0 a1 (by omega) (by omega)
      obtain ⟨c0, c1⟩ := mul_in (a := (v : Int) * v * v) (b := (v : Int)) 29791 31 b0 b1 (by omega) (by omega)
      obtain ⟨W, hW⟩ : ∃ W, (v : Int) * v * v * v % (N : Int) = W := ⟨_, rfl⟩
      have w0 : 0 ≤ W := by rw [← hW]; exact Int.emod_nonneg _ hne
      have w1 : W ≤ 31 := by rw [← hW]; have := Int.emod_lt_of_pos ((v : Int) * v * v * v) (show 0 < (N : Int) by omega); omega
      obtain ⟨d0, d1⟩ := mul_in (a := A) (b := W) 31 31 hA.1 hA.2 w0 w1
      obtain ⟨e0, e1⟩ := mul_in (a := B) (b := W) 31 31 hB.1 hB.2 w0 w1
      obtain ⟨f0, f1⟩ := mul_in (a := B * W) (b := (v : Int)) 961 31 e0 e1 (by omega) (by omega)
      obtain ⟨g0, g1⟩ := mul_in (a := B * W * v) (b := (v : Int)) 29791 31 f0 f1 (by omega) (by omega)
      have hal := HAL.out v W hW
      obtain ⟨x, hx⟩ : ∃ x, (A * W - C) % (N : Int) = x := ⟨_, rfl⟩
      obtain ⟨y, hy⟩ : ∃ y, (B * W * v * v - D) % (N : Int) = y := ⟨_, rfl⟩
      have HX := Lib.hid (fun W' => HM.out (A * W - C) W')
      have HY := Lib.hid (fun W' => HM.out (B * W * v * v - D) W')
      rw [hx] at HX hal
      rw [hy] at HY hal
      have HAQ := Lib.hid hal
      clear hx hy hal hk hvN
      by_cases hx0 : x = 0
      · have z0 : (x == 0) = true := by simpa using hx0
        go_wp2_with fail
        refine (HX.out _).mono ?_
        rintro e w1 ⟨rfl, rfl⟩
        go_wp2_with fail
        refine (HY.out _).mono ?_
        rintro e w1 ⟨rfl, rfl⟩
        by_cases hy0 : y = 0
        · have z1 : (y == 0) = true := by simpa using hy0
          have HVE := Lib.hid (show V = v by
            have hb : alk N A B C D v = true := by rw [HAQ.out, decide_eq_true hx0, decide_eq_true hy0]; rfl
            rcases HVV.out with ⟨h1, h2⟩ | ⟨h1, h2, h3, h4⟩
            · rw [h2 v hv1 hlt] at hb; cases hb
            · rcases Nat.lt_trichotomy V v with h | h | h
              · rw [HP.out V h1 h] at h3; cases h3
              · exact h
              · rw [h4 v hv1 h] at hb; cases hb)
          clear hx0 hy0
          go_wp2
          go_ret2
          exact ⟨ret_ii (by rw [HVE.out]) (HE.out.2 (by rw [HVE.out]; omega)).symm, HB.out⟩
        · have z1 : (y == 0) = false := by simpa using hy0
          have HP2 := Lib.hid (show ∀ u, 1 ≤ u → u < v + 1 → alk N A B C D u = false from fun u h1 h2 => by
            by_cases huv : u = v
            · subst huv; rw [HAQ.out, decide_eq_false hy0, Bool.and_false]
            · exact HP.out u h1 (by omega))
          clear hx0 hy0
          go_wp2
          go_roundg (gk - 1)
          case rel => exact ⟨v + 1, by have := HK.out; omega, by omega, by omega, by go_num, HP2, rfl⟩
          case measure => have := HK.out; omega
      · have z0 : (x == 0) = false := by simpa using hx0
        have HP2 := Lib.hid (show ∀ u, 1 ≤ u → u < v + 1 → alk N A B C D u = false from fun u h1 h2 => by
          by_cases huv : u = v
          · subst huv; rw [HAQ.out, decide_eq_false hx0]; rfl
          · exact HP.out u h1 (by omega))
        clear hx0
        go_wp2_with fail
        refine (HX.out _).mono ?_
        rintro e w1 ⟨rfl, rfl⟩
        go_wp2
        go_roundg (gk - 1)
        case rel => exact ⟨v + 1, by have := HK.out; omega, by omega, by omega, by go_num, HP2, rfl⟩
        case measure => have := HK.out; omega
    · have l1 : ¬ (v : Int) < (N : Int) := by omega
      have HVE := Lib.hid (show V = 0 by
        rcases HVV.out with ⟨h1, h2⟩ | ⟨h1, h2, h3, h4⟩
        · exact h1
        · rw [HP.out V h1 (by omega)] at h3; cases h3)
      clear hk hvN
      go_wp2
      go_ret2
      exact ⟨ret_ii (by rw [HVE.out]; rfl) (HE.out.1 HVE.out).symm, HB.out⟩

/-- what Alike says of two curves: the number and the error -/
def alikeN (P A B P2 C D V E : Int) : Prop := (vB P A B = true ∧ vB P2 C D = true ∧ P = P2 ∧ ∃ v : Nat, V = v ∧ IsFst (alk P A B C D) P.toNat v ∧ (v = 0 → E = 4) ∧ (v ≠ 0 → E = 0)) ∨ (¬ (vB P A B = true ∧ vB P2 C D = true ∧ P = P2) ∧ V = 0 ∧ E = 2)
theorem alikeN_ex (P A B P2 C D : Int) : ∃ V E, alikeN P A B P2 C D V E := by
  by_cases h : vB P A B = true ∧ vB P2 C D = true ∧ P = P2
  · obtain ⟨v, hv⟩ := fst_ex (alk P A B C D) P.toNat
    by_cases h0 : v = 0
    · exact ⟨v, 4, .inl ⟨h.1, h.2.1, h.2.2, v, rfl, hv, fun _ => rfl, fun e => absurd h0 e⟩⟩
    · exact ⟨v, 0, .inl ⟨h.1, h.2.1, h.2.2, v, rfl, hv, fun e => absurd e h0, fun _ => rfl⟩⟩
  · exact ⟨0, 2, .inr ⟨h, rfl, rfl⟩⟩

set_option maxHeartbeats 8000000 in
set_option maxRecDepth 100000 in
theorem Alike_no1 (P A B P2 C D : Int) (hv : vB P A B = false) (w : World) (hF : Far w) :
    Calls Tryd.prog 45 #[.agg #[.int .i64 P, .int .i64 A, .int .i64 B], .agg #[.int .i64 P2, .int .i64 C, .int .i64 D]] w fun e w' => e = .returned (.tuple #[.int .i64 0, .int .i64 2]) ∧ Below w.heap.size w w' := by
  have HB := Lib.hid (below2 w (.cells #[.int .i64 P, .int .i64 A, .int .i64 B] 30) (.cells #[.int .i64 P2, .int .i64 C, .int .i64 D] 30))
  have hc := C3.new w (.int .i64 P) (.int .i64 A) (.int .i64 B) 30
  have HC := Lib.hid (hc.later (below1 (w.alloc (.cells #[.int .i64 P, .int .i64 A, .int .i64 B] 30)) (.cells #[.int .i64 P2, .int .i64 C, .int .i64 D] 30)))
  have hd := C3.new (w.alloc (.cells #[.int .i64 P, .int .i64 A, .int .i64 B] 30)) (.int .i64 P2) (.int .i64 C) (.int .i64 D) 30
  rw [show (w.alloc (.cells #[.int .i64 P, .int .i64 A, .int .i64 B] 30)).heap.size = w.heap.size + 1 by simp] at hd
  have HD := Lib.hid hd
  have HF1 := Lib.hid (hF.below HB.out)
  have HV1 := Lib.hid (fun W hF => valid_any P A B none 0 0 [] W (AgP.nil _ _) (by omega) hF)
  have HV2 := Lib.hid (fun W hF => valid_any P2 C D none 0 0 [] W (AgP.nil _ _) (by omega) hF)
  rw [hv] at HV1
  clear hv hF hc hd
  go_enter Tryd.func45, Tryd.ntmps45
  go_wp2_with fail
  refine (HV1.out _ HF1.out).mono ?_
  rintro e w1 ⟨rfl, hb⟩
  have HB1 := Lib.hid (HB.out.trans (hb.mono HB.out.size))
  have HF2 := Lib.hid (HF1.out.below hb)
  have HC1 := Lib.hid (HC.out.later hb)
  have HD1 := Lib.hid (HD.out.later hb)
  obtain ⟨q0, q1, q2⟩ := HC1.out
  obtain ⟨r0, r1, r2⟩ := HD1.out
  clear hb
  go_wp2
  go_ret2
  exact ⟨ret_ii rfl rfl, HB1.out⟩

set_option maxHeartbeats 8000000 in
set_option maxRecDepth 100000 in
theorem Alike_no2 (P A B P2 C D : Int) (hv : vB P A B = true) (hv2 : vB P2 C D = false) (w : World) (hF : Far w) :
    Calls Tryd.prog 45 #[.agg #[.int .i64 P, .int .i64 A, .int .i64 B], .agg #[.int .i64 P2, .int .i64 C, .int .i64 D]] w fun e w' => e = .returned (.tuple #[.int .i64 0, .int .i64 2]) ∧ Below w.heap.size w w' := by
  have HB := Lib.hid (below2 w (.cells #[.int .i64 P, .int .i64 A, .int .i64 B] 30) (.cells #[.int .i64 P2, .int .i64 C, .int .i64 D] 30))
  have hc := C3.new w (.int .i64 P) (.int .i64 A) (.int .i64 B) 30
  have HC := Lib.hid (hc.later (below1 (w.alloc (.cells #[.int .i64 P, .int .i64 A, .int .i64 B] 30)) (.cells #[.int .i64 P2, .int .i64 C, .int .i64 D] 30)))
  have hd := C3.new (w.alloc (.cells #[.int .i64 P, .int .i64 A, .int .i64 B] 30)) (.int .i64 P2) (.int .i64 C) (.int .i64 D) 30
  rw [show (w.alloc (.cells #[.int .i64 P, .int .i64 A, .int .i64 B] 30)).heap.size = w.heap.size + 1 by simp] at hd
  have HD := Lib.hid hd
  have HF1 := Lib.hid (hF.below HB.out)
  have HV1 := Lib.hid (fun W hF => valid_any P A B none 0 0 [] W (AgP.nil _ _) (by omega) hF)
  have HV2 := Lib.hid (fun W hF => valid_any P2 C D none 0 0 [] W (AgP.nil _ _) (by omega) hF)
  rw [hv] at HV1
  rw [hv2] at HV2
  clear hv hv2 hF hc hd
  go_enter Tryd.func45, Tryd.ntmps45
  go_wp2_with fail
  refine (HV1.out _ HF1.out).mono ?_
  rintro e w1 ⟨rfl, hb⟩
  have HB1 := Lib.hid (HB.out.trans (hb.mono HB.out.size))
  have HF2 := Lib.hid (HF1.out.below hb)
  have HC1 := Lib.hid (HC.out.later hb)
  have HD1 := Lib.hid (HD.out.later hb)
  obtain ⟨q0, q1, q2⟩ := HC1.out
  obtain ⟨r0, r1, r2⟩ := HD1.out
  clear hb
  go_wp2_with fail
  refine (HV2.out _ HF2.out).mono ?_
  rintro e w2 ⟨rfl, hb⟩
  have HB2 := Lib.hid (HB1.out.trans (hb.mono HB1.out.size))
  have HF3 := Lib.hid (HF2.out.below hb)
  clear q0 q1 q2 r0 r1 r2
  have HC2 := Lib.hid (HC1.out.later hb)
  have HD2 := Lib.hid (HD1.out.later hb)
  obtain ⟨q0, q1, q2⟩ := HC2.out
  obtain ⟨r0, r1, r2⟩ := HD2.out
  clear hb
  go_wp2
  go_ret2
  exact ⟨ret_ii rfl rfl, HB2.out⟩

set_option maxHeartbeats 8000000 in
set_option maxRecDepth 100000 in
theorem Alike_no3 (P A B P2 C D : Int) (hv : vB P A B = true) (hv2 : vB P2 C D = true) (hne : ¬ P = P2) (w : World) (hF : Far w) :
    Calls Tryd.prog 45 #[.agg #[.int .i64 P, .int .i64 A, .int .i64 B], .agg #[.int .i64 P2, .int .i64 C, .int .i64 D]] w fun e w' => e = .returned (.tuple #[.int .i64 0, .int .i64 2]) ∧ Below w.heap.size w w' := by
  have HB := Lib.hid (below2 w (.cells #[.int .i64 P, .int .i64 A, .int .i64 B] 30) (.cells #[.int .i64 P2, .int .i64 C, .int .i64 D] 30))
  have hc := C3.new w (.int .i64 P) (.int .i64 A) (.int .i64 B) 30
  have HC := Lib.hid (hc.later (below1 (w.alloc (.cells #[.int .i64 P, .int .i64 A, .int .i64 B] 30)) (.cells #[.int .i64 P2, .int .i64 C, .int .i64 D] 30)))
  have hd := C3.new (w.alloc (.cells #[.int .i64 P, .int .i64 A, .int .i64 B] 30)) (.int .i64 P2) (.int .i64 C) (.int .i64 D) 30
  rw [show (w.alloc (.cells #[.int .i64 P, .int .i64 A, .int .i64 B] 30)).heap.size = w.heap.size + 1 by simp] at hd
  have HD := Lib.hid hd
  have HF1 := Lib.hid (hF.below HB.out)
  have HV1 := Lib.hid (fun W hF => valid_any P A B none 0 0 [] W (AgP.nil _ _) (by omega) hF)
  have HV2 := Lib.hid (fun W hF => valid_any P2 C D none 0 0 [] W (AgP.nil _ _) (by omega) hF)
  rw [hv] at HV1
  rw [hv2] at HV2
  have hnb : (P == P2) = false := by simpa using hne
  clear hv hv2 hF hc hd
  go_enter Tryd.func45, Tryd.ntmps45
  go_wp2_with fail
  refine (HV1.out _ HF1.out).mono ?_
  rintro e w1 ⟨rfl, hb⟩
  have HB1 := Lib.hid (HB.out.trans (hb.mono HB.out.size))
  have HF2 := Lib.hid (HF1.out.below hb)
  have HC1 := Lib.hid (HC.out.later hb)
  have HD1 := Lib.hid (HD.out.later hb)
  obtain ⟨q0, q1, q2⟩ := HC1.out
  obtain ⟨r0, r1, r2⟩ := HD1.out
  clear hb
  go_wp2_with fail
  refine (HV2.out _ HF2.out).mono ?_
  rintro e w2 ⟨rfl, hb⟩
  have HB2 := Lib.hid (HB1.out.trans (hb.mono HB1.out.size))
  have HF3 := Lib.hid (HF2.out.below hb)
  clear q0 q1 q2 r0 r1 r2
  have HC2 := Lib.hid (HC1.out.later hb)
  have HD2 := Lib.hid (HD1.out.later hb)
  obtain ⟨q0, q1, q2⟩ := HC2.out
  obtain ⟨r0, r1, r2⟩ := HD2.out
  clear hb
  go_wp2
  go_ret2
  exact ⟨ret_ii rfl rfl, HB2.out⟩

set_option maxHeartbeats 8000000 in
set_option maxRecDepth 100000 in
theorem Alike_yes (P A B C D : Int) (hv : vB P A B = true) (hv2 : vB P C D = true) (V : Nat) (hV : IsFst (alk P A B C D) P.toNat V) (E : Int) (hE : (V = 0 → E = 4) ∧ (V ≠ 0 → E = 0)) (w : World) (hF : Far w) :
    Calls Tryd.prog 45 #[.agg #[.int .i64 P, .int .i64 A, .int .i64 B], .agg #[.int .i64 P, .int .i64 C, .int .i64 D]] w fun e w' => e = .returned (.tuple #[.int .i64 (V : Int), .int .i64 E]) ∧ Below w.heap.size w w' := by
  have HB := Lib.hid (below2 w (.cells #[.int .i64 P, .int .i64 A, .int .i64 B] 30) (.cells #[.int .i64 P, .int .i64 C, .int .i64 D] 30))
  have hc := C3.new w (.int .i64 P) (.int .i64 A) (.int .i64 B) 30
  have HC := Lib.hid (hc.later (below1 (w.alloc (.cells #[.int .i64 P, .int .i64 A, .int .i64 B] 30)) (.cells #[.int .i64 P, .int .i64 C, .int .i64 D] 30)))
  have hd := C3.new (w.alloc (.cells #[.int .i64 P, .int .i64 A, .int .i64 B] 30)) (.int .i64 P) (.int .i64 C) (.int .i64 D) 30
  rw [show (w.alloc (.cells #[.int .i64 P, .int .i64 A, .int .i64 B] 30)).heap.size = w.heap.size + 1 by simp] at hd
  have HD := Lib.hid hd
  have HF1 := Lib.hid (hF.below HB.out)
  have HV1 := Lib.hid (fun W hF => valid_any P A B none 0 0 [] W (AgP.nil _ _) (by omega) hF)
  have HV2 := Lib.hid (fun W hF => valid_any P C D none 0 0 [] W (AgP.nil _ _) (by omega) hF)
  rw [hv] at HV1
  rw [hv2] at HV2
  obtain ⟨N, rfl, h5, hA, hB⟩ := vB_nat hv
  rw [Int.toNat_natCast] at hV
  have HA := Lib.hid (fun W => alike_any N A B C D h5 hA hB V hV W)
  have HE := Lib.hid hE
  clear hv hv2 hF hc hd hV hE
  go_enter Tryd.func45, Tryd.ntmps45
  go_wp2_with fail
  refine (HV1.out _ HF1.out).mono ?_
  rintro e w1 ⟨rfl, hb⟩
  have HB1 := Lib.hid (HB.out.trans (hb.mono HB.out.size))
  have HF2 := Lib.hid (HF1.out.below hb)
  have HC1 := Lib.hid (HC.out.later hb)
  have HD1 := Lib.hid (HD.out.later hb)
  obtain ⟨q0, q1, q2⟩ := HC1.out
  obtain ⟨r0, r1, r2⟩ := HD1.out
  clear hb
  go_wp2_with fail
  refine (HV2.out _ HF2.out).mono ?_
  rintro e w2 ⟨rfl, hb⟩
  have HB2 := Lib.hid (HB1.out.trans (hb.mono HB1.out.size))
  have HF3 := Lib.hid (HF2.out.below hb)
  clear q0 q1 q2 r0 r1 r2
  have HC2 := Lib.hid (HC1.out.later hb)
  have HD2 := Lib.hid (HD1.out.later hb)
  obtain ⟨q0, q1, q2⟩ := HC2.out
  obtain ⟨r0, r1, r2⟩ := HD2.out
  clear hb
  go_wp2_with fail
  refine (HA.out _).mono ?_
  rintro e w3 ⟨rfl, hb⟩
  have HB3 := Lib.hid (HB2.out.trans (hb.mono HB2.out.size))
  clear hb q0 q1 q2 r0 r1 r2
  by_cases h0 : V = 0
  · have HE0 := Lib.hid (And.intro h0 (HE.out.1 h0))
    have hd0 : decide (V ≠ 0) = false := by simpa using h0
    clear h0
    go_wp2
    go_ret2
    exact ⟨ret_ii (by rw [HE0.out.1]; rfl) HE0.out.2.symm, HB3.out⟩
  · have HE0 := Lib.hid (HE.out.2 h0)
    have hd0 : decide (V ≠ 0) = true := by simpa using h0
    clear h0
    go_wp2
    go_ret2
    exact ⟨ret_ii rfl HE0.out.symm, HB3.out⟩

theorem Alike_any (P A B P2 C D V E : Int) (h : alikeN P A B P2 C D V E) (w : World) (hF : Far w) :
    Calls Tryd.prog 45 #[.agg #[.int .i64 P, .int .i64 A, .int .i64 B], .agg #[.int .i64 P2, .int .i64 C, .int .i64 D]] w fun e w' => e = .returned (.tuple #[.int .i64 V, .int .i64 E]) ∧ Below w.heap.size w w' := by
  rcases h with ⟨h1, h2, rfl, v, rfl, hv, he⟩ | ⟨hn, rfl, rfl⟩
  · exact Alike_yes P A B C D h1 h2 v hv E he w hF
  · cases h1 : vB P A B with
    | false => exact Alike_no1 P A B P2 C D h1 w hF
    | true =>
      cases h2 : vB P2 C D with
      | false => exact Alike_no2 P A B P2 C D h1 h2 w hF
      | true => exact Alike_no3 P A B P2 C D h1 h2 (fun e => hn ⟨h1, h2, e⟩) w hF
end Go.Proofs.YtoepghlkjbpkfaaDoor
