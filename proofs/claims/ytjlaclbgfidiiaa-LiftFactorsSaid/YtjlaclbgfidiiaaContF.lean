/- Equality of fractions; the walks of slices.Index and slices.Contains at fractions. Condition: the slice lies in memory. -/
import Derived.Test.YtjlaclbgfidiiaaSlp
import Derived.Test.YtjlaclbgfidiiaaKit
import Derived.Laws.StructEq
namespace Go.Proofs.Ytjlaclbgfidiiaa
open Go.RowKit
attribute [local go_sem] Oper.semAt_some

theorem und48 : Try.prog.underlying 48 = some (.struct (Try.prog.fieldsOf 48)) := by kernel_rfl
theorem held48 : Try.prog.stoodInHeld 48 = false := by kernel_rfl
theorem fl48 : (Try.prog.fieldsOf 48).toList.map (fun f => (f.name, f.type, f.offset)) = [("Num", 3, 0), ("Den", 3, 1)] := by kernel_rfl
theorem eq48 (w : World) (a b c d : Int) : (binOp .eql 48 (.agg #[.int .i64 a, .int .i64 b]) (.agg #[.int .i64 c, .int .i64 d])).run Try.prog w = .ok (.bool (a == c && b == d)) w := by
  rw [run_eql_struct, run_equalIn_struct w 9999 48 _ _ und48 held48]
  have h := fl48
  obtain ⟨f, g, hf⟩ : ∃ f g, (Try.prog.fieldsOf 48).toList = [f, g] := by
    generalize (Try.prog.fieldsOf 48).toList = l at h
    match l, h with
    | [f, g], _ => exact ⟨f, g, rfl⟩
    | [], h => simp at h
    | [_], h => simp at h
    | _ :: _ :: _ :: _, h => simp at h
  rw [hf] at h ⊢
  simp only [List.map_cons, List.map_nil, List.cons.injEq, Prod.mk.injEq, and_true] at h
  obtain ⟨⟨f1, f2, f3⟩, ⟨g1, g2, g3⟩⟩ := h
  have hu := Try.underlying3
  by_cases hac : a = c <;> by_cases hbd : b = d <;> simp [go_sem, Op.eqFields, f1, f2, f3, g1, g2, g3, part, hu, hac, hbd, run_equalIn_int, cells3]

set_option maxHeartbeats 4000000 in
set_option maxRecDepth 100000 in
theorem indexF_any (a : Option Addr) (n c : Nat) (L : List (Int × Int)) (x y : Int) (w : World) (h : Prs w a n L) (hn : n ≤ 100000) :
    Calls Try.prog 74 #[.slice a n c, .agg #[.int .i64 x, .int .i64 y]] w fun e w' => (∃ r : Int, e = .returned (.int .i64 r) ∧ -1 ≤ r ∧ r ≤ 100000 ∧ (0 ≤ r ↔ (x, y) ∈ L)) ∧ Below w.heap.size w w' := by
  have hmem : (x, y) ∈ L ↔ ∃ j, j < n ∧ nth L j = (x, y) := by
    constructor
    · intro hm
      obtain ⟨j, hj, he⟩ := List.mem_iff_getElem.1 hm
      exact ⟨j, by have := h.1; omega, by unfold nth; rw [List.getD, List.getElem?_eq_getElem hj, he]; rfl⟩
    · rintro ⟨j, hj, he⟩
      have hj2 : j < L.length := by have := h.1; omega
      rw [← he]
      unfold nth
      rw [List.getD, List.getElem?_eq_getElem hj2]
      exact List.getElem_mem hj2
  have H := Lib.hid h
  have HM := Lib.hid hmem
  have heq := fun (w : World) (u v : Int) => eq48 w x y u v
  have HEQ := Lib.hid heq
  obtain ⟨c0, c1⟩ := cell_pair w (.int .i64 x) (.int .i64 y) 48
  have HB0 := Lib.hid ((Below.refl w.heap.size w).alloc (Nat.le_refl _) (.cells #[.int .i64 x, .int .i64 y] 48))
  clear h hmem heq
  go_enter Try.func74, Try.ntmps74
  go_wp2
  obtain ⟨G, hG⟩ : ∃ G, w.heap.size = G := ⟨_, rfl⟩
  obtain ⟨W0, hW0⟩ : ∃ W0, w.alloc (.cells #[.int .i64 x, .int .i64 y] 48) = W0 := ⟨_, rfl⟩
  rw [hW0] at c0 c1 HB0 ⊢
  rw [hG] at c0 c1 ⊢
  have HC := Lib.hid (And.intro c0 c1)
  have HGG := Lib.hid hG
  clear hW0 c0 c1 hG
  go_loopg [5, 8] n (fun gk s5 s8 wr => ∃ k q : Nat, k + gk = n ∧ s8 = .int .i64 (k : Int) ∧ (∀ j, j < k → nth L j ≠ (x, y)) ∧ wr = W0.drewN q)
  case atStart => exact ⟨0, 0, by omega, rfl, fun j hj => absurd hj (by omega), rfl⟩
  case round =>
    obtain ⟨k, q, hk, rfl, hno, rfl⟩ := hrel
    have HK := Lib.hid hk
    have HNO := Lib.hid hno
    by_cases hlt : k < n
    · have l1 : (k : Int) < (n : Int) := by omega
      have l0 : (0 : Int) ≤ (k : Int) := by omega
      obtain ⟨b, off, rfl, hbl, hcc⟩ := H.out.at (by omega)
      obtain ⟨d0, d1⟩ := hcc k hlt
      have t0 := (HB0.out.cell (p := ⟨b, off + k * 2, none⟩) hbl).trans d0
      have t1 := (HB0.out.cell (p := ⟨b, off + k * 2 + 1, none⟩) hbl).trans d1
      obtain ⟨c0, c1⟩ := HC.out
      obtain ⟨⟨u, v⟩, hu⟩ : ∃ p, nth L k = p := ⟨_, rfl⟩
      rw [hu] at t0 t1
      have hq := fun w => HEQ.out w u v
      have HU := Lib.hid hu
      obtain ⟨T, hT⟩ : ∃ T, (x == u && y == v) = T := ⟨_, rfl⟩
      rw [hT] at hq
      have HT := Lib.hid hT
      clear d0 d1 hcc hk hno hu hT
      go_wp2
      go_quiet (fail)
      cases T with
      | true =>
        have hxy : (u, v) = (x, y) := by
          have := HT.out
          simp only [Bool.and_eq_true, beq_iff_eq] at this
          rw [this.1, this.2]
        have HF := Lib.hid (HM.out.2 ⟨k, hlt, HU.out.trans hxy⟩)
        clear hxy hq
        go_wp2
        go_ret
        exact ⟨⟨_, rfl, by omega, by omega, fun _ => HF.out, fun _ => l0⟩, by first | exact below_drewN HB0.out _ | exact below_drewN (below_drewN HB0.out _) _⟩
      | false =>
        have hxy : nth L k ≠ (x, y) := by
          rw [HU.out]
          intro e
          simp only [Prod.mk.injEq] at e
          have := HT.out
          simp [e.1, e.2] at this
        have HF := Lib.hid (show ∀ j, j < k + 1 → nth L j ≠ (x, y) from fun j hj => by
          by_cases e : j = k
          · rw [e]; exact hxy
          · exact HNO.out j (by omega))
        clear hxy hq
        go_wp2
        go_roundg (gk - 1)
        case rel => exact ⟨k + 1, _, by have := HK.out; omega, by go_num, HF.out, by first | rfl | rw [World.drewN_drewN]⟩
        case measure => have := HK.out; omega
    · have l1 : ¬ (k : Int) < (n : Int) := by omega
      have hkn : k = n := by omega
      have HF := Lib.hid (show ¬ (x, y) ∈ L from fun hm => by
        obtain ⟨j, hj, he⟩ := HM.out.1 hm
        exact hno j (by omega) he)
      clear hk hno hkn
      go_wp2
      go_ret
      exact ⟨⟨_, rfl, by omega, by omega, fun h => absurd h (by omega), fun h => absurd h HF.out⟩, below_drewN HB0.out _⟩

set_option maxHeartbeats 4000000 in
set_option maxRecDepth 100000 in
theorem containsF_any (a : Option Addr) (n c : Nat) (L : List (Int × Int)) (x y : Int) (w : World) (h : Prs w a n L) (hn : n ≤ 100000) :
    Calls Try.prog 50 #[.slice a n c, .agg #[.int .i64 x, .int .i64 y]] w fun e w' => e = .returned (.bool (decide ((x, y) ∈ L))) ∧ Below w.heap.size w w' := by
  have HB0 := Lib.hid ((Below.refl w.heap.size w).alloc (Nat.le_refl _) (.cells #[.int .i64 x, .int .i64 y] 48))
  have HI := Lib.hid (indexF_any a n c L x y _ (h.below ((Below.refl w.heap.size w).alloc (Nat.le_refl _) (.cells #[.int .i64 x, .int .i64 y] 48))) hn)
  obtain ⟨c0, c1⟩ := cell_pair w (.int .i64 x) (.int .i64 y) 48
  clear h
  go_enter Try.func50, Try.ntmps50
  go_wp2_with fail
  refine HI.out.mono ?_
  rintro e w1 ⟨⟨r, rfl, r0, r1, hr⟩, hb⟩
  have HB := Lib.hid (HB0.out.trans (hb.mono HB0.out.size))
  have HR := Lib.hid hr
  clear hb hr
  go_wp2
  go_ret
  exact ⟨ret_bool (by
    by_cases h0 : 0 ≤ r
    · rw [decide_eq_true (HR.out.1 h0)]; simp [h0]
    · rw [decide_eq_false (fun hm => h0 (HR.out.2 hm))]; simp; omega), HB.out⟩
end Go.Proofs.Ytjlaclbgfidiiaa
