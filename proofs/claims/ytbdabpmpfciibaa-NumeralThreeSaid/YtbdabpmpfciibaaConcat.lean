/- The walk of slices.Concat over two slices of whole numbers: both in a row of the call's own. Condition: both lie in memory. -/
import Derived.Test.YtbdabpmpfciibaaComp
import Derived.Test.YtbdabpmpfciibaaShelf2
namespace Go.Proofs.Ytbdabpmpfciibaa
open Go.RowKit
attribute [local go_sem] Oper.semAt_some

theorem add_here (b o j : Nat) : (⟨b, o, none⟩ : Addr).add j = ⟨b, o + j, none⟩ := by unfold Addr.add; split <;> simp_all
theorem run_app_none {P : Program} {w : World} (base : Nat) (t ty e : TypeId) (i : TypeInfo) (size c : Nat) (ht : P.underlying t = some (.slice e)) (hi : P.info? e = some i)
    (v : Value) (n : Nat) (xs : List Value) (hown : w.ownsRow base e size v n xs) :
    (Builtin.append_ #[t, t] ty #[v, .slice none 0 c]).run P w = .ok v w := by
  rcases hown.2 with ⟨rfl, rfl⟩ | ⟨g, cap, cur, rfl, _, _, hnc, _⟩
  · simp [Builtin.append_, run_underlying ht, sizeOf, typeInfo, hi, Builtin.lenOf, Builtin.firstCells]
  · simp [Builtin.append_, run_underlying ht, sizeOf, typeInfo, hi, Builtin.lenOf, Builtin.firstCells, hnc, storeCells]

theorem Ints.none {w : World} {n : Nat} {xs : List Int} (h : Ints w none n xs) : n = 0 ∧ xs = [] := by
  rcases h.2 with h0 | ⟨b, off, h1, _⟩
  · subst h0
    exact ⟨rfl, List.length_eq_zero_iff.1 h.1⟩
  · cases h1

/-- An append of a whole slice onto a row of the call's own. -/
theorem wpList_app {ops : Array Oper} {rest : List Oper} {o : Oper} {a : Act} {w : World} {Q : Exit → Act → World → Prop} (hgd : o.guard = none) (s x : Operand)
    (ho : o.op = .call { callee := .builtin .append, args := #[s, x], argTypes := #[22, 22] })
    (B : Nat) (v : Value) (xs : List Int) (hs : a.eval s = v) (hown : Row B v xs w) (ao : Option Addr) (m c : Nat) (ys : List Int) (hx : a.eval x = .slice ao m c) (hy : Ints w ao m ys)
    (hlen : xs.length + ys.length ≤ 10000000) (hB : B ≤ w.heap.size)
    (h : ∀ v' w', Row B v' (xs ++ ys) w' → w.grownBy w' v.ownBlock → wpList Try.prog ops Q rest (a.put o.dst v') w') : wpList Try.prog ops Q (o :: rest) a w := by
  obtain ⟨i3, j1, j2, j3, j4⟩ := info_parts info3
  have hl := hy.1
  cases ao with
  | none =>
    obtain ⟨rfl, rfl⟩ := hy.none
    have hr := run_app_none (P := Try.prog) (w := w) B 22 o.type 3 i3 1 c Try.underlying22 j1 v _ _ hown
    refine wpList_plain hgd fun K hK => ?_
    unfold Oper.wp execOp
    simp only [ho, resolve, invoke, builtin, Sem.run_bind, Sem.run_pure, Result.andThen_ok, List.map_toArray, List.map_cons, List.map_nil, hs, hx, hr]
    exact hK _ _ (h v w (by rw [List.append_nil]; exact hown) ⟨rfl, rfl, rfl, Nat.le_refl _, fun _ _ _ => rfl⟩)
  | some ad =>
    refine wpList_append_own w hgd s x 22 ho B 3 i3 (.int .i64 0) 1 8 Try.underlying22 j1 j2 j3 j4 rfl (by decide) v _ _ hs hown ad m c (ys.map (Value.int .i64)) hx (by rw [List.length_map, hl, Nat.mul_one]) ?_ (ints_oneCell .i64 ys) (by unfold maxLen; omega) (by omega) hB fun v' w' h1 h2 _ => h v' w' ?_ h2
    · intro j u hj
      have hjn : j < ys.length := by
        have := (List.getElem?_eq_some_iff.1 hj).1
        rw [List.length_map] at this
        exact this
      obtain ⟨b, off, hab, hb, hc⟩ := hy.at (by omega)
      cases hab
      rw [add_here, hc j (by omega)]
      have e : (ys.map (Value.int .i64))[j]? = some (Value.int .i64 (ys.getD j 0)) := by simp [List.getD, hjn]
      rw [e] at hj
      exact hj
    · unfold Row
      rw [List.length_append, hl, List.map_append]
      exact h1

/-- slices.Grow of nil. -/
theorem grow_nil (N : Nat) (hN : N ≤ 1000000) (w : World) :
    Calls Try.prog 95 #[.slice none 0 0, .int .i64 (N : Int)] w fun e w' => ∃ a c, e = .returned (.slice a 0 c) ∧ Row w.heap.size (.slice a 0 c) [] w' ∧ Below w.heap.size w w' := by
  by_cases h0 : N = 0
  · subst h0
    refine (Any8.slices_Grow_room Try.growI none 0 0 0 w (by omega) (by omega) (by omega) (by omega)).mono ?_
    rintro e w' ⟨rfl, rfl⟩
    exact ⟨none, 0, rfl, Row.nil _ _, Below.refl _ _⟩
  · obtain ⟨i3, j1, j2, j3, j4⟩ := info_parts info3
    refine (Any8.slices_Grow_grow Try.growI i3 (.int .i64 0) j1 j2 (by omega) none 0 0 N [] w (by omega) (by omega) (by rw [j4]; omega) (by omega) (by simp) (fun _ => rfl) (fun a h => by cases h)).mono ?_
    rintro e w' ⟨rfl, rfl⟩
    obtain ⟨G, hG⟩ : ∃ G, grownCap w (0 + N) 0 (Try.growI_ren.t 25) = G := ⟨_, rfl⟩
    have hge := grownCap_ge w (0 + N) 0 (Try.growI_ren.t 25)
    have hle := grownCap_le_maxLen w (0 + N) 0 (Try.growI_ren.t 25) (by unfold maxLen; omega)
    rw [hG] at hge hle ⊢
    refine ⟨_, G, rfl, ⟨rfl, .inr ⟨w.heap.size, G, _, rfl, Nat.le_refl _, heap_alloc_last w.drew _, Nat.zero_le _, hle, ?_, rfl⟩⟩, (Below.refl _ w).drew.alloc (Nat.le_refl _) _⟩
    simp [Builtin.zeroCells, Value.cells]
    omega

set_option maxHeartbeats 4000000 in
set_option maxRecDepth 100000 in
theorem concat_two (g : Nat) (a1 a2 : Option Addr) (n m c d : Nat) (xs ys : List Int) (w : World) (h1 : Ints w a1 n xs) (h2 : Ints w a2 m ys) (hn : n ≤ 1000) (hm : m ≤ 1000) (hg : g < w.heap.size)
    (c0 : w.cell? ⟨g, 0, none⟩ = some (.slice a1 n c)) (c1 : w.cell? ⟨g, 1, none⟩ = some (.slice a2 m d)) :
    Calls Try.prog 70 #[.slice (some ⟨g, 0, none⟩) 2 2] w fun e w' => ∃ v, e = .returned v ∧ Row w.heap.size v (xs ++ ys) w' ∧ Below w.heap.size w w' := by
  have H1 := Lib.hid h1
  have H2 := Lib.hid h2
  have HC := Lib.hid (And.intro c0 c1)
  have HG := Lib.hid hg
  clear h1 h2 hg
  go_enter Try.func70, Try.ntmps70
  go_wp2
  go_loopg [3, 11] 2 (fun gk s i wr => ∃ (k : Nat), k + gk = 2 ∧ i = .int .i64 (k : Int) ∧ s = .int .i64 (if k = 0 then 0 else if k = 1 then (n : Int) else (n : Int) + (m : Int)) ∧ wr = w)
  case atStart => exact ⟨0, by omega, rfl, rfl, rfl⟩
  case round =>
    obtain ⟨k, hk, rfl, rfl, hww⟩ := hrel
    have hww2 := hww.symm
    subst hww2
    match k, hk with
    | 0, hk =>
      have n0 : (0 : Int) ≤ (n : Int) := by omega
      have n1 : (n : Int) ≤ 1000 := by omega
      go_wp2
      go_roundg 1
      case rel => exact ⟨1, by omega, rfl, rfl, rfl⟩
      case measure => omega
    | 1, hk =>
      have n0 : (0 : Int) ≤ (n : Int) := by omega
      have n1 : (n : Int) ≤ 1000 := by omega
      have m0 : (0 : Int) ≤ (m : Int) := by omega
      have m1 : (m : Int) ≤ 1000 := by omega
      go_wp2
      go_roundg 0
      case rel => exact ⟨2, by omega, rfl, rfl, rfl⟩
      case measure => omega
    | k + 2, hk =>
      have hk0 : k = 0 := by omega
      subst hk0
      have e : (if (0 + 2 = 0) then 0 else if (0 + 2 = 1) then (n : Int) else (n : Int) + (m : Int)) = ((n + m : Nat) : Int) := by
        rw [if_neg (by omega), if_neg (by omega)]; omega
      rw [e]
      have HGR := Lib.hid (grow_nil (n + m) (by omega) w)
      obtain ⟨N, hN⟩ : ∃ N, n + m = N := ⟨_, rfl⟩
      rw [hN] at HGR ⊢
      clear e hN
      have HSZ := Lib.hid HG.out
      go_wp2_with fail
      refine HGR.out.mono ?_
      rintro e w1 ⟨a, cc, rfl, hr, hb⟩
      have HR := Lib.hid hr
      have HB := Lib.hid hb
      have hz := hb.size
      clear hr hb
      go_wp2
      go_loopg [6, 27] 2 (fun gk v i wr2 => ∃ (k : Nat), k + gk = 2 ∧ i = .int .i64 (k : Int) ∧ Row w.heap.size v (if k = 0 then [] else if k = 1 then xs else xs ++ ys) wr2 ∧ Below w.heap.size w wr2)
      case atStart => exact ⟨0, by omega, rfl, by rw [if_pos rfl]; exact HR.out, HB.out⟩
      case round =>
        obtain ⟨k, hk2, rfl, hr, hb⟩ := hrel
        have HR2 := Lib.hid hr
        have HB2 := Lib.hid hb
        have hz2 := hb.size
        have d0 := (hb.cell (p := ⟨g, 0, none⟩) HG.out).trans HC.out.1
        have d1 := (hb.cell (p := ⟨g, 1, none⟩) HG.out).trans HC.out.2
        have I1 := Lib.hid (H1.out.below hb)
        have I2 := Lib.hid (H2.out.below hb)
        clear hr hb HR HB
        match k, hk2, HR2 with
        | 0, hk2, HR2 =>
          have hl := H1.out.1
          go_wp2_with (at_builtin; refine wpList_app rfl _ _ rfl w.heap.size _ [] rfl (by have := HR2.out; rw [if_pos rfl] at this; exact this) a1 n c xs rfl I1.out (by simp; omega) hz2 ?_; intro v' w3 hr3 hg3)
          have hb3 : Below w.heap.size w w3 := HB2.out.grown hg3 hz2 (fun j e => (World.ownsRow.lt (h := HR2.out) j e).1)
          have HB3 := Lib.hid (And.intro hb3 hr3)
          clear hb3 hr3 hg3
          go_roundg 1
          case rel => exact ⟨1, by omega, rfl, by have := HB3.out.2; rw [List.nil_append] at this; rw [if_neg (by omega), if_pos rfl]; exact this, HB3.out.1⟩
          case measure => omega
        | 1, hk2, HR2 =>
          have hl := H1.out.1
          have hl2 := H2.out.1
          go_wp2_with (at_builtin; refine wpList_app rfl _ _ rfl w.heap.size _ xs rfl (by have := HR2.out; rw [if_neg (by omega), if_pos rfl] at this; exact this) a2 m d ys rfl I2.out (by omega) hz2 ?_; intro v' w3 hr3 hg3)
          have hb3 : Below w.heap.size w w3 := HB2.out.grown hg3 hz2 (fun j e => (World.ownsRow.lt (h := HR2.out) j e).1)
          have HB3 := Lib.hid (And.intro hb3 hr3)
          clear hb3 hr3 hg3
          go_roundg 0
          case rel => exact ⟨2, by omega, rfl, by rw [if_neg (by omega), if_neg (by omega)]; exact HB3.out.2, HB3.out.1⟩
          case measure => omega
        | k + 2, hk2, HR2 =>
          have hk0 : k = 0 := by omega
          subst hk0
          have hr := HR2.out
          rw [if_neg (by omega), if_neg (by omega)] at hr
          have HR3 := Lib.hid hr
          clear hr
          go_wp2
          go_ret
          exact ⟨_, rfl, HR3.out, HB2.out⟩
end Go.Proofs.Ytbdabpmpfciibaa
