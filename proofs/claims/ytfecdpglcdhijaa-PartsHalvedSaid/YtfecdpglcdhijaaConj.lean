/- The walks of conjugate, the program's and the reference's: a slice of its own that holds the columns. Condition: the slice lies in memory and holds a partition. -/
import Derived.Test.YtfecdpglcdhijaaCrank
import Derived.Maps.AppendAt
namespace Go.Proofs.Ytfecdpglcdhijaa
open Go.RowKit
attribute [local go_sem] Oper.semAt_some

theorem info3 : (Try.prog.info? 3).map (fun i => (i.zero, i.size, i.bytes)) = some (some (.int .i64 0), 1, 8) := by kernel_rfl

/-- A row of the call's own whose cell j holds f j. -/
structure CoState (g m : Nat) (f : Nat → Int) (w W : World) : Prop where
  b : Below w.heap.size w W
  own : W.ownsRow w.heap.size 3 1 (.slice (some ⟨g, 0, none⟩) m m) m ((List.range m).map fun j => Value.int .i64 (f j))

theorem CoState.cell {g m : Nat} {f : Nat → Int} {w W : World} (h : CoState g m f w W) {j : Nat} (hj : j < m) : W.cell? ⟨g, j, none⟩ = some (.int .i64 (f j)) := by
  rw [h.own.cellAt j (by omega)]
  rw [List.getElem?_map, List.getElem?_range hj]
  rfl
theorem CoState.frozen {g m : Nat} {f : Nat → Int} {w W : World} (h : CoState g m f w W) (j : Nat) : W.frozen? ⟨g, j, none⟩ = false := h.own.frozenAt j
theorem CoState.le {g m : Nat} {f : Nat → Int} {w W : World} (h : CoState g m f w W) : w.heap.size ≤ g := (h.own.lt g rfl).1
theorem map_range_set {α : Type} (m j : Nat) (f : Nat → α) (v : α) : ((List.range m).map f).set j v = (List.range m).map fun i => if i = j then v else f i := by
  apply List.ext_getElem?
  intro i
  rw [List.getElem?_set]
  by_cases hi : i < m
  · rw [List.getElem?_map, List.getElem?_map, List.getElem?_range hi]
    by_cases hij : j = i
    · subst hij
      simp [hi]
    · have : ¬ i = j := fun e => hij e.symm
      simp [hij, this]
  · by_cases hij : j = i
    · subst hij
      simp [hi]
    · simp [hij, hi]
theorem CoState.put {g m : Nat} {f : Nat → Int} {w W : World} (h : CoState g m f w W) (j : Nat) (v : Int) : CoState g m (fun i => if i = j then v else f i) w (W.setCell ⟨g, j, none⟩ (.int .i64 v)) := by
  refine ⟨h.b.setCell (p := ⟨g, j, none⟩) h.le _, ?_⟩
  have := (h.own.stored j (.int .i64 v)).1
  rw [map_range_set] at this
  have e : (fun i => if i = j then Value.int IntKind.i64 v else Value.int IntKind.i64 (f i)) = fun i => Value.int IntKind.i64 (if i = j then v else f i) := by
    funext i
    split <;> rfl
  rw [e] at this
  exact this
theorem CoState.congr {g m : Nat} {f f' : Nat → Int} {w W : World} (h : CoState g m f w W) (e : ∀ j, j < m → f j = f' j) : CoState g m f' w W := by
  refine ⟨h.b, ?_⟩
  have e2 : ((List.range m).map fun j => Value.int .i64 (f j)) = (List.range m).map fun j => Value.int .i64 (f' j) := by
    apply List.map_congr_left
    intro j hj
    rw [e j (List.mem_range.1 hj)]
  rw [← e2]
  exact h.own
theorem CoState.made {g m : Nat} {w W : World} (h : W.ownsRow w.heap.size 3 1 (.slice (some ⟨g, 0, none⟩) m m) m (madeCells (Value.int .i64 0).cells (m * 1)).toList) (hb : Below w.heap.size w W) : CoState g m (fun _ => 0) w W := by
  refine ⟨hb, ?_⟩
  have e : (madeCells (Value.int .i64 0).cells (m * 1)).toList = (List.range m).map fun _ => Value.int .i64 0 := by
    rw [Nat.mul_one, show (Value.int .i64 0).cells = #[Value.int .i64 0] from rfl, toList_madeCells_one]
    apply List.ext_getElem?
    intro i
    by_cases hi : i < m
    · simp [hi]
    · simp [hi]
  rw [e] at h
  exact h
theorem conjL_cells (xs : List Int) (m : Nat) (h : (xs.getD 0 0).toNat = m) : ((List.range m).map fun j : Nat => Value.int .i64 (over (j : Int) xs)) = (conjL xs).map (Value.int .i64) := by
  unfold conjL
  rw [headD_getD, h, List.map_map]
  rfl

set_option maxHeartbeats 1000000 in
theorem conj_any (a : Option Addr) (n c : Nat) (xs : List Int) (w : World) (h : Ints w a n xs) (hP : isP xs = true) (hc : n ≤ c) (hcm : c ≤ maxLen) :
    Calls Try.prog 63 #[.slice a n c] w fun e w' => ∃ ao co, e = .returned (.slice ao (conjL xs).length co) ∧ w'.ownsRow w.heap.size 3 1 (.slice ao (conjL xs).length co) (conjL xs).length ((conjL xs).map (Value.int .i64)) ∧ Below w.heap.size w w' := by
  have hl := h.1
  have hn := isP_len hP
  by_cases h0 : n = 0
  · subst h0
    have hx : xs = [] := List.length_eq_zero_iff.1 hl
    subst hx
    rw [conjL_nil]
    clear h hP hl hn
    go_enter Try.func63, Try.ntmps63
    go_wp2
    go_ret
    exact ⟨none, 0, rfl, World.ownsRow_nil _ _ _ _, Below.refl _ _⟩
  · obtain ⟨b, off, rfl, hb, hcells⟩ := h.at (by omega)
    obtain ⟨i0, hi, hz0, hz1, hz2⟩ := info_parts info3
    have h1 := isP_at hP (j := 0) (by omega)
    obtain ⟨m, hm⟩ : ∃ m : Nat, xs.getD 0 0 = (m : Int) := ⟨(xs.getD 0 0).toNat, by omega⟩
    have hck := hcells 0 (by omega)
    rw [hm] at hck h1
    rw [Nat.add_zero] at hck
    have hhd : ∀ j, j < n → 1 ≤ xs.getD j 0 ∧ xs.getD j 0 ≤ (m : Int) := fun j hj => ⟨(isP_at hP (by omega)).1, by rw [← hm]; exact isP_head hP (by omega)⟩
    have HHD := Lib.hid hhd
    have HM := Lib.hid (show (xs.getD 0 0).toNat = m by omega)
    have HL := Lib.hid hl
    have HI := Lib.hid (And.intro hi (And.intro hz0 (And.intro hz1 hz2)))
    have H := Lib.hid h
    have HC := Lib.hid hcells
    have hn0 : ((n : Int) == 0) = false := by simp; omega
    have hn1 : (0 : Int) < (n : Int) := by omega
    have hn2 : 0 < n := by omega
    have hn3 : n ≤ 30 := by omega
    have hm1 : 1 ≤ m := by omega
    have hm2 : m ≤ 30 := by omega
    clear hl hcells h hP hn hm h0 h1 hhd
    go_enter Try.func63, Try.ntmps63
    go_wp2_with (at_make; refine wpList_make_full _ rfl _ _ 56 rfl w.heap.size 3 i0 (.int .i64 0) 1 Try.underlying56 hi hz0 hz1 _ _ _ _ m rfl rfl (by omega) (by omega) (by rw [hz2]; omega) (by unfold maxLen; omega) (Nat.le_refl _) ?_; intro w1 hown hgrow)
    clear hi hz0 hz1 hz2 hck
    have S0 := Lib.hid (CoState.made hown ((Below.refl w.heap.size w).grown hgrow (Nat.le_refl _) (fun k e => by cases e)))
    clear hown hgrow
    obtain ⟨g, hg⟩ : ∃ g, w.heap.size = g := ⟨_, rfl⟩
    rw [hg] at S0 ⊢
    go_loopg [16] n (fun gk i wr => ∃ (k : Nat), k + gk = n ∧ i = .int .i64 (k : Int) ∧ CoState g m (fun j => over (j : Int) (xs.take k)) w wr)
    case atStart => exact ⟨0, by omega, rfl, S0.out⟩
    case round =>
      obtain ⟨k, hk, rfl, hs⟩ := hrel
      have HS := Lib.hid hs
      clear hs S0
      by_cases hkn : k = n
      · have hge : ¬ (k : Int) < (n : Int) := by omega
        have hge2 : ¬ k < n := by omega
        have hs := HS.out
        rw [List.take_of_length_le (by have := HL.out; omega)] at hs
        have HS2 := Lib.hid hs
        clear hkn HS hs
        go_wp2
        go_ret
        have hlen : (conjL xs).length = m := by rw [conjL_len, headD_getD, HM.out]
        have h1 := HS2.out.own
        have h2 := HS2.out.b
        rw [conjL_cells xs m HM.out] at h1
        rw [hg] at h1 h2
        exact ⟨some ⟨g, 0, none⟩, m, by rw [hlen]; rfl, by rw [hlen]; exact h1, h2⟩
      · have hlt : (k : Int) < (n : Int) := by omega
        have hlt2 : k < n := by omega
        have hck := (HS.out.b.cell (p := ⟨b, off + k, none⟩) hb).trans (HC.out k hlt2)
        obtain ⟨q1, q2⟩ := HHD.out k hlt2
        have hst := fun j => over_take (l := xs) (k := k) (by have := HL.out; omega) j
        obtain ⟨X, hX⟩ : ∃ X : Nat, xs.getD k 0 = (X : Int) := ⟨(xs.getD k 0).toNat, by omega⟩
        rw [hX] at hck q1 q2
        simp only [hX] at hst
        have HST := Lib.hid hst
        have k0 : (0 : Int) ≤ (k : Int) := by omega
        have hXm : X ≤ m := by omega
        clear hst hkn hX q1 q2
        go_wp2
        go_loopg [21] X (fun gk j wr2 => ∃ (q : Nat), q + gk = X ∧ j = .int .i64 (q : Int) ∧ CoState g m (fun c => over (c : Int) (xs.take k) + if c < q then 1 else 0) w wr2)
        case atStart => exact ⟨0, by omega, rfl, HS.out.congr fun j _ => by simp⟩
        case round =>
          obtain ⟨q, hq, rfl, hs⟩ := hrel
          have HS2 := Lib.hid hs
          clear hs HS
          by_cases hqX : q = X
          · have hge : ¬ (q : Int) < (X : Int) := by omega
            have hge2 : ¬ q < X := by omega
            have HQ := Lib.hid hqX
            clear hqX
            go_wp2
            go_roundg (n - k - 1)
            case rel =>
              refine ⟨k + 1, by omega, by go_num, HS2.out.congr fun j _ => ?_⟩
              rw [HST.out, HQ.out]
              by_cases hj : j < X
              · rw [if_pos hj, if_pos (by omega)]
              · rw [if_neg hj, if_neg (by omega)]
            case measure => omega
          · have hlt : (q : Int) < (X : Int) := by omega
            have hlt2 : q < X := by omega
            have hqm : q < m := by omega
            have hqm2 : (q : Int) < (m : Int) := by omega
            have q0 : (0 : Int) ≤ (q : Int) := by omega
            have hcg := HS2.out.cell hqm
            have hfg := HS2.out.frozen q
            rw [if_neg (by omega), Int.add_zero] at hcg
            obtain ⟨o1, o2⟩ := over_nonneg (q : Int) (xs.take k)
            rw [List.length_take] at o2
            have o3 : over (q : Int) (xs.take k) ≤ 30 := by omega
            obtain ⟨V, hV⟩ : ∃ V, over (q : Int) (xs.take k) = V := ⟨_, rfl⟩
            rw [hV] at hcg o1 o3
            have HV := Lib.hid hV
            clear hV o2 hqX
            go_wp2
            go_roundg (gk - 1)
            case rel =>
              refine ⟨q + 1, by omega, by go_num, (HS2.out.put q (V + 1)).congr fun j _ => ?_⟩
              by_cases hj : j = q
              · subst hj
                rw [if_pos rfl, if_pos (by omega), HV.out]
              · rw [if_neg hj]
                by_cases hj2 : j < q
                · rw [if_pos hj2, if_pos (by omega)]
                · rw [if_neg hj2, if_neg (by omega)]
            case measure => omega
set_option maxHeartbeats 1000000 in
theorem refConj_any (a : Option Addr) (n c : Nat) (xs : List Int) (w : World) (h : Ints w a n xs) (hP : isP xs = true) :
    Calls Try.prog 30 #[.slice a n c] w fun e w' => ∃ ao co, e = .returned (.slice ao (conjL xs).length co) ∧ w'.ownsRow w.heap.size 3 1 (.slice ao (conjL xs).length co) (conjL xs).length ((conjL xs).map (Value.int .i64)) ∧ Below w.heap.size w w' := by
  have hl := h.1
  have hn := isP_len hP
  by_cases h0 : n = 0
  · subst h0
    have hx : xs = [] := List.length_eq_zero_iff.1 hl
    subst hx
    rw [conjL_nil]
    clear h hP hl hn
    go_enter Try.func30, Try.ntmps30
    go_wp2
    go_loopg [3, 4] 0 (fun gk v i wr => v = .slice none 0 0 ∧ i = .int .i64 1 ∧ wr = w)
    case atStart => exact ⟨rfl, rfl, rfl⟩
    case round =>
      obtain ⟨rfl, rfl, rfl⟩ := hrel
      go_wp2
      go_ret
      exact ⟨none, 0, rfl, World.ownsRow_nil _ _ _ _, Below.refl _ _⟩
  · obtain ⟨b, off, rfl, hb, hcells⟩ := h.at (by omega)
    obtain ⟨i0, hi, hz0, hz1, hz2⟩ := info_parts info3
    have h1 := isP_at hP (j := 0) (by omega)
    obtain ⟨m, hm⟩ : ∃ m : Nat, xs.getD 0 0 = (m : Int) := ⟨(xs.getD 0 0).toNat, by omega⟩
    have hhd : ∀ j, j < n → 1 ≤ xs.getD j 0 ∧ xs.getD j 0 ≤ (m : Int) := fun j hj => ⟨(isP_at hP (by omega)).1, by rw [← hm]; exact isP_head hP (by omega)⟩
    have HHD := Lib.hid hhd
    have hm0 := hm
    rw [hm] at h1
    have HM0 := Lib.hid hm
    have HM := Lib.hid (show (xs.getD 0 0).toNat = m by omega)
    have HL := Lib.hid hl
    have HI := Lib.hid (And.intro hi (And.intro hz0 (And.intro hz1 hz2)))
    have HC := Lib.hid hcells
    have hn0 : ((n : Int) == 0) = false := by simp; omega
    have hn1 : (0 : Int) < (n : Int) := by omega
    have hn2 : 0 < n := by omega
    have hn3 : n ≤ 30 := by omega
    have hm1 : 1 ≤ m := by omega
    have hm2 : m ≤ 30 := by omega
    clear hl hcells h hP hn hm hm0 h0 h1 hhd hi hz0 hz1 hz2
    go_enter Try.func30, Try.ntmps30
    go_wp2
    go_loopg [3, 4] m (fun gk v i wr => ∃ (k : Nat), k + gk = m ∧ i = .int .i64 ((k : Int) + 1) ∧ wr.ownsRow w.heap.size 3 1 v k ((List.range k).map fun j : Nat => Value.int .i64 (over (j : Int) xs)) ∧ Below w.heap.size w wr)
    case atStart => exact ⟨0, by omega, rfl, World.ownsRow_nil _ _ _ _, Below.refl _ _⟩
    case round =>
      obtain ⟨k, hk, rfl, ho, hbl⟩ := hrel
      have HO := Lib.hid ho
      have HB := Lib.hid hbl
      have hck := (hbl.cell (p := ⟨b, off + 0, none⟩) hb).trans (HC.out 0 hn2)
      rw [HM0.out, Nat.add_zero] at hck
      clear ho hbl
      by_cases hkm : k = m
      · have hge : ¬ (k : Int) + 1 ≤ (m : Int) := by omega
        subst hkm
        have hlen : (conjL xs).length = k := by rw [conjL_len, headD_getD, HM.out]
        have h1 := HO.out
        rw [conjL_cells xs k HM.out] at h1
        rcases Joins.ownsRow_forms h1 with ⟨hv, h2⟩ | ⟨g, cap, hv⟩
        · omega
        · subst hv
          rw [← hlen] at h1
          have H1 := Lib.hid h1
          have HLN := Lib.hid hlen
          clear h1 hlen HO
          go_wp2
          go_ret
          exact ⟨some ⟨g, 0, none⟩, cap, by rw [HLN.out]; rfl, H1.out, HB.out⟩
      · have hle : (k : Int) + 1 ≤ (m : Int) := by omega
        have HKM := Lib.hid hkm
        clear hkm
        go_wp2
        go_loopg [5, 22] n (fun gk o i wr2 => ∃ (q : Nat), q + gk = n ∧ i = .int .i64 (q : Int) ∧ o = .int .i64 (over (k : Int) (xs.take q)) ∧ wr2 = wr)
        case atStart => exact ⟨0, by omega, rfl, rfl, rfl⟩
        case round =>
          obtain ⟨q, hq, rfl, rfl, rfl⟩ := hrel
          obtain ⟨o1, o2⟩ := over_nonneg (k : Int) (xs.take q)
          rw [List.length_take] at o2
          have o3 : over (k : Int) (xs.take q) ≤ 30 := by have := HL.out; omega
          clear o2
          by_cases hqn : q = n
          · have hge : ¬ (q : Int) < (n : Int) := by omega
            have hge2 : ¬ q < n := by omega
            rw [List.take_of_length_le (by have := HL.out; omega)] at o1 o3 ⊢
            obtain ⟨V, hV⟩ : ∃ V, over (k : Int) xs = V := ⟨_, rfl⟩
            rw [hV] at o1 o3 ⊢
            have HV := Lib.hid hV
            obtain ⟨hi, hz0, hz1, hz2⟩ := HI.out
            have ho := HO.out
            have hsz := HB.out.size
            have hkk : k ≤ 30 := by omega
            clear hV hqn hck
            go_wp2_with (at_builtin; refine wpList_append_own _ rfl _ _ 33 rfl w.heap.size 3 i0 (.int .i64 0) 1 8 Try.underlying33 hi hz0 hz1 hz2 rfl (by decide) _ _ _ rfl (ho.alloc _) ⟨wr.heap.size, 0, none⟩ 1 1 [.int .i64 V] rfl rfl (cell_one_new _ _ _) (by simp [Value.oneCell']) (by unfold maxLen; omega) (by omega) (by simp; omega) ?_; intro v' w3 hown' hgrow _)
            have hb3 : Below w.heap.size w w3 := (HB.out.alloc hsz _).grown hgrow (by simp; omega) (fun j e => (ho.lt j e).1)
            have HB3 := Lib.hid hb3
            have hown2 : w3.ownsRow w.heap.size 3 1 v' (k + 1) ((List.range (k + 1)).map fun j : Nat => Value.int .i64 (over (j : Int) xs)) := by
              rw [List.range_succ, List.map_append]
              simp only [List.map_cons, List.map_nil, HV.out]
              exact hown'
            go_roundg (m - k - 1)
            case rel => exact ⟨k + 1, by have := HKM.out; omega, by go_num, hown2, HB3.out⟩
            case measure => have := HKM.out; omega
          · have hlt : (q : Int) < (n : Int) := by omega
            have hlt2 : q < n := by omega
            have hcq := (HB.out.cell (p := ⟨b, off + q, none⟩) hb).trans (HC.out q hlt2)
            have hst := over_take (l := xs) (k := q) (by have := HL.out; omega) (k : Int)
            obtain ⟨x, hx⟩ : ∃ x, xs.getD q 0 = x := ⟨_, rfl⟩
            rw [hx] at hcq hst
            obtain ⟨V, hV⟩ : ∃ V, over (k : Int) (xs.take q) = V := ⟨_, rfl⟩
            rw [hV] at o1 o3 hst ⊢
            have q0 : (0 : Int) ≤ (q : Int) := by omega
            clear hV hqn hx
            by_cases hxo : (k : Int) < x
            · have hxo2 : (k : Int) + 1 ≤ x := by omega
              rw [if_pos hxo] at hst
              have HST := Lib.hid hst
              clear hst
              go_wp2
              go_roundg (gk - 1)
              case rel => exact ⟨q + 1, by omega, by go_num, by rw [HST.out], rfl⟩
              case measure => omega
            · have hxo2 : ¬ (k : Int) + 1 ≤ x := by omega
              rw [if_neg hxo] at hst
              have HST := Lib.hid hst
              clear hst
              go_wp2
              go_roundg (gk - 1)
              case rel => exact ⟨q + 1, by omega, by go_num, by rw [HST.out, Int.add_zero], rfl⟩
              case measure => omega
end Go.Proofs.Ytfecdpglcdhijaa
