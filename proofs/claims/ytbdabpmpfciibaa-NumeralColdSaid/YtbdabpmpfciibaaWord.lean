/- The walks of numeral.last, letter and Word, and of the reference's Word. Condition: the number is from 0 to 2000. -/
import Derived.Test.YtbdabpmpfciibaaColdMath
import Derived.Laws.BytesArg
import Derived.Laws.Concat
namespace Go.Proofs.Ytbdabpmpfciibaa
open Go.RowKit
attribute [local go_sem] Oper.semAt_some

set_option maxHeartbeats 2000000 in
theorem last_any (n : Int) (w : World) (h1 : 1 ≤ n) (h2 : n ≤ 1000000000000) :
    Calls Try.prog 96 #[.int .i64 n] w fun e w' => e = .returned (.int .i64 (lastF (enc n))) ∧ Below w.heap.size w w' := by
  have hnum := isNum_mk (n := n) (by omega) h2
  have HE := Lib.hid (encode_any n (by omega) (by omega) w)
  have hlg := lastF_getD (enc n)
  have hne := enc_ne hnum h1
  have hlen := enc_len hnum
  obtain ⟨L, hL⟩ : ∃ L, enc n = L := ⟨_, rfl⟩
  rw [hL] at HE hlg hne hlen ⊢
  obtain ⟨j, hj⟩ : ∃ j, L.length = j + 1 := ⟨L.length - 1, by
    have : L.length ≠ 0 := fun h => hne (List.length_eq_zero_iff.1 h)
    omega⟩
  rw [hj, Nat.add_sub_cancel] at hlg
  rw [hj] at HE
  obtain ⟨y, hy⟩ : ∃ y, lastF L = y := ⟨_, rfl⟩
  rw [hy] at hlg ⊢
  have HY := Lib.hid hlg
  have HJ := Lib.hid hj
  have hj30 : j ≤ 30 := by omega
  clear hnum hne hlen hL hj hlg hy
  go_enter Try.func96, Try.ntmps96
  go_wp2_with fail
  refine HE.out.mono ?_
  rintro e w1 ⟨a, c, rfl, hr, hb⟩
  obtain ⟨a2, c2, hv, hi, -, -⟩ := hr.form
  rw [HJ.out] at hv hi
  cases hv
  obtain ⟨b, off, rfl, hb2, hc⟩ := hi.at (by omega)
  have hcj := hc j (by omega)
  rw [← HY.out] at hcj
  have HB := Lib.hid hb
  obtain ⟨p, hp⟩ : ∃ p, j + 1 = p := ⟨_, rfl⟩
  rw [hp]
  have hidx : (p : Int) - 1 = (j : Int) := by omega
  have g0 : (0 : Int) ≤ (j : Int) := by omega
  have g1 : (j : Int) < (p : Int) := by omega
  have g2 : j < p := by omega
  clear hr hi hc hb hp
  go_wp2
  go_ret
  exact ⟨rfl, HB.out⟩

/-- The letter at an index. -/
def lettB (i : Nat) : Bool := decide (1 ≤ i) && decide (lastF (enc i) = 2)
def lett (i : Nat) : Int := if lettB i = true then 49 else 48
set_option maxHeartbeats 2000000 in
theorem letter_any (i : Nat) (w : World) (hi : i ≤ 2000) :
    Calls Try.prog 73 #[.int .i64 (i : Int)] w fun e w' => e = .returned (.int .u8 (lett i)) ∧ Below w.heap.size w w' := by
  by_cases h0 : 1 ≤ i
  · have hpos : (0 : Int) < (i : Int) := by omega
    have HL := Lib.hid (last_any (i : Int) w (by omega) (by omega))
    by_cases h2 : lastF (enc i) = 2
    · have hl : lett i = 49 := by unfold lett lettB; rw [if_pos (by simp [h0, h2])]
      rw [hl]
      rw [h2] at HL
      clear h2 hl
      go_enter Try.func73, Try.ntmps73
      go_wp2_with fail
      refine HL.out.mono ?_
      rintro e w1 ⟨rfl, hb⟩
      have HB := Lib.hid hb
      clear hb
      go_wp2
      go_ret
      exact ⟨rfl, HB.out⟩
    · have hl : lett i = 48 := by unfold lett lettB; rw [if_neg (by simp [h2])]
      rw [hl]
      obtain ⟨y, hy⟩ : ∃ y, lastF (enc i) = y := ⟨_, rfl⟩
      rw [hy] at HL h2
      have hyb : (y == 2) = false := by simp [h2]
      clear hy hl
      go_enter Try.func73, Try.ntmps73
      go_wp2_with fail
      refine HL.out.mono ?_
      rintro e w1 ⟨rfl, hb⟩
      have HB := Lib.hid hb
      clear hb
      go_wp2
      go_ret
      exact ⟨rfl, HB.out⟩
  · have hl : lett i = 48 := by unfold lett lettB; rw [if_neg (by simp; omega)]
    rw [hl]
    have hpos : ¬ (0 : Int) < (i : Int) := by omega
    clear hl h0
    go_enter Try.func73, Try.ntmps73
    go_wp2
    go_ret
    exact ⟨rfl, Below.refl _ _⟩

theorem info5 : (Try.prog.info? 5).map (fun i => (i.zero, i.size, i.bytes)) = some (some (.int .u8 0), 1, 1) := by kernel_rfl
/-- A row of bytes of the call's own whose cell j holds f j. -/
structure BoState (g m : Nat) (f : Nat → Int) (w W : World) : Prop where
  b : Below w.heap.size w W
  own : W.ownsRow w.heap.size 5 1 (.slice (some ⟨g, 0, none⟩) m m) m ((List.range m).map fun j => Value.int .u8 (f j))
theorem BoState.cell {g m : Nat} {f : Nat → Int} {w W : World} (h : BoState g m f w W) {j : Nat} (hj : j < m) : W.cell? ⟨g, j, none⟩ = some (.int .u8 (f j)) := by
  rw [h.own.cellAt j (by omega)]
  rw [List.getElem?_map, List.getElem?_range hj]
  rfl
theorem BoState.frozen {g m : Nat} {f : Nat → Int} {w W : World} (h : BoState g m f w W) (j : Nat) : W.frozen? ⟨g, j, none⟩ = false := h.own.frozenAt j
theorem BoState.le {g m : Nat} {f : Nat → Int} {w W : World} (h : BoState g m f w W) : w.heap.size ≤ g := (h.own.lt g rfl).1
theorem BoState.lt {g m : Nat} {f : Nat → Int} {w W : World} (h : BoState g m f w W) : g < W.heap.size := (h.own.lt g rfl).2
theorem BoState.later {g m : Nat} {f : Nat → Int} {w W W' : World} (h : BoState g m f w W) (hb : Below W.heap.size W W') : BoState g m f w W' := ⟨h.b.trans (hb.mono h.b.size), own_later h.own hb⟩
theorem BoState.put {g m : Nat} {f : Nat → Int} {w W : World} (h : BoState g m f w W) (j : Nat) (v : Int) : BoState g m (fun i => if i = j then v else f i) w (W.setCell ⟨g, j, none⟩ (.int .u8 v)) := by
  refine ⟨h.b.setCell (p := ⟨g, j, none⟩) h.le _, ?_⟩
  have := (h.own.stored j (.int .u8 v)).1
  rw [map_range_set] at this
  have e : (fun i => if i = j then Value.int IntKind.u8 v else Value.int IntKind.u8 (f i)) = fun i => Value.int IntKind.u8 (if i = j then v else f i) := by
    funext i
    split <;> rfl
  rw [e] at this
  exact this
theorem BoState.congr {g m : Nat} {f f' : Nat → Int} {w W : World} (h : BoState g m f w W) (e : ∀ j, j < m → f j = f' j) : BoState g m f' w W := by
  refine ⟨h.b, ?_⟩
  have e2 : ((List.range m).map fun j => Value.int .u8 (f j)) = (List.range m).map fun j => Value.int .u8 (f' j) := by
    apply List.map_congr_left
    intro j hj
    rw [e j (List.mem_range.1 hj)]
  rw [← e2]
  exact h.own
theorem BoState.made {g m : Nat} {w W : World} (h : W.ownsRow w.heap.size 5 1 (.slice (some ⟨g, 0, none⟩) m m) m (madeCells (Value.int .u8 0).cells (m * 1)).toList) (hb : Below w.heap.size w W) : BoState g m (fun _ => 0) w W := by
  refine ⟨hb, ?_⟩
  have e : (madeCells (Value.int .u8 0).cells (m * 1)).toList = (List.range m).map fun _ => Value.int .u8 0 := by
    rw [Nat.mul_one, show (Value.int .u8 0).cells = #[Value.int .u8 0] from rfl, toList_madeCells_one]
    apply List.ext_getElem?
    intro i
    by_cases hi : i < m
    · simp [hi]
    · simp [hi]
  rw [e] at h
  exact h
def lettL (n : Nat) : List Int := (List.range n).map lett
theorem lettL_succ (n : Nat) : lettL (n + 1) = lettL n ++ [lett n] := by simp [lettL, List.range_succ]
theorem lettL_len (n : Nat) : (lettL n).length = n := by simp [lettL]
theorem lettL_at {n j : Nat} (h : j < n) : (lettL n).getD j 0 = lett j := by
  unfold lettL
  rw [List.getD_eq_getElem?_getD, List.getElem?_map, List.getElem?_range h]
  rfl
/-- The golden word. -/
def wordS (n : Nat) : ByteArray := strOfNums (lettL n)
theorem wordS_size (n : Nat) : (wordS n).size = n := by unfold wordS; rw [strOfNums_size, lettL_len]

set_option maxHeartbeats 4000000 in
set_option maxRecDepth 100000 in
theorem Word_yes (n : Nat) (w : World) (hn : n ≤ 2000) :
    Calls Try.prog 36 #[.int .i64 (n : Int)] w fun e w' => e = .returned (.tuple #[.string (wordS n), .int .i64 0]) ∧ Below w.heap.size w w' := by
  obtain ⟨i0, hi, hz0, hz1, hz2⟩ := info_parts info5
  have g0 : ¬ (n : Int) < 0 := by omega
  have g1 : ¬ (2000 : Int) < (n : Int) := by omega
  have n0 : (0 : Int) ≤ (n : Int) := by omega
  obtain ⟨S, hS⟩ : ∃ S, wordS n = S := ⟨_, rfl⟩
  rw [hS]
  have HSS := Lib.hid hS
  clear hS
  go_enter Try.func36, Try.ntmps36
  go_wp2_with (at_make; refine wpList_make_full _ rfl _ _ 70 rfl w.heap.size 5 i0 (.int .u8 0) 1 Try.underlying70 hi hz0 hz1 _ _ _ _ n rfl rfl (by omega) (by omega) (by rw [hz2]; omega) (by unfold maxLen; omega) (Nat.le_refl _) ?_; intro w1 hown hgrow)
  clear hi hz0 hz1 hz2
  have S0 := Lib.hid (BoState.made hown ((Below.refl w.heap.size w).grown hgrow (Nat.le_refl _) (fun k e => by cases e)))
  clear hown hgrow
  obtain ⟨g, hg⟩ : ∃ g, w.heap.size = g := ⟨_, rfl⟩
  rw [hg] at S0 ⊢
  have HG := Lib.hid hg
  clear hg
  go_loopg [5, 16] n (fun gk u5 i wr => ∃ (k : Nat), k + gk = n ∧ i = .int .i64 (k : Int) ∧ BoState g n (fun j => if j < k then lett j else 0) w wr)
  case atStart => exact ⟨0, by omega, rfl, S0.out.congr fun j _ => by rw [if_neg (by omega)]⟩
  case round =>
    obtain ⟨k, hk, rfl, hs⟩ := hrel
    have HS := Lib.hid hs
    clear hs S0
    by_cases hkn : k = n
    · have hge : ¬ (k : Int) < (n : Int) := by omega
      have hge2 : ¬ k < n := by omega
      have hconv := run_convert_bytes_arg (P := Try.prog) wr 70 5 Try.underlying70 Try.underlying5 g 0 n n (lettL n) (lettL_len n) (fun i hi => by
        rw [Nat.zero_add, HS.out.cell hi, if_pos (by omega), lettL_at hi]) 9 Try.underlying9
      rw [show strOfNums (lettL n) = S from HSS.out] at hconv
      clear hkn hk
      go_wp2
      go_ret2
      exact ⟨rfl, HS.out.b⟩
    · have hlt : (k : Int) < (n : Int) := by omega
      have hlt2 : k < n := by omega
      have k0 : (0 : Int) ≤ (k : Int) := by omega
      have HLT := Lib.hid (fun w => letter_any k w (by omega))
      obtain ⟨l, hl⟩ : ∃ l, lett k = l := ⟨_, rfl⟩
      rw [hl] at HLT
      have HLL := Lib.hid hl
      have HK := Lib.hid hk
      clear hl hk hkn
      go_wp2_with (go_at_call 73; refine (HLT.out _).mono ?_; rintro e w2 ⟨rfl, hb⟩; have HS2 := Lib.hid (HS.out.later hb); have hcg := HS2.out.cell (j := k) hlt2; have hfg := HS2.out.frozen k; obtain ⟨u, hu⟩ : (∃ u : Int, (if k < k then lett k else 0) = u) := ⟨_, rfl⟩; rw [hu] at hcg; clear hb hu)
      have HS3 := Lib.hid (show BoState g n (fun j => if j < k + 1 then lett j else 0) w (w2.setCell ⟨g, k, none⟩ (.int .u8 l)) from
        (HS2.out.put k l).congr fun j _ => by
          by_cases hj : j = k
          · subst hj
            rw [if_pos rfl, if_pos (by omega), HLL.out]
          · rw [if_neg hj]
            by_cases hj2 : j < k
            · rw [if_pos hj2, if_pos (by omega)]
            · rw [if_neg hj2, if_neg (by omega)])
      go_roundg (n - k - 1)
      case rel => exact ⟨k + 1, by have := HK.out; omega, by go_num, HS3.out⟩
      case measure => have := HK.out; omega
end Go.Proofs.Ytbdabpmpfciibaa
