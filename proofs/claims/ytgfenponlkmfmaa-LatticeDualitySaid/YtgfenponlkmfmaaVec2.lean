/- The walks of origin and plus. Condition: the slices lie in memory. -/
import Derived.Test.YtgfenponlkmfmaaValid
namespace Go.Proofs.Ytgfenponlkmfmaa
open Go.RowKit
attribute [local go_sem] Oper.semAt_some

theorem CoState.row {g m : Nat} {f : Nat → Int} {w W : World} (h : CoState g m f w W) : Row w.heap.size (.slice (some ⟨g, 0, none⟩) m m) ((List.range m).map f) W := by
  have ho := h.own
  rw [show ((List.range m).map fun j => Value.int .i64 (f j)) = ((List.range m).map f).map (Value.int .i64) by rw [List.map_map]; rfl] at ho
  exact (Row.of ho).1
def zs (n : Nat) : List Int := (List.range n).map fun _ => 0
theorem zs_len (n : Nat) : (zs n).length = n := by simp [zs]
theorem zs_at (n j : Nat) : (zs n).getD j 0 = 0 := by
  unfold zs
  rw [List.getD_eq_getElem?_getD, List.getElem?_map]
  cases (List.range n)[j]? <;> rfl

set_option maxHeartbeats 1000000 in
set_option maxRecDepth 100000 in
theorem origin_any (n : Nat) (w : World) (hn : n ≤ 1000) :
    Calls Try.prog 79 #[.int .i64 (n : Int)] w fun e w' => ∃ g, e = .returned (.slice (some ⟨g, 0, none⟩) n n) ∧ CoState g n (fun _ => 0) w w' ∧ Below w.heap.size w w' := by
  obtain ⟨i0, hi, hz0, hz1, hz2⟩ := info_parts info3
  have n0 : (0 : Int) ≤ (n : Int) := by omega
  go_enter Try.func79, Try.ntmps79
  go_wp2_with (at_make; refine wpList_make_full _ rfl _ _ 35 rfl w.heap.size 3 i0 (.int .i64 0) 1 Try.underlying35 hi hz0 hz1 _ _ _ _ n rfl rfl (by omega) (by omega) (by rw [hz2]; omega) (by unfold maxLen; omega) (Nat.le_refl _) ?_; intro w1 hown hgrow)
  have hb := (Below.refl w.heap.size w).grown hgrow (Nat.le_refl _) (fun k e => by cases e)
  have S0 := CoState.made hown hb
  go_ret
  exact ⟨_, rfl, S0, hb⟩

def plusL (n : Nat) (x : Nat → Int) (k : Int) (y : Nat → Int) : List Int := (List.range n).map fun j => wrap64 (x j + wrap64 (k * y j))
theorem plusL_len (n : Nat) (x : Nat → Int) (k : Int) (y : Nat → Int) : (plusL n x k y).length = n := by simp [plusL]
theorem plusL_at {n : Nat} {x : Nat → Int} {k : Int} {y : Nat → Int} {j : Nat} (hj : j < n) : (plusL n x k y).getD j 0 = wrap64 (x j + wrap64 (k * y j)) := by
  unfold plusL
  rw [List.getD_eq_getElem?_getD, List.getElem?_map, List.getElem?_range hj]
  rfl

set_option maxHeartbeats 4000000 in
set_option maxRecDepth 100000 in
theorem plus_any (a a' : Option Addr) (n c m c' : Nat) (xs ys : List Int) (k : Int) (w : World) (h : Ints w a n xs) (h' : Ints w a' m ys) (hm : n ≤ m) (hn : n ≤ 1000) :
    Calls Try.prog 121 #[.slice a n c, .int .i64 k, .slice a' m c'] w fun e w' => ∃ g, e = .returned (.slice (some ⟨g, 0, none⟩) n n) ∧ Row w.heap.size (.slice (some ⟨g, 0, none⟩) n n) (plusL n (nt xs) k (nt ys)) w' ∧ Below w.heap.size w w' := by
  obtain ⟨i0, hi, hz0, hz1, hz2⟩ := info_parts info3
  have H := Lib.hid h
  have H' := Lib.hid h'
  clear h h'
  have n0 : (0 : Int) ≤ (n : Int) := by omega
  go_enter Try.func121, Try.ntmps121
  go_wp2_with (at_make; refine wpList_make_full _ rfl _ _ 35 rfl w.heap.size 3 i0 (.int .i64 0) 1 Try.underlying35 hi hz0 hz1 _ _ _ _ n rfl rfl (by omega) (by omega) (by rw [hz2]; omega) (by unfold maxLen; omega) (Nat.le_refl _) ?_; intro w1 hown hgrow)
  clear hi hz0 hz1 hz2
  have S0 := Lib.hid (CoState.made hown ((Below.refl w.heap.size w).grown hgrow (Nat.le_refl _) (fun k e => by cases e)))
  clear hown hgrow
  obtain ⟨g, hg⟩ : ∃ g, w.heap.size = g := ⟨_, rfl⟩
  rw [hg] at S0 ⊢
  have HG := Lib.hid hg
  clear hg
  go_loopg [15] n (fun gk i wr => ∃ (j : Nat), j + gk = n ∧ i = .int .i64 (j : Int) ∧ CoState g n (fun q => if q < j then wrap64 (nt xs q + wrap64 (k * nt ys q)) else 0) w wr)
  case atStart => exact ⟨0, by omega, rfl, S0.out.congr fun j _ => by rw [if_neg (by omega)]⟩
  case round =>
    obtain ⟨j, hj, rfl, hs⟩ := hrel
    have HS := Lib.hid hs
    clear hs S0
    by_cases hjn : j = n
    · have hge : ¬ (j : Int) < (n : Int) := by omega
      have hr := (HS.out.congr (f' := fun q => wrap64 (nt xs q + wrap64 (k * nt ys q))) fun q hq => by rw [if_pos (by omega)]).row
      have HR := Lib.hid hr
      clear hjn hr
      go_wp2
      go_ret
      exact ⟨_, rfl, by first | exact HR.out | (have := HR.out; rw [← HG.out] at this; exact this), HS.out.b⟩
    · have hlt : (j : Int) < (n : Int) := by omega
      have hlt2 : j < n := by omega
      have hlt3 : (j : Int) < (m : Int) := by omega
      obtain ⟨b, off, rfl, hb, hc⟩ := H.out.at (by omega)
      obtain ⟨b', off', rfl, hb', hc'⟩ := H'.out.at (by omega)
      have hck := (HS.out.b.cell (p := ⟨b, off + j, none⟩) hb).trans (hc j (by omega))
      have hck' := (HS.out.b.cell (p := ⟨b', off' + j, none⟩) hb').trans (hc' j (by omega))
      obtain ⟨x, hx⟩ : ∃ x, xs.getD j 0 = x := ⟨_, rfl⟩
      obtain ⟨y, hy⟩ : ∃ y, ys.getD j 0 = y := ⟨_, rfl⟩
      rw [hx] at hck
      rw [hy] at hck'
      have HX := Lib.hid hx
      have HY := Lib.hid hy
      have hcg := HS.out.cell (j := j) hlt2
      have hfg := HS.out.frozen j
      obtain ⟨u, hu⟩ : ∃ u : Int, (if j < j then wrap64 (nt xs j + wrap64 (k * nt ys j)) else 0) = u := ⟨_, rfl⟩
      rw [hu] at hcg
      have HK := Lib.hid hj
      have k0 : (0 : Int) ≤ (j : Int) := by omega
      clear hc hc' hx hy hu hjn hj
      go_wp2
      have HS2 := Lib.hid (show CoState g n (fun q => if q < j + 1 then wrap64 (nt xs q + wrap64 (k * nt ys q)) else 0) w (wr.setCell ⟨g, j, none⟩ (.int .i64 (wrap64 (x + wrap64 (k * y))))) from
        (HS.out.put j (wrap64 (x + wrap64 (k * y)))).congr fun q _ => by
          by_cases hq : q = j
          · subst hq
            rw [if_pos rfl, if_pos (by omega), ← HX.out, ← HY.out]
            rfl
          · rw [if_neg hq]
            by_cases hj2 : q < j
            · rw [if_pos hj2, if_pos (by omega)]
            · rw [if_neg hj2, if_neg (by omega)])
      go_roundg (gk - 1)
      case rel => exact ⟨j + 1, by have := HK.out; omega, by go_num, HS2.out⟩
      case measure => have := HK.out; omega
end Go.Proofs.Ytgfenponlkmfmaa
