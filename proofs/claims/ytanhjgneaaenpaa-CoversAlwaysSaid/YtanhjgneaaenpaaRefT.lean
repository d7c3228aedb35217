/- The walk of the reference's times. Condition: the slice is a system that lies in memory. -/
import Derived.Test.YtanhjgneaaenpaaEqI
namespace Go.Proofs.Ytanhjgneaaenpaa
open Go.RowKit
attribute [local go_sem] Oper.semAt_some

/-- A row of m whole numbers of the call's own whose cell j holds f j. -/
def TRow (B g m : Nat) (f : Nat → Int) (W : World) : Prop := W.ownsRow B 3 1 (.slice (some ⟨g, 0, none⟩) m m) m ((List.range m).map fun j => Value.int .i64 (f j))
theorem TRow.cell {B g m : Nat} {f : Nat → Int} {W : World} (h : TRow B g m f W) {j : Nat} (hj : j < m) : W.cell? ⟨g, j, none⟩ = some (.int .i64 (f j)) := by
  rw [World.ownsRow.cellAt h j (by omega)]
  rw [List.getElem?_map, List.getElem?_range hj]
  rfl
theorem TRow.frozen {B g m : Nat} {f : Nat → Int} {W : World} (h : TRow B g m f W) (j : Nat) : W.frozen? ⟨g, j, none⟩ = false := World.ownsRow.frozenAt h j
theorem TRow.le {B g m : Nat} {f : Nat → Int} {W : World} (h : TRow B g m f W) : B ≤ g := (World.ownsRow.lt h g rfl).1
theorem map_range_set {α : Type} (m j : Nat) (f : Nat → α) (v : α) : ((List.range m).map f).set j v = (List.range m).map fun i => if i = j then v else f i := by
  apply List.ext_getElem?
  intro i
  rw [List.getElem?_set]
  by_cases hi : i < m
  · rw [List.getElem?_map, List.getElem?_map, List.getElem?_range hi]
    by_cases hij : j = i
    · subst hij; simp [hi]
    · have : ¬ i = j := fun e => hij e.symm
      simp [hij, this]
  · by_cases hij : j = i
    · subst hij; simp [hi]
    · simp [hij, hi]
theorem TRow.put {B g m : Nat} {f : Nat → Int} {W : World} (h : TRow B g m f W) (j : Nat) (v : Int) : TRow B g m (fun i => if i = j then v else f i) (W.setCell ⟨g, j, none⟩ (.int .i64 v)) := by
  have := (World.ownsRow.stored h j (.int .i64 v)).1
  rw [map_range_set] at this
  have e : (fun i => if i = j then Value.int IntKind.i64 v else Value.int IntKind.i64 (f i)) = fun i => Value.int IntKind.i64 (if i = j then v else f i) := by
    funext i
    split <;> rfl
  rw [e] at this
  exact this
theorem TRow.congr {B g m : Nat} {f f' : Nat → Int} {W : World} (h : TRow B g m f W) (e : ∀ j, j < m → f j = f' j) : TRow B g m f' W := by
  have e2 : ((List.range m).map fun j => Value.int .i64 (f j)) = (List.range m).map fun j => Value.int .i64 (f' j) := by
    apply List.map_congr_left
    intro j hj
    rw [e j (List.mem_range.1 hj)]
  unfold TRow
  rw [← e2]
  exact h
theorem TRow.made {B g m : Nat} {W : World} (h : W.ownsRow B 3 1 (.slice (some ⟨g, 0, none⟩) m m) m (madeCells (Value.int .i64 0).cells (m * 1)).toList) : TRow B g m (fun _ => 0) W := by
  have e : (madeCells (Value.int .i64 0).cells (m * 1)).toList = (List.range m).map fun _ => Value.int .i64 0 := by
    rw [Nat.mul_one, show (Value.int .i64 0).cells = #[Value.int .i64 0] from rfl, toList_madeCells_one]
    apply List.ext_getElem?
    intro i
    by_cases hi : i < m
    · simp [hi]
    · simp [hi]
  rw [e] at h
  exact h
theorem TRow.later {B g m : Nat} {f : Nat → Int} {W W' : World} (h : TRow B g m f W) (hb : Below W.heap.size W W') : TRow B g m f W' := own_later h hb
theorem TRow.drew {B g m : Nat} {f : Nat → Int} {W : World} (h : TRow B g m f W) (q : Nat) : TRow B g m f (W.drewN q) := own_same h fun _ _ _ => rfl
theorem TRow.lt {B g m : Nat} {f : Nat → Int} {W : World} (h : TRow B g m f W) : g < W.heap.size := (World.ownsRow.lt h g rfl).2

/-- What the table holds while the number d is counted, by the first j pairs. -/
def tf (xs : List (Int × Int)) (d j i : Nat) : Int := if i < d then ((tm i xs : Nat) : Int) else if i = d then ((tm i (xs.take j) : Nat) : Int) else 0
theorem tf_zero (xs : List (Int × Int)) (i : Nat) : tf xs 0 0 i = 0 := by unfold tf; rw [if_neg (by omega)]; split <;> simp [tm]
theorem tf_next {xs : List (Int × Int)} {d j : Nat} (h : xs.length = j) (i : Nat) : tf xs d j i = tf xs (d + 1) 0 i := by
  unfold tf
  rw [List.take_of_length_le (by omega)]
  by_cases h1 : i < d
  · rw [if_pos h1, if_pos (by omega)]
  · rw [if_neg h1]
    by_cases h2 : i = d
    · subst h2; rw [if_pos rfl, if_pos (by omega)]
    · rw [if_neg h2, if_neg (by omega)]; split <;> simp [tm]
theorem tf_at (xs : List (Int × Int)) (d j : Nat) : tf xs d j d = ((tm d (xs.take j) : Nat) : Int) := by unfold tf; rw [if_neg (by omega), if_pos rfl]
theorem cv_tmod {d : Nat} {x y : Int} (hx : 0 ≤ x) (hy : x < y) (t : Bool) (h : cvB (d : Int) (x, y) = t) : ((d : Int).tmod y == x) = t ∧ ((d : Int) % y == x) = t := by
  have e : (d : Int).tmod y = (d : Int) % y := Int.tmod_eq_emod_of_nonneg (by omega)
  rw [e]
  have : ((d : Int) % y == x) = t := by
    rw [← h, cv_mod hx hy]
    obtain ⟨Y, rfl⟩ := Int.eq_ofNat_of_zero_le (show 0 ≤ y by omega)
    obtain ⟨X, rfl⟩ := Int.eq_ofNat_of_zero_le hx
    rw [← Int.natCast_emod, Bool.eq_iff_iff]
    simp only [beq_iff_eq, decide_eq_true_eq, Int.toNat_natCast]
    omega
  exact ⟨this, this⟩

set_option maxRecDepth 100000 in
set_option maxHeartbeats 8000000 in
theorem refTimes_any (a : Option Addr) (n c : Nat) (xs : List (Int × Int)) (w : World) (h : Prs w a n xs) (hs : Sys xs) :
    Calls Try.prog 55 #[.slice a n c] w fun e w' => ∃ g, e = .returned (.slice (some ⟨g, 0, none⟩) (wl xs) (wl xs)) ∧ TRow w.heap.size g (wl xs) (fun i => ((tm i xs : Nat) : Int)) w' ∧ Below w.heap.size w w' := by
  have H := Lib.hid h
  have HL := Lib.hid h.1
  have HY := Lib.hid hs
  have hn : n ≤ 10 := by have := hs.len2; have := h.1; omega
  have HW := Lib.hid (wholeR_any a n c xs w h (by omega))
  have hwf : wholeF xs = wl xs := wholeF_good (fun j hj => ⟨(hs.nth hj).1, (hs.nth hj).2.1⟩) hs.wl2
  rw [hwf] at HW
  have hW1 := hs.wl1
  have hW2 := hs.wl2
  obtain ⟨W, hWl⟩ : ∃ W, wl xs = W := ⟨_, rfl⟩
  rw [hWl] at HW hW1 hW2 ⊢
  obtain ⟨i0, hi, hz0, hz1, hz2⟩ := info_parts info3
  clear h hs hwf hWl
  go_enter Try.func55, Try.ntmps55
  go_wp2_with fail
  refine HW.out.mono ?_
  rintro e w1 ⟨rfl, hb⟩
  have HB1 := Lib.hid hb
  clear hb HW
  have hwsz := HB1.out.size
  go_wp2_with (at_make; refine wpList_make_full _ rfl _ _ 31 rfl w.heap.size 3 i0 (.int .i64 0) 1 Try.underlying31 hi hz0 hz1 _ _ _ _ W rfl rfl (by omega) (by omega) (by rw [hz2]; omega) (by unfold maxLen; omega) hwsz ?_; intro w2 hown hgrow)
  have HB2 := Lib.hid (HB1.out.grown hgrow hwsz (fun k e => by cases e))
  have HT := Lib.hid (TRow.made hown)
  obtain ⟨g, hg⟩ : ∃ g, w1.heap.size = g := ⟨_, rfl⟩
  rw [hg] at HT ⊢
  clear hown hgrow hg hwsz hi hz0 hz1 hz2
  go_loopg [4, 6, 12, 17] W (fun gk s4 s6 s12 s17 wr => ∃ (d : Nat), d + gk = W ∧ s12 = .int .i64 (d : Int) ∧ TRow w.heap.size g W (tf xs d 0) wr ∧ Below w.heap.size w wr)
  case atStart => exact ⟨0, by omega, rfl, HT.out.congr fun j _ => (tf_zero xs j).symm, HB2.out⟩
  case round =>
    obtain ⟨d, hd, rfl, ht, hb⟩ := hrel
    have HTR := Lib.hid ht
    have HB := Lib.hid hb
    have HD := Lib.hid hd
    clear ht hb
    by_cases hdW : d = W
    · have hge : ¬ (d : Int) < (W : Int) := by omega
      have hge2 : ¬ d < W := by omega
      have HF := Lib.hid (HTR.out.congr (f' := fun i => ((tm i xs : Nat) : Int)) fun j hj => by unfold tf; rw [if_pos (by omega)])
      clear hdW hd
      go_wp2
      go_ret
      exact ⟨g, rfl, HF.out, HB.out⟩
    · have hlt : (d : Int) < (W : Int) := by omega
      have hlt2 : d < W := by omega
      have d0 : (0 : Int) ≤ (d : Int) := by omega
      clear hdW hd
      obtain ⟨Wd, hWd⟩ : ∃ Wd, wr = Wd := ⟨_, rfl⟩
      rw [hWd] at HTR HB ⊢
      clear hWd
      go_wp2
      go_loopg [6, 17] n (fun gk s6 s17 wr => ∃ (j : Nat), j + gk = n ∧ s17 = .int .i64 (j : Int) ∧ TRow w.heap.size g W (tf xs d j) wr ∧ Below w.heap.size w wr)
      case atStart => exact ⟨0, by omega, rfl, HTR.out, HB.out⟩
      case round =>
        obtain ⟨j, hj, rfl, ht, hb⟩ := hrel
        have HT2 := Lib.hid ht
        have HBI := Lib.hid hb
        have HJ := Lib.hid hj
        clear ht hb
        by_cases hjn : j = n
        · have hge : ¬ (j : Int) < (n : Int) := by omega
          have hge2 : ¬ j < n := by omega
          have HN := Lib.hid (HT2.out.congr fun i _ => tf_next (xs := xs) (d := d) (by have := HL.out; omega) i)
          clear hjn hj
          go_wp2
          go_roundg (W - d - 1)
          case rel => exact ⟨d + 1, by have := HD.out; omega, by go_num, HN.out, HBI.out⟩
          case measure => have := HD.out; omega
        · have hjlt : (j : Int) < (n : Int) := by omega
          have hjlt2 : j < n := by omega
          have j0 : (0 : Int) ≤ (j : Int) := by omega
          obtain ⟨b, off, rfl, hbl, hc⟩ := (H.out.below HBI.out).at (by omega)
          obtain ⟨c0, c1⟩ := hc j hjlt2
          have hst := tm_take (n := (d : Int)) (L := xs) (k := j) (by have := HL.out; omega)
          obtain ⟨k1, k2, k3, k4⟩ := HY.out.nth (j := j) (by have := HL.out; omega)
          obtain ⟨x, hx⟩ : ∃ x, (nth xs j).1 = x := ⟨_, rfl⟩
          obtain ⟨y, hy⟩ : ∃ y, (nth xs j).2 = y := ⟨_, rfl⟩
          have hpn : nth xs j = (x, y) := by rw [← hx, ← hy]
          rw [hpn] at hst
          rw [hx] at c0 k3 k4
          rw [hy] at c1 k1 k2 k4
          obtain ⟨t, htt⟩ : ∃ t, cvB (d : Int) (x, y) = t := ⟨_, rfl⟩
          rw [htt] at hst
          obtain ⟨m1, m2⟩ := cv_tmod k3 k4 t htt
          have y0 : ¬ y = 0 := by omega
          have hbb : Below wr.heap.size wr (wr.alloc (.cells #[.int .i64 x, .int .i64 y] 44)) := (Below.refl _ _).alloc (Nat.le_refl _) _
          have hT3 := HT2.out.later hbb
          have hcg := hT3.cell hlt2
          have hfg := hT3.frozen d
          rw [tf_at] at hcg
          have hle := tm_le (d : Int) (xs.take j)
          have hle2 : (xs.take j).length ≤ j := List.length_take_le _ _
          obtain ⟨T, hT⟩ : ∃ T, tm (d : Int) (xs.take j) = T := ⟨_, rfl⟩
          rw [hT] at hcg hst hle
          have hT10 : (T : Int) ≤ 10 := by omega
          have HST := Lib.hid hst
          have HT4 := Lib.hid hT3
          have HTT := Lib.hid hT
          have HB3 := Lib.hid (HBI.out.alloc HBI.out.size (.cells #[.int .i64 x, .int .i64 y] 44))
          clear hjn hj hc hst hx hy hpn htt hbb hT3 hle hle2 hT
          cases t with
          | true =>
            have HNX := Lib.hid (show ∀ q, TRow w.heap.size g W (tf xs d (j + 1)) (((wr.alloc (.cells #[.int .i64 x, .int .i64 y] 44)).drewN q).setCell ⟨g, d, none⟩ (.int .i64 ((T : Int) + 1))) from fun q => ((HT4.out.drew q).put d ((T : Int) + 1)).congr fun i _ => by
              unfold tf
              by_cases h1 : i = d
              · subst h1; rw [if_pos rfl, if_neg (by omega), if_pos rfl, HST.out, if_pos rfl]; omega
              · rw [if_neg h1]; simp only [if_neg h1])
            have HBN := Lib.hid (fun q => (below_drewN HB3.out q).setCell (p := ⟨g, d, none⟩) HT4.out.le (.int .i64 ((T : Int) + 1)))
            go_wp2
            go_quiet (fail)
            go_wp2
            go_roundg (n - j - 1)
            case rel => exact ⟨j + 1, by have := HJ.out; omega, by go_num, HNX.out _, HBN.out _⟩
            case measure => have := HJ.out; omega
          | false =>
            have HNX := Lib.hid (HT4.out.congr (f' := tf xs d (j + 1)) fun i _ => by
              unfold tf
              by_cases h1 : i = d
              · subst h1; rw [if_neg (by omega), if_pos rfl, if_neg (by omega), if_pos rfl, HST.out, HTT.out, if_neg (by decide)]; rfl
              · simp only [if_neg h1])
            go_wp2
            go_quiet (fail)
            go_wp2
            go_roundg (n - j - 1)
            case rel => exact ⟨j + 1, by have := HJ.out; omega, by go_num, HNX.out.drew _, below_drewN HB3.out _⟩
            case measure => have := HJ.out; omega
end Go.Proofs.Ytanhjgneaaenpaa
