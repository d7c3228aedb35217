/- The walks of covers.Left and covers.Twice. Condition: the slice of pairs lies in memory. -/
import Derived.Test.YtanhjgneaaenpaaLeast
namespace Go.Proofs.Ytanhjgneaaenpaa
open Go.RowKit
attribute [local go_sem] Oper.semAt_some

theorem cell_box (w : World) (v : Value) (t : TypeId) : (w.alloc (.cells #[v] t)).cell? ⟨w.heap.size, 0, none⟩ = some v := by
  unfold World.cell?
  rw [heap_alloc_last]
  rfl
theorem cell_later {w w' : World} {b o : Nat} {v : Value} (h : w.cell? ⟨b, o, none⟩ = some v) (hb : Below w.heap.size w w') : w'.cell? ⟨b, o, none⟩ = some v :=
  (hb.cell (p := ⟨b, o, none⟩) (World.block_lt_of_cell? _ _ h)).trans h

theorem closure47_any (a : Option Addr) (n c : Nat) (xs : List (Int × Int)) (d g : Nat) (w : World) (h : Prs w a n xs) (hok : Ok xs) (hn : n ≤ 10) (hd : d ≤ 1000000) (hc : w.cell? ⟨g, 0, none⟩ = some (.slice a n c)) :
    Calls Try.prog 47 #[.int .i64 (d : Int), .pointer (some ⟨g, 0, none⟩)] w fun e w' => e = .returned (.bool (decide (tm d xs = 0))) ∧ Below w.heap.size w w' := by
  have hT := times_any a n c xs d w h hok (by omega) hd
  obtain ⟨T, ht⟩ : ∃ T, tm d xs = T := ⟨_, rfl⟩
  rw [ht] at hT
  have e : decide (tm d xs = 0) = ((T : Int) == 0) := by rw [ht, Bool.eq_iff_iff]; simp; try omega
  rw [e]
  have HT := Lib.hid hT
  clear h hok hT ht e
  go_enter Try.func47, Try.ntmps47
  go_wp2_with fail
  refine HT.out.mono ?_
  rintro e w1 ⟨rfl, hb⟩
  have HB := Lib.hid hb
  clear hb
  go_wp2
  go_ret
  exact ⟨rfl, HB.out⟩

/-- What Left answers. -/
def leftR (xs : List (Int × Int)) : Int × Int := if isS xs = true then leftF xs else (0, 2)

set_option maxHeartbeats 2000000 in
theorem Left_any (a : Option Addr) (n c : Nat) (xs : List (Int × Int)) (w : World) (h : Prs w a n xs) (hn : n ≤ 4611686018427387904) :
    Calls Try.prog 14 #[.slice a n c] w fun e w' => e = .returned (.tuple #[.int .i64 (leftR xs).1, .int .i64 (leftR xs).2]) ∧ Below w.heap.size w w' := by
  have hb0 : Below w.heap.size w (w.alloc (.cells #[.slice a n c] 58)) := (Below.refl _ _).alloc (Nat.le_refl _) _
  have hc0 := cell_box w (.slice a n c) 58
  have hh : Prs (w.alloc (.cells #[.slice a n c] 58)) a n xs := h.below hb0
  have HV := Lib.hid (valid_any a n c xs _ hh hn)
  have HB0 := Lib.hid hb0
  have HH := Lib.hid hh
  have HL := Lib.hid h.1
  have HC := Lib.hid hc0
  clear hb0 hc0 hh h
  cases hs : isS xs with
  | false =>
    have e : leftR xs = (0, 2) := by unfold leftR; rw [hs]; rfl
    rw [hs] at HV
    rw [e]
    clear e hs
    go_enter Try.func14, Try.ntmps14
    go_wp2_with fail
    refine HV.out.mono ?_
    rintro e w1 ⟨rfl, hb1⟩
    have HB1 := Lib.hid (HB0.out.trans (hb1.mono HB0.out.size))
    clear hb1
    go_wp2
    go_ret2
    exact ⟨rfl, HB1.out⟩
  | true =>
    have e : leftR xs = leftF xs := by unfold leftR; rw [hs]; rfl
    have hS := isS_spec.1 hs
    rw [hs] at HV
    rw [e]
    have HS := Lib.hid hS
    clear e hs hS
    obtain ⟨W0, hW0⟩ : ∃ W0, w.alloc (.cells #[.slice a n c] 58) = W0 := ⟨_, rfl⟩
    have hlt : w.heap.size < W0.heap.size := by rw [← hW0]; simp
    rw [hW0] at HV HB0 HH HC
    have HLT := Lib.hid hlt
    have HW0 := Lib.hid hW0
    clear hW0 hlt
    go_enter Try.func14, Try.ntmps14
    go_wp2_with fail
    rw [HW0.out]
    refine HV.out.mono ?_
    rintro e w1 ⟨rfl, hb1⟩
    have hc1 := cell_later HC.out hb1
    have hP1 := HH.out.below hb1
    have HB1 := Lib.hid (HB0.out.trans (hb1.mono HB0.out.size))
    have HLD := Lib.hid (leastDay47 a n c xs 0 (fun d => decide (tm d xs = 0)) w.heap.size w1 hP1 HS.out.ok (by have := HS.out.len2; have := HL.out; omega) HS.out.wl2 (by omega) (fun d W hd hb => closure47_any a n c xs d w.heap.size W (hP1.below hb) HS.out.ok (by have := HS.out.len2; have := HL.out; omega) (by omega) (cell_later hc1 hb)))
    clear hb1 hP1
    go_wp2_with fail
    refine HLD.out.mono ?_
    rintro e w2 ⟨rfl, hb2⟩
    have HB2 := Lib.hid (HB1.out.trans (hb2.mono HB1.out.size))
    clear hb2 HLD
    go_wp2
    go_ret2
    exact ⟨rfl, HB2.out⟩

theorem closure49_any (a : Option Addr) (n c : Nat) (xs : List (Int × Int)) (d g : Nat) (w : World) (h : Prs w a n xs) (hok : Ok xs) (hn : n ≤ 10) (hd : d ≤ 1000000) (hc : w.cell? ⟨g, 0, none⟩ = some (.slice a n c)) :
    Calls Try.prog 49 #[.int .i64 (d : Int), .pointer (some ⟨g, 0, none⟩)] w fun e w' => e = .returned (.bool (decide (1 < tm d xs))) ∧ Below w.heap.size w w' := by
  have hT := times_any a n c xs d w h hok (by omega) hd
  obtain ⟨T, ht⟩ : ∃ T, tm d xs = T := ⟨_, rfl⟩
  rw [ht] at hT
  have e : decide (1 < tm d xs) = decide (1 < (T : Int)) := by rw [ht, Bool.eq_iff_iff]; simp; try omega
  rw [e]
  have HT := Lib.hid hT
  clear h hok hT ht e
  go_enter Try.func49, Try.ntmps49
  go_wp2_with fail
  refine HT.out.mono ?_
  rintro e w1 ⟨rfl, hb⟩
  have HB := Lib.hid hb
  clear hb
  go_wp2
  go_ret
  exact ⟨rfl, HB.out⟩

/-- What Twice answers. -/
def twiceR (xs : List (Int × Int)) : Int × Int := if isS xs = true then twiceF xs else (0, 2)

set_option maxHeartbeats 2000000 in
theorem Twice_any (a : Option Addr) (n c : Nat) (xs : List (Int × Int)) (w : World) (h : Prs w a n xs) (hn : n ≤ 4611686018427387904) :
    Calls Try.prog 16 #[.slice a n c] w fun e w' => e = .returned (.tuple #[.int .i64 (twiceR xs).1, .int .i64 (twiceR xs).2]) ∧ Below w.heap.size w w' := by
  have hb0 : Below w.heap.size w (w.alloc (.cells #[.slice a n c] 58)) := (Below.refl _ _).alloc (Nat.le_refl _) _
  have hc0 := cell_box w (.slice a n c) 58
  have hh : Prs (w.alloc (.cells #[.slice a n c] 58)) a n xs := h.below hb0
  have HV := Lib.hid (valid_any a n c xs _ hh hn)
  have HB0 := Lib.hid hb0
  have HH := Lib.hid hh
  have HL := Lib.hid h.1
  have HC := Lib.hid hc0
  clear hb0 hc0 hh h
  cases hs : isS xs with
  | false =>
    have e : twiceR xs = (0, 2) := by unfold twiceR; rw [hs]; rfl
    rw [hs] at HV
    rw [e]
    clear e hs
    go_enter Try.func16, Try.ntmps16
    go_wp2_with fail
    refine HV.out.mono ?_
    rintro e w1 ⟨rfl, hb1⟩
    have HB1 := Lib.hid (HB0.out.trans (hb1.mono HB0.out.size))
    clear hb1
    go_wp2
    go_ret2
    exact ⟨rfl, HB1.out⟩
  | true =>
    have e : twiceR xs = twiceF xs := by unfold twiceR; rw [hs]; rfl
    have hS := isS_spec.1 hs
    rw [hs] at HV
    rw [e]
    have HS := Lib.hid hS
    clear e hs hS
    obtain ⟨W0, hW0⟩ : ∃ W0, w.alloc (.cells #[.slice a n c] 58) = W0 := ⟨_, rfl⟩
    have hlt : w.heap.size < W0.heap.size := by rw [← hW0]; simp
    rw [hW0] at HV HB0 HH HC
    have HLT := Lib.hid hlt
    have HW0 := Lib.hid hW0
    clear hW0 hlt
    go_enter Try.func16, Try.ntmps16
    go_wp2_with fail
    rw [HW0.out]
    refine HV.out.mono ?_
    rintro e w1 ⟨rfl, hb1⟩
    have hc1 := cell_later HC.out hb1
    have hP1 := HH.out.below hb1
    have HB1 := Lib.hid (HB0.out.trans (hb1.mono HB0.out.size))
    have HLD := Lib.hid (leastDay49 a n c xs 0 (fun d => decide (1 < tm d xs)) w.heap.size w1 hP1 HS.out.ok (by have := HS.out.len2; have := HL.out; omega) HS.out.wl2 (by omega) (fun d W hd hb => closure49_any a n c xs d w.heap.size W (hP1.below hb) HS.out.ok (by have := HS.out.len2; have := HL.out; omega) (by omega) (cell_later hc1 hb)))
    clear hb1 hP1
    go_wp2_with fail
    refine HLD.out.mono ?_
    rintro e w2 ⟨rfl, hb2⟩
    have HB2 := Lib.hid (HB1.out.trans (hb2.mono HB1.out.size))
    clear hb2 HLD
    go_wp2
    go_ret2
    exact ⟨rfl, HB2.out⟩
end Go.Proofs.Ytanhjgneaaenpaa
