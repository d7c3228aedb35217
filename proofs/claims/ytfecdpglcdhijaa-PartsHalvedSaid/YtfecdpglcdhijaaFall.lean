/- The walk of parts.falling: the parts of a slice of the call's own, sorted downwards. Condition: the slice is one that the call has made, with at least one part. -/
import Derived.Test.YtfecdpglcdhijaaInts
import Derived.Test.YtfecdpglcdhijaaTab
import Derived.Test.YtfecdpglcdhijaaShelf
import Derived.Test.YtfecdpglcdhijaaShelf2
import Derived.Lib.RowBridge
import Derived.Lib.SortBridge
import Derived.Sort.OwnSortedInts
namespace Go.Proofs.Ytfecdpglcdhijaa
open Go.Shelf Go.RowKit Go.Lib Go.Sort

/-- The comparison of falling. -/
def cfD (x y : Int) : Int := Lib.compareInt y x
theorem ltD (x y : Int) : ltOf cfD x y = decide (y < x) := by
  unfold ltOf cfD Lib.compareInt
  by_cases h1 : y < x
  · simp [h1]
  · by_cases h2 : x < y <;> simp [h1, h2]
theorem swoD : SWO (ltOf cfD) where
  irrefl x := by rw [ltD]; simp
  trans x y z h1 h2 := by rw [ltD] at *; simp at *; omega
  ntrans x y z h1 h2 := by rw [ltD] at *; simp at *; omega
theorem totD (x y : Int) (h1 : ltOf cfD x y = false) (h2 : ltOf cfD y x = false) : x = y := by rw [ltD] at *; simp at *; omega
theorem geD : (fun x y : Int => !ltOf cfD y x) = fun x y => decide (y ≤ x) := by
  funext x y
  rw [ltD]
  by_cases h : y ≤ x
  · have h' : ¬ x < y := by omega
    simp [h, h']
  · have h' : x < y := by omega
    simp [h, h']

/-- The numbers of a list, falling. -/
def sortD (l : List Int) : List Int := l.mergeSort fun x y => decide (y ≤ x)
theorem sortD_perm (l : List Int) : (sortD l).Perm l := List.mergeSort_perm _ _
theorem sortD_len (l : List Int) : (sortD l).length = l.length := List.length_mergeSort _
theorem sortD_falls (l : List Int) : (sortD l).Pairwise fun a b => b ≤ a := by
  have h := List.pairwise_mergeSort (le := fun x y : Int => decide (y ≤ x)) (fun a b c h1 h2 => by simp at *; omega) (fun a b => by simp; omega) l
  exact h.imp fun h => by simpa using h
theorem sortD_of {l m : List Int} (hp : m.Perm l) (hs : m.Pairwise fun a b => b ≤ a) : sortD l = m :=
  List.Perm.eq_of_pairwise (le := fun a b : Int => b ≤ a) (fun a b _ _ h1 h2 => by omega) (sortD_falls l) hs ((sortD_perm l).trans hp.symm)
theorem sortD_congr {l m : List Int} (hp : m.Perm l) : sortD l = sortD m :=
  sortD_of ((sortD_perm m).trans hp) (sortD_falls m)

set_option maxHeartbeats 1000000 in
theorem closure98 (x y : Int) (W : World) : Calls Try.prog 98 #[.int .i64 x, .int .i64 y] W fun e w' => e = .returned (.int .i64 (cfD x y)) ∧ ∃ q, w' = W.drewN q := by
  have hcon := AnyG.cmp_Compare_int Try.cmpL y x W
  change Calls Try.prog 99 _ _ _ at hcon
  unfold cfD
  generalize Lib.compareInt y x = r at hcon ⊢
  go_enter Try.func98, Try.ntmps98
  go_wp2_with (go_at_call 99; refine hcon.mono ?_; rintro e w' ⟨rfl, rfl⟩)
  go_ret
  exact ⟨rfl, 0, rfl⟩

theorem cmpReads98 (blk off size : Nat) (w : World) : CmpReads Try.prog 98 #[] (Value.int .i64) cfD blk off size w := fun _ _ _ _ x y => closure98 x y _

set_option maxHeartbeats 2000000 in
theorem sortFunc_any (blk off c : Nat) (d : Array Int) (hsz : d.size < 4611686018427387904) (w : World) (hH : Holds (Value.int .i64) w blk off d) (hblk : blk < w.heap.size) :
    Calls Try.prog 97 #[.slice (some ⟨blk, off, none⟩) d.size c, .func (.func 98) #[] #[]] w fun e w' =>
      e = .returned (.tuple #[]) ∧ ∃ n os, w' = sortWorld (Value.int .i64) w blk off n (d.toList.mergeSort fun x y => decide (y ≤ x)).toArray os := by
  have eg : ∀ args w, (callFunc 98 args).run Try.prog w = .ok (.enter 98 args) w := enters_of Try.func98 (by kernel_rfl) rfl
  have hlim : Lib.bitLen d.size < 4611686018427387904 := Nat.lt_of_le_of_lt (Lib.bitLen_le d.size 62 (by omega) (by omega)) (by omega)
  have hp := Any.pdqsortCmpFunc_all (P := Try.prog) Try.pdqL (Value.int .i64) cfD 98 #[] swoD blk off c d w eg (cmpReads98 blk off d.size w).lays ⟨fun _ => rfl, hH, hblk⟩ (d.size + 1) 0 d.size (Lib.bitLen d.size) d w (by omega) rfl (SW.start hH) (Nat.zero_le _) (Nat.le_refl _) hsz hlim (Or.inl rfl)
  change Calls Try.prog 101 _ _ _ at hp
  have hl := Try.bits_Len (d.size : Int) w (by omega) (by omega)
  rw [Int.toNat_natCast] at hl
  have wr : IntKind.u64.wrap (d.size : Int) = d.size := by simp [IntKind.wrap, IntKind.bits, IntKind.signed]; omega
  have key : Calls Try.prog 97 #[.slice (some ⟨blk, off, none⟩) d.size c, .func (.func 98) #[] #[]] w fun e w' =>
      e = .returned (.tuple #[]) ∧ ∃ n os, w' = sortWorld (Value.int .i64) w blk off n (pdq (ltOf cfD) d 0 d.size (Lib.bitLen d.size) true true) os := by
    clear hH eg hlim
    go_enter Try.func97, Try.ntmps97
    go_wp2_with (first | (go_at_call 102; refine hl.mono ?_; rintro e w' ⟨rfl, rfl⟩) | (go_at_call 101; refine hp.mono ?_; rintro e w' ⟨rfl, n, os, rfl⟩))
    go_end0
    exact ⟨rfl, n, os, rfl⟩
  refine key.mono fun _ _ ⟨he, n, os, hw⟩ => ⟨he, n, os, ?_⟩
  have h := pdq_sorts (ltOf cfD) swoD d 0 d.size (Lib.bitLen d.size) true true (Nat.zero_le _) (Nat.le_refl _) (Or.inl rfl)
  have e := sorted_unique_holds swoD totD d _ h.1 h.2
  rw [geD] at e
  rw [hw, ← e]

/-- A row of the call's own. -/
structure LS (g c : Nat) (xs : List Int) (w W : World) : Prop where
  b : Below w.heap.size w W
  own : W.ownsRow w.heap.size 3 1 (.slice (some ⟨g, 0, none⟩) xs.length c) xs.length (xs.map (Value.int .i64))

set_option maxHeartbeats 1000000 in
theorem falling_any (g c n : Nat) (xs : List Int) (w W : World) (h : LS g c xs w W) (hn : xs.length = n) (hn2 : n ≤ 1000) :
    Calls Try.prog 93 #[.slice (some ⟨g, 0, none⟩) n c] W fun e w' => e = .returned (.tuple #[]) ∧ LS g c (sortD xs) w w' := by
  subst hn
  obtain ⟨h1, h2⟩ := h.own
  rcases h2 with ⟨h3, -⟩ | ⟨g', cap, cur, h3, h4, h5, h6, h7, h8, h9⟩
  · cases h3
  cases h3
  have hH : Holds (Value.int .i64) W g 0 xs.toArray := holds_of_blockI h5 (by rw [Nat.mul_one] at h9; exact h9)
  have hS := sortFunc_any g 0 c xs.toArray (by simp; omega) W hH (Array.getElem?_eq_some_iff.1 h5).1
  have hsz : xs.toArray.size = xs.length := by simp
  rw [hsz] at hS
  obtain ⟨N, hN⟩ : ∃ N, xs.length = N := ⟨_, rfl⟩
  have key : Calls Try.prog 93 #[.slice (some ⟨g, 0, none⟩) xs.length c] W fun e w' => e = .returned (.tuple #[]) ∧ ∃ n os, w' = sortWorld (Value.int .i64) W g 0 n (sortD xs).toArray os := by
    rw [hN] at hS ⊢
    have HS := Lib.hid hS
    clear hS h1 h4 h5 h6 h7 h8 h9 hH hsz hN hn2
    go_enter Try.func93, Try.ntmps93
    go_wp2_with (go_at_call 97; refine HS.out.mono ?_; rintro e w' ⟨rfl, n, os, hw⟩; have HW := Lib.hid hw; clear hw)
    go_end0
    exact ⟨rfl, n, os, HW.out⟩
  refine key.mono fun e w' ⟨he, n, os, hw⟩ => ⟨he, ?_⟩
  subst hw
  have hg : W.grownBy (sortWorld (Value.int .i64) W g 0 n (sortD xs).toArray os) (some g) := grownBy_sortedI _
  refine ⟨h.b.grown hg h.b.size (fun k e => by cases e; exact h4), ?_⟩
  rw [sortD_len]
  exact ownsRow_sortedI (sortD_len xs) h4 h5 (by omega) h7 (by omega)
end Go.Proofs.Ytfecdpglcdhijaa
