/- The walks of the reference's Different, of partition.movable, of slices.Clone at a partition, and of partition.move: Franklin's move. Condition: the slice lies in memory; for the move it holds a partition into different parts. -/
import Derived.Test.YtfecdpglcdhijaaFrank
import Derived.Lib.SliceRun
namespace Go.Proofs.Ytfecdpglcdhijaa
open Go.RowKit
attribute [local go_sem] Oper.semAt_some

theorem cell_alloc_k {w : World} {a : Addr} {v : Value} (o : Obj) (h : w.cell? a = some v) : (w.alloc o).cell? a = some v :=
  (World.cell?_of_block (Below.heap_alloc w o a.block (World.block_lt_of_cell? _ _ h))).trans h

def dAt (xs : List Int) (k : Nat) : Bool := if k = 0 then diffL xs else diffFrom (xs.getD (k - 1) 0) (xs.drop k)
theorem dAt_one (xs : List Int) : dAt xs 1 = diffL xs := by rw [diff_start]; rfl

set_option maxHeartbeats 1000000 in
theorem refDifferent_any (a : Option Addr) (n c : Nat) (xs : List Int) (w : World) (h : Ints w a n xs) (hn : n ≤ 4611686018427387904) :
    Calls Try.prog 35 #[.slice a n c] w fun e w' => e = .returned (.bool (diffL xs)) ∧ w' = w := by
  have H := Lib.hid h
  have HL := Lib.hid h.1
  clear h
  go_enter Try.func35, Try.ntmps35
  go_wp2
  go_loopg [7] n (fun gk i wr => ∃ (k : Nat), k + gk = n ∧ i = .int .i64 (k : Int) ∧ diffL xs = dAt xs k ∧ wr = w)
  case atStart => exact ⟨0, by omega, rfl, rfl, rfl⟩
  case round =>
    obtain ⟨k, hk, rfl, hp, rfl⟩ := hrel
    have HP := Lib.hid hp
    clear hp
    by_cases hkn : k = n
    · have hge : ¬ (k : Int) < (n : Int) := by omega
      have hge2 : ¬ k < n := by omega
      have hD : diffL xs = true := by
        by_cases h0 : k = 0
        · have : xs = [] := List.length_eq_zero_iff.1 (by have := HL.out; omega)
          rw [this]; rfl
        · rw [HP.out, dAt, if_neg h0, diff_end (by have := HL.out; omega)]
      have HD := Lib.hid hD
      clear hkn hD
      go_wp2
      go_ret
      exact ⟨ret_bool HD.out.symm, rfl⟩
    · have hlt : (k : Int) < (n : Int) := by omega
      have hlt2 : k < n := by omega
      obtain ⟨b, off, rfl, hb, hc⟩ := H.out.at (by omega)
      have hck := hc k hlt2
      have k0 : (0 : Int) ≤ (k : Int) := by omega
      by_cases h0 : k = 0
      · have g0 : ¬ (0 : Int) < (k : Int) := by omega
        have HK0 := Lib.hid h0
        obtain ⟨x, hx⟩ : ∃ x, xs.getD k 0 = x := ⟨_, rfl⟩
        rw [hx] at hck
        clear hkn hc h0 hx
        go_wp2
        go_roundg (gk - 1)
        case rel => exact ⟨k + 1, by omega, by go_num, by rw [HK0.out, dAt_one], rfl⟩
        case measure => omega
      · have g0 : (0 : Int) < (k : Int) := by omega
        obtain ⟨j, hj⟩ : ∃ j, k = j + 1 := ⟨k - 1, by omega⟩
        have hcj := hc j (by omega)
        have hidx : (k : Int) - 1 = (j : Int) := by omega
        have hj2 : j < n := by omega
        have hj3 : (j : Int) < (n : Int) := by omega
        have hj0 : (0 : Int) ≤ (j : Int) := by omega
        have hp := HP.out
        rw [dAt, if_neg h0, diff_step (xs := xs) (k := k) (by have := HL.out; omega), hj, Nat.add_sub_cancel, ← hj] at hp
        obtain ⟨x, hx⟩ : ∃ x, xs.getD k 0 = x := ⟨_, rfl⟩
        obtain ⟨y, hy⟩ : ∃ y, xs.getD j 0 = y := ⟨_, rfl⟩
        rw [hx] at hck hp
        rw [hy] at hcj hp
        have HX := Lib.hid hx
        have HP2 := Lib.hid hp
        clear hkn hc h0 hx hy hj hp HP
        by_cases hxy : (x == y) = true
        · have HXY := Lib.hid hxy
          have hyx : (y == x) = true := by rw [beq_iff_eq] at hxy ⊢; exact hxy.symm
          clear hxy
          go_wp2
          go_ret
          exact ⟨ret_bool (by rw [HP2.out, HXY.out]; rfl), rfl⟩
        · have hxy' : (x == y) = false := by simpa using hxy
          have hyx : (y == x) = false := by rw [beq_eq_false_iff_ne] at hxy' ⊢; exact fun e => hxy' e.symm
          have HXY := Lib.hid hxy'
          clear hxy hxy'
          go_wp2
          go_roundg (gk - 1)
          case rel =>
            refine ⟨k + 1, by omega, by go_num, ?_, rfl⟩
            rw [HP2.out, HXY.out, dAt, if_neg (by omega), Nat.add_sub_cancel, HX.out]
            rfl
          case measure => omega

set_option maxHeartbeats 1000000 in
theorem movable_any (a : Option Addr) (n c : Nat) (xs : List Int) (w : World) (h : Ints w a n xs) (hn : n ≤ 4611686018427387904) :
    Calls Try.prog 68 #[.slice a n c] w fun e w' => e = .returned (.bool (decide (0 < n) && (diffL xs && isP xs))) ∧ ∃ q, w' = w.drewN q := by
  have H := Lib.hid h
  clear h
  by_cases h0 : n = 0
  · subst h0
    go_enter Try.func68, Try.ntmps68
    go_wp2
    go_ret
    exact ⟨rfl, 0, rfl⟩
  · have h1 : (0 : Int) < (n : Int) := by omega
    have h2 : decide (0 < n) = true := by simp; omega
    obtain ⟨B, hB⟩ : ∃ B, (diffL xs && isP xs) = B := ⟨_, rfl⟩
    rw [hB, h2]
    have HB := Lib.hid hB
    clear hB h2 h0
    go_enter Try.func68, Try.ntmps68
    go_wp2_with (go_at_call 72; refine (different_any a n c xs _ H.out hn).mono ?_; rintro e w' ⟨rfl, q, rfl⟩; rw [HB.out])
    go_ret
    exact ⟨ret_bool (by simp), q, rfl⟩

set_option maxHeartbeats 2000000 in
set_option maxRecDepth 100000 in
/-- A copy of a slice that is not nil. -/
theorem clonep_any (ad : Addr) (n c : Nat) (xs : List Int) (w : World) (h : Ints w (some ad) n xs) (hbig : n ≤ 1000000) :
    Calls Try.prog 91 #[.slice (some ad) n c] w fun e w' => ∃ g co, e = .returned (.slice (some ⟨g, 0, none⟩) n co) ∧ w'.ownsRow w.heap.size 3 1 (.slice (some ⟨g, 0, none⟩) n co) n (xs.map (Value.int .i64)) ∧ Below w.heap.size w w' := by
  obtain ⟨i0, hi, hz0, hz1, hz2⟩ := info_parts info3
  have q22 : ∀ (w : World) (a : Option Addr) (n c n' c' : Nat), (binOp .eql 56 (.slice a n c) (.slice none n' c')).run Try.prog w = .ok (.bool a.isNone) w := fun w a n c n' c' => Lib.run_eql_slice_nil w _ _ a n c n' c' Try.underlying56
  have hl := h.1
  have H := Lib.hid h
  have HL := Lib.hid hl
  clear h hl
  go_enter Try.func91, Try.ntmps91
  go_wp2_with (at_builtin; refine wpList_append_own _ rfl _ _ 56 rfl w.heap.size 3 i0 (.int .i64 0) 1 8 Try.underlying56 hi hz0 hz1 hz2 rfl (by decide) _ _ _ rfl (World.ownsRow_made w #[] 0 (Nat.le_refl _) (Nat.zero_le _) rfl) ad n c (xs.map (Value.int .i64)) rfl ?qc1 ?qc2 ?qc3 ?qc4 ?qc5 ?qc6 ?_)
  case qc1 => rw [List.length_map, HL.out, Nat.mul_one]
  case qc2 =>
    intro j u hj
    have hjn : j < n := by
      have := (List.getElem?_eq_some_iff.1 hj).1
      rw [List.length_map, HL.out] at this
      exact this
    obtain ⟨b, off, had, hb, hc⟩ := H.out.at (by omega)
    cases had
    rw [Addr.add_lit]
    refine cell_alloc_k _ ?_
    rw [hc j hjn]
    have e : (xs.map (Value.int .i64))[j]? = some (Value.int .i64 (xs.getD j 0)) := by
      have : j < xs.length := by rw [HL.out]; exact hjn
      simp [List.getD, this]
    rw [e] at hj
    exact hj
  case qc3 => exact ints_oneCell .i64 xs
  case qc4 => unfold maxLen; omega
  case qc5 => omega
  case qc6 => simp
  intro v' w1 hown hgrow hnil
  have hb : Below w.heap.size w w1 := ((Below.refl _ w).alloc (Nat.le_refl _) _).grown hgrow (by simp) (by intro k hk; simp [Value.ownBlock] at hk; omega)
  replace hown : w1.ownsRow w.heap.size 3 1 v' n (xs.map (Value.int .i64)) := by simpa using hown
  have hv : ∃ g co, v' = .slice (some ⟨g, 0, none⟩) n co := by
    rcases Joins.ownsRow_forms hown with ⟨h1, h2⟩ | h
    · exact absurd h1 hnil
    · exact h
  obtain ⟨g, co, rfl⟩ := hv
  have HO := Lib.hid (And.intro hown hb)
  clear hown hb hgrow hnil q22 hi hz0 hz1 hz2
  go_wp2
  go_ret
  exact ⟨g, co, rfl, HO.out.1, HO.out.2⟩
end Go.Proofs.Ytfecdpglcdhijaa
