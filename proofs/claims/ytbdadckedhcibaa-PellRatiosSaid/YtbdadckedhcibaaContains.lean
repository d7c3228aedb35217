/- slices.Contains at [2]int: it finds a pair that is there. Condition: the pair is one of the slice's. -/
import Derived.Test.YtbdadckedhcibaaSolves
namespace Go.Proofs.Ytbdadckedhcibaa
open Go.RowKit

theorem Cells2.alloc {w : World} {g : Nat} {L : List (Int × Int)} (h : Cells2 w g L) (o : Obj) : Cells2 (w.alloc o) g L :=
  fun j hj => ⟨cell_alloc_k o (h j hj).1, cell_alloc_k o (h j hj).2⟩

set_option maxRecDepth 100000 in
set_option maxHeartbeats 1000000 in
theorem index_hit (L : List (Int × Int)) (hL : L.length ≤ 1000) (g c : Nat) (x y : Int) (k : Nat) (hk : k < L.length) (hm : nth L k = (x, y)) (w : World) (h1 : Cells2 w g L) :
    Calls Try.prog 62 #[.slice (some ⟨g, 0, none⟩) L.length c, .agg #[.int .i64 x, .int .i64 y]] w fun e w' => ∃ i : Nat, e = .returned (.int .i64 (i : Int)) ∧ Below w.heap.size w w' := by
  obtain ⟨n, hn⟩ : ∃ n, L.length = n := ⟨_, rfl⟩
  rw [hn]
  have hb := (Below.refl w.heap.size w).alloc (Nat.le_refl _) (.cells #[.int .i64 x, .int .i64 y] 44)
  have H1 := Lib.hid (h1.alloc (.cells #[.int .i64 x, .int .i64 y] 44))
  have HN := Lib.hid hn
  have HB := Lib.hid hb
  have HM := Lib.hid hm
  rw [hn] at hL hk
  clear h1 hn hb hm
  go_enter Try.func62, Try.ntmps62
  go_wp2
  have c0 : (w.alloc (.cells #[.int .i64 x, .int .i64 y] 44)).cell? ⟨w.heap.size, 0, none⟩ = some (.int .i64 x) := by simp [go_sem]
  have c1 : (w.alloc (.cells #[.int .i64 x, .int .i64 y] 44)).cell? ⟨w.heap.size, 1, none⟩ = some (.int .i64 y) := by simp [go_sem]
  have hsz : (w.alloc (.cells #[.int .i64 x, .int .i64 y] 44)).heap.size = w.heap.size + 1 := by simp
  obtain ⟨W, hW⟩ : ∃ W, w.alloc (.cells #[.int .i64 x, .int .i64 y] 44) = W := ⟨_, rfl⟩
  rw [hW] at H1 HB c0 c1 hsz ⊢
  obtain ⟨B, hB⟩ : ∃ B, w.heap.size = B := ⟨_, rfl⟩
  rw [hB] at HB c0 c1 hsz ⊢
  clear hW
  go_loopg [8] n (fun gk i wr => ∃ (y : Nat) (q : Nat), y + gk = n ∧ y ≤ k ∧ i = .int .i64 (y : Int) ∧ wr = W.drewN q)
  case atStart => exact ⟨0, 0, by omega, by omega, rfl, rfl⟩
  case round =>
    obtain ⟨j, q, hy, hjk, rfl, rfl⟩ := hrel
    have hlt : (j : Int) < (n : Int) := by omega
    have hlt2 : j < n := by omega
    obtain ⟨a1, a2⟩ := H1.out j (by have := HN.out; omega)
    obtain ⟨X, hX⟩ : ∃ X, (nth L j).1 = X := ⟨_, rfl⟩
    obtain ⟨Y, hY⟩ : ∃ Y, (nth L j).2 = Y := ⟨_, rfl⟩
    rw [hX] at a1
    rw [hY] at a2
    have y0 : (0 : Int) ≤ (j : Int) := by omega
    have g44 := guard44
    have n44 := eql44
    by_cases hxy : (x == X && y == Y) = true
    · clear hX hY
      go_wp2
      go_quiet (fail)
      go_wp2
      go_ret
      exact ⟨j, rfl, by rw [hB]; exact below_drewN (below_drewN HB.out _) _⟩
    · have hxy' : (x == X && y == Y) = false := by simpa using hxy
      have hne : j ≠ k := by
        intro e
        apply hxy
        rw [← hX, ← hY, e, HM.out]
        simp
      clear hX hY hxy
      go_wp2
      go_quiet (fail)
      go_wp2
      go_roundg (gk - 1)
      case rel => exact ⟨j + 1, q + nq, by omega, by omega, by go_num, rfl⟩
      case measure => omega

theorem contains_hit (L : List (Int × Int)) (hL : L.length ≤ 1000) (g c : Nat) (x y : Int) (k : Nat) (hk : k < L.length) (hm : nth L k = (x, y)) (w : World) (h1 : Cells2 w g L) :
    Calls Try.prog 40 #[.slice (some ⟨g, 0, none⟩) L.length c, .agg #[.int .i64 x, .int .i64 y]] w fun e w' => e = .returned (.bool true) ∧ Below w.heap.size w w' := by
  have hb := (Below.refl w.heap.size w).alloc (Nat.le_refl _) (.cells #[.int .i64 x, .int .i64 y] 44)
  have H1 := Lib.hid (h1.alloc (.cells #[.int .i64 x, .int .i64 y] 44))
  have HB := Lib.hid hb
  have HM := Lib.hid hm
  have HK := Lib.hid hk
  have HL := Lib.hid hL
  obtain ⟨n, hn⟩ : ∃ n, L.length = n := ⟨_, rfl⟩
  have HN := Lib.hid hn
  clear h1 hb hm hk hL
  rw [hn]
  clear hn
  go_enter Try.func40, Try.ntmps40
  go_wp2_with fail
  rw [← HN.out]
  refine (index_hit L HL.out g c x y k HK.out HM.out _ H1.out).mono ?_
  rintro e w1 ⟨i, rfl, hb1⟩
  have HB1 := Lib.hid hb1
  clear hb1
  have i0 : (0 : Int) ≤ (i : Int) := by omega
  go_wp2
  go_ret
  exact ⟨rfl, HB.out.trans (HB1.out.mono (by simp))⟩
end Go.Proofs.Ytbdadckedhcibaa
