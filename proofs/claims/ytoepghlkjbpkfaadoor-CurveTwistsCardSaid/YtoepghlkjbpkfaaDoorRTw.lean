/- The walk of the reference's Twist. Condition: the curve is valid. -/
import Derived.Test.YtoepghlkjbpkfaaDoorTw
namespace Go.Proofs.YtoepghlkjbpkfaaDoor
open Go.RowKit
attribute [local go_sem] Oper.semAt_some

set_option maxHeartbeats 8000000 in
set_option maxRecDepth 100000 in
theorem twistR_any (P : Nat) (A B : Int) (hv : vB P A B = true) (w : World) :
    Calls Tryd.prog 46 #[.agg #[.int .i64 (P : Int), .int .i64 A, .int .i64 B]] w fun e w' => e = .returned (.agg #[.int .i64 (P : Int), .int .i64 (twA P A), .int .i64 (twB P B)]) ∧ Below w.heap.size w w' := by
  obtain ⟨⟨h5, h31⟩, hA, hB⟩ := vB_le hv
  have hL := lns_all P (by omega) (vB_iff.1 hv).1
  have hI := lns_in P
  unfold twA twB
  obtain ⟨L, hLe⟩ : ∃ L, lnsF P = L := ⟨_, rfl⟩
  rw [hLe] at hL hI ⊢
  have HL := Lib.hid hL
  have HM := Lib.hid (fun n W => mod_any n (P : Int) (by omega) (by omega) W)
  obtain ⟨⟨a0, a1⟩, ⟨a2, a3⟩, -⟩ := scale_in (A := A) (v := (L : Int)) hA (by omega)
  obtain ⟨⟨b0, b1⟩, ⟨b2, b3⟩, ⟨b4, b5⟩⟩ := scale_in (A := B) (v := (L : Int)) hB (by omega)
  have HNN := Lib.hid (And.intro (And.intro (And.intro a0 a1) (And.intro a2 a3)) (And.intro (And.intro b0 b1) (And.intro (And.intro b2 b3) (And.intro b4 b5))))
  have hne : ¬ (P : Int) = 0 := by omega
  clear hL hLe hv a0 a1 a2 a3 b0 b1 b2 b3 b4 b5
  go_enter Tryd.func46, Tryd.ntmps46
  go_wp2
  go_loopg [3, 4, 5, 10] L (fun gk s3 s4 s5 s10 wr => ∃ u : Nat, u + gk = L + 2 ∧ u ≤ L ∧ 2 ≤ u ∧ s3 = .int .i64 (u : Int) ∧ wr = (w.alloc (.cells #[.int .i64 (P : Int), .int .i64 A, .int .i64 B] 23)).alloc (.cells #[.int .i64 0, .int .i64 0, .int .i64 0] 23))
  case atStart => exact ⟨2, by omega, by omega, by omega, rfl, rfl⟩
  case round =>
    obtain ⟨u, hk, huL, hu2, rfl, rfl⟩ := hrel
    have HK := Lib.hid hk
    obtain ⟨GK, hGK⟩ : ∃ G, gk = G := ⟨_, rfl⟩
    have HGK := Lib.hid hGK
    clear hk hGK
    go_wp2
    go_loopg [4, 5, 10] P (fun gk s4 s5 s10 wr => ∃ k : Nat, k + gk = P ∧ s10 = .int .i64 (k : Int) ∧ s4 = .bool (sqK P u k) ∧ wr = (w.alloc (.cells #[.int .i64 (P : Int), .int .i64 A, .int .i64 B] 23)).alloc (.cells #[.int .i64 0, .int .i64 0, .int .i64 0] 23))
    case atStart => exact ⟨0, by omega, rfl, rfl, rfl⟩
    case round =>
      obtain ⟨k, hk, rfl, rfl, rfl⟩ := hrel
      have HJ := Lib.hid hk
      by_cases hlt : k < P
      · have l1 : (k : Int) < (P : Int) := by omega
        obtain ⟨a0, a1⟩ := mul_in (a := (k : Int)) (b := (k : Int)) 31 31 (by omega) (by omega) (by omega) (by omega)
        have hs : sqK P u (k + 1) = (sqK P u k || decide (((k : Int) * k - u) % P = 0)) := rfl
        obtain ⟨x, hx⟩ : ∃ x, ((k : Int) * k - (u : Int)) % (P : Int) = x := ⟨_, rfl⟩
        have HX := Lib.hid (fun W => HM.out ((k : Int) * k - (u : Int)) W)
        rw [hx] at HX hs
        obtain ⟨b, hb⟩ : ∃ b, sqK P u k = b := ⟨_, rfl⟩
        rw [hb] at hs ⊢
        have HS := Lib.hid hs
        clear hs hx hb hk
        cases b
        · go_wp2_with fail
          refine (HX.out _).mono ?_
          rintro e w1 ⟨rfl, rfl⟩
          go_wp2
          go_roundg (gk - 1)
          case rel => exact ⟨k + 1, by have := HJ.out; omega, by go_num, by rw [HS.out]; first | (simp; done) | (simp; rfl) | rfl, rfl⟩
          case measure => have := HJ.out; omega
        · go_wp2
          go_roundg (gk - 1)
          case rel => exact ⟨k + 1, by have := HJ.out; omega, by go_num, by rw [HS.out]; simp, rfl⟩
          case measure => have := HJ.out; omega
      · have l1 : ¬ (k : Int) < (P : Int) := by omega
        obtain rfl : k = P := by omega
        by_cases hul : u < L
        · have hs := HL.out.2 u hul hu2
          rw [hs]
          clear hk hs
          go_wp2
          go_roundg (GK - 1)
          case rel => exact ⟨u + 1, by have := HK.out; have := HGK.out; omega, by omega, by omega, by go_num, rfl⟩
          case measure => have := HK.out; have := HGK.out; omega
        · obtain rfl : u = L := by omega
          have hs := HL.out.1
          rw [hs]
          obtain ⟨⟨⟨a0, a1⟩, ⟨a2, a3⟩⟩, ⟨⟨b0, b1⟩, ⟨⟨b2, b3⟩, ⟨b4, b5⟩⟩⟩⟩ := HNN.out
          clear hk hs
          go_wp2
          go_region
          all_goals
            go_wp2
            exact bodyPost_ret (v := .agg #[.int .i64 (k : Int), .int .i64 (A * u * u % (k : Int)), .int .i64 (B * u * u * u % (k : Int))]) (by simp [results, Tryd.results46, go_sem]) rfl ⟨rfl, Below.drew (below2 w _ _)⟩
end Go.Proofs.YtoepghlkjbpkfaaDoor
