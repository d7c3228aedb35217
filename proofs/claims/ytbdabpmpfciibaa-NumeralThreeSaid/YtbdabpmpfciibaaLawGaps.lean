/- The law NumeralGaps: its walk in every case. No condition. -/
import Derived.Test.YtbdabpmpfciibaaGap4
import Derived.Test.YtbdabpmpfciibaaRefGaps
import Derived.Test.YtbdabpmpfciibaaCode
namespace Go.Proofs.Ytbdabpmpfciibaa
open Go.RowKit
attribute [local go_sem] Oper.semAt_some

theorem Sl2.later {W W' : World} {g : Nat} {L : List (Int × Int)} (h : Sl2 W g L) (hg : g < W.heap.size) (hb : Below W.heap.size W W') : Sl2 W' g L := fun j hj =>
  ⟨(hb.cell (p := ⟨g, j * 2, none⟩) hg).trans (h j hj).1, (hb.cell (p := ⟨g, j * 2 + 1, none⟩) hg).trans (h j hj).2⟩

set_option maxHeartbeats 4000000 in
set_option maxRecDepth 100000 in
theorem lawGaps_yes (p m n : Nat) (w : World) (h : isPts p m n = true) :
    Calls Try.prog 9 #[.int .i64 (p : Int), .int .i64 (m : Int), .int .i64 (n : Int)] w fun e w' => e = .returned (.bool true) ∧ Below w.heap.size w w' := by
  obtain ⟨h1, h2, h3, h4, h5, h6, h7⟩ := isPts_yes h
  have HG := Lib.hid (Gaps_yes p m n w h)
  have HP := Lib.hid (fun w => Points_any p m n w)
  rw [h] at HP
  have HR := Lib.hid (fun w => refGaps_any p m n w (by omega) (by omega) (by omega) (by omega) (by omega))
  have hpos := gpL_pos (p := p) (m := m) (n := n) (by omega) (by omega)
  have hlen : (gpL p m n).length ≤ 1001 := by unfold gpL; have := canL_len (cF (tf p m n) m (plN p m n)) (m + 1); omega
  have hcan : canL (cF (tf p m n) m (plN p m n)) (m + 1) = gpL p m n := rfl
  rw [hcan] at HR
  obtain ⟨L, hL⟩ : ∃ L, gpL p m n = L := ⟨_, rfl⟩
  rw [hL] at HG HR hpos hlen
  clear h h1 h2 h3 h4 h5 h6 h7 hcan hL
  go_enter Try.func9, Try.ntmps9
  go_wp2_with fail
  refine HG.out.mono ?_
  rintro e w1 ⟨g, c, rfl, hs1, hb1, hg1⟩
  have H1 := Lib.hid (And.intro hs1 (And.intro hb1 hg1))
  clear hs1 hb1 hg1 HG
  go_wp2_with fail
  refine (HP.out _).mono ?_
  rintro e w2 ⟨rfl, hb2⟩
  have H2 := Lib.hid (And.intro (H1.out.1.later H1.out.2.2 hb2) (And.intro (H1.out.2.1.trans (hb2.mono H1.out.2.1.size)) (Nat.lt_of_lt_of_le H1.out.2.2 hb2.size)))
  clear hb2 H1 HP
  go_wp2_with fail
  refine (HR.out _).mono ?_
  rintro e w3 ⟨v, rfl, hr3, hb3⟩
  obtain ⟨a9, c9, rfl, -, -, h9⟩ := hr3.form
  obtain ⟨g3, rfl, -, -⟩ : ∃ g3, a9 = some ⟨g3, 0, none⟩ ∧ w2.heap.size ≤ g3 ∧ g3 < w3.heap.size := by
    rcases h9 with ⟨-, h9⟩ | h9
    · rw [h9] at hpos; exact absurd hpos (by simp)
    · exact h9
  have H3 := Lib.hid (And.intro (H2.out.1.later H2.out.2.2 hb3) (H2.out.2.1.trans (hb3.mono H2.out.2.1.size)))
  have HE := Lib.hid (equal2_same L (by omega) g g3 c c9 w3 H3.out.1 (fun j hj => hr3.cell hj))
  clear hr3 hb3 h9 H2 HR
  go_wp2_with fail
  refine HE.out.mono ?_
  rintro e w4 ⟨rfl, hb4⟩
  have H4 := Lib.hid (H3.out.2.trans (hb4.mono H3.out.2.size))
  clear hb4 H3 HE
  go_wp2_with fail
  refine (awake_any _).mono ?_
  rintro e w5 ⟨rfl, hb5⟩
  have H5 := Lib.hid (H4.out.trans (hb5.mono H4.out.size))
  clear hb5
  go_wp2
  go_ret
  exact ⟨rfl, H5.out⟩

set_option maxHeartbeats 4000000 in
theorem lawGaps_no (p m n : Int) (w : World) (h : isPts p m n = false) :
    Calls Try.prog 9 #[.int .i64 p, .int .i64 m, .int .i64 n] w fun e w' => e = .returned (.bool true) ∧ Below w.heap.size w w' := by
  have HG := Lib.hid (Gaps_no p m n w h)
  have HP := Lib.hid (fun w => Points_any p m n w)
  rw [h] at HP
  clear h
  go_enter Try.func9, Try.ntmps9
  go_wp2_with fail
  refine HG.out.mono ?_
  rintro e w1 ⟨rfl, hb1⟩
  have H1 := Lib.hid hb1
  clear hb1
  go_wp2_with fail
  refine (HP.out _).mono ?_
  rintro e w2 ⟨rfl, hb2⟩
  have H2 := Lib.hid (H1.out.trans (hb2.mono H1.out.size))
  clear hb2
  go_wp2_with fail
  refine (awake_any _).mono ?_
  rintro e w5 ⟨rfl, hb5⟩
  have H5 := Lib.hid (H2.out.trans (hb5.mono H2.out.size))
  clear hb5
  go_wp2
  go_ret
  exact ⟨rfl, H5.out⟩

theorem lawGaps_any (p m n : Int) (w : World) :
    Calls Try.prog 9 #[.int .i64 p, .int .i64 m, .int .i64 n] w fun e w' => e = .returned (.bool true) ∧ Below w.heap.size w w' := by
  by_cases h : isPts p m n = true
  · obtain ⟨h1, h2, h3, h4, h5, h6, h7⟩ := isPts_yes h
    obtain ⟨p, rfl⟩ : ∃ q : Nat, p = (q : Int) := ⟨p.toNat, by omega⟩
    obtain ⟨m, rfl⟩ : ∃ q : Nat, m = (q : Int) := ⟨m.toNat, by omega⟩
    obtain ⟨n, rfl⟩ : ∃ q : Nat, n = (q : Int) := ⟨n.toNat, by omega⟩
    exact lawGaps_yes p m n w h
  · exact lawGaps_no p m n w (by simpa using h)
end Go.Proofs.Ytbdabpmpfciibaa
