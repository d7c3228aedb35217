/- The walk of numeral.Gaps: the documented result, or the documented error; that of slices.Equal at pairs. No condition. -/
import Derived.Test.YtbdabpmpfciibaaGap3
import Derived.Test.YtbdabpmpfciibaaColds
namespace Go.Proofs.Ytbdabpmpfciibaa
open Go.RowKit
attribute [local go_sem] Oper.semAt_some

/-- What Gaps hands back. -/
def gpL (p m n : Nat) : List (Int × Int) := canL (cF (tf p m n) m (plN p m n)) (m + 1)
theorem cF_pos {p m n : Nat} (hm : 1 ≤ m) (hn : 1 ≤ n) : ∃ d, 0 < cF (tf p m n) m (plN p m n) d := by
  have h0 : (0 : Nat) ∈ plN p m n := plN_mem (by omega) (by
    unfold tf
    rw [List.any_eq_true]
    exact ⟨0, List.mem_range.2 (by omega), by simp⟩)
  refine ⟨nx (tf p m n) m 0 - 0, ?_⟩
  unfold cF
  rw [List.countP_pos_iff]
  exact ⟨0, h0, by simp⟩
theorem gpL_pos {p m n : Nat} (hm : 1 ≤ m) (hn : 1 ≤ n) : 0 < (gpL p m n).length := by
  have h0 : (0 : Nat) ∈ plN p m n := plN_mem (by omega) (by
    unfold tf
    rw [List.any_eq_true]
    exact ⟨0, List.mem_range.2 (by omega), by simp⟩)
  have hs := nx_spec (tf p m n) (show 0 < m by omega)
  refine List.length_pos_of_mem (a := (((nx (tf p m n) m 0 - 0 : Nat) : Int), (cF (tf p m n) m (plN p m n) (nx (tf p m n) m 0 - 0) : Int))) ?_
  unfold gpL
  rw [canL_mem]
  refine ⟨_, by omega, ?_, rfl⟩
  unfold cF
  rw [List.countP_pos_iff]
  exact ⟨0, h0, by simp⟩

set_option maxHeartbeats 8000000 in
set_option maxRecDepth 100000 in
theorem Gaps_yes (p m n : Nat) (w : World) (h : isPts p m n = true) :
    Calls Try.prog 52 #[.int .i64 (p : Int), .int .i64 (m : Int), .int .i64 (n : Int)] w fun e w' => ∃ g c, e = .returned (.tuple #[.slice (some ⟨g, 0, none⟩) (gpL p m n).length c, .int .i64 0]) ∧ Sl2 w' g (gpL p m n) ∧ Below w.heap.size w w' ∧ g < w'.heap.size := by
  obtain ⟨h1, h2, h3, h4, h5, h6, h7⟩ := isPts_yes h
  rw [show (p : Int).toNat = p by omega, show (m : Int).toNat = m by omega] at h7
  have HCP := Lib.hid (coprime_any p m w (by omega) (by omega))
  rw [h7] at HCP
  have HG := Lib.hid (fun w => gaps_any p m n w (by omega) (by omega) (by omega) (by omega) (by omega) h7)
  have hn1000 : n ≤ 1000 := by omega
  have HPOS := Lib.hid (cF_pos (p := p) (m := m) (n := n) (by omega) (by omega))
  have g1 : ¬ (m : Int) < 2 := by omega
  have g2 : ¬ (1000 : Int) < (m : Int) := by omega
  have g3 : ¬ (p : Int) < 1 := by omega
  have g4 : ¬ (m : Int) ≤ (p : Int) := by omega
  have g5 : ¬ (n : Int) < 1 := by omega
  have g6 : ¬ (m : Int) < (n : Int) := by omega
  clear h h1 h2 h3 h4 h5 h6 h7
  go_enter Try.func52, Try.ntmps52
  go_wp2_with fail
  refine HCP.out.mono ?_
  rintro e w1 ⟨rfl, hb1⟩
  have HB1 := Lib.hid hb1
  clear hb1
  go_wp2_with fail
  refine (HG.out _).mono ?_
  rintro e w2 ⟨b, D, rfl, hown, hmap, hb2, -⟩
  have HB2 := Lib.hid (HB1.out.trans (hb2.mono HB1.out.size))
  have HC := Lib.hid (counted_any b n m D _ w2 hown hmap hn1000 HPOS.out)
  clear hown hmap hb2
  go_wp2_with fail
  refine HC.out.mono ?_
  rintro e w3 ⟨g, c, rfl, hs, hb3, hg⟩
  have HF := Lib.hid (And.intro hs (And.intro (HB2.out.trans (hb3.mono HB2.out.size)) hg))
  clear hs hb3 hg HC
  go_wp2
  go_ret2
  exact ⟨g, c, rfl, HF.out.1, HF.out.2.1, HF.out.2.2⟩

set_option maxHeartbeats 8000000 in
set_option maxRecDepth 100000 in
theorem Gaps_no (p m n : Int) (w : World) (h : isPts p m n = false) :
    Calls Try.prog 52 #[.int .i64 p, .int .i64 m, .int .i64 n] w fun e w' => e = .returned (.tuple #[.slice none 0 0, .int .i64 2]) ∧ Below w.heap.size w w' := by
  have hno : ¬ (2 ≤ m ∧ m ≤ 1000 ∧ 1 ≤ p ∧ p < m ∧ 1 ≤ n ∧ n ≤ m ∧ Nat.gcd p.toNat m.toNat = 1) := fun hh => by rw [isPts_mk hh] at h; exact absurd h (by simp)
  by_cases h1 : 2 ≤ m
  · by_cases h2 : m ≤ 1000
    · by_cases h3 : 1 ≤ p
      · by_cases h4 : p < m
        · by_cases h5 : 1 ≤ n
          · by_cases h6 : n ≤ m
            · have h7 : ¬ Nat.gcd p.toNat m.toNat = 1 := fun hh => hno ⟨h1, h2, h3, h4, h5, h6, hh⟩
              have HCP := Lib.hid (coprime_any p.toNat m.toNat w (by omega) (by omega))
              rw [show ((p.toNat : Nat) : Int) = p by omega, show ((m.toNat : Nat) : Int) = m by omega, show (Nat.gcd p.toNat m.toNat == 1) = false from beq_eq_false_iff_ne.2 h7] at HCP
              clear h hno h7
              go_enter Try.func52, Try.ntmps52
              go_wp2_with fail
              refine HCP.out.mono ?_
              rintro e w1 ⟨rfl, hb1⟩
              have HB1 := Lib.hid hb1
              clear hb1
              go_wp2
              go_ret2
              exact ⟨rfl, HB1.out⟩
            · clear h hno
              go_enter Try.func52, Try.ntmps52
              go_wp2
              go_ret2
              exact ⟨rfl, Below.refl _ _⟩
          · clear h hno
            go_enter Try.func52, Try.ntmps52
            go_wp2
            go_ret2
            exact ⟨rfl, Below.refl _ _⟩
        · clear h hno
          go_enter Try.func52, Try.ntmps52
          go_wp2
          go_ret2
          exact ⟨rfl, Below.refl _ _⟩
      · clear h hno
        go_enter Try.func52, Try.ntmps52
        go_wp2
        go_ret2
        exact ⟨rfl, Below.refl _ _⟩
    · clear h hno
      go_enter Try.func52, Try.ntmps52
      go_wp2
      go_ret2
      exact ⟨rfl, Below.refl _ _⟩
  · clear h hno
    go_enter Try.func52, Try.ntmps52
    go_wp2
    go_ret2
    exact ⟨rfl, Below.refl _ _⟩

set_option maxRecDepth 100000 in
set_option maxHeartbeats 1000000 in
theorem equal2_same (L : List (Int × Int)) (hL : L.length ≤ 200000) (g1 g2 c1 c2 : Nat) (w : World) (h1 : Sl2 w g1 L) (h2 : Sl2 w g2 L) :
    Calls Try.prog 54 #[.slice (some ⟨g1, 0, none⟩) L.length c1, .slice (some ⟨g2, 0, none⟩) L.length c2] w fun e w' => e = .returned (.bool true) ∧ Below w.heap.size w w' := by
  obtain ⟨n, hn⟩ : ∃ n, L.length = n := ⟨_, rfl⟩
  rw [hn]
  have H1 := Lib.hid h1
  have H2 := Lib.hid h2
  have HN := Lib.hid hn
  rw [hn] at hL
  clear h1 h2 hn
  go_enter Try.func54, Try.ntmps54
  go_wp2
  go_loopg [13] n (fun gk i wr => ∃ (y : Nat) (q : Nat), y + gk = n ∧ i = .int .i64 (y : Int) ∧ wr = w.drewN q)
  case atStart => exact ⟨0, 0, by omega, rfl, rfl⟩
  case round =>
    obtain ⟨y, q, hy, rfl, rfl⟩ := hrel
    by_cases hyn : y = n
    · have hge : (n : Int) ≤ (y : Int) := by omega
      have hge2 : n ≤ y := by omega
      clear hyn
      go_wp2
      go_ret
      exact ⟨rfl, below_drewN (Below.refl _ _) q⟩
    · have hlt : (y : Int) < (n : Int) := by omega
      have hlt2 : y < n := by omega
      obtain ⟨a1, a2⟩ := H1.out y (by have := HN.out; omega)
      obtain ⟨b1, b2⟩ := H2.out y (by have := HN.out; omega)
      have y0 : (0 : Int) ≤ (y : Int) := by omega
      clear hyn
      have g44 := guard46
      have n44 := neq46
      go_wp2
      go_quiet (fail)
      go_wp2
      go_roundg (gk - 1)
      case rel => exact ⟨y + 1, q + nq, by omega, by go_num, rfl⟩
      case measure => omega
end Go.Proofs.Ytbdabpmpfciibaa
