/- The walks of Polygon and Pure. Condition: the slice lies in memory. -/
import Derived.Test.YtjlaclbgfidiiaaBound
namespace Go.Proofs.Ytjlaclbgfidiiaa
open Go.RowKit
attribute [local go_sem] Oper.semAt_some

theorem nth_snoc (L : List (Int × Int)) (p : Int × Int) (j : Nat) : nth (L ++ [p]) j = if j < L.length then nth L j else if j = L.length then p else (0, 0) := by
  unfold nth
  simp only [List.getD]
  by_cases h : j < L.length
  · rw [if_pos h, List.getElem?_append_left h]
  · rw [if_neg h, List.getElem?_append_right (by omega)]
    by_cases h2 : j = L.length
    · rw [if_pos h2, h2, Nat.sub_self]; rfl
    · rw [if_neg h2, List.getElem?_eq_none (by simp; omega)]; rfl
theorem pts_below (f : List Int) (q : Nat) : ∀ (k j : Nat), j < (ptsP f q k).length → 0 ≤ (nth (ptsP f q k) j).1 ∧ (nth (ptsP f q k) j).1 < (k : Int) ∧ 0 ≤ (nth (ptsP f q k) j).2 ∧ (nth (ptsP f q k) j).2 ≤ 40
  | 0, j, h => absurd h (by simp [ptsP])
  | k + 1, j, h => by
    have ih := pts_below f q k j
    have ho := ordF_le q 40 (f.getD k 0)
    by_cases hz : f.getD k 0 = 0
    · rw [ptsP_no hz] at h ⊢
      have := ih h
      omega
    · rw [ptsP_yes hz] at h ⊢
      rw [nth_snoc]
      rw [List.length_append, List.length_singleton] at h
      by_cases hj : j < (ptsP f q k).length
      · rw [if_pos hj]
        have := ih hj
        omega
      · rw [if_neg hj, if_pos (by omega)]
        simp only
        omega
theorem pts_sorted (f : List Int) (q : Nat) : ∀ (k i j : Nat), i < j → j < (ptsP f q k).length → (nth (ptsP f q k) i).1 < (nth (ptsP f q k) j).1
  | 0, i, j, _, h => absurd h (by simp [ptsP])
  | k + 1, i, j, hij, h => by
    have ih := pts_sorted f q k i j hij
    by_cases hz : f.getD k 0 = 0
    · rw [ptsP_no hz] at h ⊢
      exact ih h
    · rw [ptsP_yes hz] at h ⊢
      rw [nth_snoc, nth_snoc]
      rw [List.length_append, List.length_singleton] at h
      by_cases hj : j < (ptsP f q k).length
      · rw [if_pos hj, if_pos (by omega)]
        exact ih hj
      · rw [if_neg hj, if_pos (by omega), if_pos (by omega)]
        exact (pts_below f q k i (by omega)).2.1
theorem pts_ok (f : List Int) (q k : Nat) (hk : k ≤ 20) : okL (ptsP f q k) :=
  ⟨fun j hj => by have := pts_below f q k j hj; unfold okP; omega, fun i j => pts_sorted f q k i j⟩
/-- The sides of f's polygon at q. -/
def polyS (f : List Int) (q : Nat) : List Sd := hullF (ptsP f q f.length).length (ptsP f q f.length)
theorem Row4.mono {B B' : Nat} {v : Value} {S : List Sd} {W : World} (h : Row4 B v S W) (hb : B' ≤ B) : Row4 B' v S W := Joins.ownsRow_le h hb

theorem Polygon_no (p : Int) (a : Option Addr) (n c : Nat) (f : List Int) (w : World) (h : Ints w a n f) (hn : n ≤ 4611686018427387904) (hno : (isPr p && isPoly f) = false) :
    Calls Try.prog 26 #[.slice a n c, .int .i64 p] w fun e w' => e = .returned (.tuple #[.slice none 0 0, .int .i64 2]) ∧ ∃ q, w' = w.drewN q := by
  have hP := fun w => validPrime_any p w
  have hV := valid_any a n c f w h hn
  cases hpk : isPr p with
  | false =>
    rw [hpk] at hP
    have HP := Lib.hid hP
    clear hP hV hno h hpk
    go_enter Try.func26, Try.ntmps26
    go_wp2_with fail
    refine (HP.out _).mono ?_
    rintro e w1 ⟨rfl, rfl⟩
    go_wp2
    go_ret2
    exact ⟨rfl, 0, rfl⟩
  | true =>
    rw [hpk, Bool.true_and] at hno
    rw [hpk] at hP
    rw [hno] at hV
    have HP := Lib.hid hP
    have HV := Lib.hid hV
    clear hP hV hno h hpk
    go_enter Try.func26, Try.ntmps26
    go_wp2_with fail
    refine (HP.out _).mono ?_
    rintro e w1 ⟨rfl, rfl⟩
    go_wp2_with fail
    refine HV.out.mono ?_
    rintro e w1 ⟨rfl, q, rfl⟩
    go_wp2
    go_ret2
    exact ⟨rfl, q, rfl⟩

set_option maxHeartbeats 4000000 in
set_option maxRecDepth 100000 in
theorem Polygon_yes (p : Nat) (a : Option Addr) (n c : Nat) (f : List Int) (w : World) (h : Ints w a n f) (hp : isPr (p : Int) = true) (p2 : 2 ≤ p) (p13 : p ≤ 13) (hf : isPoly f = true) :
    Calls Try.prog 26 #[.slice a n c, .int .i64 (p : Int)] w fun e w' => (∃ v, e = .returned (.tuple #[v, .int .i64 0]) ∧ Row4 w.heap.size v (polyS f p) w') ∧ Below w.heap.size w w' := by
  have hP := fun w => validPrime_any (p : Int) w
  obtain ⟨g1, g2, g3⟩ := poly_bounds h.1 hf
  have hV := valid_any a n c f w h (by omega)
  rw [hp] at hP
  rw [hf] at hV
  have hT := fun q => points_any a n c f p (w.drewN q) (h.below (drew_below w q)) (by omega) (fun j hj => ⟨by have := (g3 j hj).1; omega, by have := (g3 j hj).2; omega⟩) p2 p13
  have hok := pts_ok f p n (by omega)
  have hlen := ptsP_len f p n
  have hS : polyS f p = hullF (ptsP f p n).length (ptsP f p n) := by unfold polyS; rw [h.1]
  obtain ⟨L, hL⟩ : ∃ L, ptsP f p n = L := ⟨_, rfl⟩
  rw [hL] at hT hok hlen hS
  rw [hS]
  have HP := Lib.hid hP
  have HV := Lib.hid hV
  have HT := Lib.hid hT
  have HOK := Lib.hid hok
  have HL := Lib.hid (show L.length ≤ 20 by omega)
  clear hP hV hT hf h hp g3 hL hok hS hlen
  go_enter Try.func26, Try.ntmps26
  go_wp2_with fail
  refine (HP.out _).mono ?_
  rintro e w1 ⟨rfl, rfl⟩
  go_wp2_with fail
  refine HV.out.mono ?_
  rintro e w1 ⟨rfl, q, rfl⟩
  go_wp2_with fail
  refine (HT.out q).mono ?_
  rintro e w1 ⟨⟨v, rfl, hr⟩, hb⟩
  obtain ⟨a2, c2, rfl, h1, h2, hp2⟩ := hr.prs
  have HB1 := Lib.hid ((drew_below w q).trans hb)
  have HBD := Lib.hid (boundary_any a2 L.length c2 L w1 hp2 HL.out h1 h2 HOK.out)
  clear hr hb h1 h2 hp2
  go_wp2_with fail
  refine HBD.out.mono ?_
  rintro e w2 ⟨⟨v, rfl, hr⟩, hb⟩
  have HF := Lib.hid (And.intro (hr.mono HB1.out.size) (HB1.out.trans (hb.mono HB1.out.size)))
  clear hr hb
  go_wp2
  go_ret2
  exact ⟨⟨v, rfl, HF.out.1⟩, HF.out.2⟩

/-- What Pure says. -/
def pureF (f : List Int) (q : Nat) : Bool := !decide (f.getD 0 0 = 0) && decide ((polyS f q).length = 1) && decide ((nth4 (polyS f q) 0).2.2.2 = (f.length : Int) - 1)

theorem Pure_no (p : Int) (a : Option Addr) (n c : Nat) (f : List Int) (w : World) (h : Ints w a n f) (hn : n ≤ 4611686018427387904) (hno : (isPr p && isPoly f) = false) :
    Calls Try.prog 28 #[.slice a n c, .int .i64 p] w fun e w' => e = .returned (.tuple #[.bool false, .int .i64 2]) ∧ ∃ q, w' = w.drewN q := by
  have HP := Lib.hid (Polygon_no p a n c f w h hn hno)
  clear h hno
  go_enter Try.func28, Try.ntmps28
  go_wp2_with fail
  refine HP.out.mono ?_
  rintro e w1 ⟨rfl, q, rfl⟩
  go_wp2
  go_ret2
  exact ⟨rfl, q, rfl⟩

set_option maxHeartbeats 8000000 in
set_option maxRecDepth 100000 in
theorem Pure_yes (p : Nat) (a : Option Addr) (n c : Nat) (f : List Int) (w : World) (h : Ints w a n f) (hp : isPr (p : Int) = true) (p2 : 2 ≤ p) (p13 : p ≤ 13) (hf : isPoly f = true) :
    Calls Try.prog 28 #[.slice a n c, .int .i64 (p : Int)] w fun e w' => e = .returned (.tuple #[.bool (pureF f p), .int .i64 0]) ∧ Below w.heap.size w w' := by
  have HP := Lib.hid (Polygon_yes p a n c f w h hp p2 p13 hf)
  obtain ⟨g1, g2, g3⟩ := poly_bounds h.1 hf
  obtain ⟨b, off, hab, hbl, hcc⟩ := h.at (by omega)
  subst hab
  have hc0 := hcc 0 (by omega)
  have HL := Lib.hid h.1
  rw [Nat.add_zero] at hc0
  have hpf : pureF f p = (!decide (f.getD 0 0 = 0) && decide ((polyS f p).length = 1) && decide ((nth4 (polyS f p) 0).2.2.2 = (n : Int) - 1)) := by unfold pureF; rw [h.1]
  rw [hpf]
  obtain ⟨x, hx⟩ : ∃ x, f.getD 0 0 = x := ⟨_, rfl⟩
  obtain ⟨S, hS⟩ : ∃ S, polyS f p = S := ⟨_, rfl⟩
  rw [hx] at hc0 ⊢
  rw [hS] at HP ⊢
  have HC := Lib.hid hc0
  have HBL := Lib.hid hbl
  have l0 : (0 : Int) < (n : Int) := by omega
  have l1 : 0 < n := by omega
  clear h hp hf g3 hcc hc0 hbl hpf hx hS
  go_enter Try.func28, Try.ntmps28
  go_wp2_with fail
  refine HP.out.mono ?_
  rintro e w1 ⟨⟨v, rfl, hr⟩, hb⟩
  have hc1 := (hb.cell (p := ⟨b, off, none⟩) HBL.out).trans HC.out
  have HB := Lib.hid hb
  clear hb
  by_cases hx : x = 0
  · subst hx
    obtain ⟨a2, c2, rfl, -⟩ := hr.form
    clear hr
    go_wp2
    go_ret2
    exact ⟨by simp, HB.out⟩
  · have hxn : (x != 0) = true := by simp; omega
    by_cases hS1 : S.length = 1
    · obtain ⟨a2, c2, rfl, h1, h2, ⟨-, h3, -⟩ | ⟨g, rfl, h3, h4⟩⟩ := hr.form
      · rw [h3] at hS1; cases hS1
      · obtain ⟨-, -, -, hc3⟩ := hr.cell (j := 0) (by omega)
        rw [Nat.zero_mul, Nat.zero_add] at hc3
        obtain ⟨D, hD⟩ : ∃ D, (nth4 S 0).2.2.2 = D := ⟨_, rfl⟩
        rw [hD] at hc3
        have HD := Lib.hid hD
        have HS1 := Lib.hid hS1
        have hSi : (S.length : Int) = 1 := by omega
        have hSb : ((S.length : Int) == 1) = true := by simp; omega
        have hSl : 0 < S.length := by omega
        have hSl2 : (0 : Int) < (S.length : Int) := by omega
        have hSl3 : ¬ S.length = 0 := by omega
        clear hr h3 h4 h1 h2 hD hS1
        go_wp2
        go_ret2
        exact ⟨by simp [hx, HS1.out, HD.out]; first | done | rfl | exact (Bool.beq_eq_decide_eq _ _) | exact beq_eq_decide _ _, HB.out⟩
    · obtain ⟨a2, c2, rfl, -⟩ := hr.form
      have hSn : ¬ ((S.length : Int) = 1) := by omega
      have hSb : ((S.length : Int) == 1) = false := by simp; omega
      clear hr
      go_wp2
      go_ret2
      exact ⟨by simp [hS1], HB.out⟩
end Go.Proofs.Ytjlaclbgfidiiaa
