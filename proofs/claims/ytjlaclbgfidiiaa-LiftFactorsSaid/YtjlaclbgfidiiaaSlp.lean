/- Rows of fractions; the walk of Slopes. Condition: the slice lies in memory. -/
import Derived.Test.YtjlaclbgfidiiaaPg
namespace Go.Proofs.Ytjlaclbgfidiiaa
open Go.RowKit
attribute [local go_sem] Oper.semAt_some

/-- A row of fractions of the call's own. -/
def RowF (B : Nat) (v : Value) (S : List (Int × Int)) (W : World) : Prop := W.ownsRow B 48 2 v S.length (fl S)
theorem RowF.nil (B : Nat) (W : World) : RowF B (.slice none 0 0) [] W := World.ownsRow_nil _ _ _ _
theorem RowF.later {B : Nat} {v : Value} {S : List (Int × Int)} {W W' : World} (h : RowF B v S W) (hb : Below W.heap.size W W') : RowF B v S W' := own_later h hb
theorem RowF.mono {B B' : Nat} {v : Value} {S : List (Int × Int)} {W : World} (h : RowF B v S W) (hb : B' ≤ B) : RowF B' v S W := Joins.ownsRow_le h hb
theorem RowF.cell {B g n c : Nat} {S : List (Int × Int)} {W : World} (h : RowF B (.slice (some ⟨g, 0, none⟩) n c) S W) {j : Nat} (hj : j < S.length) :
    W.cell? ⟨g, j * 2, none⟩ = some (.int .i64 (nth S j).1) ∧ W.cell? ⟨g, j * 2 + 1, none⟩ = some (.int .i64 (nth S j).2) := by
  have hl : n = S.length := by
    rcases h.2 with ⟨h1, -⟩ | ⟨g', cap, cur, h1, -⟩
    · cases h1
    · cases h1; rfl
  subst hl
  obtain ⟨a, b⟩ := fl_at S j hj
  constructor
  · rw [h.cellAt (j * 2) (by omega)]; exact a
  · rw [h.cellAt (j * 2 + 1) (by omega)]; exact b
theorem RowF.form {B : Nat} {v : Value} {S : List (Int × Int)} {W : World} (h : RowF B v S W) : ∃ a c, v = .slice a S.length c ∧ S.length ≤ c ∧ c ≤ maxLen ∧ ((a = none ∧ S = [] ∧ c = 0) ∨ ∃ g, a = some ⟨g, 0, none⟩ ∧ B ≤ g ∧ g < W.heap.size) := by
  rcases h.2 with ⟨h1, h2⟩ | ⟨g, cap, cur, h1, h2, h3, h4, h5, h6, h7⟩
  · have : S = [] := List.length_eq_zero_iff.1 h2
    subst this
    exact ⟨none, 0, h1, Nat.le_refl _, by unfold maxLen; omega, .inl ⟨rfl, rfl, rfl⟩⟩
  · exact ⟨_, cap, h1, h4, h5, .inr ⟨g, rfl, h2, (Array.getElem?_eq_some_iff.1 h3).1⟩⟩
theorem RowF.prs {B : Nat} {v : Value} {S : List (Int × Int)} {W : World} (h : RowF B v S W) : ∃ a c, v = .slice a S.length c ∧ S.length ≤ c ∧ c ≤ maxLen ∧ Prs W a S.length S := by
  obtain ⟨a, c, rfl, h1, h2, ⟨rfl, rfl, rfl⟩ | ⟨g, rfl, h3, h4⟩⟩ := h.form
  · exact ⟨_, _, rfl, h1, h2, Prs.nil _ _⟩
  · refine ⟨_, _, rfl, h1, h2, rfl, .inr ⟨g, 0, rfl, h4, fun j hj => ?_⟩⟩
    rw [Nat.zero_add]
    exact h.cell hj
theorem info48 : (Try.prog.info? 48).map (fun i => (i.zero, i.size, i.bytes)) = some (some (.agg #[.int .i64 0, .int .i64 0]), 2, 16) := by kernel_rfl

/-- The slopes of the first k sides, each as often as its side is wide. -/
def slP (S : List Sd) : Nat → List (Int × Int)
  | 0 => []
  | k + 1 => slP S k ++ List.replicate ((nth4 S k).2.1 - (nth4 S k).1).toNat ((nth4 S k).2.2.1, (nth4 S k).2.2.2)
def slopesF (S : List Sd) : List (Int × Int) := slP S S.length
theorem rep_snoc (x : Int × Int) (j : Nat) : List.replicate (j + 1) x = List.replicate j x ++ [x] := List.replicate_succ'

/-- Sides of small numbers. -/
def okS (p : Sd) : Prop := 0 ≤ p.1 ∧ p.1 < p.2.1 ∧ p.2.1 ≤ 100 ∧ -1000 ≤ p.2.2.1 ∧ p.2.2.1 ≤ 1000 ∧ 1 ≤ p.2.2.2 ∧ p.2.2.2 ≤ 100
theorem side_ok {a b : Int × Int} (ha : okP a) (hb : okP b) (hab : a.1 < b.1) : okS (sideF a b) := by
  obtain ⟨a1, a2, a3, a4⟩ := ha
  obtain ⟨b1, b2, b3, b4⟩ := hb
  obtain ⟨g, N, D, hg, eN, eD, g1, -, h5, h6, -, -, n0, n1, d0, d1⟩ := fr_facts (n := b.2 - a.2) (d := b.1 - a.1) (by omega) (by omega) (by omega) (by omega)
  unfold okS sideF
  simp only [eN, eD]
  omega
theorem hull_ok : ∀ (k : Nat) (L : List (Int × Int)), okL L → (hullF k L).length ≤ L.length ∧ ∀ j, j < (hullF k L).length → okS (nth4 (hullF k L) j)
  | 0, L, _ => ⟨by simp [hullF], fun j hj => absurd hj (by simp [hullF])⟩
  | k + 1, L, h => by
    by_cases hl : L.length ≤ 1
    · rw [hullF_small hl]; exact ⟨by simp, fun j hj => absurd hj (by simp)⟩
    · rw [hullF_step hl]
      obtain ⟨e1, e2⟩ := endE_le L L.length
      obtain ⟨i1, i2⟩ := hull_ok k (L.drop (endE L L.length)) (h.drop _)
      rw [List.length_drop] at i1
      refine ⟨by rw [List.length_cons]; omega, fun j hj => ?_⟩
      rw [List.length_cons] at hj
      cases j with
      | zero => exact side_ok (h.1 0 (by omega)) (h.1 _ (by omega)) (h.2 0 _ (by omega) (by omega))
      | succ j => exact i2 j (by omega)
theorem poly_ok {f : List Int} {q : Nat} (hf : f.length ≤ 20) : (polyS f q).length ≤ 20 ∧ ∀ j, j < (polyS f q).length → okS (nth4 (polyS f q) j) := by
  have h1 := ptsP_len f q f.length
  obtain ⟨h2, h3⟩ := hull_ok (ptsP f q f.length).length (ptsP f q f.length) (pts_ok f q f.length hf)
  exact ⟨by unfold polyS; omega, h3⟩
theorem slP_len {S : List Sd} (h : ∀ j, j < S.length → okS (nth4 S j)) : ∀ k, k ≤ S.length → (slP S k).length ≤ k * 100
  | 0, _ => by simp [slP]
  | k + 1, hk => by
    have ih := slP_len h k (by omega)
    obtain ⟨h1, h2, h3, -⟩ := h k (by omega)
    simp only [slP, List.length_append, List.length_replicate]
    omega
theorem cell_of_block {w w' : World} {g o : Nat} (h : w'.heap[g]? = w.heap[g]?) : w'.cell? ⟨g, o, none⟩ = w.cell? ⟨g, o, none⟩ := by
  unfold World.cell?
  simp only [h]

set_option maxHeartbeats 8000000 in
set_option maxRecDepth 100000 in
theorem Slopes_yes (p : Nat) (a : Option Addr) (n c : Nat) (f : List Int) (w : World) (h : Ints w a n f) (hp : isPr (p : Int) = true) (p2 : 2 ≤ p) (p13 : p ≤ 13) (hf : isPoly f = true) :
    Calls Try.prog 27 #[.slice a n c, .int .i64 (p : Int)] w fun e w' => (∃ v, e = .returned (.tuple #[v, .int .i64 0]) ∧ RowF w.heap.size v (slopesF (polyS f p)) w') ∧ Below w.heap.size w w' := by
  have HP := Lib.hid (Polygon_yes p a n c f w h hp p2 p13 hf)
  obtain ⟨g1, g2, -⟩ := poly_bounds h.1 hf
  obtain ⟨s1, s2⟩ := poly_ok (f := f) (q := p) (by have := h.1; omega)
  obtain ⟨S, hS⟩ : ∃ S, polyS f p = S := ⟨_, rfl⟩
  rw [hS] at HP s1 s2
  rw [hS]
  have HS2 := Lib.hid s2
  have HLN := Lib.hid (slP_len s2)
  clear h hp hf s2 hS
  go_enter Try.func27, Try.ntmps27
  go_wp2_with fail
  refine HP.out.mono ?_
  rintro e w1 ⟨⟨v, rfl, hr⟩, hb⟩
  obtain ⟨a2, c2, rfl, h1, h2, h3⟩ := hr.form
  have HR := Lib.hid hr
  have HB := Lib.hid hb
  have HFM := Lib.hid h3
  clear hr hb h3
  go_wp2
  go_loopg [8, 10, 22] S.length (fun gk s8 s10 s22 wr => ∃ k : Nat, k + gk = S.length ∧ s22 = .int .i64 (k : Int) ∧ RowF w1.heap.size s8 (slP S k) wr ∧ Below w1.heap.size w1 wr)
  case atStart => exact ⟨0, by omega, rfl, RowF.nil _ _, Below.refl _ _⟩
  case round =>
    obtain ⟨k, hk, rfl, hr, hb⟩ := hrel
    have HK := Lib.hid hk
    have HRR := Lib.hid hr
    have HBB := Lib.hid hb
    by_cases hlt : k < S.length
    · have l1 : (k : Int) < (S.length : Int) := by omega
      have l0 : (0 : Int) ≤ (k : Int) := by omega
      rcases HFM.out with ⟨-, h3, -⟩ | ⟨g, hg, -, hgl⟩
      · rw [h3] at hlt; exact absurd hlt (by simp)
      · subst hg
        obtain ⟨k0, k1, k2, k3⟩ := HR.out.cell hlt
        have t0 := (hb.cell (p := ⟨g, k * 4, none⟩) hgl).trans k0
        have t1 := (hb.cell (p := ⟨g, k * 4 + 1, none⟩) hgl).trans k1
        have t2 := (hb.cell (p := ⟨g, k * 4 + 2, none⟩) hgl).trans k2
        have t3 := (hb.cell (p := ⟨g, k * 4 + 3, none⟩) hgl).trans k3
        have hok := HS2.out k hlt
        obtain ⟨⟨x0, x1, x2, x3⟩, hx⟩ : ∃ x, nth4 S k = x := ⟨_, rfl⟩
        rw [hx] at t0 t1 t2 t3 hok
        obtain ⟨o1, o2, o3, -⟩ := hok
        simp only at t0 t1 t2 t3 o1 o2 o3
        clear hk hr hb k0 k1 k2 k3
        obtain ⟨cn, hcn⟩ : ∃ cn : Nat, (x1 - x0).toNat = cn := ⟨_, rfl⟩
        have hci : x1 - x0 = (cn : Int) := by omega
        have HST := Lib.hid (show slP S (k + 1) = slP S k ++ List.replicate cn (x2, x3) by simp only [slP, hx, hcn])
        have HLK := Lib.hid (show (slP S k).length ≤ 2000 by have := HLN.out k (by omega); omega)
        have hc100 : cn ≤ 100 := by omega
        obtain ⟨q0, q1, q2, q3⟩ := cell_four wr (.int .i64 x0) (.int .i64 x1) (.int .i64 x2) (.int .i64 x3) 69
        have hsz := HBB.out.size
        have hG : wr.heap.size < (wr.alloc (.cells #[.int .i64 x0, .int .i64 x1, .int .i64 x2, .int .i64 x3] 69)).heap.size := by simp
        have HB0 := Lib.hid (HBB.out.alloc hsz (.cells #[.int .i64 x0, .int .i64 x1, .int .i64 x2, .int .i64 x3] 69))
        have HR0 := Lib.hid (show RowF w1.heap.size u8 (slP S k) (wr.alloc (.cells #[.int .i64 x0, .int .i64 x1, .int .i64 x2, .int .i64 x3] 69)) from World.ownsRow.alloc (h := HRR.out) _)
        have HOB := Lib.hid (show u8.ownBlock ≠ some wr.heap.size from fun e => by have := (World.ownsRow.lt HRR.out _ e).2; omega)
        clear hcn hx o1 o2 o3 q0 q1
        go_wp2
        try rw [hci]
        obtain ⟨G, hGG⟩ : ∃ G, wr.heap.size = G := ⟨_, rfl⟩
        rw [hGG] at q2 q3 hG HOB hsz ⊢
        obtain ⟨W0, hW0⟩ : ∃ W0, wr.alloc (.cells #[.int .i64 x0, .int .i64 x1, .int .i64 x2, .int .i64 x3] 69) = W0 := ⟨_, rfl⟩
        rw [hW0] at q2 q3 hG HB0 HR0 ⊢
        have HQ := Lib.hid (And.intro q2 (And.intro q3 hG))
        clear q2 q3 hG hGG hW0 t0 t1 t2 t3 hci
        go_loopg [8, 31] cn (fun gk2 s8 s31 wr2 => ∃ j : Nat, j + gk2 = cn ∧ s31 = .int .i64 (j : Int) ∧ RowF w1.heap.size s8 (slP S k ++ List.replicate j (x2, x3)) wr2 ∧ Below w1.heap.size w1 wr2 ∧ s8.ownBlock ≠ some G ∧ wr2.cell? ⟨G, 2, none⟩ = some (.int .i64 x2) ∧ wr2.cell? ⟨G, 3, none⟩ = some (.int .i64 x3) ∧ G < wr2.heap.size)
        case atStart => exact ⟨0, by omega, rfl, by rw [List.replicate_zero, List.append_nil]; exact HR0.out, HB0.out, HOB.out, HQ.out.1, HQ.out.2.1, HQ.out.2.2⟩
        case round =>
          obtain ⟨j, hj, rfl, hr2, hb2, ho2, d2, d3, hG2⟩ := hrel
          have HJ := Lib.hid hj
          by_cases hlt2 : j < cn
          · have l2 : (j : Int) < (cn : Int) := by omega
            obtain ⟨i0, hi, hz0, hz1, hz2⟩ := info_parts info48
            have hr3 := hr2
            unfold RowF at hr3
            have hlen : (slP S k ++ List.replicate j (x2, x3)).length ≤ 2100 := by rw [List.length_append, List.length_replicate]; have := HLK.out; omega
            obtain ⟨Q, hQ⟩ : ∃ Q, (slP S k ++ List.replicate j (x2, x3)).length = Q := ⟨_, rfl⟩
            rw [hQ] at hr3 hlen
            have HQQ := Lib.hid hQ
            have hsz2 := hb2.size
            have HHB := Lib.hid hb2
            clear hr2 hQ hj hb2
            go_wp2_with (at_builtin; refine wpList_append_own_at _ rfl _ _ 39 rfl (w1.heap.size) 48 i0 (.agg #[.int .i64 0, .int .i64 0]) 2 16 Try.underlying39 hi hz0 hz1 hz2 rfl (by decide) _ _ _ rfl (World.ownsRow.alloc (h := hr3) _) ⟨wr.heap.size, 0, none⟩ 1 1 [.int .i64 x2, .int .i64 x3] rfl rfl (cell2_new _ _ _ _) (by simp [Value.oneCell']) (by unfold maxLen; omega) (by omega) (by simp; omega) ?_; intro v' w3 hown' hgrow _ hob)
            have hb3 : Below w1.heap.size w1 w3 := (HHB.out.alloc hsz2 _).grown hgrow (by first | (simp; done) | (simp; omega)) (fun j e => (World.ownsRow.lt hr3 j e).1)
            have hblk : w3.heap[G]? = (wr.alloc (.cells #[.int .i64 x2, .int .i64 x3] 48)).heap[G]? := hgrow.block G (by simp; omega) ho2.symm
            have e2 : w3.cell? ⟨G, 2, none⟩ = some (.int .i64 x2) := (cell_of_block hblk).trans (Lib.cell?_alloc_some _ d2)
            have e3 : w3.cell? ⟨G, 3, none⟩ = some (.int .i64 x3) := (cell_of_block hblk).trans (Lib.cell?_alloc_some _ d3)
            have hG3 : G < w3.heap.size := World.block_lt_of_cell? _ _ e2
            have ho3 : v'.ownBlock ≠ some G := by
              rcases hob with e | e
              · rw [e]; exact ho2
              · rw [e]; simp; omega
            have hrow : RowF w1.heap.size v' (slP S k ++ List.replicate (j + 1) (x2, x3)) w3 := by
              unfold RowF
              rw [rep_snoc, ← List.append_assoc, List.length_append, HQQ.out, fl_app]
              exact hown'
            have HF := Lib.hid (And.intro hrow (And.intro hb3 (And.intro ho3 (And.intro e2 (And.intro e3 hG3)))))
            clear hown' hgrow hob hb3 hblk e2 e3 hG3 ho3 hrow hr3
            go_wp2
            go_roundg (gk - 1)
            case rel => exact ⟨j + 1, by have := HJ.out; omega, by go_num, HF.out.1, HF.out.2.1, HF.out.2.2.1, HF.out.2.2.2.1, HF.out.2.2.2.2.1, HF.out.2.2.2.2.2⟩
            case measure => have := HJ.out; omega
          · have l2 : ¬ (j : Int) < (cn : Int) := by omega
            have hjc : j = cn := by omega
            have HF := Lib.hid (show RowF w1.heap.size u8 (slP S (k + 1)) wr by rw [HST.out, ← hjc]; exact hr2)
            have HHB := Lib.hid hb2
            clear hj hjc hr2 hb2
            go_wp2
            go_roundg (S.length - k - 1)
            case rel => exact ⟨k + 1, by have := HK.out; omega, by go_num, HF.out, HHB.out⟩
            case measure => have := HK.out; omega
    · have l1 : ¬ (k : Int) < (S.length : Int) := by omega
      have hkk : k = S.length := by omega
      have HF := Lib.hid (show RowF w.heap.size u8 (slopesF S) wr by unfold slopesF; rw [← hkk]; exact hr.mono HB.out.size)
      have HBF := Lib.hid (HB.out.trans (hb.mono HB.out.size))
      clear hk hkk hr hb
      go_wp2
      go_ret2
      exact ⟨⟨_, rfl, HF.out⟩, HBF.out⟩
end Go.Proofs.Ytjlaclbgfidiiaa
