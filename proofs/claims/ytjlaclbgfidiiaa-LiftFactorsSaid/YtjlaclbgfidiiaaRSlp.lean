/- The walks of the reference's Slopes and Pure. Conditions: the slice lies in memory and is a polynomial, the number is a prime. -/
import Derived.Test.YtjlaclbgfidiiaaRPoly
namespace Go.Proofs.Ytjlaclbgfidiiaa
open Go.RowKit
attribute [local go_sem] Oper.semAt_some

set_option maxHeartbeats 8000000 in
set_option maxRecDepth 100000 in
theorem slopesR_any (p : Nat) (a : Option Addr) (n c : Nat) (f : List Int) (w : World) (h : Ints w a n f) (p2 : 2 ≤ p) (p13 : p ≤ 13) (hf : isPoly f = true) :
    Calls Try.prog 34 #[.slice a n c, .int .i64 (p : Int)] w fun e w' => (∃ v, e = .returned v ∧ RowF w.heap.size v (slopesF (polyS f p)) w') ∧ Below w.heap.size w w' := by
  have HP := Lib.hid (polygonR_any a n c f p w h hf p2 p13)
  obtain ⟨g1, g2, -⟩ := poly_bounds h.1 hf
  obtain ⟨s1, s2⟩ := poly_ok (f := f) (q := p) (by have := h.1; omega)
  obtain ⟨S, hS⟩ : ∃ S, polyS f p = S := ⟨_, rfl⟩
  rw [hS] at HP s1 s2
  rw [hS]
  have HS2 := Lib.hid s2
  have HLN := Lib.hid (slP_len s2)
  clear h hf s2 hS
  go_enter Try.func34, Try.ntmps34
  go_wp2_with fail
  refine HP.out.mono ?_
  rintro e w1 ⟨⟨v, rfl, hr⟩, hb⟩
  obtain ⟨a2, c2, rfl, h1, h2, h3⟩ := hr.form
  have HR := Lib.hid hr
  have HB := Lib.hid hb
  have HFM := Lib.hid h3
  clear hr hb h3
  go_wp2
  go_loopg [5, 7, 12] S.length (fun gk s5 s7 s12 wr => ∃ k : Nat, k + gk = S.length ∧ s12 = .int .i64 (k : Int) ∧ RowF w1.heap.size s5 (slP S k) wr ∧ Below w1.heap.size w1 wr)
  case atStart => exact ⟨0, by omega, rfl, RowF.nil _ _, Below.refl _ _⟩
  case round =>
    obtain ⟨k, hk, rfl, hr, hb⟩ := hrel
    have HK := Lib.hid hk
    have HRR := Lib.hid hr
    have HBB := Lib.hid hb
    by_cases hlt : k < S.length
    · have l1 : (k : Int) < (S.length : Int) := by omega
      have l0 : (0 : Int) ≤ (k : Int) := by omega
      rcases HFM.out with ⟨-, h3, -⟩ | ⟨g, hg, -, hgl⟩
      · rw [h3] at hlt; exact absurd hlt (by simp)
      · subst hg
        obtain ⟨k0, k1, k2, k3⟩ := HR.out.cell hlt
        have t0 := (hb.cell (p := ⟨g, k * 4, none⟩) hgl).trans k0
        have t1 := (hb.cell (p := ⟨g, k * 4 + 1, none⟩) hgl).trans k1
        have t2 := (hb.cell (p := ⟨g, k * 4 + 2, none⟩) hgl).trans k2
        have t3 := (hb.cell (p := ⟨g, k * 4 + 3, none⟩) hgl).trans k3
        have hok := HS2.out k hlt
        obtain ⟨⟨x0, x1, x2, x3⟩, hx⟩ : ∃ x, nth4 S k = x := ⟨_, rfl⟩
        rw [hx] at t0 t1 t2 t3 hok
        obtain ⟨o1, o2, o3, -⟩ := hok
        simp only at t0 t1 t2 t3 o1 o2 o3
        clear hk hr hb k0 k1 k2 k3
        obtain ⟨cn, hcn⟩ : ∃ cn : Nat, (x1 - x0).toNat = cn := ⟨_, rfl⟩
        have hci : x1 - x0 = (cn : Int) := by omega
        have HST := Lib.hid (show slP S (k + 1) = slP S k ++ List.replicate cn (x2, x3) by simp only [slP, hx, hcn])
        have HLK := Lib.hid (show (slP S k).length ≤ 2000 by have := HLN.out k (by omega); omega)
        have hc100 : cn ≤ 100 := by omega
        obtain ⟨q0, q1, q2, q3⟩ := cell_four wr (.int .i64 x0) (.int .i64 x1) (.int .i64 x2) (.int .i64 x3) 50
        have hsz := HBB.out.size
        have hG : wr.heap.size < (wr.alloc (.cells #[.int .i64 x0, .int .i64 x1, .int .i64 x2, .int .i64 x3] 50)).heap.size := by simp
        have HB0 := Lib.hid (HBB.out.alloc hsz (.cells #[.int .i64 x0, .int .i64 x1, .int .i64 x2, .int .i64 x3] 50))
        have HR0 := Lib.hid (show RowF w1.heap.size u5 (slP S k) (wr.alloc (.cells #[.int .i64 x0, .int .i64 x1, .int .i64 x2, .int .i64 x3] 50)) from World.ownsRow.alloc (h := HRR.out) _)
        have HOB := Lib.hid (show u5.ownBlock ≠ some wr.heap.size from fun e => by have := (World.ownsRow.lt HRR.out _ e).2; omega)
        clear hcn hx o1 o2 o3 q0 q1
        go_wp2
        try rw [hci]
        obtain ⟨G, hGG⟩ : ∃ G, wr.heap.size = G := ⟨_, rfl⟩
        rw [hGG] at q2 q3 hG HOB hsz ⊢
        obtain ⟨W0, hW0⟩ : ∃ W0, wr.alloc (.cells #[.int .i64 x0, .int .i64 x1, .int .i64 x2, .int .i64 x3] 50) = W0 := ⟨_, rfl⟩
        rw [hW0] at q2 q3 hG HB0 HR0 ⊢
        have HQ := Lib.hid (And.intro q2 (And.intro q3 hG))
        clear q2 q3 hG hGG hW0 t0 t1 t2 t3 hci
        go_loopg [5, 21] cn (fun gk2 s5 s21 wr2 => ∃ j : Nat, j + gk2 = cn ∧ s21 = .int .i64 (j : Int) ∧ RowF w1.heap.size s5 (slP S k ++ List.replicate j (x2, x3)) wr2 ∧ Below w1.heap.size w1 wr2 ∧ s5.ownBlock ≠ some G ∧ wr2.cell? ⟨G, 2, none⟩ = some (.int .i64 x2) ∧ wr2.cell? ⟨G, 3, none⟩ = some (.int .i64 x3) ∧ G < wr2.heap.size)
        case atStart => exact ⟨0, by omega, rfl, by rw [List.replicate_zero, List.append_nil]; exact HR0.out, HB0.out, HOB.out, HQ.out.1, HQ.out.2.1, HQ.out.2.2⟩
        case round =>
          obtain ⟨j, hj, rfl, hr2, hb2, ho2, d2, d3, hG2⟩ := hrel
          have HJ := Lib.hid hj
          by_cases hlt2 : j < cn
          · have l2 : (j : Int) < (cn : Int) := by omega
            obtain ⟨i0, hi, hz0, hz1, hz2⟩ := info_parts info48
            have hr3 := hr2
            unfold RowF at hr3
            have hlen : (slP S k ++ List.replicate j (x2, x3)).length ≤ 2100 := by rw [List.length_append, List.length_replicate]; have := HLK.out; omega
            obtain ⟨Q, hQ⟩ : ∃ Q, (slP S k ++ List.replicate j (x2, x3)).length = Q := ⟨_, rfl⟩
            rw [hQ] at hr3 hlen
            have HQQ := Lib.hid hQ
            have hsz2 := hb2.size
            have HHB := Lib.hid hb2
            clear hr2 hQ hj hb2
            go_wp2_with (at_builtin; refine wpList_append_own_at _ rfl _ _ 39 rfl (w1.heap.size) 48 i0 (.agg #[.int .i64 0, .int .i64 0]) 2 16 Try.underlying39 hi hz0 hz1 hz2 rfl (by decide) _ _ _ rfl (World.ownsRow.alloc (h := hr3) _) ⟨wr.heap.size, 0, none⟩ 1 1 [.int .i64 x2, .int .i64 x3] rfl rfl (cell2_new _ _ _ _) (by simp [Value.oneCell']) (by unfold maxLen; omega) (by omega) (by simp; omega) ?_; intro v' w3 hown' hgrow _ hob)
            have hb3 : Below w1.heap.size w1 w3 := (HHB.out.alloc hsz2 _).grown hgrow (by first | (simp; done) | (simp; omega)) (fun j e => (World.ownsRow.lt hr3 j e).1)
            have hblk : w3.heap[G]? = (wr.alloc (.cells #[.int .i64 x2, .int .i64 x3] 48)).heap[G]? := hgrow.block G (by simp; omega) ho2.symm
            have e2 : w3.cell? ⟨G, 2, none⟩ = some (.int .i64 x2) := (cell_of_block hblk).trans (Lib.cell?_alloc_some _ d2)
            have e3 : w3.cell? ⟨G, 3, none⟩ = some (.int .i64 x3) := (cell_of_block hblk).trans (Lib.cell?_alloc_some _ d3)
            have hG3 : G < w3.heap.size := World.block_lt_of_cell? _ _ e2
            have ho3 : v'.ownBlock ≠ some G := by
              rcases hob with e | e
              · rw [e]; exact ho2
              · rw [e]; simp; omega
            have hrow : RowF w1.heap.size v' (slP S k ++ List.replicate (j + 1) (x2, x3)) w3 := by
              unfold RowF
              rw [rep_snoc, ← List.append_assoc, List.length_append, HQQ.out, fl_app]
              exact hown'
            have HF := Lib.hid (And.intro hrow (And.intro hb3 (And.intro ho3 (And.intro e2 (And.intro e3 hG3)))))
            clear hown' hgrow hob hb3 hblk e2 e3 hG3 ho3 hrow hr3
            go_wp2
            go_roundg (gk - 1)
            case rel => exact ⟨j + 1, by have := HJ.out; omega, by go_num, HF.out.1, HF.out.2.1, HF.out.2.2.1, HF.out.2.2.2.1, HF.out.2.2.2.2.1, HF.out.2.2.2.2.2⟩
            case measure => have := HJ.out; omega
          · have l2 : ¬ (j : Int) < (cn : Int) := by omega
            have hjc : j = cn := by omega
            have HF := Lib.hid (show RowF w1.heap.size u5 (slP S (k + 1)) wr by rw [HST.out, ← hjc]; exact hr2)
            have HHB := Lib.hid hb2
            clear hj hjc hr2 hb2
            go_wp2
            go_roundg (S.length - k - 1)
            case rel => exact ⟨k + 1, by have := HK.out; omega, by go_num, HF.out, HHB.out⟩
            case measure => have := HK.out; omega
    · have l1 : ¬ (k : Int) < (S.length : Int) := by omega
      have hkk : k = S.length := by omega
      have HF := Lib.hid (show RowF w.heap.size u5 (slopesF S) wr by unfold slopesF; rw [← hkk]; exact hr.mono HB.out.size)
      have HBF := Lib.hid (HB.out.trans (hb.mono HB.out.size))
      clear hk hkk hr hb
      go_wp2
      go_ret
      exact ⟨⟨_, rfl, HF.out⟩, HBF.out⟩


set_option maxHeartbeats 8000000 in
set_option maxRecDepth 100000 in
theorem pureR_any (p : Nat) (a : Option Addr) (n c : Nat) (f : List Int) (w : World) (h : Ints w a n f) (p2 : 2 ≤ p) (p13 : p ≤ 13) (hf : isPoly f = true) :
    Calls Try.prog 35 #[.slice a n c, .int .i64 (p : Int)] w fun e w' => e = .returned (.bool (pureF f p)) ∧ Below w.heap.size w w' := by
  have HP := Lib.hid (polygonR_any a n c f p w h hf p2 p13)
  obtain ⟨g1, g2, g3⟩ := poly_bounds h.1 hf
  obtain ⟨b, off, hab, hbl, hcc⟩ := h.at (by omega)
  subst hab
  have hc0 := hcc 0 (by omega)
  have HL := Lib.hid h.1
  rw [Nat.add_zero] at hc0
  have hpf : pureF f p = (!decide (f.getD 0 0 = 0) && decide ((polyS f p).length = 1) && decide ((nth4 (polyS f p) 0).2.2.2 = (n : Int) - 1)) := by unfold pureF; rw [h.1]
  rw [hpf]
  obtain ⟨x, hx⟩ : ∃ x, f.getD 0 0 = x := ⟨_, rfl⟩
  obtain ⟨S, hS⟩ : ∃ S, polyS f p = S := ⟨_, rfl⟩
  rw [hx] at hc0 ⊢
  rw [hS] at HP ⊢
  have HC := Lib.hid hc0
  have HBL := Lib.hid hbl
  have l0 : (0 : Int) < (n : Int) := by omega
  have l1 : 0 < n := by omega
  clear h hf g3 hcc hc0 hbl hpf hx hS
  go_enter Try.func35, Try.ntmps35
  go_wp2_with fail
  refine HP.out.mono ?_
  rintro e w1 ⟨⟨v, rfl, hr⟩, hb⟩
  have hc1 := (hb.cell (p := ⟨b, off, none⟩) HBL.out).trans HC.out
  have HB := Lib.hid hb
  clear hb
  by_cases hx : x = 0
  · subst hx
    obtain ⟨a2, c2, rfl, -⟩ := hr.form
    clear hr
    go_wp2
    go_ret
    exact ⟨ret_bool (by simp), HB.out⟩
  · have hxn : (x != 0) = true := by simp; omega
    by_cases hS1 : S.length = 1
    · obtain ⟨a2, c2, rfl, h1, h2, ⟨-, h3, -⟩ | ⟨g, rfl, h3, h4⟩⟩ := hr.form
      · rw [h3] at hS1; cases hS1
      · obtain ⟨-, -, -, hc3⟩ := hr.cell (j := 0) (by omega)
        rw [Nat.zero_mul, Nat.zero_add] at hc3
        obtain ⟨D, hD⟩ : ∃ D, (nth4 S 0).2.2.2 = D := ⟨_, rfl⟩
        rw [hD] at hc3
        have HD := Lib.hid hD
        have HS1 := Lib.hid hS1
        have hSi : (S.length : Int) = 1 := by omega
        have hSb : ((S.length : Int) == 1) = true := by simp; omega
        have hSl : 0 < S.length := by omega
        have hSl2 : (0 : Int) < (S.length : Int) := by omega
        have hSl3 : ¬ S.length = 0 := by omega
        clear hr h3 h4 h1 h2 hD hS1
        go_wp2
        go_ret
        exact ⟨ret_bool (by simp [hx, HS1.out, HD.out]; first | done | rfl | exact (Bool.beq_eq_decide_eq _ _) | exact beq_eq_decide _ _), HB.out⟩
    · obtain ⟨a2, c2, rfl, -⟩ := hr.form
      have hSn : ¬ ((S.length : Int) = 1) := by omega
      have hSb : ((S.length : Int) == 1) = false := by simp; omega
      clear hr
      go_wp2
      go_ret
      exact ⟨ret_bool (by simp [hS1]), HB.out⟩
end Go.Proofs.Ytjlaclbgfidiiaa
