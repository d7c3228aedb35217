/- The walks of next, of chain, and of the iterator that it makes: it yields the steps of the chain in turn. Conditions as stated in each theorem. -/
import Derived.Test.YtopfcppmbkidgaaNxt0
import Derived.Test.YtopfcppmbkidgaaNxt1
import Derived.Test.YtopfcppmbkidgaaNxt2
import Derived.Sort.LoopGhostIn
import Derived.Sort.QuietIn
namespace Go.Proofs.Ytopfcppmbkidgaa
open Go.RowKit Go.Shelf
attribute [local go_sem] Oper.semAt_some

theorem next_any (t : Stp) (h : Good t) (w : World) : Calls Try.prog 91 #[stV t] w fun e w' => e = .returned (stV (nx t)) ∧ Below w.heap.size w w' := by
  obtain ⟨k, a, n, s⟩ := t
  by_cases hk : a < 0 ∨ n ≤ a
  · have e : nx ⟨k, a, n, s⟩ = ⟨0, a % n, n, s⟩ := by unfold nx; rw [if_pos hk]
    rw [e]
    exact next0_any k a n s h hk w
  · by_cases he : a % 2 = 0
    · have e : nx ⟨k, a, n, s⟩ = ⟨1, a / 2, n, s * two n⟩ := by unfold nx; rw [if_neg hk, if_pos he]
      rw [e]
      exact next1_any k a n s _ h (by omega) (by omega) he rfl w
    · have e : nx ⟨k, a, n, s⟩ = ⟨2, n, a, s * exch a n⟩ := by unfold nx; rw [if_neg hk, if_neg he]
      rw [e]
      exact next2_any k a n s _ h (by omega) (by omega) he rfl w

set_option maxHeartbeats 400000 in
theorem chain_any (a n : Int) (w : World) :
    Calls Try.prog 76 #[.int .i64 a, .int .i64 n] w fun e w' => e = .returned (.func (.func 89) #[] #[.pointer (some ⟨w.heap.size, 0, none⟩), .pointer (some ⟨w.heap.size + 1, 0, none⟩)]) ∧ (w.alloc (.cells #[.int .i64 a] 3)).alloc (.cells #[.int .i64 n] 3) = w' := by
  go_enter Try.func76, Try.ntmps76
  go_wp2
  go_ret
  exact ⟨rfl, rfl⟩

def keepAbove (n : Nat) (A B : World) : Prop := Above n A B
def turnBelow (n : Nat) (A B : World) : Prop := Below n A B
theorem stV_eq (t : Stp) : stV t = .agg #[.int .i64 t.k, .int .i64 t.a, .int .i64 t.n, .int .i64 t.s] := rfl

set_option maxHeartbeats 4000000 in
theorem chain_iter (a n : Int) (b : Nat) (w : World) (hb : b + 1 < w.heap.size) (h1 : Boxed w b 3 (.int .i64 a)) (h2 : Boxed w (b + 1) 3 (.int .i64 n)) (N : Nat)
    (hN : ∀ k, k < N → ¬ fin (st a n k)) (hF : fin (st a n N)) (hG : ∀ k, k ≤ N → Good (st a n k)) :
    IterC Try.prog 89 #[.pointer (some ⟨b, 0, none⟩), .pointer (some ⟨b + 1, 0, none⟩)] (fun k => #[stV (st a n (k + 1))]) turnBelow keepAbove True N w := by
  intro l J Jx W hW hJ hJx hY _ h0
  have hbox1 : Boxed W b 3 (.int .i64 a) := boxed_below h1 hW (by omega)
  have hbox2 : Boxed W (b + 1) 3 (.int .i64 n) := boxed_below h2 hW hb
  obtain ⟨B, hB⟩ : ∃ B, W.heap.size = B := ⟨_, rfl⟩
  have hc1 := hbox1.cell
  have hc2 := hbox2.cell
  have HL := Lib.hid (fun (k a n s : Int) (V : World) => isLast_any ⟨k, a, n, s⟩ V)
  have HX : RowKit.Hid (∀ (k : Nat) (k0 a0 n0 s0 k1 a1 n1 s1 : Int), k ≤ N → st a n k = ⟨k0, a0, n0, s0⟩ → st a n (k + 1) = ⟨k1, a1, n1, s1⟩ → ∀ V : World,
      Calls Try.prog 91 #[.agg #[.int .i64 k0, .int .i64 a0, .int .i64 n0, .int .i64 s0]] V fun e w' => e = .returned (.agg #[.int .i64 k1, .int .i64 a1, .int .i64 n1, .int .i64 s1]) ∧ Below V.heap.size V w') := Lib.hid (by
    intro k k0 a0 n0 s0 k1 a1 n1 s1 hk e0 e1 V
    have := next_any _ (hG k hk) V
    have e2 : nx (st a n k) = ⟨k1, a1, n1, s1⟩ := e1
    rw [e2, e0] at this
    exact this)
  simp only [stV_eq] at HL
  have HBF := Lib.hid (before_any a n)
  simp only [stV_eq, st] at HBF
  have HY := Lib.hid hY
  have HJ := Lib.hid hJ
  have HJX := Lib.hid hJx
  have HN := Lib.hid hN
  have HFN := Lib.hid hF
  clear h1 h2 hbox1 hbox2 hY hJ hJx hN hF hG
  rw [hB] at HJ HJX HY
  refine (callsIn_wide (n := 5)).1 ?_
  refine callsIn_of_wp Try.func89 rfl trivial ?_ rfl
  simp only [Try.ntmps89, List.size_toArray, List.length_cons, List.length_nil, Nat.reduceAdd, Nat.reduceSub, Array.replicate_succ, Array.replicate_zero, List.push_toArray, List.append_toArray, List.nil_append, List.cons_append]
  gi_wp2_with (refine ⟨trivial, ?_⟩; gi_at_call 87; refine (callsIn_wide.2 (HBF.out _)).mono ?_; rintro e w1 ⟨rfl, hbv⟩)
  have hn := Sx.new w1 (st a n 0)
  simp only [st] at hn
  have hle : B ≤ w1.heap.size := by have := hbv.size; omega
  have hj : J 0 (w1.alloc (.cells #[.int .i64 0, .int .i64 a, .int .i64 n, .int .i64 1] 66)) := HJ.out 0 W _ h0 (by rw [hB] at hbv; exact hbv.alloc hle _)
  generalize hW2 : w1.alloc (.cells #[.int .i64 0, .int .i64 a, .int .i64 n, .int .i64 1] 66) = W2 at hn hj ⊢
  have HI := Lib.hid (show ∃ G, G = w1.heap.size ∧ B ≤ G ∧ Sx W2 G (st a n 0) ∧ J 0 W2 from ⟨_, rfl, hle, hn, hj⟩)
  clear hn hj hW2 hbv hle hc1 hc2
  gi_loopg [4] N (fun g s4 wr => ∃ (k G : Nat), k + g = N ∧ s4 = .pointer (some ⟨G, 0, none⟩) ∧ B ≤ G ∧ Sx wr G (st a n k) ∧ J k wr)
  case atStart =>
    obtain ⟨G, rfl, h1, h2, h3⟩ := HI.out
    exact ⟨0, _, by omega, rfl, h1, h2, h3⟩
  case round =>
    obtain ⟨k, G, hk, rfl, hBG, hs, hj⟩ := hrel
    obtain ⟨⟨k0, a0, n0, s0⟩, e0⟩ : ∃ t, st a n k = t := ⟨_, rfl⟩
    obtain ⟨⟨k1, a1, n1, s1⟩, e1⟩ : ∃ t, st a n (k + 1) = t := ⟨_, rfl⟩
    rw [e0] at hs
    obtain ⟨c0, c1, c2, c3, f0, f1, f2, f3⟩ := hs.cells
    simp only at c0 c1 c2 c3
    by_cases hkN : k = N
    · subst hkN
      have hd : decide (fin ⟨k0, a0, n0, s0⟩) = true := by rw [← e0]; exact decide_eq_true HFN.out
      have HLc := Lib.hid (HL.out k0 a0 n0 s0)
      rw [hd] at HLc
      have HJ0 := Lib.hid (And.intro hj (show B ≤ wr.heap.size from Nat.le_of_lt (Nat.lt_of_le_of_lt hBG hs.lt)))
      clear hj hd hs
      gi_wp2_with (refine ⟨trivial, ?_⟩; gi_at_call 90; refine (callsIn_wide.2 (HLc.out _)).mono ?_; rintro e w2 ⟨rfl, hbv⟩)
      go_end0
      exact ⟨⟨_, rfl⟩, .inl ⟨trivial, HJ.out k _ _ HJ0.out.1 (hbv.mono HJ0.out.2)⟩⟩
    · have hlt : k < N := by omega
      have hd : decide (fin ⟨k0, a0, n0, s0⟩) = false := by rw [← e0]; exact decide_eq_false (HN.out k hlt)
      have HLc := Lib.hid (HL.out k0 a0 n0 s0)
      rw [hd] at HLc
      have HXc := Lib.hid (HX.out k k0 a0 n0 s0 k1 a1 n1 s1 (by omega) e0 e1)
      have HJ0 := Lib.hid (And.intro hj (show B ≤ wr.heap.size from Nat.le_of_lt (Nat.lt_of_le_of_lt hBG hs.lt)))
      have HS := Lib.hid hs
      have HYk := Lib.hid (fun V h => HY.out k V h hlt)
      have HE := Lib.hid e1
      have HGB := Lib.hid hBG
      have HKN := Lib.hid hk
      rw [e1, stV_eq] at HYk
      simp only at HYk
      clear hj hd hs e0 e1 hkN hBG hk
      gi_wp2_with fail
      refine ⟨trivial, ?_⟩
      gi_at_call 90
      refine (callsIn_wide.2 (HLc.out _)).mono ?_
      rintro e w2 ⟨rfl, hbv⟩
      have hs2 := HS.out.keep hbv
      have hj2 := HJ.out k _ _ HJ0.out.1 (hbv.mono HJ0.out.2)
      have hB2 : B ≤ w2.heap.size := Nat.le_trans HJ0.out.2 hbv.size
      clear c0 c1 c2 c3 f0 f1 f2 f3 hbv
      obtain ⟨c0, c1, c2, c3, -⟩ := hs2.cells
      simp only at c0 c1 c2 c3
      have HS2 := Lib.hid (And.intro hs2 (And.intro hj2 hB2))
      clear hs2 hj2 hB2
      gi_wp2_with fail
      refine ⟨trivial, ?_⟩
      gi_at_call 91
      refine (callsIn_wide.2 (HXc.out _)).mono ?_
      rintro e w3 ⟨rfl, hbv⟩
      have hs3 := HS2.out.1.keep hbv
      obtain ⟨d0, d1, d2, d3, f0, f1, f2, f3⟩ := hs3.cells
      simp only at d0 d1 d2 d3
      have hB3 : B ≤ w3.heap.size := Nat.le_trans HS2.out.2.2 hbv.size
      have hst := sx_stores (W := w3) HGB.out (.int .i64 k1) (.int .i64 a1) (.int .i64 n1) (.int .i64 s1)
      have hj3 := HJ.out k _ _ (HJ.out k _ _ HS2.out.2.1 (hbv.mono HS2.out.2.2)) hst
      have hs4 := hs3.put ⟨k1, a1, n1, s1⟩
      simp only at hs4
      obtain ⟨e0, e1, e2, e3, -⟩ := hs4.cells
      simp only at e0 e1 e2 e3
      have HY4 := Lib.hid (HYk.out _ hj3)
      have HS4 := Lib.hid hs4
      have HB4 := Lib.hid (show B ≤ ((((w3.setCell ⟨G, 0, none⟩ (.int .i64 k1)).setCell ⟨G, 1, none⟩ (.int .i64 a1)).setCell ⟨G, 2, none⟩ (.int .i64 n1)).setCell ⟨G, 3, none⟩ (.int .i64 s1)).heap.size from Nat.le_trans hB3 hst.size)
      obtain ⟨fn, tmps, assign, body, hy, hR⟩ := HY4.out
      have HR := Lib.hid hR
      clear hs3 hst hj3 hs4 hbv c0 c1 c2 c3 hR hB3
      gi_wp2
      refine (roundIn_wide HR.out).mono ?_
      rintro e W5 (⟨rfl, hj5, hk5⟩ | ⟨rfl, hj5, hk5⟩)
      · have hs5 := HS4.out.above hk5 HGB.out
        have hB5 : B ≤ W5.heap.size := Nat.le_trans HB4.out hk5.size
        obtain ⟨c0, c1, c2, c3, -⟩ := hs5.cells
        simp only at c0 c1 c2 c3
        have hs6 := Sx.new W5 ⟨k1, a1, n1, s1⟩
        simp only at hs6
        have hj6 := HJ.out (k + 1) W5 (W5.alloc (.cells #[.int .i64 k1, .int .i64 a1, .int .i64 n1, .int .i64 s1] 66)) hj5 ((Below.refl _ _).alloc hB5 _)
        have HF := Lib.hid (And.intro hB5 (And.intro hs6 hj6))
        clear hs5 hB5 hs6 hj6 hj5 hk5 hy d0 d1 d2 d3 e0 e1 e2 e3 f0 f1 f2 f3
        gi_wp2
        gi_roundg (gk - 1)
        case rel => exact ⟨k + 1, _, by have := HKN.out; omega, rfl, HF.out.1, by rw [HE.out]; exact HF.out.2.1, HF.out.2.2⟩
        case measure => have := HKN.out; omega
      · have HF := Lib.hid hj5
        clear hj5 hk5 hy d0 d1 d2 d3 e0 e1 e2 e3 f0 f1 f2 f3
        gi_wp2
        exact bodyPost_ret (v := .tuple #[]) (by simp [results, Try.results89, go_sem]) rfl ⟨⟨_, rfl⟩, .inr ⟨k, hlt, HF.out⟩⟩
end Go.Proofs.Ytopfcppmbkidgaa
