/- The walk of lattice.Has. Condition: the table and the vector lie in memory. -/
import Derived.Test.YtgfenponlkmfmaaMult
namespace Go.Proofs.Ytgfenponlkmfmaa
open Go.RowKit
attribute [local go_sem] Oper.semAt_some

theorem Has_no (a : Option Addr) (n c : Nat) (L : List (List Int)) (av : Option Addr) (m cv : Nat) (v : List Int) (w : World) (h : Tab w a n L) (hn : n ≤ 1000) (hr : ∀ i, i < n → (row L i).length ≤ 1000) (hv : Ints w av m v) (hm : m ≤ 1000)
    (hno : ¬ (isBasis L = true ∧ inB v n 10000 = true)) :
    Calls Try.prog 28 #[.slice a n c, .slice av m cv] w fun e w' => e = .returned (.tuple #[.slice none 0 0, .int .i64 2]) ∧ w' = w := by
  have hV := valid_any a n c L w h (by omega) (fun i hi => by have := hr i hi; omega)
  have hW := within_any av m cv v n 10000 w hv (by omega) (by omega) (by omega)
  cases hb : isBasis L with
  | false =>
    rw [hb] at hV
    have HV := Lib.hid hV
    clear hV hW hno h hv hb
    go_enter Try.func28, Try.ntmps28
    go_wp2_with fail
    refine HV.out.mono ?_
    rintro e w1 ⟨rfl, rfl⟩
    go_wp2
    go_ret2
    exact ⟨rfl, rfl⟩
  | true =>
    have hf : inB v n 10000 = false := by
      rw [Bool.eq_false_iff]
      exact fun h2 => hno ⟨hb, h2⟩
    rw [hb] at hV
    rw [hf] at hW
    have HV := Lib.hid hV
    have HW := Lib.hid hW
    clear hV hW hno h hv hb hf
    go_enter Try.func28, Try.ntmps28
    go_wp2_with fail
    refine HV.out.mono ?_
    rintro e w1 ⟨rfl, rfl⟩
    go_wp2_with fail
    refine HW.out.mono ?_
    rintro e w1 ⟨rfl, rfl⟩
    go_wp2
    go_ret2
    exact ⟨rfl, rfl⟩

/-- What is known of a basis of n rows. -/
structure Bas (n : Nat) (L : List (List Int)) : Prop where
  len : L.length = n
  n1 : 1 ≤ n
  n4 : n ≤ 4
  sq : Sq n L
  small : ∀ r c, r < n → c < n → (ent L r c).natAbs ≤ 20
  det0 : det n (ent L) ≠ 0
  wrap : wrap64 (det n (ent L)) = det n (ent L)
theorem bas_of {n : Nat} {L : List (List Int)} (hl : L.length = n) (h : isBasis L = true) : Bas n L := by
  obtain ⟨h1, h2⟩ := isBasis_spec.1 h
  have h4 := (tabB_spec.1 h1).2
  have hs := tab_sq h1
  rw [hl] at h4 hs h2
  exact ⟨hl, h4.1, h4.2, hs, fun r c hr hc => by have := tab_ent h1 (i := r) (j := c) (by omega) (by omega); omega, h2, (det_small h1 hl).2⟩
theorem inB_abs {v : List Int} {n : Nat} {most : Int} {M : Nat} (h : inB v n most = true) (hM : most = (M : Int)) : v.length = n ∧ ∀ c, c < n → (nt v c).natAbs ≤ M := by
  obtain ⟨h1, h2⟩ := inB_spec.1 h
  refine ⟨h1, fun c hc => ?_⟩
  have := h2 c hc
  unfold nt
  omega

/-- What Has leaves. -/
def HasR (n : Nat) (L : List (List Int)) (v : List Int) (B : Nat) (e : Ending) (w' : World) : Prop :=
  ((∀ i, i < n → (nu n L v i).tmod (det n (ent L)) = 0) ∧ ∃ vv, e = .returned (.tuple #[vv, .int .i64 0]) ∧ Row B vv ((List.range n).map fun i => (nu n L v i).tdiv (det n (ent L))) w') ∨ ((¬ ∀ i, i < n → (nu n L v i).tmod (det n (ent L)) = 0) ∧ e = .returned (.tuple #[.slice none 0 0, .int .i64 4]))

set_option maxHeartbeats 1000000 in
set_option maxRecDepth 100000 in
theorem Has_yes (a : Option Addr) (n c : Nat) (L : List (List Int)) (av : Option Addr) (m cv : Nat) (v : List Int) (w : World) (h : Tab w a n L) (hn : n ≤ 1000) (hr : ∀ i, i < n → (row L i).length ≤ 1000) (hv : Ints w av m v) (hm : m ≤ 1000) (hcv : m ≤ cv) (hcm : cv ≤ maxLen)
    (hb : isBasis L = true) (hw : inB v n 10000 = true) :
    Calls Try.prog 28 #[.slice a n c, .slice av m cv] w fun e w' => HasR n L v w.heap.size e w' ∧ Below w.heap.size w w' := by
  have hV := valid_any a n c L w h (by omega) (fun i hi => by have := hr i hi; omega)
  have hW := within_any av m cv v n 10000 w hv (by omega) (by omega) (by omega)
  rw [hb] at hV
  rw [hw] at hW
  have B := bas_of h.1 hb
  obtain ⟨hvl, hvb⟩ := inB_abs hw (M := 10000) rfl
  have hmn : m = n := by rw [← hv.1]; exact hvl
  subst hmn
  obtain ⟨b, off, ai, ci, rfl, -⟩ := h.at (show 0 < m by have := B.n1; omega)
  have hM := multiples_any b off m c L v av cv (det m (ent L)) w h B.n4 B.n1 B.sq ⟨by rw [hvl]; exact hv, by rw [hvl]; exact hcv, hcm⟩ hvl (fun r c hr hc => by have := B.small r c hr hc; omega) hvb B.wrap B.det0
  have HV := Lib.hid hV
  have HW := Lib.hid hW
  have HM := Lib.hid hM
  clear hV hW hM h hv hvl hvb B hb hw hr hcm
  go_enter Try.func28, Try.ntmps28
  go_wp2_with fail
  refine HV.out.mono ?_
  rintro e w1 ⟨rfl, rfl⟩
  go_wp2_with fail
  refine HW.out.mono ?_
  rintro e w1 ⟨rfl, rfl⟩
  go_wp2_with fail
  refine HM.out.mono ?_
  rintro e w2 ⟨⟨hall, vv, rfl, hrow⟩ | ⟨hall, rfl⟩, hbw⟩
  · have HF := Lib.hid (And.intro hall (And.intro hrow hbw))
    clear hall hrow hbw
    go_wp2
    go_ret2
    exact ⟨.inl ⟨HF.out.1, _, rfl, HF.out.2.1⟩, HF.out.2.2⟩
  · have HF := Lib.hid (And.intro hall hbw)
    clear hall hbw
    go_wp2
    go_ret2
    exact ⟨.inr ⟨HF.out.1, rfl⟩, HF.out.2⟩
end Go.Proofs.Ytgfenponlkmfmaa
