/- The walk of pell.Best: the last convergent whose denominator is at most the bound, or the documented error. No condition on the arguments beyond the case that each theorem names. -/
import Derived.Test.YtbdadckedhcibaaConvergent
namespace Go.Proofs.Ytbdadckedhcibaa
open Go.RowKit Go.Shelf
attribute [local go_sem] Oper.semAt_some

/-! How many convergents have a denominator of at most the bound. -/
def bKAux (d m : Int) : Nat → Nat → Nat
  | 0, k => k
  | f + 1, k => if m < cvQ d (k + 1) then k else bKAux d m f (k + 1)
def bK (d m : Int) : Nat := bKAux d m 22 0
theorem bKAux_spec (d m : Int) : ∀ (f k j : Nat), k ≤ j → j < k + f → m < cvQ d (j + 1) →
    bKAux d m f k ≤ j ∧ m < cvQ d (bKAux d m f k + 1) ∧ k ≤ bKAux d m f k ∧ ∀ i, k ≤ i → i < bKAux d m f k → cvQ d (i + 1) ≤ m
  | 0, k, j, h1, h2, _ => by omega
  | f + 1, k, j, h1, h2, h3 => by
    unfold bKAux
    split
    · rename_i hc
      exact ⟨h1, hc, Nat.le_refl _, fun i h4 h5 => by omega⟩
    · rename_i hc
      have hne : k ≠ j := fun e => hc (by rw [e]; exact h3)
      obtain ⟨g1, g2, g3, g4⟩ := bKAux_spec d m f (k + 1) j (by omega) (by omega) h3
      refine ⟨g1, g2, by omega, fun i h4 h5 => ?_⟩
      by_cases e : i = k
      · subst e; omega
      · exact g4 i (by omega) h5
def bCheck : Bool := allBelow 101 fun d => !isD d || (List.range 22).any fun k => decide (1000 < cvQ d (k + 1)) && decide (k + 1 ≤ cvStop d)
theorem bCheck_ok : bCheck = true := by decide +kernel
theorem b_all {d m : Int} (hd : isD d = true) (h1 : 1 ≤ m) (h2 : m ≤ 1000) :
    1 ≤ bK d m ∧ bK d m < 22 ∧ bK d m + 1 ≤ cvStop d ∧ m < cvQ d (bK d m + 1) ∧ ∀ i, i < bK d m → cvQ d (i + 1) ≤ m := by
  have hb := isD_bd hd
  have h := allBelow_at bCheck_ok (k := d.toNat) (by omega)
  rw [Int.toNat_of_nonneg (by omega), hd] at h
  simp only [Bool.not_true, Bool.false_or, List.any_eq_true, List.mem_range, Bool.and_eq_true, decide_eq_true_eq] at h
  obtain ⟨j, hj, hq, hs⟩ := h
  obtain ⟨g1, g2, g3, g4⟩ := bKAux_spec d m 22 0 j (by omega) (by omega) (by omega)
  refine ⟨?_, by unfold bK; omega, by unfold bK; omega, g2, fun i hi => g4 i (by omega) hi⟩
  unfold bK
  by_cases e : bKAux d m 22 0 = 0
  · have e1 : cvQ d 1 = 1 := by rw [cvQ_succ]; show cfA d 0 * 0 + 1 = _; omega
    rw [e, Nat.zero_add, e1] at g2
    omega
  · omega

/-- p behind k rounds: 0 before the first one. -/
def bP (d : Int) (k : Nat) : Int := if k = 0 then 0 else cvP d k
theorem bP_pos (d : Int) {k : Nat} (h : 1 ≤ k) : bP d k = cvP d k := if_neg (by omega)

/-- The variables of Best: the bound's box and the two results'. -/
structure BState (B : Nat) (m x y : Int) (w W : World) : Prop where
  m : Boxed W B 3 (.int .i64 m)
  x : Boxed W (B + 1) 3 (.int .i64 x)
  y : Boxed W (B + 1 + 1) 3 (.int .i64 y)
  b : Below B w W
theorem BState.below {B : Nat} {m x y : Int} {w W W' : World} (h : BState B m x y w W) (hB : Below (B + 3) W W') : BState B m x y w W' :=
  ⟨boxed_below h.m hB (by omega), boxed_below h.x hB (by omega), boxed_below h.y hB (by omega), h.b.trans (hB.mono (by omega))⟩
theorem BState.setR {B : Nat} {m x y : Int} {w W : World} (h : BState B m x y w W) (x' y' : Int) : BState B m x' y' w ((W.setCell ⟨B + 1, 0, none⟩ (.int .i64 x')).setCell ⟨B + 1 + 1, 0, none⟩ (.int .i64 y')) := by
  have n1 : B ≤ B + 1 := by omega
  have n2 : B ≤ B + 1 + 1 := by omega
  refine ⟨?_, ?_, ?_, ?_⟩
  · exact boxed_setCell _ (boxed_setCell _ h.m (by omega)) (by omega)
  · exact boxed_setCell _ (h.x.set _) (by omega)
  · exact (boxed_setCell _ h.y (by omega)).set _
  · exact (h.b.setCell (p := ⟨B + 1, 0, none⟩) n1 _).setCell (p := ⟨B + 1 + 1, 0, none⟩) n2 _
theorem set2_same {B : Nat} {W : World} (u v : Value) (j : Nat) (hj : B + 3 ≤ j) : ((W.setCell ⟨B + 1, 0, none⟩ u).setCell ⟨B + 1 + 1, 0, none⟩ v).heap[j]? = W.heap[j]? := by
  have k1 : j ≠ B + 1 := by omega
  have k2 : j ≠ B + 1 + 1 := by omega
  exact (Below.heap_setCell _ _ _ j k2).trans (Below.heap_setCell _ _ _ j k1)
theorem set2_above {B n : Nat} {W : World} (u v : Value) (hn : B + 3 ≤ n) : Above n W ((W.setCell ⟨B + 1, 0, none⟩ u).setCell ⟨B + 1 + 1, 0, none⟩ v) := by
  have m1 : B + 1 < n := by omega
  have m2 : B + 1 + 1 < n := by omega
  exact (Above.setCell W (p := ⟨B + 1, 0, none⟩) m1 _).trans (Above.setCell _ (p := ⟨B + 1 + 1, 0, none⟩) m2 _)

/-- A piece of code that ends normally in one frame and one world. -/
def atNormal (a₀ : Act) (w₀ : World) : Exit → Act → World → Prop
  | .normal, a, w => (a.tmps = a₀.tmps ∧ a.defers = a₀.defers) ∧ w = w₀
  | _, _, _ => False
theorem atNormal_out {a₀ a : Act} {w₀ w : World} {e : Exit} (h : atNormal a₀ w₀ e a w) : e = .normal ∧ a = a₀ ∧ w = w₀ := by
  cases e with
  | normal =>
    obtain ⟨⟨h1, h2⟩, h3⟩ := h
    refine ⟨rfl, ?_, h3⟩
    cases a
    cases a₀
    cases h1
    cases h2
    rfl
  | _ => exact h.elim

set_option maxRecDepth 100000 in
set_option maxHeartbeats 2000000 in
theorem Best_yes (d m : Int) (hd : isD d = true) (hm1 : 1 ≤ m) (hm2 : m ≤ 1000) (w : World) :
    Calls Try.prog 35 #[.int .i64 d, .int .i64 m] w fun e w' => e = .returned (.tuple #[.int .i64 (cvP d (bK d m)), .int .i64 (cvQ d (bK d m)), .int .i64 0]) ∧ Below w.heap.size w w' := by
  obtain ⟨ba, bb, bc, bd, be⟩ := b_all hd hm1 hm2
  obtain ⟨K, hK⟩ : ∃ K, bK d m = K := ⟨_, rfl⟩
  rw [hK] at ba bb bc bd be ⊢
  clear hK
  have HE := Lib.hid be
  have HDD := Lib.hid bd
  clear bd be
  have hk0 : decide (m < 1) = false := by simp; omega
  have hk1 : decide (1000 < m) = false := by simp; omega
  refine (callsIn_wide (n := 5)).1 ?_
  refine callsIn_of_wp_marks Try.func35 rfl trivial ?_ rfl
  simp only [Try.ntmps35, List.size_toArray, List.length_cons, List.length_nil, Nat.reduceAdd, Nat.reduceSub, Array.replicate_succ, Array.replicate_zero, List.push_toArray, List.append_toArray, List.nil_append, List.cons_append]
  gi_wp2_with (first | (refine ⟨trivial, ?_⟩; gi_at_call 41; refine (callsIn_wide.2 (validD_any _ _)).mono ?_; rintro e w' ⟨rfl, rfl⟩) | (refine ⟨trivial, ?_⟩; gi_at_call 43; refine (callsIn_wide.2 (convergents_any _ _)).mono ?_; rintro e w' ⟨rfl, rfl⟩))
  clear hk0 hk1
  obtain ⟨B, hB⟩ : ∃ B, w.heap.size = B := ⟨_, rfl⟩
  have hs0 : BState B m 0 0 w ((((w.alloc (.cells #[.int .i64 m] 3)).alloc (.cells #[.int .i64 0] 3)).alloc (.cells #[.int .i64 0] 3)).alloc (.cells #[.int .i64 d] 3)) := by
    have y0 := Boxed.new w 3 (.int .i64 m)
    have y1 := Boxed.new (w.alloc (.cells #[.int .i64 m] 3)) 3 (.int .i64 0)
    have y2 := Boxed.new ((w.alloc (.cells #[.int .i64 m] 3)).alloc (.cells #[.int .i64 0] 3)) 3 (.int .i64 0)
    simp only [World.size_alloc, hB] at y0 y1 y2
    exact ⟨((y0.alloc _).alloc _).alloc _, (y1.alloc _).alloc _, y2.alloc _,
      ((((Below.refl B w).alloc (by omega) _).alloc (by simp; omega) _).alloc (by simp; omega) _).alloc (by simp; omega) _⟩
  have hd0 : Boxed ((((w.alloc (.cells #[.int .i64 m] 3)).alloc (.cells #[.int .i64 0] 3)).alloc (.cells #[.int .i64 0] 3)).alloc (.cells #[.int .i64 d] 3)) (B + 1 + 1 + 1) 3 (.int .i64 d) := by
    have y5 := Boxed.new (((w.alloc (.cells #[.int .i64 m] 3)).alloc (.cells #[.int .i64 0] 3)).alloc (.cells #[.int .i64 0] 3)) 3 (.int .i64 d)
    simp only [World.size_alloc, hB] at y5
    exact y5
  have hsz : ((((w.alloc (.cells #[.int .i64 m] 3)).alloc (.cells #[.int .i64 0] 3)).alloc (.cells #[.int .i64 0] 3)).alloc (.cells #[.int .i64 d] 3)).heap.size = B + 4 := by simp [hB]
  simp only [hB]
  generalize ((((w.alloc (.cells #[.int .i64 m] 3)).alloc (.cells #[.int .i64 0] 3)).alloc (.cells #[.int .i64 0] 3)).alloc (.cells #[.int .i64 d] 3)) = Wc at hs0 hd0 hsz ⊢
  refine wpIn_range_ix (gf := 65) (lb := #[.pointer (some ⟨B + 1 + 1 + 1, 0, none⟩)]) rfl (enters_of Try.func65 (by kernel_rfl) rfl)
    (conv_iter d hd (B + 1 + 1 + 1) Wc (by omega) hd0 False (K + 1) (by omega) (fun _ h => h)) (Below.refl _ _) (fun _ => rfl)
    turnBelow_keeps keepAbove_rec
    (fun k A => k ≤ K ∧ BState B m (bP d k) (cvQ d k) w A)
    (fun c k A => c = .exit 0 ∧ BState B m (cvP d K) (cvQ d K) w A)
    (fun k A A' h e => ⟨h.1, h.2.below (e.mono (by omega))⟩) (fun c k A A' h e => ⟨h.1, h.2.below (e.mono (by omega))⟩)
    (fun k A r r' h _ => ⟨h.1, h.2.below (below_putObj A (by omega) _)⟩)
    (fun c k A r r' h _ => ⟨h.1, h.2.below (below_putObj A (by omega) _)⟩)
    (fun r => ⟨by omega, hs0.below (((Below.refl _ Wc).alloc (by omega) _).alloc (by simp; omega) _)⟩)
    (fun A h => by have := h.1; omega)
    (fun k => { tmps := #[.int .i64 d, .int .i64 m, undef, .pointer (some ⟨B, 0, none⟩), .pointer (some ⟨B + 1, 0, none⟩), .pointer (some ⟨B + 1 + 1, 0, none⟩), .int .i64 0, .int .i64 (cvP d (k + 1)), .int .i64 (cvQ d (k + 1)), .int .i64 d, .bool true, .bool false, .bool false, .int .i64 m, .bool false, .bool false, .bool false, .int .i64 m, .bool false, .bool false, .int .i64 d, .func (.func 65) #[] #[.pointer (some ⟨B + 1 + 1 + 1, 0, none⟩)], .int .i64 (cvP d (k + 1)), .int .i64 (cvQ d (k + 1)), undef, undef, undef, undef, undef, undef, undef], defers := [] }) ?assign ?body ?done ?stop
  case assign =>
    intro l x A K hK
    gi_wp2
    exact hK
  case done =>
    intro A h
    exact h.elim
  case body =>
    rintro l' k A ⟨hk, hs⟩ hkN hlt _
    clear hs0 hd0
    have c0 := hs.m.cell
    have z1 := hs.x.frozen
    have z2 := hs.y.frozen
    have y1 := hs.x.cell
    have y2 := hs.y.cell
    by_cases hkK : k = K
    · have hgt : m < cvQ d (k + 1) := by rw [hkK]; exact HDD.out
      have h3 : BState B m (cvP d K) (cvQ d K) w A := by
        have := hs
        rw [hkK, bP_pos d ba] at this
        exact this
      have HKK := Lib.hid hkK
      have H3 := Lib.hid h3
      clear hkK h3
      gi_wp2
      exact ⟨⟨rfl, rfl⟩, Above.refl _ _, rfl, H3.out⟩
    · have hle : cvQ d (k + 1) ≤ m := HE.out k (by omega)
      gi_wp2
      have h3 := hs.setR (cvP d (k + 1)) (cvQ d (k + 1))
      exact ⟨⟨set2_same _ _ _ (by omega), set2_same _ _ _ (by omega)⟩, set2_above _ _ (by omega), by omega, by rw [bP_pos d (by omega)]; exact h3⟩
  case stop =>
    rintro c k A hk ⟨rfl, hs⟩ hKK
    have HKK := Lib.hid hKK
    have x1 := hs.x.cell
    have x2 := hs.y.cell
    have z1 := hs.x.frozen
    have z2 := hs.y.frozen
    have mixed : Try.prog.follows .mixedOrders = true := by kernel_rfl
    clear hs0 hd0 hKK
    gi_wp2
    refine wpIn_mono (Q := atNormal { tmps := #[.int .i64 d, .int .i64 m, undef, .pointer (some ⟨B, 0, none⟩), .pointer (some ⟨B + 1, 0, none⟩), .pointer (some ⟨B + 1 + 1, 0, none⟩), .int .i64 0, undef, undef, .int .i64 d, .bool true, .bool false, .bool false, .int .i64 m, .bool false, .bool false, .bool false, .int .i64 m, .bool false, .bool false, .int .i64 d, .func (.func 65) #[] #[.pointer (some ⟨B + 1 + 1 + 1, 0, none⟩)], undef, undef, undef, undef, undef, undef, undef, .int .i64 (cvP d K), .int .i64 (cvQ d K)], defers := [{ target := .collected Wc.heap.size, args := #[] }] } (((A.setCell ⟨B + 1, 0, none⟩ (.int .i64 (cvP d K))).setCell ⟨B + 1 + 1, 0, none⟩ (.int .i64 (cvQ d K))).drew)) ?_ ?_
    · clear HKK hs hk HE HDD bc hd
      gi_region_with_o (fail)
      all_goals (refine ⟨⟨?_, ?_⟩, ?_⟩ <;> first | rfl | simp [Act.put, hsz])
    · rintro e a' w' he
      obtain ⟨rfl, rfl, rfl⟩ := atNormal_out he
      have h3 := hs.setR (cvP d K) (cvQ d K)
      have hD3 := (set2_same (B := B) (W := A) (.int .i64 (cvP d K)) (.int .i64 (cvQ d K)) Wc.heap.size (by omega)).trans HKK.out
      have H3 := Lib.hid h3
      have HD3 := Lib.hid hD3
      clear x1 x2 z1 z2 h3 hD3
      gi_wp2
      obtain ⟨W2, hW2⟩ : ∃ W2, W2 = ((A.setCell ⟨B + 1, 0, none⟩ (.int .i64 (cvP d K))).setCell ⟨B + 1 + 1, 0, none⟩ (.int .i64 (cvQ d K))) := ⟨_, rfl⟩
      have G3 := H3.out
      have GD := HD3.out
      rw [← hW2] at G3 GD ⊢
      have GD2 : W2.drew.heap[Wc.heap.size]? = some (.deferred (some [])) := GD
      refine ⟨by simp, .inl ⟨_, _, rfl, run_takeDeferred GD2, ?_⟩⟩
      have k1 := (boxed_putObj (.deferred none) (boxed_drew G3.x) (l := Wc.heap.size) (by omega)).cell
      have k2 := (boxed_putObj (.deferred none) (boxed_drew G3.y) (l := Wc.heap.size) (by omega)).cell
      refine ⟨.tuple #[.int .i64 (cvP d K), .int .i64 (cvQ d K), .int .i64 0], ?_, rfl, by rw [hB]; exact G3.b.drew.trans (below_putObj _ (by omega) _)⟩
      simp [results, Try.f35, go_sem, k1, k2]
end Go.Proofs.Ytbdadckedhcibaa
