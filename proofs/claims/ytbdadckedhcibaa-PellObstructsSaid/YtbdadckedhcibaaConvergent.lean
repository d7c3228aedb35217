/- The walk of pell.Convergent: p and q with the index k, or the documented error. No condition on the arguments beyond the case that each theorem names. -/
import Derived.Test.YtbdadckedhcibaaExpand
namespace Go.Proofs.Ytbdadckedhcibaa
open Go.RowKit Go.Shelf
attribute [local go_sem] Oper.semAt_some

/-- The variables of Convergent: k's box and the three results'. -/
structure VState (B : Nat) (k x y e : Int) (w W : World) : Prop where
  k : Boxed W B 3 (.int .i64 k)
  x : Boxed W (B + 1) 3 (.int .i64 x)
  y : Boxed W (B + 1 + 1) 3 (.int .i64 y)
  e : Boxed W (B + 1 + 1 + 1) 23 (.int .i64 e)
  b : Below B w W
theorem VState.below {B : Nat} {k x y e : Int} {w W W' : World} (h : VState B k x y e w W) (hB : Below (B + 4) W W') : VState B k x y e w W' :=
  ⟨boxed_below h.k hB (by omega), boxed_below h.x hB (by omega), boxed_below h.y hB (by omega), boxed_below h.e hB (by omega), h.b.trans (hB.mono (by omega))⟩
theorem VState.setK {B : Nat} {k x y e : Int} {w W : World} (h : VState B k x y e w W) (k' : Int) : VState B k' x y e w (W.setCell ⟨B, 0, none⟩ (.int .i64 k')) :=
  ⟨h.k.set _, boxed_setCell _ h.x (by omega), boxed_setCell _ h.y (by omega), boxed_setCell _ h.e (by omega), h.b.setCell (p := ⟨B, 0, none⟩) (Nat.le_refl B) _⟩
theorem VState.setR {B : Nat} {k x y e : Int} {w W : World} (h : VState B k x y e w W) (x' y' e' : Int) :
    VState B k x' y' e' w (((W.setCell ⟨B + 1, 0, none⟩ (.int .i64 x')).setCell ⟨B + 1 + 1, 0, none⟩ (.int .i64 y')).setCell ⟨B + 1 + 1 + 1, 0, none⟩ (.int .i64 e')) := by
  have n1 : B ≤ B + 1 := by omega
  have n2 : B ≤ B + 1 + 1 := by omega
  have n3 : B ≤ B + 1 + 1 + 1 := by omega
  refine ⟨?_, ?_, ?_, ?_, ?_⟩
  · exact boxed_setCell _ (boxed_setCell _ (boxed_setCell _ h.k (by omega)) (by omega)) (by omega)
  · exact boxed_setCell _ (boxed_setCell _ (h.x.set _) (by omega)) (by omega)
  · exact boxed_setCell _ ((boxed_setCell _ h.y (by omega)).set _) (by omega)
  · exact (boxed_setCell _ (boxed_setCell _ h.e (by omega)) (by omega)).set _
  · exact ((h.b.setCell (p := ⟨B + 1, 0, none⟩) n1 _).setCell (p := ⟨B + 1 + 1, 0, none⟩) n2 _).setCell (p := ⟨B + 1 + 1 + 1, 0, none⟩) n3 _
theorem set3_same {B : Nat} {W : World} (u v e : Value) (j : Nat) (hj : B + 4 ≤ j) : (((W.setCell ⟨B + 1, 0, none⟩ u).setCell ⟨B + 1 + 1, 0, none⟩ v).setCell ⟨B + 1 + 1 + 1, 0, none⟩ e).heap[j]? = W.heap[j]? := by
  have k1 : j ≠ B + 1 := by omega
  have k2 : j ≠ B + 1 + 1 := by omega
  have k3 : j ≠ B + 1 + 1 + 1 := by omega
  exact (Below.heap_setCell _ _ _ j k3).trans ((Below.heap_setCell _ _ _ j k2).trans (Below.heap_setCell _ _ _ j k1))
theorem set3_above {B n : Nat} {W : World} (u v e : Value) (hn : B + 4 ≤ n) : Above n W (((W.setCell ⟨B + 1, 0, none⟩ u).setCell ⟨B + 1 + 1, 0, none⟩ v).setCell ⟨B + 1 + 1 + 1, 0, none⟩ e) := by
  have m1 : B + 1 < n := by omega
  have m2 : B + 1 + 1 < n := by omega
  have m3 : B + 1 + 1 + 1 < n := by omega
  exact ((Above.setCell W (p := ⟨B + 1, 0, none⟩) m1 _).trans (Above.setCell _ (p := ⟨B + 1 + 1, 0, none⟩) m2 _)).trans (Above.setCell _ (p := ⟨B + 1 + 1 + 1, 0, none⟩) m3 _)

/-- What Convergent hands back: p, q and the error. -/
def cvt (d : Int) (K : Nat) : Int × Int × Int := if K < cvStop d then (cvP d (K + 1), cvQ d (K + 1), 0) else (0, 0, 6)

set_option maxRecDepth 100000 in
set_option maxHeartbeats 2000000 in
theorem Convergent_yes (d : Int) (hd : isD d = true) (K : Nat) (hK : K ≤ 20) (w : World) :
    Calls Try.prog 15 #[.int .i64 d, .int .i64 K] w fun e w' => e = .returned (.tuple #[.int .i64 (cvt d K).1, .int .i64 (cvt d K).2.1, .int .i64 (cvt d K).2.2]) ∧ Below w.heap.size w w' := by
  obtain ⟨X, hX⟩ : ∃ X, cvt d K = X := ⟨_, rfl⟩
  rw [hX]
  have HX := Lib.hid hX
  clear hX
  have hk0 : decide ((K : Int) < 0) = false := by simp
  have hk1 : decide (20 < (K : Int)) = false := by simp; omega
  refine (callsIn_wide (n := 5)).1 ?_
  refine callsIn_of_wp_marks Try.func15 rfl trivial ?_ rfl
  simp only [Try.ntmps15, List.size_toArray, List.length_cons, List.length_nil, Nat.reduceAdd, Nat.reduceSub, Array.replicate_succ, Array.replicate_zero, List.push_toArray, List.append_toArray, List.nil_append, List.cons_append]
  gi_wp2_with (first | (refine ⟨trivial, ?_⟩; gi_at_call 41; refine (callsIn_wide.2 (validD_any _ _)).mono ?_; rintro e w' ⟨rfl, rfl⟩) | (refine ⟨trivial, ?_⟩; gi_at_call 43; refine (callsIn_wide.2 (convergents_any _ _)).mono ?_; rintro e w' ⟨rfl, rfl⟩))
  clear hk0 hk1
  obtain ⟨B, hB⟩ : ∃ B, w.heap.size = B := ⟨_, rfl⟩
  have hs0 : VState B (K : Int) 0 0 0 w (((((w.alloc (.cells #[.int .i64 (K : Int)] 3)).alloc (.cells #[.int .i64 0] 3)).alloc (.cells #[.int .i64 0] 3)).alloc (.cells #[.int .i64 0] 23)).alloc (.cells #[.int .i64 d] 3)) := by
    have y0 := Boxed.new w 3 (.int .i64 (K : Int))
    have y1 := Boxed.new (w.alloc (.cells #[.int .i64 (K : Int)] 3)) 3 (.int .i64 0)
    have y2 := Boxed.new ((w.alloc (.cells #[.int .i64 (K : Int)] 3)).alloc (.cells #[.int .i64 0] 3)) 3 (.int .i64 0)
    have y3 := Boxed.new (((w.alloc (.cells #[.int .i64 (K : Int)] 3)).alloc (.cells #[.int .i64 0] 3)).alloc (.cells #[.int .i64 0] 3)) 23 (.int .i64 0)
    simp only [World.size_alloc, hB] at y0 y1 y2 y3
    exact ⟨(((y0.alloc _).alloc _).alloc _).alloc _, ((y1.alloc _).alloc _).alloc _, (y2.alloc _).alloc _, y3.alloc _,
      (((((Below.refl B w).alloc (by omega) _).alloc (by simp; omega) _).alloc (by simp; omega) _).alloc (by simp; omega) _).alloc (by simp; omega) _⟩
  have hd0 : Boxed (((((w.alloc (.cells #[.int .i64 (K : Int)] 3)).alloc (.cells #[.int .i64 0] 3)).alloc (.cells #[.int .i64 0] 3)).alloc (.cells #[.int .i64 0] 23)).alloc (.cells #[.int .i64 d] 3)) (B + 1 + 1 + 1 + 1) 3 (.int .i64 d) := by
    have y5 := Boxed.new ((((w.alloc (.cells #[.int .i64 (K : Int)] 3)).alloc (.cells #[.int .i64 0] 3)).alloc (.cells #[.int .i64 0] 3)).alloc (.cells #[.int .i64 0] 23)) 3 (.int .i64 d)
    simp only [World.size_alloc, hB] at y5
    exact y5
  have hsz : (((((w.alloc (.cells #[.int .i64 (K : Int)] 3)).alloc (.cells #[.int .i64 0] 3)).alloc (.cells #[.int .i64 0] 3)).alloc (.cells #[.int .i64 0] 23)).alloc (.cells #[.int .i64 d] 3)).heap.size = B + 5 := by simp [hB]
  simp only [hB]
  generalize (((((w.alloc (.cells #[.int .i64 (K : Int)] 3)).alloc (.cells #[.int .i64 0] 3)).alloc (.cells #[.int .i64 0] 3)).alloc (.cells #[.int .i64 0] 23)).alloc (.cells #[.int .i64 d] 3)) = Wc at hs0 hd0 hsz ⊢
  obtain ⟨N, hN, hNF⟩ : ∃ N, N ≤ cvStop d ∧ ((K < cvStop d ∧ N = K + 1) ∨ (cvStop d ≤ K ∧ N = cvStop d)) := by
    by_cases h : K < cvStop d
    · exact ⟨K + 1, by omega, .inl ⟨h, rfl⟩⟩
    · exact ⟨cvStop d, by omega, .inr ⟨by omega, rfl⟩⟩
  refine wpIn_range_ix (gf := 65) (lb := #[.pointer (some ⟨B + 1 + 1 + 1 + 1, 0, none⟩)]) rfl (enters_of Try.func65 (by kernel_rfl) rfl)
    (conv_iter d hd (B + 1 + 1 + 1 + 1) Wc (by omega) hd0 (cvStop d ≤ K) N hN (by omega)) (Below.refl _ _) (fun _ => rfl)
    turnBelow_keeps keepAbove_rec
    (fun k A => k ≤ K ∧ VState B ((K - k : Nat) : Int) 0 0 0 w A)
    (fun c k A => c = .ret ∧ VState B 0 X.1 X.2.1 X.2.2 w A)
    (fun k A A' h e => ⟨h.1, h.2.below (e.mono (by omega))⟩) (fun c k A A' h e => ⟨h.1, h.2.below (e.mono (by omega))⟩)
    (fun k A r r' h _ => ⟨h.1, h.2.below (below_putObj A (by omega) _)⟩)
    (fun c k A r r' h _ => ⟨h.1, h.2.below (below_putObj A (by omega) _)⟩)
    (fun r => ⟨by omega, hs0.below (((Below.refl _ Wc).alloc (by omega) _).alloc (by simp; omega) _)⟩)
    (fun A h => by have := h.1; omega)
    (fun k => { tmps := #[.int .i64 d, .int .i64 (K : Int), undef, .pointer (some ⟨B, 0, none⟩), .pointer (some ⟨B + 1, 0, none⟩), .pointer (some ⟨B + 1 + 1, 0, none⟩), .pointer (some ⟨B + 1 + 1 + 1, 0, none⟩), .int .i64 (cvP d (k + 1)), .int .i64 (cvQ d (k + 1)), .int .i64 d, .bool true, .bool false, .bool false, .int .i64 (K : Int), .bool false, .bool false, .bool false, .int .i64 (K : Int), .bool false, .bool false, .int .i64 d, .func (.func 65) #[] #[.pointer (some ⟨B + 1 + 1 + 1 + 1, 0, none⟩)], .int .i64 (cvP d (k + 1)), .int .i64 (cvQ d (k + 1)), undef, undef, undef, undef, undef, undef], defers := [] }) ?assign ?body ?done ?stop
  case assign =>
    intro l x A K hK
    gi_wp2
    exact hK
  case done =>
    intro A hF hi hKK
    have hX : X = (0, 0, 6) := by rw [← HX.out, cvt, if_neg (by omega)]
    have HKK := Lib.hid hKK
    have x1 := hi.2.x.cell
    have x2 := hi.2.y.cell
    have x3 := hi.2.e.cell
    have z1 := hi.2.x.frozen
    have z2 := hi.2.y.frozen
    have z3 := hi.2.e.frozen
    subst hX
    clear hs0 hd0 hKK
    gi_wp2
    have h3 := hi.2.setR 0 0 6
    have hD : A.heap[B + 5]? = some (.deferred (some [])) := by rw [← hsz]; exact HKK.out
    have hD3 := (set3_same (B := B) (W := A) (.int .i64 0) (.int .i64 0) (.int .i64 6) (B + 5) (by omega)).trans hD
    refine ⟨by simp, .inl ⟨_, _, rfl, run_takeDeferred hD3, ?_⟩⟩
    have k1 := (boxed_putObj (.deferred none) h3.x (l := B + 5) (by omega)).cell
    have k2 := (boxed_putObj (.deferred none) h3.y (l := B + 5) (by omega)).cell
    have k3 := (boxed_putObj (.deferred none) h3.e (l := B + 5) (by omega)).cell
    refine ⟨.tuple #[.int .i64 0, .int .i64 0, .int .i64 6], ?_, rfl, h3.b.trans (below_putObj _ (by omega) _)⟩
    simp [results, Try.f15, go_sem, k1, k2, k3]
  case stop =>
    rintro c k A hk ⟨rfl, hs⟩ hK
    gi_wp2
    refine ⟨by simp, .inl ⟨_, _, rfl, run_takeDeferred hK, ?_⟩⟩
    have k1 := (boxed_putObj (.deferred none) hs.x (l := Wc.heap.size) (by omega)).cell
    have k2 := (boxed_putObj (.deferred none) hs.y (l := Wc.heap.size) (by omega)).cell
    have k3 := (boxed_putObj (.deferred none) hs.e (l := Wc.heap.size) (by omega)).cell
    refine ⟨.tuple #[.int .i64 X.1, .int .i64 X.2.1, .int .i64 X.2.2], ?_, rfl, by rw [hB]; exact hs.b.trans (below_putObj A (by omega) _)⟩
    simp [results, Try.f15, go_sem, k1, k2, k3]
  case body =>
    rintro l' k A ⟨hk, hs⟩ hkN hlt _
    clear hs0 hd0
    have c0 := hs.k.cell
    have z0 := hs.k.frozen
    have z1 := hs.x.frozen
    have z2 := hs.y.frozen
    have z3 := hs.e.frozen
    have y1 := hs.x.cell
    have y2 := hs.y.cell
    have y3 := hs.e.cell
    by_cases hkK : k = K
    · have hX : X = (cvP d (k + 1), cvQ d (k + 1), 0) := by rw [← HX.out, cvt, if_pos (by omega), hkK]
      have e0 : ((K - k : Nat) : Int) = 0 := by omega
      rw [e0] at c0
      have HXX := Lib.hid hX
      have HKK := Lib.hid hkK
      have HE := Lib.hid e0
      clear hX hkK e0
      gi_wp2
      have h3 := hs.setR (cvP d (k + 1)) (cvQ d (k + 1)) 0
      rw [HE.out] at h3
      rw [HXX.out]
      exact ⟨⟨set3_same _ _ _ _ (by omega), set3_same _ _ _ _ (by omega)⟩, set3_above _ _ _ (by omega), rfl, h3⟩
    · have e0 : (((K - k : Nat) : Int) == 0) = false := by simp; omega
      have e1 : ((K - k : Nat) : Int) - 1 = ((K - (k + 1) : Nat) : Int) := by omega
      have hb1 : ((K - k : Nat) : Int) ≤ 20 := by omega
      gi_wp2
      exact ⟨⟨Below.heap_setCell _ _ _ _ (by show Wc.heap.size ≠ B; omega), Below.heap_setCell _ _ _ _ (by show Wc.heap.size + 1 ≠ B; omega)⟩,
        Above.setCell A (p := ⟨B, 0, none⟩) (by show B < _; omega) _, by omega, hs.setK _⟩

set_option maxHeartbeats 1000000 in
theorem Convergent_no (d k : Int) (h : isD d = false ∨ k < 0 ∨ 20 < k) (w : World) :
    Calls Try.prog 15 #[.int .i64 d, .int .i64 k] w fun e w' => e = .returned (.tuple #[.int .i64 0, .int .i64 0, .int .i64 2]) ∧ Below w.heap.size w w' := by
  have hB := ((((Below.refl w.heap.size w).alloc (Nat.le_refl _) (.cells #[.int .i64 k] 3)).alloc (by simp) (.cells #[.int .i64 0] 3)).alloc (by simp; omega) (.cells #[.int .i64 0] 3)).alloc (by simp; omega) (.cells #[.int .i64 2] 23)
  have HB := Lib.hid hB
  clear hB
  by_cases hd : isD d = true
  · have h' : k < 0 ∨ 20 < k := by simpa [hd] using h
    have HD := Lib.hid hd
    clear hd h
    rcases h' with h' | h'
    · have h1 : decide (k < 0) = true := by simpa using h'
      go_enter Try.func15, Try.ntmps15
      go_wp2_with (first | (go_at_call 41; refine (validD_any _ _).mono ?_; rintro e w' ⟨rfl, rfl⟩; rw [HD.out]))
      refine bodyPost_ret (v := .tuple #[.int .i64 0, .int .i64 0, .int .i64 2]) (by simp [results, Try.results15, go_sem]) rfl ⟨rfl, HB.out⟩
    · have h1 : decide (20 < k) = true := by simpa using h'
      have h2 : decide (k < 0) = false := by simp; omega
      go_enter Try.func15, Try.ntmps15
      go_wp2_with (first | (go_at_call 41; refine (validD_any _ _).mono ?_; rintro e w' ⟨rfl, rfl⟩; rw [HD.out]))
      refine bodyPost_ret (v := .tuple #[.int .i64 0, .int .i64 0, .int .i64 2]) (by simp [results, Try.results15, go_sem]) rfl ⟨rfl, HB.out⟩
  · have hd' : isD d = false := by simpa using hd
    have HD := Lib.hid hd'
    clear hd hd' h
    go_enter Try.func15, Try.ntmps15
    go_wp2_with (first | (go_at_call 41; refine (validD_any _ _).mono ?_; rintro e w' ⟨rfl, rfl⟩; rw [HD.out]))
    refine bodyPost_ret (v := .tuple #[.int .i64 0, .int .i64 0, .int .i64 2]) (by simp [results, Try.results15, go_sem]) rfl ⟨rfl, HB.out⟩
end Go.Proofs.Ytbdadckedhcibaa
