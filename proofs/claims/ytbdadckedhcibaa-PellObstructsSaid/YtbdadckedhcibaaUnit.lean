/- The walks of pell.unit, right, Unit, Right, gherkinlaw01.awake and gherkinref01.square, Valid. Conditions as stated in each theorem (d is a D where it is said). -/
import Derived.Test.YtbdadckedhcibaaConv
namespace Go.Proofs.Ytbdadckedhcibaa
open Go.RowKit Go.Shelf
attribute [local go_sem] Oper.semAt_some

/-! The unit, plainly. -/
def nrm (d : Int) (k : Nat) : Int := cvP d (k + 1) * cvP d (k + 1) - d * cvQ d (k + 1) * cvQ d (k + 1)
def uKAux (d : Int) : Nat → Nat → Nat
  | 0, k => k
  | f + 1, k => if nrm d k = 1 ∨ nrm d k = -1 then k else uKAux d f (k + 1)
def uK (d : Int) : Nat := uKAux d 20 0
def uGood (d : Int) (k : Nat) : Bool :=
  decide (1 ≤ cvP d (k + 1)) && decide (cvP d (k + 1) ≤ 3000000) && decide (1 ≤ cvQ d (k + 1)) && decide (cvQ d (k + 1) ≤ 300000)
    && decide (cvP d (k + 1) * cvP d (k + 1) ≤ 9000000000000) && decide (d * cvQ d (k + 1) ≤ 30000000) && decide (d * cvQ d (k + 1) * cvQ d (k + 1) ≤ 9000000000000)
    && (decide (k = uK d) || (!decide (nrm d k = 1) && !decide (nrm d k = -1)))
def uCheck : Bool := allBelow 101 fun d => !isD d || (decide (uK d < 20) && decide (uK d + 1 < cvStop d) && allBelow (uK d + 1) (uGood d) && (decide (nrm d (uK d) = 1) || decide (nrm d (uK d) = -1)))
theorem uCheck_ok : uCheck = true := by decide +kernel

theorem u_all {d : Int} (hd : isD d = true) : uK d < 20 ∧ uK d + 1 < cvStop d ∧ (∀ k, k ≤ uK d → uGood d k = true) ∧ (nrm d (uK d) = 1 ∨ nrm d (uK d) = -1) := by
  have hb := isD_bd hd
  have h := allBelow_at uCheck_ok (k := d.toNat) (by omega)
  rw [Int.toNat_of_nonneg (by omega), hd] at h
  simp at h
  exact ⟨h.1.1.1, h.1.1.2, fun k hk => allBelow_at h.1.2 (by omega), h.2⟩
theorem u_facts {d : Int} (hd : isD d = true) {k : Nat} (hk : k ≤ uK d) :
    1 ≤ cvP d (k + 1) ∧ cvP d (k + 1) ≤ 3000000 ∧ 1 ≤ cvQ d (k + 1) ∧ cvQ d (k + 1) ≤ 300000 ∧ cvP d (k + 1) * cvP d (k + 1) ≤ 9000000000000 ∧ d * cvQ d (k + 1) ≤ 30000000 ∧ d * cvQ d (k + 1) * cvQ d (k + 1) ≤ 9000000000000 := by
  have h := (u_all hd).2.2.1 k hk
  simp only [uGood, Bool.and_eq_true, decide_eq_true_eq] at h
  omega
theorem u_not {d : Int} (hd : isD d = true) {k : Nat} (hk : k < uK d) : nrm d k ≠ 1 ∧ nrm d k ≠ -1 := by
  have h := (u_all hd).2.2.1 k (by omega)
  simp only [uGood, Bool.and_eq_true, Bool.or_eq_true, decide_eq_true_eq, Bool.not_eq_true', decide_eq_false_iff_not] at h
  omega

/-! What the law on loops asks of 'turnBelow' and 'keepAbove'. -/
theorem turnBelow_keeps {n : Nat} (A B : World) (h : turnBelow (n + 2) A B) : B.heap[n]? = A.heap[n]? ∧ B.heap[n + 1]? = A.heap[n + 1]? :=
  ⟨h.block n (by omega), h.block (n + 1) (by omega)⟩
theorem keepAbove_rec {n : Nat} (A B : World) (r r1 r2 : Loop) (_ : A.heap[n + 1]? = some (.loop r)) (h : keepAbove (n + 2) (A.putObj (n + 1) (.loop r1)) B) : keepAbove (n + 2) A (B.putObj (n + 1) (.loop r2)) :=
  ⟨by have := h.size; simp at this ⊢; exact this, fun k h1 h2 => by
    rw [World.putObj_heap_other (by omega), h.block k h1 (by simpa using h2), World.putObj_heap_other (by omega)]⟩

/-- The variables of unit: the boxes from B on. -/
structure UState (d : Int) (B : Nat) (x y : Int) (w W : World) : Prop where
  d : Boxed W B 3 (.int .i64 d)
  x : Boxed W (B + 1) 3 (.int .i64 x)
  y : Boxed W (B + 1 + 1) 3 (.int .i64 y)
  n : ∃ v, Boxed W (B + 1 + 1 + 1) 3 (.int .i64 v)
  b : Below B w W
theorem UState.below {d : Int} {B : Nat} {x y : Int} {w W W' : World} (h : UState d B x y w W) (hB : Below (B + 4) W W') : UState d B x y w W' :=
  ⟨boxed_below h.d hB (by omega), boxed_below h.x hB (by omega), boxed_below h.y hB (by omega), h.n.imp fun _ h => boxed_below h hB (by omega), h.b.trans (hB.mono (by omega))⟩

/-- What the round stores that leaves by 'return p, q, norm'. -/
theorem u_step {d : Int} {B : Nat} {x y p q m nv : Int} {w A : World} (hs : UState d B x y w A) (hn : Boxed A (B + 1 + 1 + 1) 3 (.int .i64 nv)) :
    ∃ W1, W1 = ((((A.setCell ⟨B + 1 + 1 + 1, 0, none⟩ (.int .i64 m)).setCell ⟨B + 1, 0, none⟩ (.int .i64 p)).setCell ⟨B + 1 + 1, 0, none⟩ (.int .i64 q)).setCell ⟨B + 1 + 1 + 1, 0, none⟩ (.int .i64 m)).drew ∧
      ((∀ j, B + 4 ≤ j → W1.heap[j]? = A.heap[j]?) ∧ Above (B + 4) A W1 ∧ UState d B p q w W1 ∧ Boxed W1 (B + 1 + 1 + 1) 3 (.int .i64 m)) := by
  have n1 : B ≤ B + 1 := by omega
  have n2 : B ≤ B + 1 + 1 := by omega
  have n3 : B ≤ B + 1 + 1 + 1 := by omega
  have m1 : B + 1 < B + 4 := by omega
  have m2 : B + 1 + 1 < B + 4 := by omega
  have m3 : B + 1 + 1 + 1 < B + 4 := by omega
  have h4 : Boxed ((((A.setCell ⟨B + 1 + 1 + 1, 0, none⟩ (.int .i64 m)).setCell ⟨B + 1, 0, none⟩ (.int .i64 p)).setCell ⟨B + 1 + 1, 0, none⟩ (.int .i64 q)).setCell ⟨B + 1 + 1 + 1, 0, none⟩ (.int .i64 m)).drew (B + 1 + 1 + 1) 3 (.int .i64 m) := by
    refine boxed_drew ?_
    exact (boxed_setCell _ (boxed_setCell _ (hn.set _) (by omega)) (by omega)).set _
  refine ⟨_, rfl, ?_, ?_, ⟨?_, ?_, ?_, ⟨_, h4⟩, ?_⟩, h4⟩
  · intro j hj
    have k1 : j ≠ B + 1 := by omega
    have k2 : j ≠ B + 1 + 1 := by omega
    have k3 : j ≠ B + 1 + 1 + 1 := by omega
    exact (Below.heap_setCell _ _ _ j k3).trans ((Below.heap_setCell _ _ _ j k2).trans ((Below.heap_setCell _ _ _ j k1).trans (Below.heap_setCell _ _ _ j k3)))
  · exact ((((Above.setCell A (p := ⟨B + 1 + 1 + 1, 0, none⟩) m3 _).trans (Above.setCell _ (p := ⟨B + 1, 0, none⟩) m1 _)).trans (Above.setCell _ (p := ⟨B + 1 + 1, 0, none⟩) m2 _)).trans (Above.setCell _ (p := ⟨B + 1 + 1 + 1, 0, none⟩) m3 _)).trans (Above.drew _ _)
  · refine boxed_drew ?_
    exact boxed_setCell _ (boxed_setCell _ (boxed_setCell _ (boxed_setCell _ hs.d (by omega)) (by omega)) (by omega)) (by omega)
  · refine boxed_drew ?_
    exact boxed_setCell _ (boxed_setCell _ ((boxed_setCell _ hs.x (by omega)).set _) (by omega)) (by omega)
  · refine boxed_drew ?_
    exact boxed_setCell _ ((boxed_setCell _ (boxed_setCell _ hs.y (by omega)) (by omega)).set _) (by omega)
  · exact ((((hs.b.setCell (p := ⟨B + 1 + 1 + 1, 0, none⟩) n3 _).setCell (p := ⟨B + 1, 0, none⟩) n1 _).setCell (p := ⟨B + 1 + 1, 0, none⟩) n2 _).setCell (p := ⟨B + 1 + 1 + 1, 0, none⟩) n3 _).drew

set_option maxHeartbeats 2000000 in
theorem unit_any (d : Int) (hd : isD d = true) (w : World) :
    Calls Try.prog 46 #[.int .i64 d] w fun e w' => e = .returned (.tuple #[.int .i64 (cvP d (uK d + 1)), .int .i64 (cvQ d (uK d + 1)), .int .i64 (nrm d (uK d))]) ∧ Below w.heap.size w w' := by
  obtain ⟨ua, ub, -, uc⟩ := u_all hd
  have hd2 := isD_bd hd
  refine (callsIn_wide (n := 5)).1 ?_
  refine callsIn_of_wp_marks Try.func46 rfl trivial ?_ rfl
  simp only [Try.ntmps46, List.size_toArray, List.length_cons, List.length_nil, Nat.reduceAdd, Nat.reduceSub, Array.replicate_succ, Array.replicate_zero, List.push_toArray, List.append_toArray, List.nil_append, List.cons_append]
  have hUC := Lib.hid uc
  clear uc
  gi_wp2_with (refine ⟨trivial, ?_⟩; gi_at_call 43; refine (callsIn_wide.2 (convergents_any _ _)).mono ?_; rintro e w' ⟨rfl, rfl⟩)
  obtain ⟨B, hB⟩ : ∃ B, w.heap.size = B := ⟨_, rfl⟩
  have hs0 : UState d B 0 0 w (((((w.alloc (.cells #[.int .i64 d] 3)).alloc (.cells #[.int .i64 0] 3)).alloc (.cells #[.int .i64 0] 3)).alloc (.cells #[.int .i64 0] 3)).alloc (.cells #[.int .i64 d] 3)) := by
    have y0 := Boxed.new w 3 (.int .i64 d)
    have y1 := Boxed.new (w.alloc (.cells #[.int .i64 d] 3)) 3 (.int .i64 0)
    have y2 := Boxed.new ((w.alloc (.cells #[.int .i64 d] 3)).alloc (.cells #[.int .i64 0] 3)) 3 (.int .i64 0)
    have y3 := Boxed.new (((w.alloc (.cells #[.int .i64 d] 3)).alloc (.cells #[.int .i64 0] 3)).alloc (.cells #[.int .i64 0] 3)) 3 (.int .i64 0)
    simp only [World.size_alloc, hB] at y0 y1 y2 y3
    exact ⟨(((y0.alloc _).alloc _).alloc _).alloc _, ((y1.alloc _).alloc _).alloc _, (y2.alloc _).alloc _, ⟨0, y3.alloc _⟩,
      (((((Below.refl B w).alloc (by omega) _).alloc (by simp; omega) _).alloc (by simp; omega) _).alloc (by simp; omega) _).alloc (by simp; omega) _⟩
  have hd0 : Boxed (((((w.alloc (.cells #[.int .i64 d] 3)).alloc (.cells #[.int .i64 0] 3)).alloc (.cells #[.int .i64 0] 3)).alloc (.cells #[.int .i64 0] 3)).alloc (.cells #[.int .i64 d] 3)) (B + 1 + 1 + 1 + 1) 3 (.int .i64 d) := by
    have y5 := Boxed.new ((((w.alloc (.cells #[.int .i64 d] 3)).alloc (.cells #[.int .i64 0] 3)).alloc (.cells #[.int .i64 0] 3)).alloc (.cells #[.int .i64 0] 3)) 3 (.int .i64 d)
    simp only [World.size_alloc, hB] at y5
    exact y5
  have hsz : (((((w.alloc (.cells #[.int .i64 d] 3)).alloc (.cells #[.int .i64 0] 3)).alloc (.cells #[.int .i64 0] 3)).alloc (.cells #[.int .i64 0] 3)).alloc (.cells #[.int .i64 d] 3)).heap.size = B + 5 := by simp [hB]
  simp only [hB]
  generalize (((((w.alloc (.cells #[.int .i64 d] 3)).alloc (.cells #[.int .i64 0] 3)).alloc (.cells #[.int .i64 0] 3)).alloc (.cells #[.int .i64 0] 3)).alloc (.cells #[.int .i64 d] 3)) = Wc at hs0 hd0 hsz ⊢
  refine wpIn_range_ix (gf := 65) (lb := #[.pointer (some ⟨B + 1 + 1 + 1 + 1, 0, none⟩)]) rfl (enters_of Try.func65 (by kernel_rfl) rfl)
    (conv_iter d hd (B + 1 + 1 + 1 + 1) Wc (by omega) hd0 False (uK d + 1) (by omega) (fun _ h => h)) (Below.refl _ _) (fun _ => rfl)
    turnBelow_keeps keepAbove_rec
    (fun k A => k ≤ uK d ∧ UState d B 0 0 w A)
    (fun c k A => c = .ret ∧ UState d B (cvP d (uK d + 1)) (cvQ d (uK d + 1)) w A ∧ Boxed A (B + 1 + 1 + 1) 3 (.int .i64 (nrm d (uK d))))
    (fun k A A' h e => ⟨h.1, h.2.below (e.mono (by omega))⟩) (fun c k A A' h e => ⟨h.1, h.2.1.below (e.mono (by omega)), boxed_below h.2.2 e (by omega)⟩)
    (fun k A r r' h _ => ⟨h.1, h.2.below (below_putObj A (by omega) _)⟩)
    (fun c k A r r' h _ => ⟨h.1, h.2.1.below (below_putObj A (by omega) _), boxed_putObj _ h.2.2 (by omega)⟩)
    (fun r => ⟨by omega, hs0.below (((Below.refl _ Wc).alloc (by omega) _).alloc (by simp; omega) _)⟩)
    (fun A h => by have := h.1; omega)
    (fun k => { tmps := #[.int .i64 d, .pointer (some ⟨B, 0, none⟩), .pointer (some ⟨B + 1, 0, none⟩), .pointer (some ⟨B + 1 + 1, 0, none⟩), .pointer (some ⟨B + 1 + 1 + 1, 0, none⟩), .int .i64 (cvP d (k + 1)), .int .i64 (cvQ d (k + 1)), .int .i64 d, .func (.func 65) #[] #[.pointer (some ⟨B + 1 + 1 + 1 + 1, 0, none⟩)], .int .i64 (cvP d (k + 1)), .int .i64 (cvQ d (k + 1)), undef, undef, undef, undef, undef, undef, undef, undef, undef, undef, undef, undef, undef, undef, undef, undef, undef, undef], defers := [] }) ?assign ?body ?done ?stop
  case assign =>
    intro l x A K hK
    gi_wp2
    exact hK
  case done =>
    intro A h
    exact h.elim
  case stop =>
    rintro c k A hk ⟨rfl, hs, hn⟩ hK
    gi_wp2
    refine ⟨by simp, .inl ⟨_, _, rfl, run_takeDeferred hK, ?_⟩⟩
    have k1 := (boxed_putObj (.deferred none) hs.x (l := Wc.heap.size) (by omega)).cell
    have k2 := (boxed_putObj (.deferred none) hs.y (l := Wc.heap.size) (by omega)).cell
    have k3 := (boxed_putObj (.deferred none) hn (l := Wc.heap.size) (by omega)).cell
    refine ⟨.tuple #[.int .i64 (cvP d (uK d + 1)), .int .i64 (cvQ d (uK d + 1)), .int .i64 (nrm d (uK d))], ?_, rfl, by rw [hB]; exact hs.b.trans (below_putObj A (by omega) _)⟩
    simp [results, Try.f46, go_sem, k1, k2, k3]
  case body =>
    rintro l' k A ⟨hk, hs⟩ hkN hlt _
    clear hs0 hd0
    obtain ⟨f1, f2, f3, f4, f5, f6, f7⟩ := u_facts hd hk
    obtain ⟨nv, hnb⟩ := hs.n
    have c0 := hs.d.cell
    have c1 := hs.x.cell
    have c2 := hs.y.cell
    have c3 := hnb.cell
    have z1 := hs.x.frozen
    have z2 := hs.y.frozen
    have z3 := hnb.frozen
    have en : cvP d (k + 1) * cvP d (k + 1) - d * cvQ d (k + 1) * cvQ d (k + 1) = nrm d k := rfl
    have s0 : 0 ≤ cvP d (k + 1) * cvP d (k + 1) := sq_nonneg _
    have s1 : 0 ≤ d * cvQ d (k + 1) := Int.mul_nonneg (by omega) (by omega)
    have s2 : 0 ≤ d * cvQ d (k + 1) * cvQ d (k + 1) := Int.mul_nonneg s1 (by omega)
    have mixed : Try.prog.follows .mixedOrders = true := by kernel_rfl
    by_cases hku : k = uK d
    · have h12 : nrm d k = 1 ∨ nrm d k = -1 := by rw [hku]; exact hUC.out
      have HKU := Lib.hid hku
      clear hku
      obtain ⟨W1, hW1, hE⟩ := u_step (p := cvP d (k + 1)) (q := cvQ d (k + 1)) (m := nrm d k) hs hnb
      have hR : ∀ a', roundEnd Wc.heap.size keepAbove (fun k A => k ≤ uK d ∧ UState d B 0 0 w A) (fun c k A => c = .ret ∧ UState d B (cvP d (uK d + 1)) (cvQ d (uK d + 1)) w A ∧ Boxed A (B + 1 + 1 + 1) 3 (.int .i64 (nrm d (uK d)))) k A .ret a' W1 := fun a' =>
        ⟨⟨hE.1 _ (by omega), hE.1 _ (by omega)⟩, hE.2.1.mono (by omega), rfl, by rw [← HKU.out]; exact hE.2.2⟩
      have HR := Lib.hid hR
      have HW := Lib.hid hW1
      clear hR hW1 hE
      rcases h12 with h | h
      · have b1 : (nrm d k == 1) = true := by simp [h]
        clear h
        gi_wp2
        refine wpIn_mono (Q := fun e _ w' => e = .normal ∧ w' = W1) ?_ ?_
        · rw [HW.out]
          clear hUC HR hs hnb HW en hd2 hd hkN hk hlt hsz hB HKU
          gi_region_with_o (fail)
          all_goals exact ⟨rfl, rfl⟩
        · rintro e a' w' ⟨rfl, rfl⟩
          gi_wp2
          exact HR.out _
      · have b1 : (nrm d k == 1) = false := by simp [h]
        have b2 : (nrm d k == -1) = true := by simp [h]
        clear h
        gi_wp2
        refine wpIn_mono (Q := fun e _ w' => e = .normal ∧ w' = W1) ?_ ?_
        · rw [HW.out]
          clear hUC HR hs hnb HW en hd2 hd hkN hk hlt hsz hB HKU
          gi_region_with_o (fail)
          all_goals exact ⟨rfl, rfl⟩
        · rintro e a' w' ⟨rfl, rfl⟩
          gi_wp2
          exact HR.out _
    · have hlt' : k < uK d := by omega
      obtain ⟨n1, n2⟩ := u_not hd hlt'
      have b1 : (nrm d k == 1) = false := by simp [n1]
      have b2 : (nrm d k == -1) = false := by simp [n2]
      clear n1 n2
      gi_wp2
      exact ⟨⟨Below.heap_setCell _ _ _ _ (by show Wc.heap.size ≠ B + 1 + 1 + 1; omega), Below.heap_setCell _ _ _ _ (by show Wc.heap.size + 1 ≠ B + 1 + 1 + 1; omega)⟩,
        Above.setCell A (p := ⟨B + 1 + 1 + 1, 0, none⟩) (by show B + 1 + 1 + 1 < _; omega) _, hlt', ⟨boxed_setCell _ hs.d (by omega), boxed_setCell _ hs.x (by omega), boxed_setCell _ hs.y (by omega), ⟨_, hnb.set _⟩, hs.b.setCell (p := ⟨B + 1 + 1 + 1, 0, none⟩) (by show B ≤ B + 1 + 1 + 1; omega) _⟩⟩
end Go.Proofs.Ytbdadckedhcibaa
