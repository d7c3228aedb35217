/- The walks of the closures of nearest and each, at the plain lattice of one row. Condition: the boxes lie in memory. -/
import Derived.Test.YtgfenponlkmfmaaCmp
namespace Go.Proofs.Ytgfenponlkmfmaa
open Go.RowKit
attribute [local go_sem] Oper.semAt_some

/-- What visit is, and what choose is. -/
def caps3 (s : Nat) : Array Value := #[.pointer (some ⟨s, 0, none⟩), .pointer (some ⟨s + 2, 0, none⟩), .pointer (some ⟨s + 1, 0, none⟩)]
/-- What lies in the boxes: s is the first one. -/
structure Ev (w1 : World) (s b off cb ta : Nat) (f : Value) (fo : Option Int) (W : World) : Prop where
  b1 : Below w1.heap.size w1 W
  hs : w1.heap.size = s
  bs : b < s
  ts : ta < s
  sz : s + 8 ≤ W.heap.size
  c0 : W.cell? ⟨s, 0, none⟩ = some (.int .i64 1)
  c1 : W.cell? ⟨s + 1, 0, none⟩ = some f
  c2 : W.cell? ⟨s + 2, 0, none⟩ = some (.int .i64 1)
  c3 : W.cell? ⟨s + 3, 0, none⟩ = some (.slice (some ⟨b, off, none⟩) 1 cb)
  c4 : W.cell? ⟨s + 4, 0, none⟩ = some (.slice (some ⟨ta, 0, none⟩) 1 1)
  c5 : W.cell? ⟨s + 5, 0, none⟩ = some (.int .i64 1)
  c6 : W.cell? ⟨s + 6, 0, none⟩ = some (.func (.func 103) #[] #[.pointer (some ⟨s, 0, none⟩), .pointer (some ⟨s + 2, 0, none⟩), .pointer (some ⟨s + 1, 0, none⟩)])
  c7 : W.cell? ⟨s + 7, 0, none⟩ = some (.func (.func 120) #[] #[.pointer (some ⟨s + 6, 0, none⟩), .pointer (some ⟨s + 4, 0, none⟩), .pointer (some ⟨s + 3, 0, none⟩), .pointer (some ⟨s + 5, 0, none⟩), .pointer (some ⟨s + 7, 0, none⟩)])
  z1 : W.frozen? ⟨s + 1, 0, none⟩ = false
  z2 : W.frozen? ⟨s + 2, 0, none⟩ = false
  tab : Tab w1 (some ⟨b, off, none⟩) 1 [[1]]
  ti : Ints w1 (some ⟨ta, 0, none⟩) 1 [0]
  fd : (fo = none ∧ f = .slice none 0 0) ∨ ∃ g x, fo = some x ∧ f = .slice (some ⟨g, 0, none⟩) 1 1 ∧ s + 8 ≤ g ∧ g < W.heap.size ∧ W.cell? ⟨g, 0, none⟩ = some (.int .i64 x)
theorem frozen_later {w w' : World} {b o : Nat} {x : Bool} (h : w.frozen? ⟨b, o, none⟩ = x) (hb : Below w.heap.size w w') (hl : b < w.heap.size) : w'.frozen? ⟨b, o, none⟩ = x := by
  rw [← h]
  exact World.frozen?_of_block (hb.block b hl)
theorem Ev.below {w1 W W' : World} {s b off cb ta : Nat} {f : Value} {fo : Option Int} (h : Ev w1 s b off cb ta f fo W) (hb : Below W.heap.size W W') : Ev w1 s b off cb ta f fo W' := by
  have hsz := h.sz
  refine ⟨h.b1.trans (hb.mono h.b1.size), h.hs, h.bs, h.ts, by have := hb.size; omega, cell_later h.c0 hb, cell_later h.c1 hb, cell_later h.c2 hb, cell_later h.c3 hb, cell_later h.c4 hb, cell_later h.c5 hb, cell_later h.c6 hb, cell_later h.c7 hb, frozen_later h.z1 hb (by omega), frozen_later h.z2 hb (by omega), h.tab, h.ti, h.fd.imp id ?_⟩
  rintro ⟨g, x, e1, e2, e3, e4, e5⟩
  exact ⟨g, x, e1, e2, e3, Nat.lt_of_lt_of_le e4 hb.size, cell_later e5 hb⟩
theorem Ev.drewN {w1 W : World} {s b off cb ta : Nat} {f : Value} {fo : Option Int} (h : Ev w1 s b off cb ta f fo W) (q : Nat) : Ev w1 s b off cb ta f fo (W.drewN q) := h.below (below_drewN (Below.refl _ _) q)
theorem Ev.store {w1 W : World} {s b off cb ta g : Nat} {f : Value} {fo : Option Int} {x : Int} (h : Ev w1 s b off cb ta f fo W) (hg : s + 8 ≤ g) (hx : W.cell? ⟨g, 0, none⟩ = some (.int .i64 x)) :
    Ev w1 s b off cb ta (.slice (some ⟨g, 0, none⟩) 1 1) (some x) ((W.setCell ⟨s + 1, 0, none⟩ (.slice (some ⟨g, 0, none⟩) 1 1)).setCell ⟨s + 2, 0, none⟩ (.int .i64 1)) := by
  have hsz := h.sz
  have hgl := World.block_lt_of_cell? _ _ hx
  have hs := h.hs
  have oth : ∀ k v, k ≠ s + 1 → k ≠ s + 2 → W.cell? ⟨k, 0, none⟩ = some v → ((W.setCell ⟨s + 1, 0, none⟩ (.slice (some ⟨g, 0, none⟩) 1 1)).setCell ⟨s + 2, 0, none⟩ (.int .i64 1)).cell? ⟨k, 0, none⟩ = some v := by
    intro k v h1 h2 hv
    rw [World.cell?_setCell_other _ _ _ _ (by first | (simp; done) | (simp; omega)), World.cell?_setCell_other _ _ _ _ (by first | (simp; done) | (simp; omega))]
    exact hv
  refine ⟨(h.b1.setCell (p := ⟨s + 1, 0, none⟩) (by show w1.heap.size ≤ s + 1; omega) _).setCell (p := ⟨s + 2, 0, none⟩) (by show w1.heap.size ≤ s + 2; omega) _, h.hs, h.bs, h.ts, by simpa using h.sz, oth _ _ (by omega) (by omega) h.c0, ?_, ?_, oth _ _ (by omega) (by omega) h.c3, oth _ _ (by omega) (by omega) h.c4, oth _ _ (by omega) (by omega) h.c5, oth _ _ (by omega) (by omega) h.c6, oth _ _ (by omega) (by omega) h.c7, ?_, ?_, h.tab, h.ti, .inr ⟨g, x, rfl, rfl, hg, by simpa using hgl, oth _ _ (by omega) (by omega) hx⟩⟩
  · rw [World.cell?_setCell_other _ _ _ _ (by simp)]
    exact World.cell?_setCell_same' _ _ _ (by rw [h.c1]; rfl)
  · exact World.cell?_setCell_same' _ _ _ (by rw [World.cell?_setCell_other _ _ _ _ (by simp), h.c2]; rfl)
  · rw [World.frozen?_setCell, World.frozen?_setCell]; exact h.z1
  · rw [World.frozen?_setCell, World.frozen?_setCell]; exact h.z2

theorem eqNil : ∀ (w : World) (a : Option Addr) (n c n' c' : Nat), (binOp .eql 35 (.slice a n c) (.slice none n' c')).run Try.prog w = .ok (.bool a.isNone) w := fun w a n c n' c' => Lib.run_eql_slice_nil w _ _ a n c n' c' Try.underlying35
/-- All but the boxes of found and best lies as it lay. -/
def Kp (s : Nat) (W W' : World) : Prop := W.heap.size ≤ W'.heap.size ∧ ∀ k, k < W.heap.size → k ≠ s + 1 → k ≠ s + 2 → W'.heap[k]? = W.heap[k]?
theorem Kp.refl (s : Nat) (W : World) : Kp s W W := ⟨Nat.le_refl _, fun _ _ _ _ => rfl⟩
theorem Kp.below {s : Nat} {W W' : World} (h : Below W.heap.size W W') : Kp s W W' := ⟨h.size, fun k hk _ _ => h.block k hk⟩
theorem Kp.trans {s : Nat} {W W' W'' : World} (h : Kp s W W') (h' : Kp s W' W'') : Kp s W W'' := ⟨Nat.le_trans h.1 h'.1, fun k hk h1 h2 => (h'.2 k (Nat.lt_of_lt_of_le hk h.1) h1 h2).trans (h.2 k hk h1 h2)⟩
theorem Kp.drew {s : Nat} {W W' : World} (h : Kp s W W') : Kp s W W'.drew := h
theorem Kp.cell {s : Nat} {W W' : World} (h : Kp s W W') {k o : Nat} {v : Value} (h1 : k ≠ s + 1) (h2 : k ≠ s + 2) (hv : W.cell? ⟨k, o, none⟩ = some v) : W'.cell? ⟨k, o, none⟩ = some v := by
  rw [← hv]
  exact World.cell?_of_block (h.2 k (World.block_lt_of_cell? _ _ hv) h1 h2)
theorem Kp.store (s : Nat) (W : World) (u v : Value) : Kp s W ((W.setCell ⟨s + 1, 0, none⟩ u).setCell ⟨s + 2, 0, none⟩ v) :=
  ⟨by simp, fun k _ h1 h2 => (Below.heap_setCell _ ⟨s + 2, 0, none⟩ _ k h2).trans (Below.heap_setCell _ ⟨s + 1, 0, none⟩ _ k h1)⟩
/-- What visit does with a vector: -/
def stepV (fo : Option Int) (x d : Int) : Option Int :=
  if d = 1 then (match fo with | none => some x | some y => if x < y then some x else some y) else fo

set_option maxHeartbeats 1000000 in
set_option maxRecDepth 100000 in
theorem visit_any (w1 : World) (s b off cb ta g : Nat) (f : Value) (fo : Option Int) (x d : Int) (W : World) (h : Ev w1 s b off cb ta f fo W) (hg : s + 8 ≤ g) (hx : W.cell? ⟨g, 0, none⟩ = some (.int .i64 x)) (hd : d = 0 ∨ d = 1) :
    Calls Try.prog 103 #[.slice (some ⟨g, 0, none⟩) 1 1, .int .i64 d, .pointer (some ⟨s, 0, none⟩), .pointer (some ⟨s + 2, 0, none⟩), .pointer (some ⟨s + 1, 0, none⟩)] W fun e w' => e = .returned (.tuple #[]) ∧ (∃ f', Ev w1 s b off cb ta f' (stepV fo x d) w') ∧ Kp s W w' := by
  have hsz := h.sz
  have hgl := World.block_lt_of_cell? _ _ hx
  have k0 := h.c0
  have k1 := h.c1
  have k2 := h.c2
  have z1 := h.z1
  have z2 := h.z2
  have HE := Lib.hid h
  have HX := Lib.hid hx
  have q35 := eqNil
  rcases hd with rfl | rfl
  · have e : stepV fo x 0 = fo := by simp [stepV]
    rw [e]
    clear h hx e
    go_enter Try.func103, Try.ntmps103
    go_wp2
    (try simp only [Exit.inBlock, Exit.then]); first | (refine bodyPost_ret (results_none rfl _ _ _) rfl ?_) | (refine bodyPost_end (results_none rfl _ _ _) rfl ?_)
    exact ⟨rfl, ⟨f, HE.out⟩, Kp.refl _ _⟩
  · rcases h.fd with ⟨rfl, rfl⟩ | ⟨g2, y, rfl, rfl, hg2, hgl2, hy⟩
    · have e : stepV none x 1 = some x := by simp [stepV]
      rw [e]
      clear h hx e
      go_enter Try.func103, Try.ntmps103
      go_wp2
      (try simp only [Exit.inBlock, Exit.then]); first | (refine bodyPost_ret (results_none rfl _ _ _) rfl ?_) | (refine bodyPost_end (results_none rfl _ _ _) rfl ?_)
      exact ⟨rfl, ⟨_, HE.out.store hg HX.out⟩, Kp.store _ _ _ _⟩
    · have hC := compare_any (some ⟨g, 0, none⟩) (some ⟨g2, 0, none⟩) 1 1 1 [x] [y] W ⟨rfl, .inr ⟨g, 0, rfl, hgl, fun j hj => by
        obtain rfl : j = 0 := by omega
        exact hx⟩⟩ ⟨rfl, .inr ⟨g2, 0, rfl, hgl2, fun j hj => by
        obtain rfl : j = 0 := by omega
        exact hy⟩⟩ (by omega)
      by_cases hxy : x < y
      · have e : stepV (some y) x 1 = some x := by simp [stepV, hxy]
        have e2 : cmpL [x] [y] = -1 := by simp [cmpL, cmpI, hxy]
        rw [e]
        rw [e2] at hC
        have HC := Lib.hid hC
        clear h hx e e2 hC hy
        go_enter Try.func103, Try.ntmps103
        go_wp2_with fail
        refine HC.out.mono ?_
        rintro e w2 ⟨rfl, rfl⟩
        go_wp2
        (try simp only [Exit.inBlock, Exit.then]); first | (refine bodyPost_ret (results_none rfl _ _ _) rfl ?_) | (refine bodyPost_end (results_none rfl _ _ _) rfl ?_)
        exact ⟨rfl, ⟨_, HE.out.store hg HX.out⟩, Kp.store _ _ _ _⟩
      · have e : stepV (some y) x 1 = some y := by simp [stepV, hxy]
        have e2 : ¬ cmpL [x] [y] < 0 := by
          simp only [cmpL, cmpI, if_neg hxy]
          split <;> split <;> omega
        obtain ⟨C, hCC⟩ : ∃ C, cmpL [x] [y] = C := ⟨_, rfl⟩
        rw [e]
        rw [hCC] at hC e2
        have HC := Lib.hid hC
        clear h hx e hC hy hCC
        go_enter Try.func103, Try.ntmps103
        go_wp2_with fail
        refine HC.out.mono ?_
        rintro e w2 ⟨rfl, rfl⟩
        go_wp2
        (try simp only [Exit.inBlock, Exit.then]); first | (refine bodyPost_ret (results_none rfl _ _ _) rfl ?_) | (refine bodyPost_end (results_none rfl _ _ _) rfl ?_)
        exact ⟨rfl, ⟨_, HE.out⟩, Kp.refl _ _⟩

/-- The inner product of one number. -/
theorem det_one_gram (y : Int) : det 1 (grm 1 (ent [[y]])) = y * y := by simp [det1, grm, dot, sm, ent, row]

set_option maxHeartbeats 2000000 in
set_option maxRecDepth 100000 in
theorem near_any (w1 : World) (s b off cb ta p q g : Nat) (f : Value) (fo : Option Int) (x : Int) (W : World) (h : Ev w1 s b off cb ta f fo W) (hp : W.cell? ⟨p, 0, none⟩ = some (.slice (some ⟨b, off, none⟩) 0 cb)) (hq : W.cell? ⟨q, 0, none⟩ = some (.int .i64 1))
    (hx : W.cell? ⟨g, 0, none⟩ = some (.int .i64 x)) (hb : -3 ≤ x ∧ x ≤ 3) (hcb : cb ≤ 1000) :
    Calls Try.prog 122 #[.slice (some ⟨g, 0, none⟩) 1 1, .pointer (some ⟨p, 0, none⟩), .pointer (some ⟨q, 0, none⟩)] W fun e w' => e = .returned (.bool (decide (x * x ≤ 1))) ∧ Below W.heap.size W w' := by
  have hgl := World.block_lt_of_cell? _ _ hx
  have hlie : Lies W (some ⟨g, 0, none⟩) 1 [x] := ⟨⟨rfl, .inr ⟨g, 0, rfl, hgl, fun j hj => by
    have : j < 1 := hj
    obtain rfl : j = 0 := by omega
    exact hx⟩⟩, Nat.le_refl _, by unfold maxLen; omega⟩
  have hA : ∀ W', BelF W.heap.size W W' → Calls Try.prog 119 #[.slice (some ⟨b, off, none⟩) 0 cb, .slice (some ⟨g, 0, none⟩) 1 1] W' fun e w' => ∃ a2 c2, e = .returned (.slice a2 1 c2) ∧ Tab w' a2 1 [[x]] ∧ Below W'.heap.size W' w' := by
    intro W' hB
    refine (and_any b off 0 cb [] [x] (some ⟨g, 0, none⟩) 1 1 W' (Tab.nil _ _) (fun i hi => by omega) (by omega) rfl (hlie.below hB.to) (by omega) (by omega) (by unfold maxLen; omega)).mono ?_
    rintro e w1 ⟨v1, rfl, ht, hb⟩
    obtain ⟨a2, c2, rfl, htab, -⟩ := ht.form
    exact ⟨a2, c2, rfl, htab, hb⟩
  have hV : ∀ W' a2 c2, Tab W' a2 1 [[x]] → Calls Try.prog 95 #[.slice a2 1 c2] W' fun e w' => e = .returned (.int .i64 (x * x)) ∧ Below W'.heap.size W' w' := by
    intro W' a2 c2 ht
    have := volume_any a2 1 c2 1 [[x]] W' ht (by omega) (by omega) (fun i hi => by
      obtain rfl : i = 0 := by omega
      rfl)
    rw [det_one_gram, IntWalk.wrap64_in (x * x) (by
      have : x = -3 ∨ x = -2 ∨ x = -1 ∨ x = 0 ∨ x = 1 ∨ x = 2 ∨ x = 3 := by omega
      rcases this with h | h | h | h | h | h | h <;> subst h <;> omega)] at this
    exact this
  obtain ⟨N, hN⟩ : ∃ N, x * x = N := ⟨_, rfl⟩
  rw [hN] at hV ⊢
  have HA := Lib.hid hA
  have HV := Lib.hid hV
  have H0 := Lib.hid (show W.cell? ⟨p, 0, none⟩ = some (.slice (some ⟨b, off, none⟩) 0 cb) ∧ W.cell? ⟨q, 0, none⟩ = some (.int .i64 1) ∧ BelF W.heap.size W W from ⟨hp, hq, BelF.begin W⟩)
  have HNX := Lib.hid (fun (W1 W2 : World) (hb : Below W1.heap.size W1 W2) (h : W1.cell? ⟨p, 0, none⟩ = some (.slice (some ⟨b, off, none⟩) 0 cb) ∧ W1.cell? ⟨q, 0, none⟩ = some (.int .i64 1) ∧ BelF W.heap.size W W1) =>
    (show W2.cell? ⟨p, 0, none⟩ = some (.slice (some ⟨b, off, none⟩) 0 cb) ∧ W2.cell? ⟨q, 0, none⟩ = some (.int .i64 1) ∧ BelF W.heap.size W W2 from ⟨cell_later h.1 hb, cell_later h.2.1 hb, h.2.2.next hb⟩))
  have HDR := Lib.hid (fun (W1 : World) => Below.drew (Below.refl W1.heap.size W1))
  have HB := Lib.hid (fun (W1 : World) (h : W1.cell? ⟨p, 0, none⟩ = some (.slice (some ⟨b, off, none⟩) 0 cb) ∧ W1.cell? ⟨q, 0, none⟩ = some (.int .i64 1) ∧ BelF W.heap.size W W1) => h.2.2)
  clear hA hV hN hlie hp hq hx h
  go_enter Try.func122, Try.ntmps122
  go_wp2
  go_region_held3 (fun W1 => W1.cell? ⟨p, 0, none⟩ = some (.slice (some ⟨b, off, none⟩) 0 cb) ∧ W1.cell? ⟨q, 0, none⟩ = some (.int .i64 1) ∧ BelF W.heap.size W W1)
    (first | exact H0.out | exact HNX.out _ _ (HDR.out _) H0.out | exact HNX.out _ _ (HDR.out _) (by assumption) | exact HNX.out _ _ hba (by assumption) | exact HNX.out _ _ hbv (by assumption))
    ((first
      | (go_at_call 119; refine (HA.out _ (HB.out _ (by assumption))).mono ?_; rintro e wx ⟨a2, c2, rfl, hta, hba⟩)
      | (go_at_call 95; refine (HV.out _ a2 _ hta).mono ?_; rintro e wx ⟨rfl, hbv⟩)))
  all_goals
    go_wp2
    go_ret
    exact ⟨rfl, by first | exact BelF.to (HB.out _ (by assumption)) | exact BelF.to (BelF.drew (HB.out _ (by assumption)))⟩
end Go.Proofs.Ytgfenponlkmfmaa
