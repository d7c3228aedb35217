/- The walk of choose at the first row, at the plain lattice of one row. Condition: the boxes lie in memory. -/
import Derived.Test.YtgfenponlkmfmaaAwk2
namespace Go.Proofs.Ytgfenponlkmfmaa
open Go.RowKit
attribute [local go_sem] Oper.semAt_some

theorem frozen_new (w : World) (xs : Array Value) (j : Nat) {t : TypeId} : (w.alloc (.cells xs t)).frozen? ⟨w.heap.size, j, none⟩ = false := by
  unfold World.frozen?
  rw [heap_alloc_last]
  rfl
def EvF (w1 : World) (s b off cb ta : Nat) (fo : Option Int) (W : World) : Prop := ∃ f, Ev w1 s b off cb ta f fo W
/-- What the region of the limit keeps. -/
def SM (w0 : World) (s p b off cb : Nat) (W : World) : Prop := W.cell? ⟨s + 5, 0, none⟩ = some (.int .i64 1) ∧ W.cell? ⟨p, 0, none⟩ = some (.slice (some ⟨b, off, none⟩) 0 cb) ∧ BelF w0.heap.size w0 W
theorem SM.of {w0 W : World} {s p b off cb : Nat} (h1 : w0.cell? ⟨s + 5, 0, none⟩ = some (.int .i64 1)) (h2 : w0.cell? ⟨p, 0, none⟩ = some (.slice (some ⟨b, off, none⟩) 0 cb)) (h : BelF w0.heap.size w0 W) : SM w0 s p b off cb W :=
  ⟨cell_later h1 h.to, cell_later h2 h.to, h⟩
theorem less_one : lessL 1 [[1]] [0] 0 = [0] := by decide +kernel
theorem less_facts : shN 1 [[1]] [0] 0 = 0 ∧ vol 1 (ent [[1]]) 1 = 1 := by decide +kernel
/-- What found is after so many vectors up, and down. -/
def foU (k : Nat) : Option Int := if k = 2 then some 1 else none
def foD (k : Nat) : Option Int := if k = 1 then some (-1) else some 1
/-- What the loops keep. -/
def LP (w1 : World) (s b off cb ta p q g2 g' : Nat) (x : Int) (fo : Option Int) (W : World) : Prop :=
  W.cell? ⟨g', 0, none⟩ = some (.int .i64 x) ∧ W.cell? ⟨p, 0, none⟩ = some (.slice (some ⟨b, off, none⟩) 0 cb) ∧ W.cell? ⟨q, 0, none⟩ = some (.int .i64 1) ∧ W.cell? ⟨g2, 0, none⟩ = some (.int .i64 0) ∧ EvF w1 s b off cb ta fo W ∧ s + 8 ≤ p ∧ s + 8 ≤ q ∧ s + 8 ≤ g2 ∧ s + 8 ≤ g'
theorem BelF.alloc {w W : World} (h : BelF w.heap.size w W) (o : Obj) : BelF w.heap.size w (W.alloc o) := h.next ((Below.refl _ _).alloc (Nat.le_refl _) _)
theorem BelF.setNew {w W1 W : World} (h1 : BelF w.heap.size w W1) (h : BelF w.heap.size w W) (v : Value) : BelF w.heap.size w (W.setCell ⟨W1.heap.size, 0, none⟩ v) := BelF.of (h.to.setCell (p := ⟨W1.heap.size, 0, none⟩) h1.to.size v)

theorem less_call (w1 : World) (s b off cb ta g : Nat) (f : Value) (W : World) (hE : Ev w1 s b off cb ta f none W) (hX : W.cell? ⟨g, 0, none⟩ = some (.int .i64 0)) (hcb : 1 ≤ cb ∧ cb ≤ 1000) :
    Calls Try.prog 112 #[.slice (some ⟨b, off, none⟩) 1 cb, .slice (some ⟨g, 0, none⟩) 1 1, .int .i64 0] W fun e w' => ∃ g', e = .returned (.slice (some ⟨g', 0, none⟩) 1 1) ∧ w'.cell? ⟨g', 0, none⟩ = some (.int .i64 0) ∧ s + 8 ≤ g' ∧ Below W.heap.size W w' := by
  have := less_any b off 1 cb 1 0 [[1]] [0] (some ⟨g, 0, none⟩) 1 W (hE.tab.below hE.b1) (by omega) hcb.1 (by unfold maxLen; omega) (fun i hi => by
    obtain rfl : i = 0 := by omega
    rfl) (by omega) (by omega) ⟨one_row hX, Nat.le_refl _, by unfold maxLen; omega⟩ rfl (by omega)
    (by rw [less_facts.1]; decide) (by rw [less_facts.2]; decide) (by rw [less_facts.2]; decide)
  rw [less_one] at this
  refine this.mono ?_
  rintro e w2 ⟨g', rfl, hr, hb⟩
  have hsz := hE.sz
  exact ⟨g', rfl, (row_one hr).2, by have := (row_one hr).1; omega, hb⟩

set_option maxHeartbeats 4000000 in
set_option maxRecDepth 100000 in
theorem choose_any (w1 : World) (s b off cb ta g : Nat) (f : Value) (W : World) (h : Ev w1 s b off cb ta f none W) (hx : W.cell? ⟨g, 0, none⟩ = some (.int .i64 0)) (hcb : 1 ≤ cb ∧ cb ≤ 1000) :
    Calls Try.prog 120 #[.int .i64 0, .slice (some ⟨g, 0, none⟩) 1 1, .pointer (some ⟨s + 6, 0, none⟩), .pointer (some ⟨s + 4, 0, none⟩), .pointer (some ⟨s + 3, 0, none⟩), .pointer (some ⟨s + 5, 0, none⟩), .pointer (some ⟨s + 7, 0, none⟩)] W
      fun e w' => e = .returned (.tuple #[]) ∧ ∃ f', Ev w1 s b off cb ta f' (some (-1)) w' := by
  have hsz := h.sz
  have k3 := h.c3
  have k5 := h.c5
  have cb0 : (0 : Int) ≤ (cb : Int) := by omega
  obtain ⟨p, hp⟩ : ∃ p, W.heap.size = p := ⟨_, rfl⟩
  have HE := Lib.hid h
  have HX := Lib.hid hx
  have HPP := Lib.hid hp
  clear h hx
  go_enter Try.func120, Try.ntmps120
  go_wp2
  have hE0 := HE.out.below ((Below.refl W.heap.size W).alloc (Nat.le_refl _) (.cells #[.slice (some ⟨b, off, none⟩) 0 cb] 66))
  have hX0 := cell_later HX.out ((Below.refl W.heap.size W).alloc (Nat.le_refl _) (.cells #[.slice (some ⟨b, off, none⟩) 0 cb] 66))
  have hp0 := cell_box W (.slice (some ⟨b, off, none⟩) 0 cb) 66
  have hpl : p < (W.alloc (.cells #[.slice (some ⟨b, off, none⟩) 0 cb] 66)).heap.size := by rw [← HPP.out]; simp
  rw [HPP.out] at hp0
  obtain ⟨W0, hW0⟩ : ∃ W0, W.alloc (.cells #[.slice (some ⟨b, off, none⟩) 0 cb] 66) = W0 := ⟨_, rfl⟩
  rw [hW0] at hE0 hX0 hp0 hpl ⊢
  have h5 := hE0.c5
  have hV : ∀ W', BelF W0.heap.size W0 W' → Calls Try.prog 95 #[.slice (some ⟨b, off, none⟩) 0 cb] W' fun e w' => e = .returned (.int .i64 1) ∧ Below W'.heap.size W' w' := by
    intro W' hB
    have := volume_any (some ⟨b, off, none⟩) 0 cb 1 [] W' (Tab.nil _ _) (by omega) (by omega) (fun i hi => by omega)
    rw [show wrap64 (det 0 (grm 1 (ent []))) = 1 from (by show wrap64 1 = 1; decide +kernel)] at this
    exact this
  have HV := Lib.hid hV
  have HE0 := Lib.hid hE0
  have HX0 := Lib.hid hX0
  have H0 := Lib.hid (SM.of h5 hp0 (BelF.begin W0))
  have HSO := Lib.hid (fun (W1 : World) (hB : BelF W0.heap.size W0 W1) => SM.of h5 hp0 hB)
  have HB := Lib.hid (fun (W1 : World) (h : SM W0 s p b off cb W1) => h.2.2)
  have HP0 := Lib.hid (And.intro hp0 hpl)
  clear hV hE0 hX0 hW0 hp0 hpl h5 k3 k5 hp
  go_region_held3 (fun W1 => W1.cell? ⟨s + 5, 0, none⟩ = some (.int .i64 1) ∧ W1.cell? ⟨p, 0, none⟩ = some (.slice (some ⟨b, off, none⟩) 0 cb) ∧ BelF W0.heap.size W0 W1)
    (first | assumption | exact H0.out | exact HSO.out _ (BelF.drew (HB.out _ H0.out)) | exact HSO.out _ (BelF.drew (HB.out _ (by assumption))) | exact HSO.out _ (BelF.next (HB.out _ (by assumption)) hbv) | exact HSO.out _ (BelF.alloc (HB.out _ (by assumption)) _) | exact HSO.out _ (BelF.alloc (BelF.drew (HB.out _ H0.out)) _) | exact HSO.out _ (BelF.alloc (HB.out _ H0.out) _) | exact HSO.out _ (BelF.alloc (BelF.next (HB.out _ H0.out) hbv) _) | exact HSO.out _ (BelF.alloc (BelF.next (BelF.drew (HB.out _ H0.out)) hbv) _) | exact HSO.out _ (BelF.setNew (HB.out _ (by assumption)) (HB.out _ (by assumption)) _) | exact HSO.out _ (BelF.setNew (HB.out _ H0.out) (HB.out _ (by assumption)) _))
    ((go_at_call 95; refine (HV.out _ (HB.out _ (by assumption))).mono ?_; rintro e wx ⟨rfl, hbv⟩; (try have hcq := cell_later (show ((W0.alloc (.cells #[.int .i64 0] 3)).drew).cell? ⟨W0.heap.size, 0, none⟩ = some (.int .i64 0) from cell_box W0 (.int .i64 0) 3) hbv); (try have hfq := frozen_later (show ((W0.alloc (.cells #[.int .i64 0] 3)).drew).frozen? ⟨W0.heap.size, 0, none⟩ = false from frozen_new W0 _ 0) hbv (by show W0.heap.size < (W0.alloc (.cells #[.int .i64 0] 3)).heap.size; simp))))
  · obtain ⟨q, hqq⟩ : ∃ q, wx.heap.size = q := ⟨_, rfl⟩
    have hw1 : IntKind.i64.wrap 1 = 1 := by decide +kernel
    have hB1 : BelF W0.heap.size W0 (wx.alloc (.cells #[.int .i64 (IntKind.i64.wrap 1)] 3)) := HB.out _ (by assumption)
    have hq := cell_box wx (.int .i64 (IntKind.i64.wrap 1)) 3
    have hqs : s + 8 ≤ p ∧ s + 8 ≤ q := by have := hbv.size; have := HP0.out.2; have := HPP.out; have e2 : W0.drew.heap.size = W0.heap.size := rfl; omega
    rw [hqq] at hq ⊢
    rw [hw1] at hq hB1 ⊢
    obtain ⟨Wz, hWz⟩ : ∃ Wz, wx.alloc (.cells #[.int .i64 1] 3) = Wz := ⟨_, rfl⟩
    rw [hWz] at hB1 hq ⊢
    have HC := Lib.hid (And.intro (cell_later HP0.out.1 hB1.to) (And.intro hq (And.intro (HE0.out.below hB1.to) (cell_later HX0.out hB1.to))))
    have HQS := Lib.hid hqs
    clear hB1 hq hqs hWz hqq hw1 hbv

    obtain ⟨b', off', ai, ci, e0, -, hcell, hli⟩ := HE.out.tab.at (show 0 < 1 by omega)
    cases e0
    have hcell2 : w1.cell? ⟨b, off, none⟩ = some (.slice ai 1 ci) := hcell
    have hli2 : Ints w1 ai 1 [1] := hli.ints
    have HROW := Lib.hid (fun (W' : World) (f' : Value) (fo' : Option Int) (hE : Ev w1 s b off cb ta f' fo' W') => And.intro (cell_later hcell2 hE.b1) (hli2.below hE.b1))
    clear hcell hcell2 hli hli2
    have d1 := HC.out.2.2.1.c3
    have HLS := Lib.hid (less_call w1 s b off cb ta g f Wz HC.out.2.2.1 HC.out.2.2.2 hcb)
    have HPG := Lib.hid (And.intro HQS.out.1 HQS.out.2)
    clear hsz
    go_wp2_with fail
    refine HLS.out.mono ?_
    rintro e W2 ⟨g2, rfl, hg2, hgs, hb2⟩
    have HS2 := Lib.hid (show LP w1 s b off cb ta p q g2 g2 0 (foU 0) W2 from ⟨hg2, cell_later HC.out.1 hb2, cell_later HC.out.2.1 hb2, hg2, ⟨f, HC.out.2.2.1.below hb2⟩, HPG.out.1, HPG.out.2, hgs, hgs⟩)
    clear hb2 d1 hg2 hgs
    go_wp2
    go_loopg [13] 3 (fun gk s13 wr => ∃ (k g' : Nat), k + gk = 3 ∧ k < 3 ∧ s13 = .slice (some ⟨g', 0, none⟩) 1 1 ∧ RowKit.Hid (LP w1 s b off cb ta p q g2 g' (k : Int) (foU k) wr))
    case atStart => exact ⟨0, g2, by omega, by omega, rfl, Lib.hid HS2.out⟩
    case round =>
      obtain ⟨k, g', hk, hk3, rfl, HL⟩ := hrel
      have HK := Lib.hid hk
      obtain ⟨hx, hp, hq, hg2, ⟨fk, hE⟩, hps, hqs, hgs, hgs'⟩ := HL.out
      have HN := Lib.hid (near_any w1 s b off cb ta p q g' fk (foU k) (k : Int) wr hE hp hq hx (by omega) hcb.2)
      by_cases hk2 : k < 2
      · have hdec : decide ((k : Int) * (k : Int) ≤ 1) = true := by
          have : k = 0 ∨ k = 1 := by omega
          rcases this with rfl | rfl <;> decide
        rw [hdec] at HN
        have c7 := hE.c7
        have HPP2 := Lib.hid (And.intro hp (And.intro hq (And.intro hg2 (And.intro hx (And.intro hE (And.intro hps (And.intro hqs (And.intro hgs hgs'))))))))
        have HC7 := Lib.hid c7
        clear hp hq hg2 hx hE hps hqs hgs hgs' c7 hk hdec
        go_wp2_with fail
        refine HN.out.mono ?_
        rintro e w3 ⟨rfl, hb3⟩
        have c7 := cell_later HC7.out hb3
        have HLF := Lib.hid (leaf_any w1 s b off cb ta g' fk (foU k) (k : Int) w3 (HPP2.out.2.2.2.2.1.below hb3) (cell_later HPP2.out.2.2.2.1 hb3) (by omega))
        have HB3 := Lib.hid hb3
        clear hb3
        go_wp2_with fail
        refine HLF.out.mono ?_
        rintro e w4 ⟨rfl, ⟨f4, hev4⟩, hkp4⟩
        have hst : stepV (foU k) (k : Int) ((k : Int) * (k : Int)) = foU (k + 1) := by
          have : k = 0 ∨ k = 1 := by omega
          rcases this with rfl | rfl <;> decide
        rw [hst] at hev4
        have c3 := hev4.c3
        obtain ⟨hrow, hrint⟩ := HROW.out w4 f4 _ hev4
        obtain ⟨hp1, hp2, hp3, hp4, hp5, hp6, hp7, hp8, hp9⟩ := HPP2.out
        have HX4 := Lib.hid (And.intro (hkp4.cell (by omega) (by omega) (cell_later hp4 HB3.out)) (And.intro (hkp4.cell (by omega) (by omega) (cell_later hp1 HB3.out)) (And.intro (hkp4.cell (by omega) (by omega) (cell_later hp2 HB3.out)) (hkp4.cell (by omega) (by omega) (cell_later hp3 HB3.out)))))
        have HSZ := Lib.hid (And.intro hp6 (And.intro hp7 hp8))
        have HE4 := Lib.hid hev4
        have hpl := plus_any (some ⟨g', 0, none⟩) ai 1 1 1 ci [(k : Int)] [1] 1 w4 (one_row HX4.out.1) hrint (Nat.le_refl _) (by omega)
        rw [plus_one (k : Int) 1 1 (by omega) (.inl rfl) (by omega)] at hpl
        have HPL := Lib.hid hpl
        clear hp1 hp2 hp3 hp4 hp5 hp6 hp7 hp8 hp9 hev4 hkp4 hst hpl hrint c7
        go_wp2_with fail
        refine HPL.out.mono ?_
        rintro e w5 ⟨g5, rfl, hr5, hb5⟩
        obtain ⟨r1, r2⟩ := row_one hr5
        have HF := Lib.hid (show LP w1 s b off cb ta p q g2 g5 ((k + 1 : Nat) : Int) (foU (k + 1)) w5 from ⟨by rw [r2]; congr 2, cell_later HX4.out.2.1 hb5, cell_later HX4.out.2.2.1 hb5, cell_later HX4.out.2.2.2 hb5, ⟨f4, HE4.out.below hb5⟩, HSZ.out.1, HSZ.out.2.1, HSZ.out.2.2, by have := HE4.out.sz; omega⟩)
        clear r1 r2 hr5 hb5 hrow c3
        go_wp2
        go_roundg (gk - 1)
        case rel => exact ⟨k + 1, g5, by have := HK.out; omega, by omega, rfl, HF.out⟩
        case measure => have := HK.out; omega
      · have hk2' : k = 2 := by omega
        subst hk2'
        have hdec : decide (((2 : Nat) : Int) * ((2 : Nat) : Int) ≤ 1) = false := by decide
        rw [hdec] at HN
        have HPP2 := Lib.hid (And.intro hp (And.intro hq (And.intro hg2 (And.intro hE (And.intro hps (And.intro hqs hgs))))))
        clear hp hq hg2 hx hE hps hqs hgs hgs' hk hdec hk2 hk3
        go_wp2_with fail
        refine HN.out.mono ?_
        rintro e w3 ⟨rfl, hb3⟩
        obtain ⟨hp1, hp2, hp3, hp5, hp6, hp7, hp8⟩ := HPP2.out
        have hev3 := hp5.below hb3
        have c3 := hev3.c3
        obtain ⟨hrow, hrint⟩ := HROW.out w3 fk _ hev3
        have HX4 := Lib.hid (And.intro (cell_later hp3 hb3) (And.intro (cell_later hp1 hb3) (cell_later hp2 hb3)))
        have HSZ := Lib.hid (And.intro hp6 (And.intro hp7 hp8))
        have HE4 := Lib.hid hev3
        have hpl := plus_any (some ⟨g2, 0, none⟩) ai 1 1 1 ci [0] [1] (-1) w3 (one_row HX4.out.1) hrint (Nat.le_refl _) (by omega)
        rw [plus_one 0 (-1) 1 (by omega) (.inr (.inl rfl)) (by omega)] at hpl
        have HPL := Lib.hid hpl
        clear hp1 hp2 hp3 hp5 hp6 hp7 hp8 hev3 hpl hrint hb3
        go_wp2_with fail
        refine HPL.out.mono ?_
        rintro e w5 ⟨g5, rfl, hr5, hb5⟩
        obtain ⟨r1, r2⟩ := row_one hr5
        have HS5 := Lib.hid (show LP w1 s b off cb ta p q g2 g5 (-1 - ((0 : Nat) : Int)) (foD 0) w5 from ⟨by rw [r2]; rfl, cell_later HX4.out.2.1 hb5, cell_later HX4.out.2.2 hb5, cell_later HX4.out.1 hb5, ⟨fk, HE4.out.below hb5⟩, HSZ.out.1, HSZ.out.2.1, HSZ.out.2.2, by have := HE4.out.sz; omega⟩)
        clear r1 r2 hr5 hb5 hrow c3
        go_wp2
        go_loopg [14] 2 (fun gk s14 wr => ∃ (k g' : Nat), k + gk = 2 ∧ k < 2 ∧ s14 = .slice (some ⟨g', 0, none⟩) 1 1 ∧ RowKit.Hid (LP w1 s b off cb ta p q g2 g' (-1 - (k : Int)) (foD k) wr))
        case atStart => exact ⟨0, g5, by omega, by omega, rfl, Lib.hid HS5.out⟩
        case round =>
          obtain ⟨k, g', hk, hk3, rfl, HL2⟩ := hrel
          have HK2 := Lib.hid hk
          obtain ⟨hx, hp, hq, hg2, ⟨fk2, hE⟩, hps, hqs, hgs, hgs'⟩ := HL2.out
          have HN2 := Lib.hid (near_any w1 s b off cb ta p q g' fk2 (foD k) (-1 - (k : Int)) wr hE hp hq hx (by omega) hcb.2)
          by_cases hk2 : k < 1
          · have hk0 : k = 0 := by omega
            subst hk0
            have hdec : decide ((-1 - ((0 : Nat) : Int)) * (-1 - ((0 : Nat) : Int)) ≤ 1) = true := by decide
            rw [hdec] at HN2
            have HC7 := Lib.hid hE.c7
            have HPP3 := Lib.hid (And.intro hp (And.intro hq (And.intro hg2 (And.intro hx (And.intro hE (And.intro hps (And.intro hqs (And.intro hgs hgs'))))))))
            clear hp hq hg2 hx hE hps hqs hgs hgs' hk hdec
            go_wp2_with fail
            refine HN2.out.mono ?_
            rintro e w6 ⟨rfl, hb6⟩
            have c7 := cell_later HC7.out hb6
            have HLF := Lib.hid (leaf_any w1 s b off cb ta g' fk2 (foD 0) (-1) w6 (HPP3.out.2.2.2.2.1.below hb6) (cell_later HPP3.out.2.2.2.1 hb6) (by omega))
            have HB6 := Lib.hid hb6
            clear hb6
            go_wp2_with fail
            refine HLF.out.mono ?_
            rintro e w7 ⟨rfl, ⟨f7, hev7⟩, hkp7⟩
            have hst : stepV (foD 0) (-1) ((-1) * (-1)) = foD 1 := by decide
            rw [hst] at hev7
            have c3 := hev7.c3
            obtain ⟨hrow, hrint⟩ := HROW.out w7 f7 _ hev7
            obtain ⟨hp1, hp2, hp3, hp4, hp5, hp6, hp7, hp8, hp9⟩ := HPP3.out
            have HX7 := Lib.hid (And.intro (hkp7.cell (by omega) (by omega) (cell_later hp4 HB6.out)) (And.intro (hkp7.cell (by omega) (by omega) (cell_later hp1 HB6.out)) (And.intro (hkp7.cell (by omega) (by omega) (cell_later hp2 HB6.out)) (hkp7.cell (by omega) (by omega) (cell_later hp3 HB6.out)))))
            have HE7 := Lib.hid hev7
            have hpl := plus_any (some ⟨g', 0, none⟩) ai 1 1 1 ci [(-1 - ((0 : Nat) : Int))] [1] (-1) w7 (one_row HX7.out.1) hrint (Nat.le_refl _) (by omega)
            rw [plus_one (-1 - ((0 : Nat) : Int)) (-1) 1 (by omega) (.inr (.inl rfl)) (by omega)] at hpl
            have HPL2 := Lib.hid hpl
            clear hp1 hp2 hp3 hp4 hp5 hp6 hp7 hp8 hp9 hev7 hkp7 hst hpl hrint c7
            go_wp2_with fail
            refine HPL2.out.mono ?_
            rintro e w8 ⟨g8, rfl, hr8, hb8⟩
            obtain ⟨r1, r2⟩ := row_one hr8
            have HF := Lib.hid (show LP w1 s b off cb ta p q g2 g8 (-1 - ((0 + 1 : Nat) : Int)) (foD (0 + 1)) w8 from ⟨by rw [r2]; rfl, cell_later HX7.out.2.1 hb8, cell_later HX7.out.2.2.1 hb8, cell_later HX7.out.2.2.2 hb8, ⟨f7, HE7.out.below hb8⟩, HSZ.out.1, HSZ.out.2.1, HSZ.out.2.2, by have := HE7.out.sz; omega⟩)
            clear r1 r2 hr8 hb8 hrow c3
            go_wp2
            go_roundg (gk - 1)
            case rel => exact ⟨0 + 1, g8, by have := HK2.out; omega, by omega, rfl, HF.out⟩
            case measure => have := HK2.out; omega
          · have hk1 : k = 1 := by omega
            subst hk1
            have hdec : decide ((-1 - ((1 : Nat) : Int)) * (-1 - ((1 : Nat) : Int)) ≤ 1) = false := by decide
            rw [hdec] at HN2
            have HE9 := Lib.hid hE
            clear hp hq hg2 hx hE hps hqs hgs hgs' hk hdec hk2 hk3
            go_wp2_with fail
            refine HN2.out.mono ?_
            rintro e w9 ⟨rfl, hb9⟩
            have HF := Lib.hid (HE9.out.below hb9)
            clear hb9
            go_wp2
            (try simp only [Exit.inBlock, Exit.then]); first | (refine bodyPost_ret (results_none rfl _ _ _) rfl ?_) | (refine bodyPost_end (results_none rfl _ _ _) rfl ?_)
            exact ⟨rfl, fk2, HF.out⟩
  · obtain ⟨q, hqq⟩ : ∃ q, W0.heap.size = q := ⟨_, rfl⟩
    have hw1 : IntKind.i64.wrap 1 = 1 := by decide +kernel
    have hB1 : BelF W0.heap.size W0 (wx.setCell ⟨W0.heap.size, 0, none⟩ (.int .i64 (IntKind.i64.wrap 1))) := HB.out _ (by assumption)
    have hq := World.cell?_setCell_same' wx ⟨W0.heap.size, 0, none⟩ (.int .i64 (IntKind.i64.wrap 1)) (by rw [hcq]; rfl)
    have hqs : s + 8 ≤ p ∧ s + 8 ≤ q := by have := HP0.out.2; have := HPP.out; omega
    rw [hqq] at hq ⊢
    rw [hw1] at hq hB1 ⊢
    have HC0 := Lib.hid (And.intro (cell_later HP0.out.1 hB1.to) (And.intro (HE0.out.below hB1.to) (cell_later HX0.out hB1.to)))
    rw [hqq] at HC0
    clear hB1
    obtain ⟨Wz, hWz⟩ : ∃ Wz, wx.setCell ⟨q, 0, none⟩ (.int .i64 1) = Wz := ⟨_, rfl⟩
    rw [hWz] at HC0 hq ⊢
    have HC := Lib.hid (And.intro HC0.out.1 (And.intro hq HC0.out.2))
    have HQS := Lib.hid hqs
    clear HC0 hq hqs hWz hqq hw1 hbv hcq hfq

    obtain ⟨b', off', ai, ci, e0, -, hcell, hli⟩ := HE.out.tab.at (show 0 < 1 by omega)
    cases e0
    have hcell2 : w1.cell? ⟨b, off, none⟩ = some (.slice ai 1 ci) := hcell
    have hli2 : Ints w1 ai 1 [1] := hli.ints
    have HROW := Lib.hid (fun (W' : World) (f' : Value) (fo' : Option Int) (hE : Ev w1 s b off cb ta f' fo' W') => And.intro (cell_later hcell2 hE.b1) (hli2.below hE.b1))
    clear hcell hcell2 hli hli2
    have d1 := HC.out.2.2.1.c3
    have HLS := Lib.hid (less_call w1 s b off cb ta g f Wz HC.out.2.2.1 HC.out.2.2.2 hcb)
    have HPG := Lib.hid (And.intro HQS.out.1 HQS.out.2)
    clear hsz
    go_wp2_with fail
    refine HLS.out.mono ?_
    rintro e W2 ⟨g2, rfl, hg2, hgs, hb2⟩
    have HS2 := Lib.hid (show LP w1 s b off cb ta p q g2 g2 0 (foU 0) W2 from ⟨hg2, cell_later HC.out.1 hb2, cell_later HC.out.2.1 hb2, hg2, ⟨f, HC.out.2.2.1.below hb2⟩, HPG.out.1, HPG.out.2, hgs, hgs⟩)
    clear hb2 d1 hg2 hgs
    go_wp2
    go_loopg [13] 3 (fun gk s13 wr => ∃ (k g' : Nat), k + gk = 3 ∧ k < 3 ∧ s13 = .slice (some ⟨g', 0, none⟩) 1 1 ∧ RowKit.Hid (LP w1 s b off cb ta p q g2 g' (k : Int) (foU k) wr))
    case atStart => exact ⟨0, g2, by omega, by omega, rfl, Lib.hid HS2.out⟩
    case round =>
      obtain ⟨k, g', hk, hk3, rfl, HL⟩ := hrel
      have HK := Lib.hid hk
      obtain ⟨hx, hp, hq, hg2, ⟨fk, hE⟩, hps, hqs, hgs, hgs'⟩ := HL.out
      have HN := Lib.hid (near_any w1 s b off cb ta p q g' fk (foU k) (k : Int) wr hE hp hq hx (by omega) hcb.2)
      by_cases hk2 : k < 2
      · have hdec : decide ((k : Int) * (k : Int) ≤ 1) = true := by
          have : k = 0 ∨ k = 1 := by omega
          rcases this with rfl | rfl <;> decide
        rw [hdec] at HN
        have c7 := hE.c7
        have HPP2 := Lib.hid (And.intro hp (And.intro hq (And.intro hg2 (And.intro hx (And.intro hE (And.intro hps (And.intro hqs (And.intro hgs hgs'))))))))
        have HC7 := Lib.hid c7
        clear hp hq hg2 hx hE hps hqs hgs hgs' c7 hk hdec
        go_wp2_with fail
        refine HN.out.mono ?_
        rintro e w3 ⟨rfl, hb3⟩
        have c7 := cell_later HC7.out hb3
        have HLF := Lib.hid (leaf_any w1 s b off cb ta g' fk (foU k) (k : Int) w3 (HPP2.out.2.2.2.2.1.below hb3) (cell_later HPP2.out.2.2.2.1 hb3) (by omega))
        have HB3 := Lib.hid hb3
        clear hb3
        go_wp2_with fail
        refine HLF.out.mono ?_
        rintro e w4 ⟨rfl, ⟨f4, hev4⟩, hkp4⟩
        have hst : stepV (foU k) (k : Int) ((k : Int) * (k : Int)) = foU (k + 1) := by
          have : k = 0 ∨ k = 1 := by omega
          rcases this with rfl | rfl <;> decide
        rw [hst] at hev4
        have c3 := hev4.c3
        obtain ⟨hrow, hrint⟩ := HROW.out w4 f4 _ hev4
        obtain ⟨hp1, hp2, hp3, hp4, hp5, hp6, hp7, hp8, hp9⟩ := HPP2.out
        have HX4 := Lib.hid (And.intro (hkp4.cell (by omega) (by omega) (cell_later hp4 HB3.out)) (And.intro (hkp4.cell (by omega) (by omega) (cell_later hp1 HB3.out)) (And.intro (hkp4.cell (by omega) (by omega) (cell_later hp2 HB3.out)) (hkp4.cell (by omega) (by omega) (cell_later hp3 HB3.out)))))
        have HSZ := Lib.hid (And.intro hp6 (And.intro hp7 hp8))
        have HE4 := Lib.hid hev4
        have hpl := plus_any (some ⟨g', 0, none⟩) ai 1 1 1 ci [(k : Int)] [1] 1 w4 (one_row HX4.out.1) hrint (Nat.le_refl _) (by omega)
        rw [plus_one (k : Int) 1 1 (by omega) (.inl rfl) (by omega)] at hpl
        have HPL := Lib.hid hpl
        clear hp1 hp2 hp3 hp4 hp5 hp6 hp7 hp8 hp9 hev4 hkp4 hst hpl hrint c7
        go_wp2_with fail
        refine HPL.out.mono ?_
        rintro e w5 ⟨g5, rfl, hr5, hb5⟩
        obtain ⟨r1, r2⟩ := row_one hr5
        have HF := Lib.hid (show LP w1 s b off cb ta p q g2 g5 ((k + 1 : Nat) : Int) (foU (k + 1)) w5 from ⟨by rw [r2]; congr 2, cell_later HX4.out.2.1 hb5, cell_later HX4.out.2.2.1 hb5, cell_later HX4.out.2.2.2 hb5, ⟨f4, HE4.out.below hb5⟩, HSZ.out.1, HSZ.out.2.1, HSZ.out.2.2, by have := HE4.out.sz; omega⟩)
        clear r1 r2 hr5 hb5 hrow c3
        go_wp2
        go_roundg (gk - 1)
        case rel => exact ⟨k + 1, g5, by have := HK.out; omega, by omega, rfl, HF.out⟩
        case measure => have := HK.out; omega
      · have hk2' : k = 2 := by omega
        subst hk2'
        have hdec : decide (((2 : Nat) : Int) * ((2 : Nat) : Int) ≤ 1) = false := by decide
        rw [hdec] at HN
        have HPP2 := Lib.hid (And.intro hp (And.intro hq (And.intro hg2 (And.intro hE (And.intro hps (And.intro hqs hgs))))))
        clear hp hq hg2 hx hE hps hqs hgs hgs' hk hdec hk2 hk3
        go_wp2_with fail
        refine HN.out.mono ?_
        rintro e w3 ⟨rfl, hb3⟩
        obtain ⟨hp1, hp2, hp3, hp5, hp6, hp7, hp8⟩ := HPP2.out
        have hev3 := hp5.below hb3
        have c3 := hev3.c3
        obtain ⟨hrow, hrint⟩ := HROW.out w3 fk _ hev3
        have HX4 := Lib.hid (And.intro (cell_later hp3 hb3) (And.intro (cell_later hp1 hb3) (cell_later hp2 hb3)))
        have HSZ := Lib.hid (And.intro hp6 (And.intro hp7 hp8))
        have HE4 := Lib.hid hev3
        have hpl := plus_any (some ⟨g2, 0, none⟩) ai 1 1 1 ci [0] [1] (-1) w3 (one_row HX4.out.1) hrint (Nat.le_refl _) (by omega)
        rw [plus_one 0 (-1) 1 (by omega) (.inr (.inl rfl)) (by omega)] at hpl
        have HPL := Lib.hid hpl
        clear hp1 hp2 hp3 hp5 hp6 hp7 hp8 hev3 hpl hrint hb3
        go_wp2_with fail
        refine HPL.out.mono ?_
        rintro e w5 ⟨g5, rfl, hr5, hb5⟩
        obtain ⟨r1, r2⟩ := row_one hr5
        have HS5 := Lib.hid (show LP w1 s b off cb ta p q g2 g5 (-1 - ((0 : Nat) : Int)) (foD 0) w5 from ⟨by rw [r2]; rfl, cell_later HX4.out.2.1 hb5, cell_later HX4.out.2.2 hb5, cell_later HX4.out.1 hb5, ⟨fk, HE4.out.below hb5⟩, HSZ.out.1, HSZ.out.2.1, HSZ.out.2.2, by have := HE4.out.sz; omega⟩)
        clear r1 r2 hr5 hb5 hrow c3
        go_wp2
        go_loopg [14] 2 (fun gk s14 wr => ∃ (k g' : Nat), k + gk = 2 ∧ k < 2 ∧ s14 = .slice (some ⟨g', 0, none⟩) 1 1 ∧ RowKit.Hid (LP w1 s b off cb ta p q g2 g' (-1 - (k : Int)) (foD k) wr))
        case atStart => exact ⟨0, g5, by omega, by omega, rfl, Lib.hid HS5.out⟩
        case round =>
          obtain ⟨k, g', hk, hk3, rfl, HL2⟩ := hrel
          have HK2 := Lib.hid hk
          obtain ⟨hx, hp, hq, hg2, ⟨fk2, hE⟩, hps, hqs, hgs, hgs'⟩ := HL2.out
          have HN2 := Lib.hid (near_any w1 s b off cb ta p q g' fk2 (foD k) (-1 - (k : Int)) wr hE hp hq hx (by omega) hcb.2)
          by_cases hk2 : k < 1
          · have hk0 : k = 0 := by omega
            subst hk0
            have hdec : decide ((-1 - ((0 : Nat) : Int)) * (-1 - ((0 : Nat) : Int)) ≤ 1) = true := by decide
            rw [hdec] at HN2
            have HC7 := Lib.hid hE.c7
            have HPP3 := Lib.hid (And.intro hp (And.intro hq (And.intro hg2 (And.intro hx (And.intro hE (And.intro hps (And.intro hqs (And.intro hgs hgs'))))))))
            clear hp hq hg2 hx hE hps hqs hgs hgs' hk hdec
            go_wp2_with fail
            refine HN2.out.mono ?_
            rintro e w6 ⟨rfl, hb6⟩
            have c7 := cell_later HC7.out hb6
            have HLF := Lib.hid (leaf_any w1 s b off cb ta g' fk2 (foD 0) (-1) w6 (HPP3.out.2.2.2.2.1.below hb6) (cell_later HPP3.out.2.2.2.1 hb6) (by omega))
            have HB6 := Lib.hid hb6
            clear hb6
            go_wp2_with fail
            refine HLF.out.mono ?_
            rintro e w7 ⟨rfl, ⟨f7, hev7⟩, hkp7⟩
            have hst : stepV (foD 0) (-1) ((-1) * (-1)) = foD 1 := by decide
            rw [hst] at hev7
            have c3 := hev7.c3
            obtain ⟨hrow, hrint⟩ := HROW.out w7 f7 _ hev7
            obtain ⟨hp1, hp2, hp3, hp4, hp5, hp6, hp7, hp8, hp9⟩ := HPP3.out
            have HX7 := Lib.hid (And.intro (hkp7.cell (by omega) (by omega) (cell_later hp4 HB6.out)) (And.intro (hkp7.cell (by omega) (by omega) (cell_later hp1 HB6.out)) (And.intro (hkp7.cell (by omega) (by omega) (cell_later hp2 HB6.out)) (hkp7.cell (by omega) (by omega) (cell_later hp3 HB6.out)))))
            have HE7 := Lib.hid hev7
            have hpl := plus_any (some ⟨g', 0, none⟩) ai 1 1 1 ci [(-1 - ((0 : Nat) : Int))] [1] (-1) w7 (one_row HX7.out.1) hrint (Nat.le_refl _) (by omega)
            rw [plus_one (-1 - ((0 : Nat) : Int)) (-1) 1 (by omega) (.inr (.inl rfl)) (by omega)] at hpl
            have HPL2 := Lib.hid hpl
            clear hp1 hp2 hp3 hp4 hp5 hp6 hp7 hp8 hp9 hev7 hkp7 hst hpl hrint c7
            go_wp2_with fail
            refine HPL2.out.mono ?_
            rintro e w8 ⟨g8, rfl, hr8, hb8⟩
            obtain ⟨r1, r2⟩ := row_one hr8
            have HF := Lib.hid (show LP w1 s b off cb ta p q g2 g8 (-1 - ((0 + 1 : Nat) : Int)) (foD (0 + 1)) w8 from ⟨by rw [r2]; rfl, cell_later HX7.out.2.1 hb8, cell_later HX7.out.2.2.1 hb8, cell_later HX7.out.2.2.2 hb8, ⟨f7, HE7.out.below hb8⟩, HSZ.out.1, HSZ.out.2.1, HSZ.out.2.2, by have := HE7.out.sz; omega⟩)
            clear r1 r2 hr8 hb8 hrow c3
            go_wp2
            go_roundg (gk - 1)
            case rel => exact ⟨0 + 1, g8, by have := HK2.out; omega, by omega, rfl, HF.out⟩
            case measure => have := HK2.out; omega
          · have hk1 : k = 1 := by omega
            subst hk1
            have hdec : decide ((-1 - ((1 : Nat) : Int)) * (-1 - ((1 : Nat) : Int)) ≤ 1) = false := by decide
            rw [hdec] at HN2
            have HE9 := Lib.hid hE
            clear hp hq hg2 hx hE hps hqs hgs hgs' hk hdec hk2 hk3
            go_wp2_with fail
            refine HN2.out.mono ?_
            rintro e w9 ⟨rfl, hb9⟩
            have HF := Lib.hid (HE9.out.below hb9)
            clear hb9
            go_wp2
            (try simp only [Exit.inBlock, Exit.then]); first | (refine bodyPost_ret (results_none rfl _ _ _) rfl ?_) | (refine bodyPost_end (results_none rfl _ _ _) rfl ?_)
            exact ⟨rfl, fk2, HF.out⟩
end Go.Proofs.Ytgfenponlkmfmaa
