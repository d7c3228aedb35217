/- The law NumeralThree: its walk in every case. No condition. -/
import Derived.Test.YtbdabpmpfciibaaLawGaps
import Derived.Test.YtbdabpmpfciibaaThreeMath
import Derived.Deep.RegionHeld3
import Derived.StillTailTactics
namespace Go.Proofs.Ytbdabpmpfciibaa
open Go.RowKit
attribute [local go_sem] Oper.semAt_some
-- else a look at the goal reckons through the guarded operations that do not come up
attribute [local irreducible] wpStill

theorem sums_nonneg : ∀ (L : List (Int × Int)), (∀ q ∈ L, 1 ≤ q.1 ∧ 1 ≤ q.2) → 0 ≤ sLong L ∧ 0 ≤ sCount L
  | [], _ => ⟨Int.le_refl _, Int.le_refl _⟩
  | q :: r, h => by
    obtain ⟨h1, h2⟩ := sums_nonneg r (fun x hx => h x (List.mem_cons_of_mem _ hx))
    obtain ⟨h3, h4⟩ := h q (by simp)
    have := Int.mul_nonneg (show 0 ≤ q.1 by omega) (show 0 ≤ q.2 by omega)
    simp only [sLong, sCount]
    omega
theorem sums_take {L : List (Int × Int)} (h : ∀ q ∈ L, 1 ≤ q.1 ∧ 1 ≤ q.2) (j : Nat) : 0 ≤ sLong (L.take j) ∧ sLong (L.take j) ≤ sLong L ∧ 0 ≤ sCount (L.take j) ∧ sCount (L.take j) ≤ sCount L := by
  obtain ⟨a1, a2⟩ := sums_nonneg (L.take j) (fun q hq => h q (List.mem_of_mem_take hq))
  obtain ⟨b1, b2⟩ := sums_nonneg (L.drop j) (fun q hq => h q (List.mem_of_mem_drop hq))
  have e1 := sLong_app (L.take j) (L.drop j)
  have e2 := sCount_app (L.take j) (L.drop j)
  rw [List.take_append_drop] at e1 e2
  omega
theorem nth2_get {S : List (Int × Int)} {k : Nat} (h : k < S.length) : S[k]? = some (nth2 S k) := by
  unfold nth2
  rw [List.getD_eq_getElem?_getD, List.getElem?_eq_getElem h]
  rfl
theorem nth2_in {S : List (Int × Int)} {k : Nat} (h : k < S.length) : nth2 S k ∈ S := List.mem_of_getElem? (nth2_get h)
theorem sums_succ {L : List (Int × Int)} {j : Nat} (h : j < L.length) : sLong (L.take (j + 1)) = sLong (L.take j) + (nth2 L j).1 * (nth2 L j).2 ∧ sCount (L.take (j + 1)) = sCount (L.take j) + (nth2 L j).2 := by
  have e : L.take (j + 1) = L.take j ++ [nth2 L j] := by rw [List.take_add_one, nth2_get h]; rfl
  rw [e, sLong_app, sCount_app]
  simp [sLong, sCount]
theorem rise_at {L : List (Int × Int)} (h : L.Pairwise fun a b => a.1 < b.1) {i j : Nat} (hij : i < j) (hj : j < L.length) : (nth2 L i).1 < (nth2 L j).1 := by
  have h1 := List.pairwise_iff_getElem.1 h i j (by omega) hj hij
  have e1 := nth2_get (S := L) (k := i) (by omega)
  have e2 := nth2_get (S := L) (k := j) hj
  rw [List.getElem?_eq_getElem (by omega)] at e1
  rw [List.getElem?_eq_getElem hj] at e2
  injection e1 with e1
  injection e2 with e2
  rw [← e1, ← e2]
  exact h1

set_option maxHeartbeats 4000000 in
theorem lawThree_no (p m n : Int) (w : World) (h : isPts p m n = false) :
    Calls Try.prog 16 #[.int .i64 p, .int .i64 m, .int .i64 n] w fun e w' => e = .returned (.bool true) ∧ Below w.heap.size w w' := by
  have HG := Lib.hid (Gaps_no p m n w h)
  clear h
  go_enter Try.func16, Try.ntmps16
  go_wp2_with fail
  refine HG.out.mono ?_
  rintro e w1 ⟨rfl, hb1⟩
  have H1 := Lib.hid hb1
  clear hb1
  go_wp2_with fail
  refine (awake_any _).mono ?_
  rintro e w5 ⟨rfl, hb5⟩
  have H5 := Lib.hid (H1.out.trans (hb5.mono H1.out.size))
  clear hb5
  go_wp2
  go_ret
  exact ⟨rfl, H5.out⟩

/-- What the law has at hand of the list. -/
structure Three (L : List (Int × Int)) (m n : Nat) : Prop where
  pos : ∀ q ∈ L, 1 ≤ q.1 ∧ q.1 ≤ m ∧ 1 ≤ q.2 ∧ q.2 ≤ m
  len : L.length ≤ 3
  some : 0 < L.length
  sum : sLong L = m
  cnt : sCount L = n
  tri : ∀ a b c, L = [a, b, c] → a.1 + b.1 = c.1
  rise : L.Pairwise fun a b => a.1 < b.1
theorem three_of {p m n : Nat} (h : isPts p m n = true) : Three (gpL p m n) m n := by
  obtain ⟨h1, h2, h3, h4, h5, h6, h7⟩ := isPts_yes h
  rw [Int.toNat_natCast, Int.toNat_natCast] at h7
  obtain ⟨s1, s2⟩ := gp_sums (n := n) h7 (by omega) (by omega) (by omega)
  obtain ⟨t1, t2, t3⟩ := gp_three (n := n) h7 (by omega) (by omega) (by omega) (gpL p m n) rfl
  exact ⟨t3, t1, gpL_pos (by omega) (by omega), s2, s1, t2, canL_rise _ _⟩

theorem three_cells {L : List (Int × Int)} {m n : Nat} (h : Three L m n) (h3 : L.length = 3) : (nth2 L 0).1 + (nth2 L 1).1 = (nth2 L 2).1 := by
  match L, h3, h.tri with
  | [a, b, c], _, t => exact t a b c rfl

set_option maxHeartbeats 8000000 in
set_option maxRecDepth 100000 in
theorem lawThree_yes (p m n : Nat) (w : World) (h : isPts p m n = true) :
    Calls Try.prog 16 #[.int .i64 (p : Int), .int .i64 (m : Int), .int .i64 (n : Int)] w fun e w' => e = .returned (.bool true) ∧ Below w.heap.size w w' := by
  obtain ⟨h1, h2, h3, h4, h5, h6, -⟩ := isPts_yes h
  have HG := Lib.hid (Gaps_yes p m n w h)
  have ht := three_of h
  obtain ⟨L, hL⟩ : ∃ L, gpL p m n = L := ⟨_, rfl⟩
  rw [hL] at HG ht
  have HT := Lib.hid ht
  have hl3 := ht.len
  have hl1 := ht.some
  clear h hL ht h1 h3 h4
  obtain ⟨K, hK⟩ : ∃ K, L.length = K := ⟨_, rfl⟩
  rw [hK] at HG hl3 hl1
  have HK := Lib.hid hK
  clear hK
  go_enter Try.func16, Try.ntmps16
  go_wp2_with fail
  refine HG.out.mono ?_
  rintro e w1 ⟨g, c, rfl, hs1, hb1, hg1⟩
  have H1 := Lib.hid (And.intro hs1 (And.intro hb1 hg1))
  clear hs1 hb1 hg1 HG
  go_wp2
  go_loopg [9, 10, 11, 12, 29] K (fun gk s9 s10 u11 u12 i wr => ∃ j : Nat, j + gk = K ∧ s9 = .int .i64 (sLong (L.take j)) ∧ s10 = .int .i64 (sCount (L.take j)) ∧ i = .int .i64 (j : Int) ∧ Sl2 wr g L ∧ Below w.heap.size w wr ∧ g < wr.heap.size)
  case atStart => exact ⟨0, by omega, rfl, rfl, rfl, H1.out.1, H1.out.2.1, H1.out.2.2⟩
  case round =>
    obtain ⟨j, hj, rfl, rfl, rfl, hs, hb, hg⟩ := hrel
    have HS := Lib.hid (And.intro hs (And.intro hb hg))
    clear hs hb hg H1
    obtain ⟨b1, b2, b3, b4⟩ := sums_take (fun q hq => ⟨(HT.out.pos q hq).1, (HT.out.pos q hq).2.2.1⟩) j
    rw [HT.out.sum] at b2
    rw [HT.out.cnt] at b4
    by_cases hjK : j = K
    · have hge : ¬ (j : Int) < (K : Int) := by omega
      have hge2 : ¬ j < K := by omega
      have htk : L.take j = L := List.take_of_length_le (by have := HK.out; omega)
      rw [htk, HT.out.sum, HT.out.cnt]
      clear htk b1 b2 b3 b4 hj
      subst hjK
      have hmb : ((m : Int) == (m : Int)) = true := by simp
      have hnb : ((n : Int) == (n : Int)) = true := by simp
      have hk : j = 1 ∨ j = 2 ∨ j = 3 := by omega
      rcases hk with hk | hk | hk
      · subst hk
        have HBB := Lib.hid HS.out.2.1
        clear HS hl1 hl3 hge hge2
        go_wp2_with fail
        refine wp_region_still_tail 35 (by kernel_rfl) (by kernel_rfl) ?_
        simp only [List.take_succ_cons, List.take_zero, List.drop_succ_cons, List.drop_zero]
        iterate 35 (still_step; (try simp only [Act.put, List.setIfInBounds_toArray, List.set_cons_zero, List.set_cons_succ]))
        refine wpStill_nil ?_
        change wpList _ _ _ _ _ wr.drew
        go_wp2_with (first | (go_at_call 25; refine (awake_any _).mono ?_; rintro e w5 ⟨rfl, hb⟩))
        have HBd := Lib.hid (HBB.out.trans ((show Below wr.heap.size wr w5 from ⟨hb.os, hb.tape, hb.output, hb.size, hb.block⟩).mono HBB.out.size))
        clear hb
        go_ret
        exact ⟨rfl, HBd.out⟩
      · subst hk
        have HBB := Lib.hid HS.out.2.1
        clear HS hl1 hl3 hge hge2
        go_wp2_with fail
        refine wp_region_still_tail 35 (by kernel_rfl) (by kernel_rfl) ?_
        simp only [List.take_succ_cons, List.take_zero, List.drop_succ_cons, List.drop_zero]
        iterate 35 (still_step; (try simp only [Act.put, List.setIfInBounds_toArray, List.set_cons_zero, List.set_cons_succ]))
        refine wpStill_nil ?_
        change wpList _ _ _ _ _ wr.drew
        go_wp2_with (first | (go_at_call 25; refine (awake_any _).mono ?_; rintro e w5 ⟨rfl, hb⟩))
        have HBd := Lib.hid (HBB.out.trans ((show Below wr.heap.size wr w5 from ⟨hb.os, hb.tape, hb.output, hb.size, hb.block⟩).mono HBB.out.size))
        clear hb
        go_ret
        exact ⟨rfl, HBd.out⟩
      · subst hk
        have hl := HK.out
        have e3 := three_cells HT.out (by omega)
        have c0 := (HS.out.1 0 (by omega)).1
        have c1 := (HS.out.1 1 (by omega)).1
        have c2 := (HS.out.1 2 (by omega)).1
        have p0 := HT.out.pos _ (nth2_in (S := L) (k := 0) (by omega))
        have p1 := HT.out.pos _ (nth2_in (S := L) (k := 1) (by omega))
        rw [← e3] at c2
        obtain ⟨x, hx⟩ : ∃ x, (nth2 L 0).1 = x := ⟨_, rfl⟩
        obtain ⟨y, hy⟩ : ∃ y, (nth2 L 1).1 = y := ⟨_, rfl⟩
        rw [hx] at c0 p0 c2
        rw [hy] at c1 p1 c2
        rw [Nat.zero_mul] at c0
        rw [Nat.one_mul] at c1
        have x1 : 1 ≤ x := p0.1
        have x2 : x ≤ (m : Int) := p0.2.1
        have y1 : 1 ≤ y := p1.1
        have y2 : y ≤ (m : Int) := p1.2.1
        have hxyb : (x + y == x + y) = true := by simp
        have hxyw : IntKind.i64.wrap (x + y) = x + y := by simp [IntKind.wrap, IntKind.bits, IntKind.signed]; omega
        have HC := Lib.hid (And.intro c0 (And.intro c1 (And.intro c2 HS.out.2.2)))
        have HBB := Lib.hid HS.out.2.1
        clear p0 p1 hx hy hl c0 c1 c2 e3 HS hl1 hl3 hge hge2
        go_wp2_with fail
        go_region_held3 (fun w' => w'.cell? ⟨g, 0, none⟩ = some (.int .i64 x) ∧ w'.cell? ⟨g, 2, none⟩ = some (.int .i64 y) ∧ w'.cell? ⟨g, 2 * 2, none⟩ = some (.int .i64 (x + y)))
          (first | exact ⟨HC.out.1, HC.out.2.1, HC.out.2.2.1⟩ | exact ⟨(hb.cell (p := ⟨g, 0, none⟩) HC.out.2.2.2).trans HC.out.1, (hb.cell (p := ⟨g, 2, none⟩) HC.out.2.2.2).trans HC.out.2.1, (hb.cell (p := ⟨g, 2 * 2, none⟩) HC.out.2.2.2).trans HC.out.2.2.1⟩)
          (first | (go_at_call 25; refine (awake_any _).mono ?_; rintro e w5 ⟨rfl, hb⟩))
        have HBd := Lib.hid (HBB.out.trans ((show Below wr.heap.size wr w5 from ⟨hb.os, hb.tape, hb.output, hb.size, hb.block⟩).mono HBB.out.size))
        clear hb HC
        go_wp2
        go_ret
        exact ⟨rfl, HBd.out⟩
    · have hlt : (j : Int) < (K : Int) := by omega
      have hlt2 : j < K := by omega
      have j0 : (0 : Int) ≤ (j : Int) := by omega
      have hjL : j < L.length := by have := HK.out; omega
      obtain ⟨p1, p2, p3, p4⟩ := HT.out.pos _ (nth2_in hjL)
      obtain ⟨q1, q2⟩ := sums_succ hjL
      obtain ⟨c1, c2, c3, c4⟩ := sums_take (fun q hq => ⟨(HT.out.pos q hq).1, (HT.out.pos q hq).2.2.1⟩) (j + 1)
      rw [HT.out.sum] at c2
      rw [HT.out.cnt] at c4
      obtain ⟨z0, z1⟩ := HS.out.1 j hjL
      have hrise : ∀ i, i < j → (nth2 L i).1 < (nth2 L j).1 := fun i hi => rise_at HT.out.rise hi hjL
      have hprev : ∀ i, i < j → wr.cell? ⟨g, i * 2, none⟩ = some (.int .i64 (nth2 L i).1) := fun i hi => (HS.out.1 i (by omega)).1
      have hpp : ∀ i, i < j → 1 ≤ (nth2 L i).1 ∧ (nth2 L i).1 ≤ m := fun i hi => ⟨(HT.out.pos _ (nth2_in (S := L) (k := i) (by omega))).1, (HT.out.pos _ (nth2_in (S := L) (k := i) (by omega))).2.1⟩
      obtain ⟨x, hx⟩ : ∃ x, (nth2 L j).1 = x := ⟨_, rfl⟩
      obtain ⟨y, hy⟩ : ∃ y, (nth2 L j).2 = y := ⟨_, rfl⟩
      rw [hx] at p1 p2 q1 z0 hrise
      rw [hy] at p3 p4 q1 q2 z1
      obtain ⟨XY, hxy⟩ : ∃ XY, x * y = XY := ⟨_, rfl⟩
      rw [hxy] at q1
      obtain ⟨A, hA⟩ : ∃ A, sLong (L.take j) = A := ⟨_, rfl⟩
      obtain ⟨C, hC⟩ : ∃ C, sCount (L.take j) = C := ⟨_, rfl⟩
      rw [hA] at q1 b1 b2 ⊢
      rw [hC] at q2 b3 b4 ⊢
      rw [q1] at c1 c2
      rw [q2] at c3 c4
      have xy0 : 0 ≤ XY := by rw [← hxy]; exact Int.mul_nonneg (by omega) (by omega)
      have HQ := Lib.hid (And.intro q1 q2)
      have HJ := Lib.hid hj
      have hgr := HS.out.2.2
      have hn1 : ¬ x < 1 := by omega
      have hd1 : decide (x < 1) = false := by simp; omega
      have hd2 : decide (y < 1) = false := by simp; omega
      have hn2 : ¬ y < 1 := by omega
      have HB2 := Lib.hid (HS.out.2.1.alloc HS.out.2.1.size (.cells #[.int .i64 x, .int .i64 y] 46))
      have HS2 := Lib.hid (show Sl2 (wr.alloc (.cells #[.int .i64 x, .int .i64 y] 46)) g L from HS.out.1.later hgr ((Below.refl _ wr).alloc (Nat.le_refl _) _))
      have hg2 : g < (wr.alloc (.cells #[.int .i64 x, .int .i64 y] 46)).heap.size := by simp; omega
      have HG2 := Lib.hid hg2
      by_cases hj0 : j = 0
      · subst hj0
        clear hrise hprev hpp hj hjK hjL hx hy hA hC q1 q2 HS hg2
        go_wp2
        go_quiet (fail)
        go_wp2
        go_roundg (K - 1)
        case rel => exact ⟨1, by have := HJ.out; omega, by rw [HQ.out.1], by rw [HQ.out.2], rfl, HS2.out, below_drewN HB2.out _, HG2.out⟩
        case measure => have := HJ.out; omega
      · obtain ⟨i, hi⟩ : ∃ i, j = i + 1 := ⟨j - 1, by omega⟩
        have r1 := hrise i (by omega)
        have r2 := hprev i (by omega)
        obtain ⟨r3, r4⟩ := hpp i (by omega)
        obtain ⟨v, hv⟩ : ∃ v, (nth2 L i).1 = v := ⟨_, rfl⟩
        rw [hv] at r1 r2 r3 r4
        have hij : (j : Int) - 1 = (i : Int) := by omega
        have hik : (i : Int) < (K : Int) := by omega
        have hik2 : i < K := by omega
        have i0 : (0 : Int) ≤ (i : Int) := by omega
        have jp : (0 : Int) < (j : Int) := by omega
        have hvx : ¬ x ≤ v := by omega
        have hd3 : decide ((0 : Int) < (j : Int)) = true := by simp; omega
        have hd4 : decide (0 < j) = true := by simp; omega
        have hd5 : decide (x ≤ v) = false := by simp; omega
        have hiw : IntKind.i64.wrap (i : Int) = i := by simp [IntKind.wrap, IntKind.bits, IntKind.signed]; omega
        have r5 : (wr.alloc (.cells #[.int .i64 x, .int .i64 y] 46)).cell? ⟨g, i * 2, none⟩ = some (.int .i64 v) := (((Below.refl _ wr).alloc (Nat.le_refl _) (.cells #[.int .i64 x, .int .i64 y] 46)).cell (p := ⟨g, i * 2, none⟩) hgr).trans r2
        have HI := Lib.hid hi
        clear hrise hprev hpp hj hjK hjL hx hy hA hC q1 q2 HS hi hv hj0 hg2
        go_wp2
        go_quiet (fail)
        go_wp2
        go_roundg (K - j - 1)
        case rel => exact ⟨j + 1, by have := HJ.out; omega, by rw [HQ.out.1], by rw [HQ.out.2], by go_num, HS2.out, below_drewN HB2.out _, HG2.out⟩
        case measure => have := HJ.out; omega

theorem lawThree_any (p m n : Int) (w : World) :
    Calls Try.prog 16 #[.int .i64 p, .int .i64 m, .int .i64 n] w fun e w' => e = .returned (.bool true) ∧ Below w.heap.size w w' := by
  by_cases h : isPts p m n = true
  · obtain ⟨h1, h2, h3, h4, h5, h6, h7⟩ := isPts_yes h
    obtain ⟨p, rfl⟩ : ∃ q : Nat, p = (q : Int) := ⟨p.toNat, by omega⟩
    obtain ⟨m, rfl⟩ : ∃ q : Nat, m = (q : Int) := ⟨m.toNat, by omega⟩
    obtain ⟨n, rfl⟩ : ∃ q : Nat, n = (q : Int) := ⟨n.toNat, by omega⟩
    exact lawThree_yes p m n w h
  · exact lawThree_no p m n w (by simpa using h)
end Go.Proofs.Ytbdabpmpfciibaa
