/- The walk of the reference's minor: a table without a row and a column. Condition: a square table of at most four rows lies in memory. -/
import Derived.Test.YtgfenponlkmfmaaTabl
import Derived.Deep.RegionLaw
import Derived.Deep.RegionHeld3
namespace Go.Proofs.Ytgfenponlkmfmaa
open Go.RowKit
attribute [local go_sem] Oper.semAt_some

/-- What a slice shows: whole numbers. -/
def Sh (ao : Option Addr) (m c : Nat) (ys : List Int) (W : World) : Prop :=
  ys.length = m ∧ ((ao = none ∧ m = 0 ∧ c = 0) ∨ ∃ ad, ao = some ad ∧ ∀ j, j < m → W.cell? (ad.add j) = some (.int .i64 (ys.getD j 0)))
theorem hdrew (W : World) : W.drew.heap = W.heap := rfl
theorem halloc (W : World) (o : Obj) : (W.alloc o).heap = W.heap.push o := rfl
theorem Row.here {B F : Nat} {W : World} (h : W.heap[F]? = some (.cells #[] 3 (0, 0))) (hB : B ≤ F) : Row B (.slice (some ⟨F, 0, none⟩) 0 0) [] W :=
  ⟨rfl, .inr ⟨F, 0, #[], rfl, hB, h, Nat.le_refl _, by unfold maxLen; omega, rfl, rfl⟩⟩
theorem Sh.old {g o m c : Nat} {ys : List Int} {w W : World} (hl : ys.length = m) (hb : Below w.heap.size w W) (hg : g < w.heap.size) (hc : ∀ j, j < m → w.cell? ⟨g, o + j, none⟩ = some (.int .i64 (ys.getD j 0))) : Sh (some ⟨g, o, none⟩) m c ys W :=
  ⟨hl, .inr ⟨_, rfl, fun j hj => by rw [Addr.add_lit]; exact (hb.cell (p := ⟨g, o + j, none⟩) hg).trans (hc j hj)⟩⟩

theorem step_app {ops : Array Oper} {o : Oper} {a : Act} {w : World} {K : Act → World → Prop} {Q : Exit → Act → World → Prop} {E : Prop} (hgd : o.guard = none) (s x : Operand)
    (ho : o.op = .call { callee := .builtin .append, args := #[s, x], argTypes := #[35, 35] })
    (B : Nat) (v : Value) (xs : List Int) (hs : a.eval s = v) (hown : Row B v xs w) (ao : Option Addr) (m c : Nat) (ys : List Int) (hx : a.eval x = .slice ao m c) (hy : Sh ao m c ys w)
    (hlen : xs.length + ys.length ≤ 100000) (hB : B ≤ w.heap.size)
    (h : ∀ v' w', Row B v' (xs ++ ys) w' → w.grownBy w' v.ownBlock → K (a.put o.dst v') w') :
    if Region.wanted o (yielded ops a.tmps) = true then Oper.wp Try.prog o a w K Q else E := by
  have hw : Region.wanted o (yielded ops a.tmps) = true := by simp [Region.wanted, hgd]
  rw [if_pos hw]
  obtain ⟨i3, j1, j2, j3, j4⟩ := info_parts info3
  obtain ⟨hl, hy⟩ := hy
  rcases hy with ⟨rfl, rfl, rfl⟩ | ⟨ad, rfl, hc⟩
  · have hr := run_append_owned_none (P := Try.prog) (w := w) B 35 o.type 3 i3 1 Try.underlying35 j1 v _ _ hown
    have e : ys = [] := List.length_eq_zero_iff.1 hl
    unfold Oper.wp execOp
    simp only [ho, resolve, invoke, builtin, Sem.run_bind, Sem.run_pure, Result.andThen_ok, List.map_toArray, List.map_cons, List.map_nil, hs, hx, hr]
    exact h v w (by rw [e, List.append_nil]; exact hown) ⟨rfl, rfl, rfl, Nat.le_refl _, fun _ _ _ => rfl⟩
  · refine wp_append_own (P := Try.prog) w s x 35 ho B 3 i3 (.int .i64 0) 1 8 Try.underlying35 j1 j2 j3 j4 rfl (by decide) v _ _ hs hown ad m c (ys.map (Value.int .i64)) hx (by rw [List.length_map, hl, Nat.mul_one]) ?_ (ints_oneCell .i64 ys) (by unfold maxLen; omega) (by omega) hB fun v' w' h1 h2 _ => h v' w' ?_ h2
    · intro j u hj
      have hjn : j < m := by
        have := (List.getElem?_eq_some_iff.1 hj).1
        rw [List.length_map, hl] at this
        exact this
      rw [hc j hjn]
      have e : (ys.map (Value.int .i64))[j]? = some (Value.int .i64 (ys.getD j 0)) := by
        have : j < ys.length := by omega
        simp [List.getD, this]
      rw [e] at hj
      exact hj
    · unfold Row
      rw [List.length_append, hl, List.map_append]
      exact h1

theorem step_pushT {ops : Array Oper} {o : Oper} {a : Act} {K : Act → World → Prop} {Q : Exit → Act → World → Prop} {E : Prop} (hgd : o.guard = none) (s x : Operand)
    (ho : o.op = .call { callee := .builtin .append, args := #[s, x], argTypes := #[22, 22] }) (B : Nat) (v : Value) (L : List (List Int)) (l : List Int) (ax : Option Addr) (n c : Nat) (W : World) (hs : a.eval s = v)
    (ht : TabO W B v L) (hn : l.length = n) (hl : Lies W ax c l) (hlb : ∀ ad, ax = some ad → ad.block < W.heap.size ∧ v.ownBlock ≠ some ad.block) (hx : a.eval x = .slice (some ⟨W.heap.size, 0, none⟩) 1 1) (hlen : L.length ≤ 1000000) (hB : B ≤ W.heap.size)
    (h : ∀ v' w', TabO w' B v' (L ++ [l]) → Below B W w' → K (a.put o.dst v') w') :
    if Region.wanted o (yielded ops a.tmps) = true then Oper.wp Try.prog o a (W.alloc (.cells #[.slice ax n c] 35)) K Q else E := by
  have hw : Region.wanted o (yielded ops a.tmps) = true := by simp [Region.wanted, hgd]
  rw [if_pos hw]
  subst hn
  obtain ⟨i0, hi, hz0, hz1, hz2⟩ := info_parts info35
  obtain ⟨vs, ho1, hin⟩ := ht
  have hvl : vs.length = L.length := by simpa using ho1.1
  obtain ⟨v', w', hr, hown', hgrow, h4, hob⟩ := run_append_own_at (P := Try.prog) (W.alloc (.cells #[.slice ax l.length c] 35)) B 22 o.type 35 i0 (.slice none 0 0) 1 24 Try.underlying22 hi hz0 hz1 hz2 rfl (by decide) v L.length _ (World.ownsRow.alloc (h := ho1) _) ⟨W.heap.size, 0, none⟩ 1 1 [.slice ax l.length c] rfl (cell_one_new _ _ _) (by simp [Value.oneCell']) (by unfold maxLen; omega) (by omega) (by simp; omega)
  have hg : W.grownBy w' v.ownBlock := ⟨by rw [hgrow.os]; rfl, by rw [hgrow.tape]; rfl, by rw [hgrow.output]; rfl, by have := hgrow.size; simp at this; omega, fun k hk hne => by
    rw [hgrow.block k (by simp; omega) hne]
    exact Below.heap_alloc W _ k hk⟩
  unfold Oper.wp execOp
  simp only [ho, resolve, invoke, builtin, Sem.run_bind, Sem.run_pure, Result.andThen_ok, List.map_toArray, List.map_cons, List.map_nil, hs, hx, hr]
  refine h v' w' ?_ (((Below.refl B W).alloc hB _).grown hgrow (by simp; omega) (fun j e => (World.ownsRow.lt (h := ho1) j e).1))
  exact TabO.push (W := W) hin hvl hl hlb hown' hg (by rcases hob with e | e; exact .inl e; exact .inr (.inr (by simpa using e)))

def cutR (j : Nat) (xs : List Int) : List Int := xs.take j ++ xs.drop (j + 1)
/-- The first k rows without row i, and without column j. -/
def minP (L : List (List Int)) (i j k : Nat) : List (List Int) := ((List.range k).filter fun r => r != i).map fun r => cutR j (row L r)
theorem minP_yes {L : List (List Int)} {i j k : Nat} (h : ¬ k = i) : minP L i j (k + 1) = minP L i j k ++ [cutR j (row L k)] := by
  unfold minP
  rw [List.range_succ, List.filter_append, List.map_append]
  simp [h]
theorem minP_no {L : List (List Int)} {i j : Nat} : minP L i j (i + 1) = minP L i j i := by
  unfold minP
  rw [List.range_succ, List.filter_append, List.map_append]
  simp
theorem minP_len {L : List (List Int)} {i j k : Nat} : (minP L i j k).length ≤ k := by
  unfold minP
  rw [List.length_map]
  exact Nat.le_trans (List.length_filter_le _ _) (by simp)
theorem minP_rows : ∀ n, n < 5 → ∀ i, i < n → ∀ r, r < n - 1 → ((List.range n).filter fun r => r != i)[r]? = some (skip i r) := by decide
theorem minP_length : ∀ n, n < 5 → ∀ i, i < n → ((List.range n).filter fun r => r != i).length = n - 1 := by decide
theorem minP_full {L : List (List Int)} {n i j : Nat} (hn : n < 5) (hi : i < n) : (minP L i j n).length = n - 1 := by
  unfold minP
  rw [List.length_map, minP_length n hn i hi]
theorem minP_row {L : List (List Int)} {n i j r : Nat} (hn : n < 5) (hi : i < n) (hr : r < n - 1) : row (minP L i j n) r = cutR j (row L (skip i r)) := by
  unfold minP
  exact row_map (minP_rows n hn i hi r hr)
theorem cutR_at {xs : List Int} {j c : Nat} (hj : j < xs.length) : (cutR j xs).getD c 0 = xs.getD (skip j c) 0 := by
  unfold cutR skip
  have hl : (xs.take j).length = j := by rw [List.length_take]; omega
  by_cases hc : c < j
  · rw [if_pos hc, List.getD_eq_getElem?_getD, List.getElem?_append_left (by omega), List.getElem?_take_of_lt hc, ← List.getD_eq_getElem?_getD]
  · rw [if_neg hc, List.getD_eq_getElem?_getD, List.getElem?_append_right (by omega), hl, List.getElem?_drop, ← List.getD_eq_getElem?_getD]
    congr 1
    omega
theorem cutR_len {xs : List Int} {j : Nat} (hj : j < xs.length) : (cutR j xs).length = xs.length - 1 := by
  unfold cutR
  rw [List.length_append, List.length_take, List.length_drop]
  omega
theorem minP_ent {L : List (List Int)} {n i j r c : Nat} (hn : n < 5) (hs : Sq n L) (hi : i < n) (hj : j < n) (hr : r < n - 1) : ent (minP L i j n) r c = sub (ent L) i j r c := by
  unfold ent sub
  rw [minP_row hn hi hr, cutR_at]
  rw [hs (skip i r) (by unfold skip; split <;> omega)]
  exact hj
theorem minP_sq {L : List (List Int)} {n i j : Nat} (hn : n < 5) (hs : Sq n L) (hi : i < n) (hj : j < n) : Sq (n - 1) (minP L i j n) := by
  intro r hr
  have hl := hs (skip i r) (by unfold skip; split <;> omega)
  rw [minP_row hn hi hr, cutR_len (by rw [hl]; exact hj), hl]

set_option maxHeartbeats 4000000 in
set_option maxRecDepth 100000 in
theorem minorR_any (a : Option Addr) (n c : Nat) (L : List (List Int)) (i j : Nat) (w : World) (h : Tab w a n L) (hn : n ≤ 4) (hs : Sq n L) (hi : i < n) (hj : j < n) :
    Calls Try.prog 60 #[.slice a n c, .int .i64 (i : Int), .int .i64 (j : Int)] w fun e w' => ∃ v, e = .returned v ∧ TabO w' w.heap.size v (minP L i j n) ∧ Below w.heap.size w w' := by
  have H := Lib.hid h
  have HS := Lib.hid hs
  clear h hs
  have hw0 : IntKind.i64.wrap ((j : Int) + 1) = (j : Int) + 1 := IntWalk.i64_in _ (by omega)
  have hw1 : wrap64 ((j : Int) + 1) = (j : Int) + 1 := IntWalk.wrap64_in _ (by omega)
  have ht1 : ((j : Int) + 1).toNat = j + 1 := by omega
  have j0 : (0 : Int) ≤ (j : Int) := by omega
  have j1 : (j : Int) ≤ (n : Int) := by omega
  have j2 : (j : Int) + 1 ≤ (n : Int) := by omega
  have j3 : (0 : Int) ≤ (j : Int) + 1 := by omega
  go_enter Try.func60, Try.ntmps60
  go_wp2
  go_loopg [7, 12] n (fun gk v s12 wr => ∃ k : Nat, k + gk = n ∧ s12 = .int .i64 (k : Int) ∧ TabO wr w.heap.size v (minP L i j k) ∧ Below w.heap.size w wr)
  case atStart => exact ⟨0, by omega, rfl, TabO.nil _ _, Below.refl _ _⟩
  case round =>
    obtain ⟨k, hk, rfl, ht, hb⟩ := hrel
    have HT := Lib.hid ht
    have HB := Lib.hid hb
    have HK := Lib.hid hk
    clear ht hb
    by_cases hkn : k < n
    · have l1 : (k : Int) < (n : Int) := by omega
      have k0 : (0 : Int) ≤ (k : Int) := by omega
      have htw := H.out.below HB.out
      obtain ⟨b, off, ai, ci, rfl, hbl, hcell, hlie⟩ := htw.at hkn
      have hrl := HS.out k hkn
      rw [hrl] at hcell
      obtain ⟨bi, oi, rfl, hbi, hcc⟩ := hlie.ints.at (by omega)
      rw [hrl] at hcc
      have hci := hlie.le
      rw [hrl] at hci
      have hcm := hlie.max
      unfold maxLen at hcm
      by_cases hki : k = i
      · subst hki
        have HF := Lib.hid (show TabO wr w.heap.size u7 (minP L k j (k + 1)) by rw [minP_no]; exact HT.out)
        clear hk htw hcc hlie hci hcm hbi hrl
        go_wp2
        go_roundg (gk - 1)
        case rel => exact ⟨k + 1, by have := HK.out; omega, by go_num, HF.out, HB.out⟩
        case measure => have := HK.out; omega
      · have hkii : ¬ (k : Int) = (i : Int) := by omega
        have hl1 : ((row L k).take j).length = j := by rw [List.length_take, hrl]; omega
        have hl2 : ((row L k).drop (j + 1)).length = n - (j + 1) := by rw [List.length_drop, hrl]
        have hs1 : ∀ W, Below wr.heap.size wr W → Sh (some ⟨bi, oi, none⟩) j ci ((row L k).take j) W := fun W hb => Sh.old hl1 hb hbi fun t ht => by
          rw [hcc t (by omega)]
          simp [List.getD, ht]
        have hcl : (cutR j (row L k)).length = n - 1 := by rw [cutR_len (by omega), hrl]
        have hpl := minP_len (L := L) (i := i) (j := j) (k := k)
        have HS1 := Lib.hid hs1
        have HL1 := Lib.hid hl1
        have HL2 := Lib.hid hl2
        have HCL := Lib.hid hcl
        have HPL := Lib.hid hpl
        have HST := Lib.hid (minP_yes (L := L) (j := j) hki)
        have HCC := Lib.hid hcc
        have jc1 : (j : Int) ≤ (ci : Int) := by omega
        have jc2 : (j : Int) + 1 ≤ (ci : Int) := by omega
        have hn2 : (n : Int) ≤ (ci : Int) := by omega
        have jj : (j : Int) ≤ (j : Int) + 1 := by omega
        clear hs1 hl1 hl2 hcl hpl htw hlie hrl hcm hcc hk
        by_cases hcj : ci = j + 1
        · subst hcj
          have hnj : n = j + 1 := by omega
          have hs2 : ∀ W, Below wr.heap.size wr W → Sh (some ⟨bi, oi, none⟩) 0 0 ((row L k).drop (j + 1)) W := fun W hb => Sh.old (by rw [HL2.out]; omega) hb hbi fun t ht => by omega
          have HS2 := Lib.hid hs2
          clear hs2 hnj
          go_wp2
          go_region_law (first
            | (refine step_app rfl (.tmp 21) (.tmp 24) rfl wr.heap.size (.slice (some ⟨wr.heap.size, 0, none⟩) 0 0) [] rfl (Row.here (by simp only [hdrew, halloc]; simp [Array.getElem?_push, Array.getElem_push]) (Nat.le_refl _)) (some ⟨bi, oi, none⟩) j (j + 1) ((row L k).take j) rfl (HS1.out _ (by repeat (first | exact Below.refl _ _ | refine Below.drew ?_ | refine Below.alloc ?_ (by first | exact Nat.le_refl _ | (simp; done) | (simp; omega)) _))) (by rw [HL1.out]; simp only [List.length_nil]; omega) (by first | exact Nat.le_refl _ | (simp; done) | (simp; omega)) ?_
               intro v1 w1 h1 g1
               have b1 : Below wr.heap.size wr w1 := Below.grown (by repeat (first | exact Below.refl _ _ | refine Below.drew ?_ | refine Below.alloc ?_ (by first | exact Nat.le_refl _ | (simp; done) | (simp; omega)) _)) g1 (by first | exact Nat.le_refl _ | (simp; done) | (simp; omega)) (by intro q hq; cases hq; first | exact Nat.le_refl _ | (simp; done)))
            | (refine step_app rfl (.tmp 25) (.tmp 29) rfl wr.heap.size v1 ([] ++ (row L k).take j) rfl h1 (some ⟨bi, oi, none⟩) 0 0 ((row L k).drop (j + 1)) rfl (HS2.out _ b1) (by simp only [List.nil_append]; rw [HL1.out, HL2.out]; omega) b1.size ?_
               intro v2 w2 h2 g2
               have b2 : Below wr.heap.size wr w2 := Below.grown b1 g2 b1.size (fun q hq => (World.ownsRow.lt (h := h1) q hq).1)
               have r2 : Row wr.heap.size v2 (cutR j (row L k)) w2 := h2
               obtain ⟨a2, c2, e2, l2, k2⟩ := r2.lies
               rw [HCL.out] at e2
               subst e2
               have L2 := Lib.hid (And.intro l2 (new_block HT.out k2))
               have B2 := Lib.hid b2
               clear l2 k2 r2 h2 g2 b2)
            | (refine step_pushT rfl (.tmp 20) (.tmp 31) rfl w.heap.size u7 (minP L i j k) (cutR j (row L k)) a2 (n - 1) c2 w2 rfl (HT.out.below B2.out) HCL.out L2.out.1 L2.out.2 rfl (by have := HPL.out; omega) (HB.out.trans (B2.out.mono HB.out.size)).size ?_
               intro v3 w3 h3 b3
               have E3 := Lib.hid (And.intro (show TabO w3 w.heap.size v3 (minP L i j (k + 1)) by rw [HST.out]; exact h3) ((HB.out.trans (B2.out.mono HB.out.size)).trans b3))
               clear h3 b3))
          all_goals
            go_wp2
            go_roundg (gk - 1)
            case rel => exact ⟨k + 1, by have := HK.out; omega, by go_num, E3.out.1, E3.out.2⟩
            case measure => have := HK.out; omega
        · have hcj2 : j + 1 < ci := by omega
          have hcj3 : (j : Int) + 1 < (ci : Int) := by omega
          have hs2 : ∀ W, Below wr.heap.size wr W → Sh (some ⟨bi, oi + (j + 1), none⟩) (n - (j + 1)) (ci - (j + 1)) ((row L k).drop (j + 1)) W := fun W hb => Sh.old HL2.out hb hbi fun t ht => by
            rw [Nat.add_assoc, HCC.out (j + 1 + t) (by omega)]
            simp [List.getD]
          have HS2 := Lib.hid hs2
          clear hs2
          go_wp2
          go_region_law (first
            | (refine step_app rfl (.tmp 21) (.tmp 24) rfl wr.heap.size (.slice (some ⟨wr.heap.size, 0, none⟩) 0 0) [] rfl (Row.here (by simp only [hdrew, halloc]; simp [Array.getElem?_push, Array.getElem_push]) (Nat.le_refl _)) (some ⟨bi, oi, none⟩) j ci ((row L k).take j) rfl (HS1.out _ (by repeat (first | exact Below.refl _ _ | refine Below.drew ?_ | refine Below.alloc ?_ (by first | exact Nat.le_refl _ | (simp; done) | (simp; omega)) _))) (by rw [HL1.out]; simp only [List.length_nil]; omega) (by first | exact Nat.le_refl _ | (simp; done) | (simp; omega)) ?_
               intro v1 w1 h1 g1
               have b1 : Below wr.heap.size wr w1 := Below.grown (by repeat (first | exact Below.refl _ _ | refine Below.drew ?_ | refine Below.alloc ?_ (by first | exact Nat.le_refl _ | (simp; done) | (simp; omega)) _)) g1 (by first | exact Nat.le_refl _ | (simp; done) | (simp; omega)) (by intro q hq; cases hq; first | exact Nat.le_refl _ | (simp; done)))
            | (refine step_app rfl (.tmp 25) (.tmp 29) rfl wr.heap.size v1 ([] ++ (row L k).take j) rfl h1 (some ⟨bi, oi + (j + 1), none⟩) (n - (j + 1)) (ci - (j + 1)) ((row L k).drop (j + 1)) rfl (HS2.out _ b1) (by simp only [List.nil_append]; rw [HL1.out, HL2.out]; omega) b1.size ?_
               intro v2 w2 h2 g2
               have b2 : Below wr.heap.size wr w2 := Below.grown b1 g2 b1.size (fun q hq => (World.ownsRow.lt (h := h1) q hq).1)
               have r2 : Row wr.heap.size v2 (cutR j (row L k)) w2 := h2
               obtain ⟨a2, c2, e2, l2, k2⟩ := r2.lies
               rw [HCL.out] at e2
               subst e2
               have L2 := Lib.hid (And.intro l2 (new_block HT.out k2))
               have B2 := Lib.hid b2
               clear l2 k2 r2 h2 g2 b2)
            | (refine step_pushT rfl (.tmp 20) (.tmp 31) rfl w.heap.size u7 (minP L i j k) (cutR j (row L k)) a2 (n - 1) c2 w2 rfl (HT.out.below B2.out) HCL.out L2.out.1 L2.out.2 rfl (by have := HPL.out; omega) (HB.out.trans (B2.out.mono HB.out.size)).size ?_
               intro v3 w3 h3 b3
               have E3 := Lib.hid (And.intro (show TabO w3 w.heap.size v3 (minP L i j (k + 1)) by rw [HST.out]; exact h3) ((HB.out.trans (B2.out.mono HB.out.size)).trans b3))
               clear h3 b3))
          all_goals
            go_wp2
            go_roundg (gk - 1)
            case rel => exact ⟨k + 1, by have := HK.out; omega, by go_num, E3.out.1, E3.out.2⟩
            case measure => have := HK.out; omega
    · have l1 : ¬ (k : Int) < (n : Int) := by omega
      have HF := Lib.hid (show TabO wr w.heap.size u7 (minP L i j n) by have := HT.out; rw [show k = n by omega] at this; exact this)
      clear hk hkn
      go_wp2
      go_ret
      exact ⟨_, rfl, HF.out, HB.out⟩
end Go.Proofs.Ytgfenponlkmfmaa
