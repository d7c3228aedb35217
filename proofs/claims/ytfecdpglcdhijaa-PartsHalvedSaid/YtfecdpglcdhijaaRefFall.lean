/- The walk of the reference's fall. Condition: the slice lies in memory. -/
import Derived.Test.YtfecdpglcdhijaaJoin
import Derived.Deep.RegionLaw
import Derived.Deep.RegionHeld3
namespace Go.Proofs.Ytfecdpglcdhijaa
open Go.RowKit

theorem own_room {W : World} {B g n c : Nat} {vs : List Value} (h : W.ownsRow B 3 1 (.slice (some ⟨g, 0, none⟩) n c) n vs) : n ≤ c ∧ c ≤ maxLen := by
  rcases h.2 with ⟨h1, -⟩ | ⟨g', cap, cur, h1, h2, h3, h4, h5, h6, h7⟩
  · cases h1
  · cases h1
    exact ⟨h4, h5⟩
/-- What a slice shows: whole numbers. -/
def Sh (ao : Option Addr) (m c : Nat) (ys : List Int) (W : World) : Prop :=
  ys.length = m ∧ ((ao = none ∧ m = 0 ∧ c = 0) ∨ ∃ ad, ao = some ad ∧ ∀ j, j < m → W.cell? (ad.add j) = some (.int .i64 (ys.getD j 0)))
/-- A row of the call's own, from block B on. -/
def IR (B : Nat) (v : Value) (xs : List Int) (W : World) : Prop := W.ownsRow B 3 1 v xs.length (xs.map (Value.int .i64))
theorem IR.nil (B : Nat) (W : World) : IR B (.slice none 0 0) [] W := ⟨rfl, .inl ⟨rfl, rfl⟩⟩
theorem IR.made (B : Nat) (W : World) (h : B ≤ W.heap.size) : IR B (.slice (some ⟨W.heap.size, 0, none⟩) 0 0) [] (W.alloc (.cells #[] 3)) := World.ownsRow_made W #[] 0 h (Nat.zero_le _) rfl

theorem hdrew (W : World) : W.drew.heap = W.heap := rfl
theorem halloc (W : World) (o : Obj) : (W.alloc o).heap = W.heap.push o := rfl
theorem IR.here {B F : Nat} {W : World} (h : W.heap[F]? = some (.cells #[] 3 (0, 0))) (hB : B ≤ F) : IR B (.slice (some ⟨F, 0, none⟩) 0 0) [] W :=
  ⟨rfl, .inr ⟨F, 0, #[], rfl, hB, h, Nat.le_refl _, by unfold maxLen; omega, rfl, rfl⟩⟩
theorem IR.alloc {B : Nat} {v : Value} {xs : List Int} {W : World} (h : IR B v xs W) (o : Obj) : IR B v xs (W.alloc o) := World.ownsRow.alloc (h := h) o
theorem IR.drew {B : Nat} {v : Value} {xs : List Int} {W : World} (h : IR B v xs W) : IR B v xs W.drew := own_same h fun _ _ _ => rfl
theorem Sh.lit {L c : Nat} {x : Int} {W : World} (h : W.heap[L]? = some (.cells #[.int .i64 x] 3 (0, 0))) : Sh (some ⟨L, 0, none⟩) 1 c [x] W := by
  refine ⟨rfl, .inr ⟨_, rfl, fun j hj => ?_⟩⟩
  obtain rfl : j = 0 := by omega
  rw [Addr.add_lit]
  simp [World.cell?, h]
theorem Sh.old {g o m c : Nat} {ys : List Int} {w W : World} (hl : ys.length = m) (hb : Below w.heap.size w W) (hg : g < w.heap.size) (hc : ∀ j, j < m → w.cell? ⟨g, o + j, none⟩ = some (.int .i64 (ys.getD j 0))) : Sh (some ⟨g, o, none⟩) m c ys W :=
  ⟨hl, .inr ⟨_, rfl, fun j hj => by rw [Addr.add_lit]; exact (hb.cell (p := ⟨g, o + j, none⟩) hg).trans (hc j hj)⟩⟩

theorem step_app {ops : Array Oper} {o : Oper} {a : Act} {w : World} {K : Act → World → Prop} {Q : Exit → Act → World → Prop} {E : Prop} (hgd : o.guard = none) (s x : Operand)
    (ho : o.op = .call { callee := .builtin .append, args := #[s, x], argTypes := #[33, 33] })
    (B : Nat) (v : Value) (xs : List Int) (hs : a.eval s = v) (hown : IR B v xs w) (ao : Option Addr) (m c : Nat) (ys : List Int) (hx : a.eval x = .slice ao m c) (hy : Sh ao m c ys w)
    (hlen : xs.length + ys.length ≤ 100000) (hB : B ≤ w.heap.size)
    (h : ∀ v' w', IR B v' (xs ++ ys) w' → w.grownBy w' v.ownBlock → K (a.put o.dst v') w') :
    if Region.wanted o (yielded ops a.tmps) = true then Oper.wp Try.prog o a w K Q else E := by
  have hw : Region.wanted o (yielded ops a.tmps) = true := by simp [Region.wanted, hgd]
  rw [if_pos hw]
  obtain ⟨i3, j1, j2, j3, j4⟩ := info_parts info3
  obtain ⟨hl, hy⟩ := hy
  rcases hy with ⟨rfl, rfl, rfl⟩ | ⟨ad, rfl, hc⟩
  · have hr := run_append_owned_none (P := Try.prog) (w := w) B 33 o.type 3 i3 1 Try.underlying33 j1 v _ _ hown
    have e : ys = [] := List.length_eq_zero_iff.1 hl
    unfold Oper.wp execOp
    simp only [ho, resolve, invoke, builtin, Sem.run_bind, Sem.run_pure, Result.andThen_ok, List.map_toArray, List.map_cons, List.map_nil, hs, hx, hr]
    exact h v w (by rw [e, List.append_nil]; exact hown) ⟨rfl, rfl, rfl, Nat.le_refl _, fun _ _ _ => rfl⟩
  · refine wp_append_own (P := Try.prog) w s x 33 ho B 3 i3 (.int .i64 0) 1 8 Try.underlying33 j1 j2 j3 j4 rfl (by decide) v _ _ hs hown ad m c (ys.map (Value.int .i64)) hx (by rw [List.length_map, hl, Nat.mul_one]) ?_ (ints_oneCell .i64 ys) (by unfold maxLen; omega) (by omega) hB fun v' w' h1 h2 _ => h v' w' ?_ h2
    · intro j u hj
      have hjn : j < m := by
        have := (List.getElem?_eq_some_iff.1 hj).1
        rw [List.length_map, hl] at this
        exact this
      rw [hc j hjn]
      have e : (ys.map (Value.int .i64))[j]? = some (Value.int .i64 (ys.getD j 0)) := by
        have : j < ys.length := by omega
        simp [List.getD, this]
      rw [e] at hj
      exact hj
    · unfold IR
      rw [List.length_append, hl, List.map_append]
      exact h1

set_option maxHeartbeats 4000000 in
set_option maxRecDepth 100000 in
theorem fall_any (a : Option Addr) (n c : Nat) (xs : List Int) (w : World) (h : Ints w a n xs) (hn : n ≤ 100) :
    Calls Try.prog 74 #[.slice a n c] w fun e w' => ∃ ao co m, e = .returned (.slice ao m co) ∧ IR w.heap.size (.slice ao m co) (sortD xs) w' ∧ (sortD xs).length = m ∧ Below w.heap.size w w' := by
  have H := Lib.hid h
  have HL := Lib.hid h.1
  clear h
  go_enter Try.func74, Try.ntmps74
  go_wp2
  go_loopg [3, 9] n (fun gk v i wr => ∃ (k : Nat) (ao : Option Addr) (co : Nat), k + gk = n ∧ i = .int .i64 (k : Int) ∧ v = .slice ao k co ∧ (k = 0 → ao = none ∧ co = 0) ∧ IR w.heap.size (.slice ao k co) (sortD (xs.take k)) wr ∧ Below w.heap.size w wr)
  case atStart => exact ⟨0, none, 0, by omega, rfl, rfl, fun _ => ⟨rfl, rfl⟩, by rw [List.take_zero, show sortD [] = [] from List.mergeSort_nil]; exact IR.nil _ _, Below.refl _ _⟩
  case round =>
    obtain ⟨k, ao, co, hk, rfl, rfl, hz, hr, hb⟩ := hrel
    have HR := Lib.hid hr
    have HB := Lib.hid hb
    have HZ := Lib.hid hz
    have HK := Lib.hid hk
    have hkl : (sortD (xs.take k)).length = k := by
      have := HL.out
      rw [sortD_len, List.length_take]
      omega
    have HKL := Lib.hid hkl
    clear hr hb hz hkl
    by_cases hkn : k = n
    · have hge : ¬ (k : Int) < (n : Int) := by omega
      have htk : xs.take k = xs := List.take_of_length_le (by have := HL.out; omega)
      have hr2 := HR.out
      have hkl2 := HKL.out
      rw [htk] at hr2 hkl2
      have HR2 := Lib.hid (And.intro hr2 hkl2)
      clear hkn htk hr2 hkl2 hk
      go_wp2
      go_ret
      exact ⟨ao, co, k, rfl, HR2.out.1, HR2.out.2, HB.out⟩
    · have hlt : (k : Int) < (n : Int) := by omega
      have hlt2 : k < n := by omega
      have k0 : (0 : Int) ≤ (k : Int) := by omega
      obtain ⟨b, off, rfl, hb0, hc0⟩ := H.out.at (by omega)
      have hck := (HB.out.cell (p := ⟨b, off + k, none⟩) hb0).trans (hc0 k hlt2)
      obtain ⟨x, hx⟩ : ∃ x, xs.getD k 0 = x := ⟨_, rfl⟩
      rw [hx] at hck
      have HX := Lib.hid hx
      have HC0 := Lib.hid (And.intro hb0 hc0)
      obtain ⟨out, hout⟩ : ∃ out, sortD (xs.take k) = out := ⟨_, rfl⟩
      rw [hout] at HR HKL
      have HO := Lib.hid hout
      clear hkn hk hx hc0 hout
      go_wp2
      go_loopg [6] k (fun gk i wr2 => ∃ (t : Nat), t + gk = k ∧ i = .int .i64 (t : Int) ∧ (∀ j, j < t → x ≤ out.getD j 0) ∧ wr2 = wr)
      case atStart => exact ⟨0, by omega, rfl, fun j hj => by omega, rfl⟩
      case round =>
        obtain ⟨t, ht, rfl, hge, rfl⟩ := hrel
        have HGE := Lib.hid hge
        have HT := Lib.hid (show t ≤ k by omega)
        have t0 : (0 : Int) ≤ (t : Int) := by omega
        clear hge
        have HKN := Lib.hid HK.out
        by_cases hk0 : k = 0
        · obtain ⟨rfl, rfl⟩ := HZ.out hk0
          have ht0 : t = 0 := by have := HT.out; omega
          subst ht0
          subst hk0
          have hout0 : out = [] := List.length_eq_zero_iff.1 HKL.out
          subst hout0
          have hnl : (sortD (xs.take (0 + 1))).length = 0 + 1 := by rw [sortD_len, List.length_take]; have := HL.out; omega
          have HNL := Lib.hid hnl
          have hnew : [] ++ [] ++ [x] ++ [] = sortD (xs.take (0 + 1)) := by
            have h := sortD_put (at' := 0) (x := x) HO.out.symm (by simp) HGE.out (.inl rfl)
            rw [show xs.take (0 + 1) = xs.take 0 ++ [x] by rw [List.take_add_one, ← HX.out]; simp [List.getD, HL.out, hlt2]]
            exact h
          have HNEW := Lib.hid hnew
          clear hnew hnl
          have hsh : ∀ W, Below wr.heap.size wr W → Sh none 0 0 [] W := fun W hb => ⟨rfl, .inl ⟨rfl, rfl, rfl⟩⟩
          have HSH1 := Lib.hid hsh
          have HSH2 := Lib.hid hsh
          have HL1 := Lib.hid (And.intro (show ([] : List Int).length = 0 from rfl) (show ([] : List Int).length = 0 from rfl))
          clear hsh
          go_wp2
          go_region_law (first
            | (refine step_app rfl (.tmp 27) (.tmp 30) rfl wr.heap.size (.slice (some ⟨wr.heap.size, 0, none⟩) 0 0) [] rfl (IR.here (by simp only [hdrew, halloc]; simp [Array.getElem?_push, Array.getElem_push]) (by first | exact Nat.le_refl _ | exact b1.size | (simp; done) | (simp; omega) | (simp; have := b1.size; omega))) none 0 0 [] rfl (HSH1.out _ (by repeat (first | exact b2 | exact b1 | exact Below.refl _ _ | refine Below.drew ?_ | refine Below.alloc ?_ (by first | exact Nat.le_refl _ | exact b1.size | (simp; done) | (simp; omega) | (simp; have := b1.size; omega)) _))) (by have := HL1.out.1; simp only [List.length_nil]; omega) (by first | exact Nat.le_refl _ | exact b1.size | (simp; done) | (simp; omega) | (simp; have := b1.size; omega)) ?_
               intro v1 w1 h1 g1
               have b1 : Below wr.heap.size wr w1 := Below.grown (by repeat (first | exact b2 | exact b1 | exact Below.refl _ _ | refine Below.drew ?_ | refine Below.alloc ?_ (by first | exact Nat.le_refl _ | exact b1.size | (simp; done) | (simp; omega) | (simp; have := b1.size; omega)) _)) g1 (by first | exact Nat.le_refl _ | exact b1.size | (simp; done) | (simp; omega) | (simp; have := b1.size; omega)) (by intro q hq; cases hq; first | exact Nat.le_refl _ | (simp; done)))
            | (refine step_app rfl (.tmp 27) (.tmp 30) rfl wr.heap.size (.slice (some ⟨wr.heap.size + 1, 0, none⟩) 0 0) [] rfl (IR.here (by simp only [hdrew, halloc]; simp [Array.getElem?_push, Array.getElem_push]) (by first | exact Nat.le_refl _ | exact b1.size | (simp; done) | (simp; omega) | (simp; have := b1.size; omega))) none 0 0 [] rfl (HSH1.out _ (by repeat (first | exact b2 | exact b1 | exact Below.refl _ _ | refine Below.drew ?_ | refine Below.alloc ?_ (by first | exact Nat.le_refl _ | exact b1.size | (simp; done) | (simp; omega) | (simp; have := b1.size; omega)) _))) (by have := HL1.out.1; simp only [List.length_nil]; omega) (by first | exact Nat.le_refl _ | exact b1.size | (simp; done) | (simp; omega) | (simp; have := b1.size; omega)) ?_
               intro v1 w1 h1 g1
               have b1 : Below wr.heap.size wr w1 := Below.grown (by repeat (first | exact b2 | exact b1 | exact Below.refl _ _ | refine Below.drew ?_ | refine Below.alloc ?_ (by first | exact Nat.le_refl _ | exact b1.size | (simp; done) | (simp; omega) | (simp; have := b1.size; omega)) _)) g1 (by first | exact Nat.le_refl _ | exact b1.size | (simp; done) | (simp; omega) | (simp; have := b1.size; omega)) (by intro q hq; cases hq; first | exact Nat.le_refl _ | (simp; done)))
            | (refine step_app rfl (.tmp 31) (.tmp 33) rfl wr.heap.size v1 ([] ++ []) rfl (by first | exact h1 | exact h1.drew | exact h1.alloc _ | exact (h1.alloc _).drew) _ 1 1 [x] rfl (Sh.lit (by first | (simp only [hdrew, halloc]; simp [Array.getElem?_push, Array.getElem_push]; done) | exact (g1.block _ (by first | (simp; done) | (simp; omega)) (by simp [Value.ownBlock])).trans (by simp only [hdrew, halloc]; simp [Array.getElem?_push, Array.getElem_push]))) (by have := HL1.out.1; simp only [List.nil_append, List.length_cons, List.length_nil]; omega) (by first | exact Nat.le_refl _ | exact b1.size | (simp; done) | (simp; omega) | (simp; have := b1.size; omega)) ?_
               intro v2 w2 h2 g2
               have b2 : Below wr.heap.size wr w2 := Below.grown (by repeat (first | exact b2 | exact b1 | exact Below.refl _ _ | refine Below.drew ?_ | refine Below.alloc ?_ (by first | exact Nat.le_refl _ | exact b1.size | (simp; done) | (simp; omega) | (simp; have := b1.size; omega)) _)) g2 (by first | exact Nat.le_refl _ | exact b1.size | (simp; done) | (simp; omega) | (simp; have := b1.size; omega)) (fun q hq => (World.ownsRow.lt h1 q hq).1))
            | (refine step_app rfl (.tmp 34) (.tmp 37) rfl wr.heap.size v2 ([] ++ [] ++ [x]) rfl h2 none 0 0 [] rfl (HSH2.out _ b2) (by have := HL1.out; simp only [List.nil_append, List.length_append, List.length_cons, List.length_nil]; omega) b2.size ?_
               intro v3 w3 h3 g3
               have b3 : Below wr.heap.size wr w3 := Below.grown b2 g3 b2.size (fun q hq => (World.ownsRow.lt h2 q hq).1)
               have e3 : IR wr.heap.size v3 (sortD (xs.take (0 + 1))) w3 := (by rw [← HNEW.out]; exact h3)
               obtain ⟨g5, c5, hv5⟩ := own_form e3 (by rw [HNL.out]; omega)
               rw [HNL.out] at hv5
               subst hv5
               have E3 := Lib.hid (And.intro e3 b3)
               clear e3 b3 h3 g3))
          all_goals
            go_wp2
            go_roundg (n - 0 - 1)
            case rel => exact ⟨0 + 1, some ⟨g5, 0, none⟩, c5, by omega, by go_num, rfl, fun h => absurd h (by omega), Joins.ownsRow_le E3.out.1 HB.out.size, HB.out.trans (E3.out.2.mono HB.out.size)⟩
            case measure => have := HKN.out; omega
        · obtain ⟨g, co', hao⟩ := own_form HR.out (by have := HKL.out; omega)
          have hao2 : ao = some ⟨g, 0, none⟩ := by injection hao
          subst hao2
          have hr := HR.out
          unfold IR at hr
          rw [HKL.out] at hr
          obtain ⟨hcap, hcap2⟩ := own_room hr
          have HRW := Lib.hid hr
          have hcells : ∀ j, j < k → wr.cell? ⟨g, j, none⟩ = some (.int .i64 (out.getD j 0)) := fun j hj => by
            rw [hr.cellAt j (by omega), List.getElem?_map, List.getElem?_eq_getElem (by have := HKL.out; omega), List.getD_eq_getElem?_getD, List.getElem?_eq_getElem (by have := HKL.out; omega)]
            rfl
          have HCS := Lib.hid hcells
          have HCAP := Lib.hid hcap2
          clear hao hr hcells hcap2 HC0
          have hsh1 : ∀ W, Below wr.heap.size wr W → Sh (some ⟨g, 0, none⟩) t co (out.take t) W := fun W hb => Sh.old (by rw [List.length_take]; have := HKL.out; have := HT.out; omega) hb (HRW.out.lt g rfl).2 fun j hj => by
            rw [Nat.zero_add, HCS.out j (by have := HT.out; omega)]
            simp [List.getD, hj]
          have HSH1 := Lib.hid hsh1
          have hl1 : (out.take t).length = t := by rw [List.length_take]; have := HKL.out; have := HT.out; omega
          have hl2 : (out.drop t).length = k - t := by rw [List.length_drop]; have := HKL.out; omega
          have HL1 := Lib.hid (And.intro hl1 hl2)
          clear hsh1 hl1 hl2
          by_cases htk : t = k
          · have hnlt : ¬ (t : Int) < (k : Int) := by omega
            have hnlt2 : ¬ t < k := by omega
            have hnl : (sortD (xs.take (k + 1))).length = k + 1 := by rw [sortD_len, List.length_take]; have := HL.out; omega
            have HNL := Lib.hid hnl
            have hnew : [] ++ out.take t ++ [x] ++ out.drop t = sortD (xs.take (k + 1)) := by
              have := sortD_put (at' := t) HO.out.symm (by have := HKL.out; omega) HGE.out (.inl (by have := HKL.out; omega))
              rw [List.nil_append, List.append_assoc, List.singleton_append, this, List.take_add_one, ← HX.out]
              simp [List.getD, HL.out, hlt2]
            have HNEW := Lib.hid hnew
            clear hnew hnl
            have hle5 : (t : Int) ≤ (k : Int) := by omega
            have hle6 : (k : Int) ≤ (co : Int) := by omega
            have hle7 : t ≤ k := by omega
            have hle8 : t ≤ co := by omega
            have hco3 : (t : Int) ≤ (co : Int) := by omega
            have hkt : k - t = 0 := by omega
            by_cases hct : co = t
            · subst hct
              have hsh2 : ∀ W, Below wr.heap.size wr W → Sh (some ⟨g, 0, none⟩) 0 0 (out.drop co) W := fun W hb => ⟨by have := HL1.out.2; omega, .inr ⟨_, rfl, fun j hj => by omega⟩⟩
              have HSH2 := Lib.hid hsh2
              clear hsh2 htk
              go_wp2
              go_region_law (first
                | (refine step_app rfl (.tmp 27) (.tmp 30) rfl wr.heap.size (.slice (some ⟨wr.heap.size, 0, none⟩) 0 0) [] rfl (IR.here (by simp only [hdrew, halloc]; simp [Array.getElem?_push, Array.getElem_push]) (by first | exact Nat.le_refl _ | exact b1.size | (simp; done) | (simp; omega) | (simp; have := b1.size; omega))) (some ⟨g, 0, none⟩) co co (out.take co) rfl (HSH1.out _ (by repeat (first | exact b2 | exact b1 | exact Below.refl _ _ | refine Below.drew ?_ | refine Below.alloc ?_ (by first | exact Nat.le_refl _ | exact b1.size | (simp; done) | (simp; omega) | (simp; have := b1.size; omega)) _))) (by have := HL1.out.1; simp only [List.length_nil]; omega) (by first | exact Nat.le_refl _ | exact b1.size | (simp; done) | (simp; omega) | (simp; have := b1.size; omega)) ?_
                   intro v1 w1 h1 g1
                   have b1 : Below wr.heap.size wr w1 := Below.grown (by repeat (first | exact b2 | exact b1 | exact Below.refl _ _ | refine Below.drew ?_ | refine Below.alloc ?_ (by first | exact Nat.le_refl _ | exact b1.size | (simp; done) | (simp; omega) | (simp; have := b1.size; omega)) _)) g1 (by first | exact Nat.le_refl _ | exact b1.size | (simp; done) | (simp; omega) | (simp; have := b1.size; omega)) (by intro q hq; cases hq; first | exact Nat.le_refl _ | (simp; done)))
                | (refine step_app rfl (.tmp 27) (.tmp 30) rfl wr.heap.size (.slice (some ⟨wr.heap.size + 1, 0, none⟩) 0 0) [] rfl (IR.here (by simp only [hdrew, halloc]; simp [Array.getElem?_push, Array.getElem_push]) (by first | exact Nat.le_refl _ | exact b1.size | (simp; done) | (simp; omega) | (simp; have := b1.size; omega))) (some ⟨g, 0, none⟩) co co (out.take co) rfl (HSH1.out _ (by repeat (first | exact b2 | exact b1 | exact Below.refl _ _ | refine Below.drew ?_ | refine Below.alloc ?_ (by first | exact Nat.le_refl _ | exact b1.size | (simp; done) | (simp; omega) | (simp; have := b1.size; omega)) _))) (by have := HL1.out.1; simp only [List.length_nil]; omega) (by first | exact Nat.le_refl _ | exact b1.size | (simp; done) | (simp; omega) | (simp; have := b1.size; omega)) ?_
                   intro v1 w1 h1 g1
                   have b1 : Below wr.heap.size wr w1 := Below.grown (by repeat (first | exact b2 | exact b1 | exact Below.refl _ _ | refine Below.drew ?_ | refine Below.alloc ?_ (by first | exact Nat.le_refl _ | exact b1.size | (simp; done) | (simp; omega) | (simp; have := b1.size; omega)) _)) g1 (by first | exact Nat.le_refl _ | exact b1.size | (simp; done) | (simp; omega) | (simp; have := b1.size; omega)) (by intro q hq; cases hq; first | exact Nat.le_refl _ | (simp; done)))
                | (refine step_app rfl (.tmp 31) (.tmp 33) rfl wr.heap.size v1 ([] ++ (out.take co)) rfl (by first | exact h1 | exact h1.drew | exact h1.alloc _ | exact (h1.alloc _).drew) _ 1 1 [x] rfl (Sh.lit (by first | (simp only [hdrew, halloc]; simp [Array.getElem?_push, Array.getElem_push]; done) | exact (g1.block _ (by first | (simp; done) | (simp; omega)) (by simp [Value.ownBlock])).trans (by simp only [hdrew, halloc]; simp [Array.getElem?_push, Array.getElem_push]))) (by have := HL1.out.1; simp only [List.nil_append, List.length_cons, List.length_nil]; omega) (by first | exact Nat.le_refl _ | exact b1.size | (simp; done) | (simp; omega) | (simp; have := b1.size; omega)) ?_
                   intro v2 w2 h2 g2
                   have b2 : Below wr.heap.size wr w2 := Below.grown (by repeat (first | exact b2 | exact b1 | exact Below.refl _ _ | refine Below.drew ?_ | refine Below.alloc ?_ (by first | exact Nat.le_refl _ | exact b1.size | (simp; done) | (simp; omega) | (simp; have := b1.size; omega)) _)) g2 (by first | exact Nat.le_refl _ | exact b1.size | (simp; done) | (simp; omega) | (simp; have := b1.size; omega)) (fun q hq => (World.ownsRow.lt h1 q hq).1))
                | (refine step_app rfl (.tmp 34) (.tmp 37) rfl wr.heap.size v2 ([] ++ (out.take co) ++ [x]) rfl h2 (some ⟨g, 0, none⟩) 0 0 (out.drop co) rfl (HSH2.out _ b2) (by have := HL1.out; simp only [List.nil_append, List.length_append, List.length_cons, List.length_nil]; omega) b2.size ?_
                   intro v3 w3 h3 g3
                   have b3 : Below wr.heap.size wr w3 := Below.grown b2 g3 b2.size (fun q hq => (World.ownsRow.lt h2 q hq).1)
                   have e3 : IR wr.heap.size v3 (sortD (xs.take (k + 1))) w3 := (by rw [← HNEW.out]; exact h3)
                   obtain ⟨g5, c5, hv5⟩ := own_form e3 (by rw [HNL.out]; omega)
                   rw [HNL.out] at hv5
                   subst hv5
                   have E3 := Lib.hid (And.intro e3 b3)
                   clear e3 b3 h3 g3))
              all_goals
                go_wp2
                go_roundg (n - k - 1)
                case rel => exact ⟨k + 1, some ⟨g5, 0, none⟩, c5, by omega, by go_num, rfl, fun h => absurd h (by omega), Joins.ownsRow_le E3.out.1 HB.out.size, HB.out.trans (E3.out.2.mono HB.out.size)⟩
                case measure => have := HKN.out; omega
            · have hsh2 : ∀ W, Below wr.heap.size wr W → Sh (some ⟨g, t, none⟩) 0 (co - t) (out.drop t) W := fun W hb => ⟨by have := HL1.out.2; omega, .inr ⟨_, rfl, fun j hj => by omega⟩⟩
              have HSH2 := Lib.hid hsh2
              clear hsh2 htk
              go_wp2
              go_region_law (first
                | (refine step_app rfl (.tmp 27) (.tmp 30) rfl wr.heap.size (.slice (some ⟨wr.heap.size, 0, none⟩) 0 0) [] rfl (IR.here (by simp only [hdrew, halloc]; simp [Array.getElem?_push, Array.getElem_push]) (by first | exact Nat.le_refl _ | exact b1.size | (simp; done) | (simp; omega) | (simp; have := b1.size; omega))) (some ⟨g, 0, none⟩) t co (out.take t) rfl (HSH1.out _ (by repeat (first | exact b2 | exact b1 | exact Below.refl _ _ | refine Below.drew ?_ | refine Below.alloc ?_ (by first | exact Nat.le_refl _ | exact b1.size | (simp; done) | (simp; omega) | (simp; have := b1.size; omega)) _))) (by have := HL1.out.1; simp only [List.length_nil]; omega) (by first | exact Nat.le_refl _ | exact b1.size | (simp; done) | (simp; omega) | (simp; have := b1.size; omega)) ?_
                   intro v1 w1 h1 g1
                   have b1 : Below wr.heap.size wr w1 := Below.grown (by repeat (first | exact b2 | exact b1 | exact Below.refl _ _ | refine Below.drew ?_ | refine Below.alloc ?_ (by first | exact Nat.le_refl _ | exact b1.size | (simp; done) | (simp; omega) | (simp; have := b1.size; omega)) _)) g1 (by first | exact Nat.le_refl _ | exact b1.size | (simp; done) | (simp; omega) | (simp; have := b1.size; omega)) (by intro q hq; cases hq; first | exact Nat.le_refl _ | (simp; done)))
                | (refine step_app rfl (.tmp 27) (.tmp 30) rfl wr.heap.size (.slice (some ⟨wr.heap.size + 1, 0, none⟩) 0 0) [] rfl (IR.here (by simp only [hdrew, halloc]; simp [Array.getElem?_push, Array.getElem_push]) (by first | exact Nat.le_refl _ | exact b1.size | (simp; done) | (simp; omega) | (simp; have := b1.size; omega))) (some ⟨g, 0, none⟩) t co (out.take t) rfl (HSH1.out _ (by repeat (first | exact b2 | exact b1 | exact Below.refl _ _ | refine Below.drew ?_ | refine Below.alloc ?_ (by first | exact Nat.le_refl _ | exact b1.size | (simp; done) | (simp; omega) | (simp; have := b1.size; omega)) _))) (by have := HL1.out.1; simp only [List.length_nil]; omega) (by first | exact Nat.le_refl _ | exact b1.size | (simp; done) | (simp; omega) | (simp; have := b1.size; omega)) ?_
                   intro v1 w1 h1 g1
                   have b1 : Below wr.heap.size wr w1 := Below.grown (by repeat (first | exact b2 | exact b1 | exact Below.refl _ _ | refine Below.drew ?_ | refine Below.alloc ?_ (by first | exact Nat.le_refl _ | exact b1.size | (simp; done) | (simp; omega) | (simp; have := b1.size; omega)) _)) g1 (by first | exact Nat.le_refl _ | exact b1.size | (simp; done) | (simp; omega) | (simp; have := b1.size; omega)) (by intro q hq; cases hq; first | exact Nat.le_refl _ | (simp; done)))
                | (refine step_app rfl (.tmp 31) (.tmp 33) rfl wr.heap.size v1 ([] ++ (out.take t)) rfl (by first | exact h1 | exact h1.drew | exact h1.alloc _ | exact (h1.alloc _).drew) _ 1 1 [x] rfl (Sh.lit (by first | (simp only [hdrew, halloc]; simp [Array.getElem?_push, Array.getElem_push]; done) | exact (g1.block _ (by first | (simp; done) | (simp; omega)) (by simp [Value.ownBlock])).trans (by simp only [hdrew, halloc]; simp [Array.getElem?_push, Array.getElem_push]))) (by have := HL1.out.1; simp only [List.nil_append, List.length_cons, List.length_nil]; omega) (by first | exact Nat.le_refl _ | exact b1.size | (simp; done) | (simp; omega) | (simp; have := b1.size; omega)) ?_
                   intro v2 w2 h2 g2
                   have b2 : Below wr.heap.size wr w2 := Below.grown (by repeat (first | exact b2 | exact b1 | exact Below.refl _ _ | refine Below.drew ?_ | refine Below.alloc ?_ (by first | exact Nat.le_refl _ | exact b1.size | (simp; done) | (simp; omega) | (simp; have := b1.size; omega)) _)) g2 (by first | exact Nat.le_refl _ | exact b1.size | (simp; done) | (simp; omega) | (simp; have := b1.size; omega)) (fun q hq => (World.ownsRow.lt h1 q hq).1))
                | (refine step_app rfl (.tmp 34) (.tmp 37) rfl wr.heap.size v2 ([] ++ (out.take t) ++ [x]) rfl h2 (some ⟨g, t, none⟩) 0 (co - t) (out.drop t) rfl (HSH2.out _ b2) (by have := HL1.out; simp only [List.nil_append, List.length_append, List.length_cons, List.length_nil]; omega) b2.size ?_
                   intro v3 w3 h3 g3
                   have b3 : Below wr.heap.size wr w3 := Below.grown b2 g3 b2.size (fun q hq => (World.ownsRow.lt h2 q hq).1)
                   have e3 : IR wr.heap.size v3 (sortD (xs.take (k + 1))) w3 := (by rw [← HNEW.out]; exact h3)
                   obtain ⟨g5, c5, hv5⟩ := own_form e3 (by rw [HNL.out]; omega)
                   rw [HNL.out] at hv5
                   subst hv5
                   have E3 := Lib.hid (And.intro e3 b3)
                   clear e3 b3 h3 g3))
              all_goals
                go_wp2
                go_roundg (n - k - 1)
                case rel => exact ⟨k + 1, some ⟨g5, 0, none⟩, c5, by omega, by go_num, rfl, fun h => absurd h (by omega), Joins.ownsRow_le E3.out.1 HB.out.size, HB.out.trans (E3.out.2.mono HB.out.size)⟩
                case measure => have := HKN.out; omega
          · have hlt3 : t < k := by have := HT.out; omega
            have hlt4 : (t : Int) < (k : Int) := by omega
            have hct := HCS.out t hlt3
            obtain ⟨y, hy⟩ : ∃ y, out.getD t 0 = y := ⟨_, rfl⟩
            rw [hy] at hct
            have HY := Lib.hid hy
            clear htk hy
            by_cases hyx : y < x
            · have hnge : ¬ x ≤ y := by omega
              have hco : ¬ co = t := by omega
              have hco3 : (t : Int) ≤ (co : Int) := by omega
              have hle5 : (t : Int) ≤ (k : Int) := by omega
              have hle6 : (k : Int) ≤ (co : Int) := by omega
              have hle7 : t ≤ k := by omega
              have hle8 : t ≤ co := by omega
              have hsh2 : ∀ W, Below wr.heap.size wr W → Sh (some ⟨g, t, none⟩) (k - t) (co - t) (out.drop t) W := fun W hb => Sh.old (by rw [List.length_drop]; have := HKL.out; omega) hb (HRW.out.lt g rfl).2 fun j hj => by
                rw [HCS.out (t + j) (by omega)]
                simp [List.getD]
              have HSH2 := Lib.hid hsh2
              clear hsh2
              have hnl : (sortD (xs.take (k + 1))).length = k + 1 := by rw [sortD_len, List.length_take]; have := HL.out; omega
              have HNL := Lib.hid hnl
              have hnew : [] ++ out.take t ++ [x] ++ out.drop t = sortD (xs.take (k + 1)) := by
                have := sortD_put (at' := t) HO.out.symm (by have := HKL.out; omega) HGE.out (.inr (by rw [HY.out]; exact hyx))
                rw [List.nil_append, List.append_assoc, List.singleton_append, this, List.take_add_one, ← HX.out]
                simp [List.getD, HL.out, hlt2]
              have HNEW := Lib.hid hnew
              clear hnew hnl
              go_wp2
              go_region_law (first
                | (refine step_app rfl (.tmp 27) (.tmp 30) rfl wr.heap.size (.slice (some ⟨wr.heap.size, 0, none⟩) 0 0) [] rfl (IR.here (by simp only [hdrew, halloc]; simp [Array.getElem?_push, Array.getElem_push]) (by first | exact Nat.le_refl _ | exact b1.size | (simp; done) | (simp; omega) | (simp; have := b1.size; omega))) (some ⟨g, 0, none⟩) t co (out.take t) rfl (HSH1.out _ (by repeat (first | exact b2 | exact b1 | exact Below.refl _ _ | refine Below.drew ?_ | refine Below.alloc ?_ (by first | exact Nat.le_refl _ | exact b1.size | (simp; done) | (simp; omega) | (simp; have := b1.size; omega)) _))) (by have := HL1.out.1; simp only [List.length_nil]; omega) (by first | exact Nat.le_refl _ | exact b1.size | (simp; done) | (simp; omega) | (simp; have := b1.size; omega)) ?_
                   intro v1 w1 h1 g1
                   have b1 : Below wr.heap.size wr w1 := Below.grown (by repeat (first | exact b2 | exact b1 | exact Below.refl _ _ | refine Below.drew ?_ | refine Below.alloc ?_ (by first | exact Nat.le_refl _ | exact b1.size | (simp; done) | (simp; omega) | (simp; have := b1.size; omega)) _)) g1 (by first | exact Nat.le_refl _ | exact b1.size | (simp; done) | (simp; omega) | (simp; have := b1.size; omega)) (by intro q hq; cases hq; first | exact Nat.le_refl _ | (simp; done)))
                | (refine step_app rfl (.tmp 27) (.tmp 30) rfl wr.heap.size (.slice (some ⟨wr.heap.size + 1, 0, none⟩) 0 0) [] rfl (IR.here (by simp only [hdrew, halloc]; simp [Array.getElem?_push, Array.getElem_push]) (by first | exact Nat.le_refl _ | exact b1.size | (simp; done) | (simp; omega) | (simp; have := b1.size; omega))) (some ⟨g, 0, none⟩) t co (out.take t) rfl (HSH1.out _ (by repeat (first | exact b2 | exact b1 | exact Below.refl _ _ | refine Below.drew ?_ | refine Below.alloc ?_ (by first | exact Nat.le_refl _ | exact b1.size | (simp; done) | (simp; omega) | (simp; have := b1.size; omega)) _))) (by have := HL1.out.1; simp only [List.length_nil]; omega) (by first | exact Nat.le_refl _ | exact b1.size | (simp; done) | (simp; omega) | (simp; have := b1.size; omega)) ?_
                   intro v1 w1 h1 g1
                   have b1 : Below wr.heap.size wr w1 := Below.grown (by repeat (first | exact b2 | exact b1 | exact Below.refl _ _ | refine Below.drew ?_ | refine Below.alloc ?_ (by first | exact Nat.le_refl _ | exact b1.size | (simp; done) | (simp; omega) | (simp; have := b1.size; omega)) _)) g1 (by first | exact Nat.le_refl _ | exact b1.size | (simp; done) | (simp; omega) | (simp; have := b1.size; omega)) (by intro q hq; cases hq; first | exact Nat.le_refl _ | (simp; done)))
                | (refine step_app rfl (.tmp 31) (.tmp 33) rfl wr.heap.size v1 ([] ++ (out.take t)) rfl (by first | exact h1 | exact h1.drew | exact h1.alloc _ | exact (h1.alloc _).drew) _ 1 1 [x] rfl (Sh.lit (by first | (simp only [hdrew, halloc]; simp [Array.getElem?_push, Array.getElem_push]; done) | exact (g1.block _ (by first | (simp; done) | (simp; omega)) (by simp [Value.ownBlock])).trans (by simp only [hdrew, halloc]; simp [Array.getElem?_push, Array.getElem_push]))) (by have := HL1.out.1; simp only [List.nil_append, List.length_cons, List.length_nil]; omega) (by first | exact Nat.le_refl _ | exact b1.size | (simp; done) | (simp; omega) | (simp; have := b1.size; omega)) ?_
                   intro v2 w2 h2 g2
                   have b2 : Below wr.heap.size wr w2 := Below.grown (by repeat (first | exact b2 | exact b1 | exact Below.refl _ _ | refine Below.drew ?_ | refine Below.alloc ?_ (by first | exact Nat.le_refl _ | exact b1.size | (simp; done) | (simp; omega) | (simp; have := b1.size; omega)) _)) g2 (by first | exact Nat.le_refl _ | exact b1.size | (simp; done) | (simp; omega) | (simp; have := b1.size; omega)) (fun q hq => (World.ownsRow.lt h1 q hq).1))
                | (refine step_app rfl (.tmp 34) (.tmp 37) rfl wr.heap.size v2 ([] ++ (out.take t) ++ [x]) rfl h2 (some ⟨g, t, none⟩) (k - t) (co - t) (out.drop t) rfl (HSH2.out _ b2) (by have := HL1.out; simp only [List.nil_append, List.length_append, List.length_cons, List.length_nil]; omega) b2.size ?_
                   intro v3 w3 h3 g3
                   have b3 : Below wr.heap.size wr w3 := Below.grown b2 g3 b2.size (fun q hq => (World.ownsRow.lt h2 q hq).1)
                   have e3 : IR wr.heap.size v3 (sortD (xs.take (k + 1))) w3 := (by rw [← HNEW.out]; exact h3)
                   obtain ⟨g5, c5, hv5⟩ := own_form e3 (by rw [HNL.out]; omega)
                   rw [HNL.out] at hv5
                   subst hv5
                   have E3 := Lib.hid (And.intro e3 b3)
                   clear e3 b3 h3 g3))
              all_goals
                go_wp2
                go_roundg (n - k - 1)
                case rel => exact ⟨k + 1, some ⟨g5, 0, none⟩, c5, by omega, by go_num, rfl, fun h => absurd h (by omega), Joins.ownsRow_le E3.out.1 HB.out.size, HB.out.trans (E3.out.2.mono HB.out.size)⟩
                case measure => have := HKN.out; omega
            · have hge2 : x ≤ y := by omega
              go_wp2
              go_roundg (k - t - 1)
              case rel =>
                refine ⟨t + 1, by have := HT.out; omega, by go_num, fun j hj => ?_, rfl⟩
                by_cases hjt : j = t
                · rw [hjt, HY.out]; exact hge2
                · exact HGE.out j (by omega)
              case measure => omega
end Go.Proofs.Ytfecdpglcdhijaa
