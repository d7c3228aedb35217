/- The walks of partition.move and parts.Franklin: Franklin's move, or the documented error. Condition: the slice lies in memory; for the move it holds a partition. -/
import Derived.Test.YtfecdpglcdhijaaFrank2
namespace Go.Proofs.Ytfecdpglcdhijaa
open Go.RowKit
attribute [local go_sem] Oper.semAt_some

/-- A row of the call's own, with room for c, whose cell j holds f j. -/
structure RS (g m c : Nat) (f : Nat → Int) (w W : World) : Prop where
  b : Below w.heap.size w W
  own : W.ownsRow w.heap.size 3 1 (.slice (some ⟨g, 0, none⟩) m c) m ((List.range m).map fun j => Value.int .i64 (f j))
theorem RS.cell {g m c : Nat} {f : Nat → Int} {w W : World} (h : RS g m c f w W) {j : Nat} (hj : j < m) : W.cell? ⟨g, j, none⟩ = some (.int .i64 (f j)) := by
  rw [h.own.cellAt j (by omega), List.getElem?_map, List.getElem?_range hj]
  rfl
theorem RS.frozen {g m c : Nat} {f : Nat → Int} {w W : World} (h : RS g m c f w W) (j : Nat) : W.frozen? ⟨g, j, none⟩ = false := h.own.frozenAt j
theorem RS.le {g m c : Nat} {f : Nat → Int} {w W : World} (h : RS g m c f w W) : w.heap.size ≤ g := (h.own.lt g rfl).1
theorem RS.put {g m c : Nat} {f : Nat → Int} {w W : World} (h : RS g m c f w W) (j : Nat) (v : Int) : RS g m c (fun i => if i = j then v else f i) w (W.setCell ⟨g, j, none⟩ (.int .i64 v)) := by
  refine ⟨h.b.setCell (p := ⟨g, j, none⟩) h.le _, ?_⟩
  have := (h.own.stored j (.int .i64 v)).1
  rw [map_range_set] at this
  have e : (fun i => if i = j then Value.int IntKind.i64 v else Value.int IntKind.i64 (f i)) = fun i => Value.int IntKind.i64 (if i = j then v else f i) := by
    funext i
    split <;> rfl
  rw [e] at this
  exact this
theorem RS.congr {g m c : Nat} {f f' : Nat → Int} {w W : World} (h : RS g m c f w W) (e : ∀ j, j < m → f j = f' j) : RS g m c f' w W := by
  refine ⟨h.b, ?_⟩
  have e2 : ((List.range m).map fun j => Value.int .i64 (f j)) = (List.range m).map fun j => Value.int .i64 (f' j) := by
    apply List.map_congr_left
    intro j hj
    rw [e j (List.mem_range.1 hj)]
  rw [← e2]
  exact h.own
theorem ints_range (xs : List Int) (n : Nat) (h : xs.length = n) : xs.map (Value.int .i64) = (List.range n).map fun j => Value.int .i64 (xs.getD j 0) := by
  apply List.ext_getElem?
  intro j
  by_cases hj : j < n
  · have : j < xs.length := by omega
    simp [List.getD, hj, this]
  · have : ¬ j < xs.length := by omega
    simp [hj, this]
theorem RS.of {g n c : Nat} {xs : List Int} {w W : World} (ho : W.ownsRow w.heap.size 3 1 (.slice (some ⟨g, 0, none⟩) n c) n (xs.map (Value.int .i64))) (hb : Below w.heap.size w W) : RS g n c (fun j => xs.getD j 0) w W := by
  refine ⟨hb, ?_⟩
  rw [← ints_range xs n (by simpa using ho.1)]
  exact ho
/-- The same row, held from an earlier world on. -/
theorem RS.early {g n c : Nat} {f : Nat → Int} {w w1 W : World} (h : RS g n c f w1 W) (hb : Below w.heap.size w w1) : RS g n c f w W :=
  ⟨hb.trans (h.b.mono hb.size), Joins.ownsRow_le h.own hb.size⟩
/-- A row that ends earlier. -/
theorem RS.cut {g n c m : Nat} {f : Nat → Int} {w W : World} (h : RS g n c f w W) (hm : m ≤ n) : RS g m c f w W := by
  refine ⟨h.b, by simp, ?_⟩
  rcases h.own.2 with ⟨h1, h2⟩ | ⟨g', cap, cur, h1, h2, h3, h4, h5, h6, h7⟩
  · cases h1
  · cases h1
    refine .inr ⟨g, c, cur, rfl, h2, h3, by omega, h5, h6, ?_⟩
    have e : cur.toList.take (m * 1) = (cur.toList.take (n * 1)).take m := by
      rw [List.take_take]; congr 1; omega
    rw [e, h7, ← List.map_take, List.take_range]
    congr 2
    omega

theorem fail_cases {xs : List Int} {n : Nat} (hl : xs.length = n) : failL xs = (decide (frontL xs = n) && (decide (lastL xs = frontL xs) || decide (lastL xs = frontL xs + 1))) := by
  unfold failL
  rw [hl]
  rfl

set_option maxHeartbeats 2000000 in
set_option maxRecDepth 100000 in
theorem move_any (ad : Addr) (n c : Nat) (xs : List Int) (w : World) (h : Ints w (some ad) n xs) (hP : isP xs = true) (hn1 : 1 ≤ n) (hcn : n ≤ c) :
    Calls Try.prog 69 #[.slice (some ad) n c] w fun e w' => (failL xs = true ∧ e = .returned (.slice none 0 0) ∧ Below w.heap.size w w') ∨
      (failL xs = false ∧ ∃ g co, e = .returned (.slice (some ⟨g, 0, none⟩) (moveL xs).length co) ∧ w'.ownsRow w.heap.size 3 1 (.slice (some ⟨g, 0, none⟩) (moveL xs).length co) (moveL xs).length ((moveL xs).map (Value.int .i64)) ∧ Below w.heap.size w w') := by
  have hl := h.1
  have hn := isP_len hP
  rw [hl] at hn
  obtain ⟨f1, f2⟩ := frontL_bd (xs := xs) (by omega)
  rw [hl] at f2
  obtain ⟨b, off, had, hb, hc⟩ := h.at (by omega)
  cases had
  have hlast := hc (n - 1) (by omega)
  have hls := isP_at hP (j := n - 1) (by omega)
  have hlast2 : xs.getD (n - 1) 0 = lastL xs := by unfold lastL; rw [hl]
  rw [hlast2] at hlast hls
  have hfl := fail_cases hl
  have hidx : (n : Int) - 1 = ((n - 1 : Nat) : Int) := by omega
  have hbd : ∀ j, j < n → 1 ≤ xs.getD j 0 ∧ xs.getD j 0 ≤ 30 := fun j hj => isP_at hP (by rw [hl]; exact hj)
  have hmv : moveL xs = if lastL xs ≤ frontL xs then (List.range (n - 1)).map fun j => xs.getD j 0 + if (j : Int) < lastL xs then 1 else 0
      else (List.range (n + 1)).map fun j => if j = n then (frontL xs : Int) else xs.getD j 0 - if j < frontL xs then 1 else 0 := by unfold moveL; rw [hl]
  obtain ⟨t, ht⟩ : ∃ t, frontL xs = t := ⟨_, rfl⟩
  obtain ⟨S, hS⟩ : ∃ S : Nat, lastL xs = (S : Int) := ⟨(lastL xs).toNat, by omega⟩
  rw [ht] at f1 f2 hfl hmv
  rw [hS] at hlast hls hfl hmv
  have H := Lib.hid h
  have HP := Lib.hid hP
  have HT := Lib.hid ht
  have HBD := Lib.hid hbd
  have HMV := Lib.hid hmv
  have HFL := Lib.hid hfl
  have HL := Lib.hid hl
  have n0 : (0 : Int) ≤ (n : Int) - 1 := by omega
  have n2 : (n : Int) - 1 < (n : Int) := by omega
  have n3 : n - 1 < n := by omega
  clear h hP hl hc ht hS hbd hmv hfl hlast2
  have S1 : 1 ≤ S := by omega
  have S2 : S ≤ 30 := by omega
  have hbq : ∀ q, Below w.heap.size w (w.drewN q) := fun q => below_drewN (Below.refl w.heap.size w) q
  have HBQ := Lib.hid hbq
  obtain ⟨i3, j1, j2, j3, j4⟩ := info_parts info3
  have J := Lib.hid (And.intro j1 (And.intro j2 (And.intro j3 j4)))
  clear hbq hls j1 j2 j3 j4
  by_cases hfail : t = n ∧ (S = t ∨ S = t + 1)
  · obtain ⟨htn, hor⟩ := hfail
    have hF : failL xs = true := by
      rw [HFL.out, Bool.and_eq_true, Bool.or_eq_true]
      refine ⟨by simpa using htn, ?_⟩
      rcases hor with h | h
      · left; simp; omega
      · right; simp; omega
    have HF := Lib.hid hF
    have g1 : ((t : Int) == (n : Int)) = true := by simp; omega
    clear hF
    rcases hor with h | h
    · have g2 : ((S : Int) == (t : Int)) = true := by simp; omega
      have g3 : ((S : Int) == (t : Int) + 1) = false := by simp; omega
      clear h htn
      go_enter Try.func69, Try.ntmps69
      go_wp2_with (go_at_call 90; refine (front_any (some ⟨b, off, none⟩) n c xs _ H.out HP.out hn1).mono ?_; rintro e w' ⟨rfl, q, rfl⟩; rw [HT.out])
      go_ret
      exact .inl ⟨HF.out, rfl, HBQ.out q⟩
    · have g2 : ((S : Int) == (t : Int)) = false := by simp; omega
      have g3 : ((S : Int) == (t : Int) + 1) = true := by simp; omega
      clear h htn
      go_enter Try.func69, Try.ntmps69
      go_wp2_with (go_at_call 90; refine (front_any (some ⟨b, off, none⟩) n c xs _ H.out HP.out hn1).mono ?_; rintro e w' ⟨rfl, q, rfl⟩; rw [HT.out])
      go_ret
      exact .inl ⟨HF.out, rfl, HBQ.out q⟩
  · have hF : failL xs = false := by
      rw [HFL.out, Bool.and_eq_false_iff]
      by_cases h : t = n
      · right
        rw [Bool.or_eq_false_iff]
        constructor <;> (simp; omega)
      · left; simpa using h
    have HF := Lib.hid hF
    clear hF
    by_cases hst : S ≤ t
    · have hSn : S ≤ n - 1 := by omega
      have hle : (S : Int) ≤ (t : Int) := by omega
      have hmv := HMV.out
      rw [if_pos hle] at hmv
      have HM2 := Lib.hid hmv
      have hfr : Ints w (some ⟨b, off, none⟩) (n - 1) (xs.take (n - 1)) := H.out.front (n - 1) (by omega)
      have HFR := Lib.hid hfr
      have hto : ((n : Int) - 1).toNat = n - 1 := by omega
      clear hmv hfr
      by_cases htn : t = n
      case' pos =>
        have g1 : ((t : Int) == (n : Int)) = true := by simp; omega
        have g2 : ((S : Int) == (t : Int)) = false := by simp; omega
        have g3 : ((S : Int) == (t : Int) + 1) = false := by simp; omega
        clear hfail htn
        go_enter Try.func69, Try.ntmps69
        go_wp2_with (first | (go_at_call 90; refine (front_any (some ⟨b, off, none⟩) n c xs _ H.out HP.out hn1).mono ?_; rintro e w' ⟨rfl, q, rfl⟩; rw [HT.out]) | (go_at_call 91; (try rw [hto]); refine (clonep_any ⟨b, off, none⟩ (n - 1) c (xs.take (n - 1)) _ (HFR.out.below (HBQ.out _)) (by omega)).mono ?_; rintro e w1 ⟨g, co, rfl, ho, hb1⟩; have HO := Lib.hid (And.intro ho hb1); clear ho hb1))
      case' neg =>
        have g1 : ((t : Int) == (n : Int)) = false := by simp; omega
        clear hfail htn
        go_enter Try.func69, Try.ntmps69
        go_wp2_with (first | (go_at_call 90; refine (front_any (some ⟨b, off, none⟩) n c xs _ H.out HP.out hn1).mono ?_; rintro e w' ⟨rfl, q, rfl⟩; rw [HT.out]) | (go_at_call 91; (try rw [hto]); refine (clonep_any ⟨b, off, none⟩ (n - 1) c (xs.take (n - 1)) _ (HFR.out.below (HBQ.out _)) (by omega)).mono ?_; rintro e w1 ⟨g, co, rfl, ho, hb1⟩; have HO := Lib.hid (And.intro ho hb1); clear ho hb1))
      all_goals
        have hr0 : RS g (n - 1) co (fun j => xs.getD j 0 + if j < 0 then 1 else 0) w w1 := by
          refine ((RS.of HO.out.1 HO.out.2).early (HBQ.out q)).congr fun j hj => ?_
          simp [List.getD, hj]
        have HR0 := Lib.hid hr0
        clear hr0
        go_loopg [44] S (fun gk i wr => ∃ (k : Nat), k + gk = S ∧ i = .int .i64 (k : Int) ∧ RS g (n - 1) co (fun j => xs.getD j 0 + if j < k then 1 else 0) w wr)
        case atStart => exact ⟨0, by omega, rfl, HR0.out⟩
        case round =>
          obtain ⟨k, hk, rfl, hr⟩ := hrel
          have HR := Lib.hid hr
          clear hr HR0
          by_cases hkS : k = S
          · have hge : ¬ (k : Int) < (S : Int) := by omega
            have hge2 : ¬ k < S := by omega
            have HK := Lib.hid hkS
            clear hkS
            go_wp2
            go_ret
            refine .inr ⟨HF.out, g, co, ?_, ?_, HR.out.b⟩
            · rw [HM2.out, List.length_map, List.length_range]; rfl
            · have := (HR.out.congr (f' := fun j => xs.getD j 0 + if (j : Int) < (S : Int) then 1 else 0) fun j _ => by
                rw [HK.out]
                by_cases h : j < S
                · rw [if_pos h, if_pos (by omega)]
                · rw [if_neg h, if_neg (by omega)]).own
              rw [HM2.out, List.length_map, List.length_range, List.map_map]
              exact this
          · have hlt : (k : Int) < (S : Int) := by omega
            have hlt2 : k < S := by omega
            have hkm : k < n - 1 := by omega
            have hkm2 : (k : Int) < ((n - 1 : Nat) : Int) := by omega
            have hcg := HR.out.cell hkm
            have hfg := HR.out.frozen k
            rw [if_neg (by omega), Int.add_zero] at hcg
            obtain ⟨x1, x2⟩ := HBD.out k (by omega)
            obtain ⟨x, hx⟩ : ∃ x, xs.getD k 0 = x := ⟨_, rfl⟩
            rw [hx] at hcg x1 x2
            have HX := Lib.hid hx
            have k0 : (0 : Int) ≤ (k : Int) := by omega
            clear hx hkS
            go_wp2
            go_roundg (gk - 1)
            case rel =>
              refine ⟨k + 1, by omega, by go_num, (HR.out.put k (x + 1)).congr fun j _ => ?_⟩
              by_cases hj : j = k
              · subst hj
                rw [if_pos rfl, if_pos (by omega), HX.out]
              · rw [if_neg hj]
                by_cases hj2 : j < k
                · rw [if_pos hj2, if_pos (by omega)]
                · rw [if_neg hj2, if_neg (by omega)]
            case measure => omega
    · have hgt : ¬ (S : Int) ≤ (t : Int) := by omega
      have hmv := HMV.out
      rw [if_neg hgt] at hmv
      have HM2 := Lib.hid hmv
      clear hmv
      obtain ⟨j1, j2, j3, j4⟩ := J.out
      by_cases htn : t = n
      case' pos =>
        have g1 : ((t : Int) == (n : Int)) = true := by simp; omega
        have g2 : ((S : Int) == (t : Int)) = false := by simp; omega
        have g3 : ((S : Int) == (t : Int) + 1) = false := by simp; omega
        clear hfail htn
        go_enter Try.func69, Try.ntmps69
        go_wp2_with (first
          | (go_at_call 90; refine (front_any (some ⟨b, off, none⟩) n c xs _ H.out HP.out hn1).mono ?_; rintro e w' ⟨rfl, q, rfl⟩; rw [HT.out])
          | (go_at_call 91; refine (clonep_any ⟨b, off, none⟩ n c xs _ (H.out.below (HBQ.out _)) (by omega)).mono ?_; rintro e w1 ⟨g, co, rfl, ho, hb1⟩; have HO := Lib.hid (And.intro ho hb1); have hsz := hb1.size; rw [World.heap_drewN] at ho hsz; clear hb1)
          | (at_builtin; refine wpList_append_own _ rfl _ _ 56 rfl w.heap.size 3 i3 (.int .i64 0) 1 8 Try.underlying56 j1 j2 j3 j4 rfl (by decide) _ _ _ rfl (ho.alloc _) ⟨w1.heap.size, 0, none⟩ 1 1 [.int .i64 (t : Int)] rfl rfl (cell_one_new _ _ _) (by simp [Value.oneCell']) (by unfold maxLen; omega) (by omega) (by simp; omega) ?_; intro v3 w3 ho3 hg3 _; obtain ⟨g3, c3, rfl⟩ := own_form ho3 (by omega)))
      case' neg =>
        have g1 : ((t : Int) == (n : Int)) = false := by simp; omega
        clear hfail htn
        go_enter Try.func69, Try.ntmps69
        go_wp2_with (first
          | (go_at_call 90; refine (front_any (some ⟨b, off, none⟩) n c xs _ H.out HP.out hn1).mono ?_; rintro e w' ⟨rfl, q, rfl⟩; rw [HT.out])
          | (go_at_call 91; refine (clonep_any ⟨b, off, none⟩ n c xs _ (H.out.below (HBQ.out _)) (by omega)).mono ?_; rintro e w1 ⟨g, co, rfl, ho, hb1⟩; have HO := Lib.hid (And.intro ho hb1); have hsz := hb1.size; rw [World.heap_drewN] at ho hsz; clear hb1)
          | (at_builtin; refine wpList_append_own _ rfl _ _ 56 rfl w.heap.size 3 i3 (.int .i64 0) 1 8 Try.underlying56 j1 j2 j3 j4 rfl (by decide) _ _ _ rfl (ho.alloc _) ⟨w1.heap.size, 0, none⟩ 1 1 [.int .i64 (t : Int)] rfl rfl (cell_one_new _ _ _) (by simp [Value.oneCell']) (by unfold maxLen; omega) (by omega) (by simp; omega) ?_; intro v3 w3 ho3 hg3 _; obtain ⟨g3, c3, rfl⟩ := own_form ho3 (by omega)))
      all_goals
        have hr0 : RS g3 (n + 1) c3 (fun j => if j = n then (t : Int) else xs.getD j 0 - if j < 0 then 1 else 0) w w3 := by
          refine ⟨(((HBQ.out q).trans (HO.out.2.mono (by rw [World.heap_drewN]; exact Nat.le_refl _))).alloc hsz _).grown hg3 (by simp; omega) (fun k e => (ho.lt k e).1), ?_⟩
          have e : (xs.map (Value.int .i64) ++ [.int .i64 (t : Int)]) = (List.range (n + 1)).map fun j => Value.int .i64 (if j = n then (t : Int) else xs.getD j 0 - if j < 0 then 1 else 0) := by
            rw [List.range_succ, List.map_append, ints_range xs n HL.out]
            congr 1
            · apply List.map_congr_left
              intro j hj
              have := List.mem_range.1 hj
              rw [if_neg (by omega), if_neg (by omega), Int.sub_zero]
            · simp
          rw [← e]
          exact ho3
        have HR0 := Lib.hid hr0
        clear hr0 ho3 hg3 ho
        go_loopg [61] t (fun gk i wr => ∃ (k : Nat), k + gk = t ∧ i = .int .i64 (k : Int) ∧ RS g3 (n + 1) c3 (fun j => if j = n then (t : Int) else xs.getD j 0 - if j < k then 1 else 0) w wr)
        case atStart => exact ⟨0, by omega, rfl, HR0.out⟩
        case round =>
          obtain ⟨k, hk, rfl, hr⟩ := hrel
          have HR := Lib.hid hr
          clear hr HR0
          by_cases hkS : k = t
          · have hge : ¬ (k : Int) < (t : Int) := by omega
            have hge2 : ¬ k < t := by omega
            have HK := Lib.hid hkS
            clear hkS
            go_wp2
            go_ret
            refine .inr ⟨HF.out, g3, c3, ?_, ?_, HR.out.b⟩
            · rw [HM2.out, List.length_map, List.length_range]; rfl
            · have := HR.out.own
              rw [HK.out] at this
              rw [HM2.out, List.length_map, List.length_range, List.map_map]
              exact this
          · have hlt : (k : Int) < (t : Int) := by omega
            have hlt2 : k < t := by omega
            have hkm : k < n + 1 := by omega
            have hkm2 : (k : Int) < ((n + 1 : Nat) : Int) := by omega
            have hkm3 : (k : Int) < (n : Int) + 1 := by omega
            have hcg := HR.out.cell hkm
            have hfg := HR.out.frozen k
            rw [if_neg (by omega), if_neg (by omega), Int.sub_zero] at hcg
            obtain ⟨x1, x2⟩ := HBD.out k (by omega)
            obtain ⟨x, hx⟩ : ∃ x, xs.getD k 0 = x := ⟨_, rfl⟩
            rw [hx] at hcg x1 x2
            have HX := Lib.hid hx
            have HKN := Lib.hid (show k < n by omega)
            have k0 : (0 : Int) ≤ (k : Int) := by omega
            clear hx hkS
            go_wp2
            go_roundg (gk - 1)
            case rel =>
              refine ⟨k + 1, by omega, by go_num, (HR.out.put k (x - 1)).congr fun j _ => ?_⟩
              by_cases hj : j = k
              · subst hj
                rw [if_pos rfl, if_neg (by have := HKN.out; omega), if_pos (by omega), HX.out]
              · rw [if_neg hj]
                by_cases hjn : j = n
                · rw [if_pos hjn, if_pos hjn]
                · rw [if_neg hjn, if_neg hjn]
                  by_cases hj2 : j < k
                  · rw [if_pos hj2, if_pos (by omega)]
                  · rw [if_neg hj2, if_neg (by omega)]
            case measure => omega
end Go.Proofs.Ytfecdpglcdhijaa
