/- The walks of the reference's Kinds where parts differ by two: it keeps all counts in one array of 101 rows. Condition: the number is at most 100. -/
import Derived.Test.YtfecdpglcdhijaaKinds
namespace Go.Proofs.Ytfecdpglcdhijaa
open Go.RowKit
attribute [local go_sem] Oper.semAt_some

/-- The array, filled up to T. -/
def stF (al : Nat → Bool) (T j : Nat) : Int := if j < T then k2F al (j % 102) (j / 102) else 0
theorem k2F_one (al : Nat → Bool) (x : Nat) : k2F al x 0 = 1 := by
  have := k2F_stay al 0 x
  rw [Nat.zero_add] at this
  rw [this, k2F_zero, if_pos rfl]
theorem stF_next {al : Nat → Bool} {T : Nat} {v : Int} (h : v = k2F al (T % 102) (T / 102)) (j : Nat) : (if j = T then v else stF al T j) = stF al (T + 1) j := by
  unfold stF
  by_cases hj : j = T
  · subst hj
    rw [if_pos rfl, if_pos (by omega), h]
  · rw [if_neg hj]
    by_cases hj2 : j < T
    · rw [if_pos hj2, if_pos (by omega)]
    · rw [if_neg hj2, if_neg (by omega)]
theorem at_div {m x : Nat} (h : x < 102) : (m * 102 + x) / 102 = m ∧ (m * 102 + x) % 102 = x := by omega

structure AS (g : Nat) (f : Nat → Int) (w W : World) : Prop where
  b : Below w.heap.size w W
  own : W.ownsRow w.heap.size 66 1 (.slice (some ⟨g, 0, none⟩) 10302 10302) 10302 ((List.range 10302).map fun j => Value.int .i64 (f j))
theorem AS.cell {g : Nat} {f : Nat → Int} {w W : World} (h : AS g f w W) {j : Nat} (hj : j < 10302) : W.cell? ⟨g, j, none⟩ = some (.int .i64 (f j)) := by
  rw [h.own.cellAt j (by omega), List.getElem?_map, List.getElem?_range hj]
  rfl
theorem AS.frozen {g : Nat} {f : Nat → Int} {w W : World} (h : AS g f w W) (j : Nat) : W.frozen? ⟨g, j, none⟩ = false := h.own.frozenAt j
theorem AS.le {g : Nat} {f : Nat → Int} {w W : World} (h : AS g f w W) : w.heap.size ≤ g := (h.own.lt g rfl).1
theorem AS.put {g : Nat} {f : Nat → Int} {w W : World} (h : AS g f w W) (j : Nat) (v : Int) : AS g (fun i => if i = j then v else f i) w (W.setCell ⟨g, j, none⟩ (.int .i64 v)) := by
  refine ⟨h.b.setCell (p := ⟨g, j, none⟩) h.le _, ?_⟩
  have := (h.own.stored j (.int .i64 v)).1
  rw [map_range_set] at this
  have e : (fun i => if i = j then Value.int IntKind.i64 v else Value.int IntKind.i64 (f i)) = fun i => Value.int IntKind.i64 (if i = j then v else f i) := by
    funext i
    split <;> rfl
  rw [e] at this
  exact this
theorem AS.congr {g : Nat} {f f' : Nat → Int} {w W : World} (h : AS g f w W) (e : ∀ j, j < 10302 → f j = f' j) : AS g f' w W := by
  refine ⟨h.b, ?_⟩
  have e2 : ((List.range 10302).map fun j => Value.int .i64 (f j)) = (List.range 10302).map fun j => Value.int .i64 (f' j) := by
    apply List.map_congr_left
    intro j hj
    rw [e j (List.mem_range.1 hj)]
  rw [← e2]
  exact h.own
theorem AS.drew {g : Nat} {f : Nat → Int} {w W : World} (h : AS g f w W) : AS g f w W.drew :=
  ⟨h.b.drew, own_same h.own fun _ _ _ => rfl⟩
set_option maxRecDepth 100000 in
theorem zero_run (w : World) : (zeroValue 66).run Try.prog w = .ok (.agg (Array.replicate 10302 (.int .i64 0))) w := by kernel_rfl
theorem zero_cells (w : World) : Try.zeroCells66 = Array.replicate 10302 (.int .i64 0) := by
  have h := (Try.zeroValue66 w).symm.trans (zero_run w)
  injection h with h1
  injection h1
theorem AS.start (w : World) : AS w.heap.size (fun _ => 0) w (w.alloc (.cells Try.zeroCells66 66)) := by
  refine ⟨(Below.refl _ w).alloc (Nat.le_refl _) _, ?_⟩
  rw [zero_cells w]
  have h := World.ownsRow_lit (base := w.heap.size) (e := 66) (size := 1) w (Array.replicate 10302 (.int .i64 0)) 10302 (Nat.le_refl _) (by unfold maxLen; omega) (by simp)
  have e : (Array.replicate 10302 (Value.int .i64 0)).toList = (List.range 10302).map fun _ => Value.int .i64 0 := by
    rw [Array.toList_replicate, List.map_const', List.length_range]
  rw [e] at h
  exact h

set_option maxHeartbeats 4000000 in
set_option maxRecDepth 100000 in
theorem refKinds2 (n : Nat) (hn : n ≤ 100) (w : World) :
    Calls Try.prog 45 #[.int .i64 (n : Int), .int .i64 2] w fun e w' => e = .returned (.int .i64 (k2F (alF 2) n n)) ∧ Below w.heap.size w w' := by
  have n0 : (0 : Int) ≤ (n : Int) := by omega
  have S0 := Lib.hid (AS.start w)
  go_enter Try.func45, Try.ntmps45
  go_wp2
  obtain ⟨W1, hW1⟩ : ∃ W1, w.alloc (.cells Try.zeroCells66 66) = W1 := ⟨_, rfl⟩
  obtain ⟨g, hg⟩ : ∃ g, w.heap.size = g := ⟨_, rfl⟩
  rw [hW1] at S0 ⊢
  have S1 := Lib.hid (show AS g (stF (alF 2) 0) w W1 from (hg ▸ S0.out).congr fun j _ => by unfold stF; rw [if_neg (by omega)])
  rw [hg]
  have HG := Lib.hid hg
  clear hW1 S0 hg
  go_loopg [19] 102 (fun gk i wr => ∃ (x : Nat), x + gk = 102 ∧ i = .int .i64 (x : Int) ∧ AS g (stF (alF 2) x) w wr)
  case atStart => exact ⟨0, by omega, rfl, S1.out⟩
  case round =>
    obtain ⟨x, hx, rfl, hs⟩ := hrel
    have HS := Lib.hid hs
    clear hs S1
    by_cases hx2 : x = 102
    · subst hx2
      go_wp2
      go_loopg [7] n (fun gk i wr2 => ∃ (m : Nat), m + gk = n + 1 ∧ 1 ≤ m ∧ i = .int .i64 (m : Int) ∧ AS g (stF (alF 2) (m * 102)) w wr2)
      case atStart => exact ⟨1, by omega, Nat.le_refl _, rfl, HS.out⟩
      case round =>
        obtain ⟨m, hm, hm1, rfl, hs2⟩ := hrel
        have HS2 := Lib.hid hs2
        clear hs2 HS
        by_cases hmn : m = n + 1
        · have hgt : ¬ (m : Int) ≤ (n : Int) := by omega
          have hcc := HS2.out.cell (j := n * 102 + 101) (by omega)
          have hv : stF (alF 2) (m * 102) (n * 102 + 101) = k2F (alF 2) n n := by
            unfold stF
            rw [if_pos (by omega), (at_div (m := n) (x := 101) (by omega)).1, (at_div (m := n) (x := 101) (by omega)).2, ← k2F_stay (alF 2) n (101 - n), show n + (101 - n) = 101 by omega]
          rw [hv] at hcc
          have HB := Lib.hid HS2.out.b
          obtain ⟨X, hX⟩ : ∃ X, k2F (alF 2) n n = X := ⟨_, rfl⟩
          rw [hX] at hcc
          have HX := Lib.hid hX
          have hn1 : (n : Int) < 101 := by omega
          clear hv hX hmn hm hm1 HS2
          go_wp2
          go_ret
          exact ⟨ret_int HX.out.symm, HB.out⟩
        · have hle : (m : Int) ≤ (n : Int) := by omega
          have hmn2 : m ≤ n := by omega
          have HM := Lib.hid hm
          have HM1 := Lib.hid hm1
          have m0 : (0 : Int) ≤ (m : Int) := by omega
          have ml : (m : Int) < 101 := by omega
          clear hmn hm
          go_wp2
          go_loopg [8] 101 (fun gk i wr3 => ∃ (p : Nat), p + gk = 101 ∧ i = .int .i64 ((p : Int) + 1) ∧ AS g (stF (alF 2) (m * 102 + (p + 1))) w wr3)
          case atStart =>
            refine ⟨0, by omega, rfl, HS2.out.congr fun j _ => ?_⟩
            unfold stF
            by_cases hj : j < m * 102
            · rw [if_pos hj, if_pos (by omega)]
            · rw [if_neg hj]
              by_cases hj2 : j < m * 102 + (0 + 1)
              · rw [if_pos hj2, show j = m * 102 + 0 by omega, (at_div (m := m) (x := 0) (by omega)).1, (at_div (m := m) (x := 0) (by omega)).2, k2F_zero, if_neg (by omega)]
              · rw [if_neg hj2]
          case round =>
            obtain ⟨p, hp, rfl, hs3⟩ := hrel
            have HS3 := Lib.hid hs3
            clear hs3 HS2
            by_cases hp2 : p = 101
            · subst hp2
              go_wp2
              go_roundg (n - m)
              case rel => exact ⟨m + 1, by omega, by omega, by go_num, by have := HS3.out; rw [show m * 102 + (101 + 1) = (m + 1) * 102 by omega] at this; exact this⟩
              case measure => have := HM.out; omega
            · have hlt : (p : Int) + 1 < 102 := by omega
              have hp3 : p < 101 := by omega
              have HP := Lib.hid hp
              have p0 : (0 : Int) ≤ (p : Int) := by omega
              have hidx : (p : Int) + 1 - 1 = (p : Int) := by omega
              have hc1 := HS3.out.cell (j := m * 102 + p) (by omega)
              have hc0 := HS3.out.cell (j := m * 102 + (p + 1)) (by omega)
              have hf1 := HS3.out.frozen (m * 102 + (p + 1))
              have hv1 : stF (alF 2) (m * 102 + (p + 1)) (m * 102 + p) = k2F (alF 2) p m := by
                unfold stF
                rw [if_pos (by omega), (at_div (m := m) (x := p) (by omega)).1, (at_div (m := m) (x := p) (by omega)).2]
              rw [hv1] at hc1
              obtain ⟨A, hA⟩ : ∃ A, k2F (alF 2) p m = A := ⟨_, rfl⟩
              rw [hA] at hc1
              have HA := Lib.hid hA
              clear hv1 hA hp hp2
              go_wp2
              go_big_region
              obtain ⟨W2, hW2⟩ : ∃ W2, (wr.setCell ⟨g, m * 102 + (p + 1), none⟩ (.int .i64 A)).drew = W2 := ⟨_, rfl⟩
              have HS4 := Lib.hid (show AS g (fun j => if j = m * 102 + (p + 1) then A else stF (alF 2) (m * 102 + (p + 1)) j) w W2 from hW2 ▸ (HS3.out.put (m * 102 + (p + 1)) A).drew)
              rw [hW2]
              clear hW2 hc1 hc0 hf1 HS3
              by_cases hpm : m < p + 1
              · have hv : A = k2F (alF 2) ((m * 102 + (p + 1)) % 102) ((m * 102 + (p + 1)) / 102) := by
                  rw [(at_div (m := m) (x := p + 1) (by omega)).1, (at_div (m := m) (x := p + 1) (by omega)).2, k2F_less hpm]
                  exact HA.out.symm
                have HV := Lib.hid hv
                have hgt : ¬ (p : Int) + 1 ≤ (m : Int) := by omega
                clear hv hpm
                go_wp2
                go_roundg (100 - p)
                case rel => exact ⟨p + 1, by have := HP.out; omega, by go_num, HS4.out.congr fun j _ => stF_next HV.out j⟩
                case measure => have := HP.out; omega
              · by_cases hp0 : p = 0
                · have hle : (p : Int) + 1 ≤ (m : Int) := by omega
                  have hx1 : ¬ (1 : Int) < (p : Int) + 1 := by omega
                  have hd1 : (m : Int) - ((p : Int) + 1) = ((m - (p + 1) : Nat) : Int) := by omega
                  obtain ⟨d, hd⟩ : ∃ d, m - (p + 1) = d := ⟨_, rfl⟩
                  obtain ⟨q, hq⟩ : ∃ q, p - 1 = q := ⟨_, rfl⟩
                  obtain ⟨qq, hqq⟩ : ∃ qq : Int, (p : Int) + 1 - 2 = qq := ⟨_, rfl⟩
                  have hmax : max qq 0 = (q : Int) := by omega
                  have hq1 : -2 ≤ qq := by omega
                  have hq2 : qq ≤ 101 := by omega
                  have hcA := HS4.out.cell (j := m * 102 + (p + 1)) (by omega)
                  rw [if_pos rfl] at hcA
                  have hfA := HS4.out.frozen (m * 102 + (p + 1))
                  have hcB := HS4.out.cell (j := d * 102 + q) (by omega)
                  have hv2 : stF (alF 2) (m * 102 + (p + 1)) (d * 102 + q) = k2F (alF 2) q d := by
                    unfold stF
                    rw [if_pos (by omega), (at_div (m := d) (x := q) (by omega)).1, (at_div (m := d) (x := q) (by omega)).2]
                  rw [if_neg (by omega), hv2] at hcB
                  rw [hd] at hd1
                  obtain ⟨B, hB⟩ : ∃ B, k2F (alF 2) q d = B := ⟨_, rfl⟩
                  rw [hB] at hcB
                  have hv : wrap64 (A + B) = k2F (alF 2) ((m * 102 + (p + 1)) % 102) ((m * 102 + (p + 1)) / 102) := by
                    rw [(at_div (m := m) (x := p + 1) (by omega)).1, (at_div (m := m) (x := p + 1) (by omega)).2, k2F_more rfl (by omega), hd, hq, hB, HA.out]
                  have HV := Lib.hid hv
                  have hdl : (d : Int) < 101 := by omega
                  have d0 : (0 : Int) ≤ (d : Int) := by omega
                  have q0 : (0 : Int) ≤ (q : Int) := by omega
                  have ql : (q : Int) < 102 := by omega
                  clear hv hv2 hB hd hq hpm hp0
                  go_wp2
                  go_big_region
                  go_wp2
                  go_roundg (100 - p)
                  case rel =>
                    refine ⟨p + 1, by have := HP.out; omega, by go_num, ?_⟩
                    refine ((HS4.out.put (m * 102 + (p + 1)) (wrap64 (A + B))).congr fun j _ => ?_).drew
                    refine Eq.trans ?_ (stF_next HV.out j)
                    by_cases hj : j = m * 102 + (p + 1)
                    · rw [if_pos hj, if_pos hj]
                    · rw [if_neg hj, if_neg hj, if_neg hj]
                  case measure => have := HP.out; omega
                · have hle : (p : Int) + 1 ≤ (m : Int) := by omega
                  have hx1 : (1 : Int) < (p : Int) + 1 := by omega
                  have hd1 : (m : Int) - ((p : Int) + 1) = ((m - (p + 1) : Nat) : Int) := by omega
                  obtain ⟨d, hd⟩ : ∃ d, m - (p + 1) = d := ⟨_, rfl⟩
                  obtain ⟨q, hq⟩ : ∃ q, p - 1 = q := ⟨_, rfl⟩
                  obtain ⟨qq, hqq⟩ : ∃ qq : Int, (p : Int) + 1 - 2 = qq := ⟨_, rfl⟩
                  have hmax : max qq 0 = (q : Int) := by omega
                  have hq1 : -2 ≤ qq := by omega
                  have hq2 : qq ≤ 101 := by omega
                  have hcA := HS4.out.cell (j := m * 102 + (p + 1)) (by omega)
                  rw [if_pos rfl] at hcA
                  have hfA := HS4.out.frozen (m * 102 + (p + 1))
                  have hcB := HS4.out.cell (j := d * 102 + q) (by omega)
                  have hv2 : stF (alF 2) (m * 102 + (p + 1)) (d * 102 + q) = k2F (alF 2) q d := by
                    unfold stF
                    rw [if_pos (by omega), (at_div (m := d) (x := q) (by omega)).1, (at_div (m := d) (x := q) (by omega)).2]
                  rw [if_neg (by omega), hv2] at hcB
                  rw [hd] at hd1
                  obtain ⟨B, hB⟩ : ∃ B, k2F (alF 2) q d = B := ⟨_, rfl⟩
                  rw [hB] at hcB
                  have hv : wrap64 (A + B) = k2F (alF 2) ((m * 102 + (p + 1)) % 102) ((m * 102 + (p + 1)) / 102) := by
                    rw [(at_div (m := m) (x := p + 1) (by omega)).1, (at_div (m := m) (x := p + 1) (by omega)).2, k2F_more rfl (by omega), hd, hq, hB, HA.out]
                  have HV := Lib.hid hv
                  have hdl : (d : Int) < 101 := by omega
                  have d0 : (0 : Int) ≤ (d : Int) := by omega
                  have q0 : (0 : Int) ≤ (q : Int) := by omega
                  have ql : (q : Int) < 102 := by omega
                  clear hv hv2 hB hd hq hpm hp0
                  go_wp2
                  go_big_region
                  go_wp2
                  go_roundg (100 - p)
                  case rel =>
                    refine ⟨p + 1, by have := HP.out; omega, by go_num, ?_⟩
                    refine ((HS4.out.put (m * 102 + (p + 1)) (wrap64 (A + B))).congr fun j _ => ?_).drew
                    refine Eq.trans ?_ (stF_next HV.out j)
                    by_cases hj : j = m * 102 + (p + 1)
                    · rw [if_pos hj, if_pos hj]
                    · rw [if_neg hj, if_neg hj, if_neg hj]
                  case measure => have := HP.out; omega
    · have hlt : (x : Int) < 102 := by omega
      have x0 : (0 : Int) ≤ (x : Int) := by omega
      have hc0 := HS.out.cell (j := x) (by omega)
      have hf0 := HS.out.frozen x
      have hv : (1 : Int) = k2F (alF 2) (x % 102) (x / 102) := by
        rw [show x % 102 = x by omega, show x / 102 = 0 by omega, k2F_one]
      have HV := Lib.hid hv
      have HX := Lib.hid hx
      have hx3 : x < 102 := by omega
      clear hv hx2 hx
      go_wp2
      go_roundg (101 - x)
      case rel => exact ⟨x + 1, by have := HX.out; omega, by go_num, (HS.out.put x 1).congr fun j _ => stF_next HV.out j⟩
      case measure => have := HX.out; omega

set_option maxHeartbeats 4000000 in
set_option maxRecDepth 100000 in
theorem refKinds4 (n : Nat) (hn : n ≤ 100) (w : World) :
    Calls Try.prog 45 #[.int .i64 (n : Int), .int .i64 4] w fun e w' => e = .returned (.int .i64 (k2F (alF 4) n n)) ∧ Below w.heap.size w w' := by
  have n0 : (0 : Int) ≤ (n : Int) := by omega
  have S0 := Lib.hid (AS.start w)
  go_enter Try.func45, Try.ntmps45
  go_wp2
  obtain ⟨W1, hW1⟩ : ∃ W1, w.alloc (.cells Try.zeroCells66 66) = W1 := ⟨_, rfl⟩
  obtain ⟨g, hg⟩ : ∃ g, w.heap.size = g := ⟨_, rfl⟩
  rw [hW1] at S0 ⊢
  have S1 := Lib.hid (show AS g (stF (alF 4) 0) w W1 from (hg ▸ S0.out).congr fun j _ => by unfold stF; rw [if_neg (by omega)])
  rw [hg]
  have HG := Lib.hid hg
  clear hW1 S0 hg
  go_loopg [19] 102 (fun gk i wr => ∃ (x : Nat), x + gk = 102 ∧ i = .int .i64 (x : Int) ∧ AS g (stF (alF 4) x) w wr)
  case atStart => exact ⟨0, by omega, rfl, S1.out⟩
  case round =>
    obtain ⟨x, hx, rfl, hs⟩ := hrel
    have HS := Lib.hid hs
    clear hs S1
    by_cases hx2 : x = 102
    · subst hx2
      go_wp2
      go_loopg [7] n (fun gk i wr2 => ∃ (m : Nat), m + gk = n + 1 ∧ 1 ≤ m ∧ i = .int .i64 (m : Int) ∧ AS g (stF (alF 4) (m * 102)) w wr2)
      case atStart => exact ⟨1, by omega, Nat.le_refl _, rfl, HS.out⟩
      case round =>
        obtain ⟨m, hm, hm1, rfl, hs2⟩ := hrel
        have HS2 := Lib.hid hs2
        clear hs2 HS
        by_cases hmn : m = n + 1
        · have hgt : ¬ (m : Int) ≤ (n : Int) := by omega
          have hcc := HS2.out.cell (j := n * 102 + 101) (by omega)
          have hv : stF (alF 4) (m * 102) (n * 102 + 101) = k2F (alF 4) n n := by
            unfold stF
            rw [if_pos (by omega), (at_div (m := n) (x := 101) (by omega)).1, (at_div (m := n) (x := 101) (by omega)).2, ← k2F_stay (alF 4) n (101 - n), show n + (101 - n) = 101 by omega]
          rw [hv] at hcc
          have HB := Lib.hid HS2.out.b
          obtain ⟨X, hX⟩ : ∃ X, k2F (alF 4) n n = X := ⟨_, rfl⟩
          rw [hX] at hcc
          have HX := Lib.hid hX
          have hn1 : (n : Int) < 101 := by omega
          clear hv hX hmn hm hm1 HS2
          go_wp2
          go_ret
          exact ⟨ret_int HX.out.symm, HB.out⟩
        · have hle : (m : Int) ≤ (n : Int) := by omega
          have hmn2 : m ≤ n := by omega
          have HM := Lib.hid hm
          have HM1 := Lib.hid hm1
          have m0 : (0 : Int) ≤ (m : Int) := by omega
          have ml : (m : Int) < 101 := by omega
          clear hmn hm
          go_wp2
          go_loopg [8] 101 (fun gk i wr3 => ∃ (p : Nat), p + gk = 101 ∧ i = .int .i64 ((p : Int) + 1) ∧ AS g (stF (alF 4) (m * 102 + (p + 1))) w wr3)
          case atStart =>
            refine ⟨0, by omega, rfl, HS2.out.congr fun j _ => ?_⟩
            unfold stF
            by_cases hj : j < m * 102
            · rw [if_pos hj, if_pos (by omega)]
            · rw [if_neg hj]
              by_cases hj2 : j < m * 102 + (0 + 1)
              · rw [if_pos hj2, show j = m * 102 + 0 by omega, (at_div (m := m) (x := 0) (by omega)).1, (at_div (m := m) (x := 0) (by omega)).2, k2F_zero, if_neg (by omega)]
              · rw [if_neg hj2]
          case round =>
            obtain ⟨p, hp, rfl, hs3⟩ := hrel
            have HS3 := Lib.hid hs3
            clear hs3 HS2
            by_cases hp2 : p = 101
            · subst hp2
              go_wp2
              go_roundg (n - m)
              case rel => exact ⟨m + 1, by omega, by omega, by go_num, by have := HS3.out; rw [show m * 102 + (101 + 1) = (m + 1) * 102 by omega] at this; exact this⟩
              case measure => have := HM.out; omega
            · have hlt : (p : Int) + 1 < 102 := by omega
              have hp3 : p < 101 := by omega
              have HP := Lib.hid hp
              have p0 : (0 : Int) ≤ (p : Int) := by omega
              have hidx : (p : Int) + 1 - 1 = (p : Int) := by omega
              have hc1 := HS3.out.cell (j := m * 102 + p) (by omega)
              have hc0 := HS3.out.cell (j := m * 102 + (p + 1)) (by omega)
              have hf1 := HS3.out.frozen (m * 102 + (p + 1))
              have hv1 : stF (alF 4) (m * 102 + (p + 1)) (m * 102 + p) = k2F (alF 4) p m := by
                unfold stF
                rw [if_pos (by omega), (at_div (m := m) (x := p) (by omega)).1, (at_div (m := m) (x := p) (by omega)).2]
              rw [hv1] at hc1
              obtain ⟨A, hA⟩ : ∃ A, k2F (alF 4) p m = A := ⟨_, rfl⟩
              rw [hA] at hc1
              have HA := Lib.hid hA
              clear hv1 hA hp hp2
              go_wp2
              go_big_region
              obtain ⟨W2, hW2⟩ : ∃ W2, (wr.setCell ⟨g, m * 102 + (p + 1), none⟩ (.int .i64 A)).drew = W2 := ⟨_, rfl⟩
              have HS4 := Lib.hid (show AS g (fun j => if j = m * 102 + (p + 1) then A else stF (alF 4) (m * 102 + (p + 1)) j) w W2 from hW2 ▸ (HS3.out.put (m * 102 + (p + 1)) A).drew)
              rw [hW2]
              clear hW2 hc1 hc0 hf1 HS3
              by_cases hpm : m < p + 1
              · have hv : A = k2F (alF 4) ((m * 102 + (p + 1)) % 102) ((m * 102 + (p + 1)) / 102) := by
                  rw [(at_div (m := m) (x := p + 1) (by omega)).1, (at_div (m := m) (x := p + 1) (by omega)).2, k2F_less hpm]
                  exact HA.out.symm
                have HV := Lib.hid hv
                have hgt : ¬ (p : Int) + 1 ≤ (m : Int) := by omega
                clear hv hpm
                go_wp2
                go_roundg (100 - p)
                case rel => exact ⟨p + 1, by have := HP.out; omega, by go_num, HS4.out.congr fun j _ => stF_next HV.out j⟩
                case measure => have := HP.out; omega
              · by_cases hp0 : p = 0
                · have hv : A = k2F (alF 4) ((m * 102 + (p + 1)) % 102) ((m * 102 + (p + 1)) / 102) := by
                    rw [(at_div (m := m) (x := p + 1) (by omega)).1, (at_div (m := m) (x := p + 1) (by omega)).2, k2F_no (by subst hp0; rfl)]
                    exact HA.out.symm
                  have HV := Lib.hid hv
                  have hx1 : ¬ (1 : Int) < (p : Int) + 1 := by omega
                  have hle : (p : Int) + 1 ≤ (m : Int) := by omega
                  clear hv hpm hp0
                  go_wp2
                  go_roundg (100 - p)
                  case rel => exact ⟨p + 1, by have := HP.out; omega, by go_num, HS4.out.congr fun j _ => stF_next HV.out j⟩
                  case measure => have := HP.out; omega
                · have hle : (p : Int) + 1 ≤ (m : Int) := by omega
                  have hx1 : (1 : Int) < (p : Int) + 1 := by omega
                  have hd1 : (m : Int) - ((p : Int) + 1) = ((m - (p + 1) : Nat) : Int) := by omega
                  obtain ⟨d, hd⟩ : ∃ d, m - (p + 1) = d := ⟨_, rfl⟩
                  obtain ⟨q, hq⟩ : ∃ q, p - 1 = q := ⟨_, rfl⟩
                  obtain ⟨qq, hqq⟩ : ∃ qq : Int, (p : Int) + 1 - 2 = qq := ⟨_, rfl⟩
                  have hmax : max qq 0 = (q : Int) := by omega
                  have hq1 : -2 ≤ qq := by omega
                  have hq2 : qq ≤ 101 := by omega
                  have hcA := HS4.out.cell (j := m * 102 + (p + 1)) (by omega)
                  rw [if_pos rfl] at hcA
                  have hfA := HS4.out.frozen (m * 102 + (p + 1))
                  have hcB := HS4.out.cell (j := d * 102 + q) (by omega)
                  have hv2 : stF (alF 4) (m * 102 + (p + 1)) (d * 102 + q) = k2F (alF 4) q d := by
                    unfold stF
                    rw [if_pos (by omega), (at_div (m := d) (x := q) (by omega)).1, (at_div (m := d) (x := q) (by omega)).2]
                  rw [if_neg (by omega), hv2] at hcB
                  rw [hd] at hd1
                  obtain ⟨B, hB⟩ : ∃ B, k2F (alF 4) q d = B := ⟨_, rfl⟩
                  rw [hB] at hcB
                  have hv : wrap64 (A + B) = k2F (alF 4) ((m * 102 + (p + 1)) % 102) ((m * 102 + (p + 1)) / 102) := by
                    rw [(at_div (m := m) (x := p + 1) (by omega)).1, (at_div (m := m) (x := p + 1) (by omega)).2, k2F_more (by show (p + 1 != 1) = true; simp [hp0]) (by omega), hd, hq, hB, HA.out]
                  have HV := Lib.hid hv
                  have hdl : (d : Int) < 101 := by omega
                  have d0 : (0 : Int) ≤ (d : Int) := by omega
                  have q0 : (0 : Int) ≤ (q : Int) := by omega
                  have ql : (q : Int) < 102 := by omega
                  clear hv hv2 hB hd hq hpm hp0
                  go_wp2
                  go_big_region
                  go_wp2
                  go_roundg (100 - p)
                  case rel =>
                    refine ⟨p + 1, by have := HP.out; omega, by go_num, ?_⟩
                    refine ((HS4.out.put (m * 102 + (p + 1)) (wrap64 (A + B))).congr fun j _ => ?_).drew
                    refine Eq.trans ?_ (stF_next HV.out j)
                    by_cases hj : j = m * 102 + (p + 1)
                    · rw [if_pos hj, if_pos hj]
                    · rw [if_neg hj, if_neg hj, if_neg hj]
                  case measure => have := HP.out; omega
    · have hlt : (x : Int) < 102 := by omega
      have x0 : (0 : Int) ≤ (x : Int) := by omega
      have hc0 := HS.out.cell (j := x) (by omega)
      have hf0 := HS.out.frozen x
      have hv : (1 : Int) = k2F (alF 4) (x % 102) (x / 102) := by
        rw [show x % 102 = x by omega, show x / 102 = 0 by omega, k2F_one]
      have HV := Lib.hid hv
      have HX := Lib.hid hx
      have hx3 : x < 102 := by omega
      clear hv hx2 hx
      go_wp2
      go_roundg (101 - x)
      case rel => exact ⟨x + 1, by have := HX.out; omega, by go_num, (HS.out.put x 1).congr fun j _ => stF_next HV.out j⟩
      case measure => have := HX.out; omega
end Go.Proofs.Ytfecdpglcdhijaa
