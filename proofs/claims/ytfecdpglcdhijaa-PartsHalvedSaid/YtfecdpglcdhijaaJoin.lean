/- The walks of slices.Delete at a partition, of partition.joined and partition.halved. Condition: the parts are those of a partition. -/
import Derived.Test.YtfecdpglcdhijaaPairMath
import Derived.Test.YtfecdpglcdhijaaFrank3
import Derived.ScopeJumps
import Derived.WalkMore
namespace Go.Proofs.Ytfecdpglcdhijaa
open Go.Shelf Go.RowKit Go.Lib Go.Sort

theorem own_cut {W : World} {B g n c m : Nat} {vs : List Value} (h : W.ownsRow B 3 1 (.slice (some ⟨g, 0, none⟩) n c) n vs) (hm : m ≤ n) : W.ownsRow B 3 1 (.slice (some ⟨g, 0, none⟩) m c) m (vs.take m) := by
  have h0 := h.1
  rcases h.2 with ⟨h1, -⟩ | ⟨g', cap, cur, h1, h2, h3, h4, h5, h6, h7⟩
  · cases h1
  · cases h1
    refine ⟨by rw [List.length_take]; omega, .inr ⟨g, c, cur, rfl, h2, h3, by omega, h5, h6, ?_⟩⟩
    rw [← h7, List.take_take]
    congr 1
    omega
theorem LS.cell {g c : Nat} {xs : List Int} {w W : World} (h : LS g c xs w W) {j : Nat} (hj : j < xs.length) : W.cell? ⟨g, j, none⟩ = some (.int .i64 (xs.getD j 0)) := by
  rw [h.own.cellAt j (by omega), List.getElem?_map, List.getElem?_eq_getElem hj, List.getD_eq_getElem?_getD, List.getElem?_eq_getElem hj]
  rfl
theorem LS.frozen {g c : Nat} {xs : List Int} {w W : World} (h : LS g c xs w W) (j : Nat) : W.frozen? ⟨g, j, none⟩ = false := h.own.frozenAt j
theorem LS.le {g c : Nat} {xs : List Int} {w W : World} (h : LS g c xs w W) : w.heap.size ≤ g := (h.own.lt g rfl).1
theorem LS.put {g c : Nat} {xs : List Int} {w W : World} (h : LS g c xs w W) (j : Nat) (v : Int) : LS g c (xs.set j v) w (W.setCell ⟨g, j, none⟩ (.int .i64 v)) := by
  refine ⟨h.b.setCell (p := ⟨g, j, none⟩) h.le _, ?_⟩
  have := (h.own.stored j (.int .i64 v)).1
  rw [List.length_set, List.map_set]
  exact this
theorem LS.drew {g c : Nat} {xs : List Int} {w W : World} (h : LS g c xs w W) : LS g c xs w W.drew := ⟨h.b.drew, own_same h.own fun _ _ _ => rfl⟩

set_option maxHeartbeats 1000000 in
theorem delete_any (g c n i j : Nat) (xs : List Int) (w W : World) (h : LS g c xs w W) (hn : xs.length = n) (hn2 : n ≤ 1000) (hi : i < n) (hj : i = j + 1) :
    Calls Try.prog 92 #[.slice (some ⟨g, 0, none⟩) n c, .int .i64 ((j : Int) + 1), .int .i64 ((j : Int) + 1 + 1)] W fun e w' => e = .returned (.slice (some ⟨g, 0, none⟩) (n - 1) c) ∧ LS g c (xs.take i ++ xs.drop (i + 1)) w w' := by
  subst hn
  have hcut := h.own
  obtain ⟨h1, h2⟩ := h.own
  rcases h2 with ⟨h3, -⟩ | ⟨g', cap, cur, h3, h4, h5, h6, h7, h8, h9⟩
  · cases h3
  cases h3
  obtain ⟨i3, j1, j2, j3, j4⟩ := info_parts info3
  have hH : Holds (Value.int .i64) W g 0 xs.toArray := holds_of_blockI h5 (by rw [Nat.mul_one] at h9; exact h9)
  have hS := AnyE.slices_Delete Try.delL (Value.int .i64) (fun _ => rfl) 0 Try.zeroValue3 i3 j1 j3 g 0 c i (i + 1) xs.toArray W hH (by simpa using h6) (by unfold maxLen at h7; omega) (by omega) (by simp; omega)
  have e1 : ((i : Nat) : Int) = (j : Int) + 1 := by omega
  have e2 : ((i + 1 : Nat) : Int) = (j : Int) + 1 + 1 := by omega
  rw [e1, e2] at hS
  refine hS.mono fun e w' ⟨he, q, hw⟩ => ⟨?_, ?_⟩
  · rw [he]
    simp
  · have hg0 : grow (putRow (Value.int .i64) (Sort.ahead W q) g 0 (xs.take i ++ xs.drop (i + 1) ++ [0]).toArray) #[] = w' := by
      rw [hw, grow_empty]
      simp
    have hl : (xs.take i ++ xs.drop (i + 1) ++ [0]).length = xs.length := by simp; omega
    have hg : W.grownBy w' (some g) := hg0 ▸ grownBy_sortedI _
    have ho := ownsRow_sortedI (n := q) (os := #[]) hl h4 h5 (by omega) h7 (by omega)
    rw [hg0] at ho
    refine ⟨h.b.grown hg h.b.size (fun k e => by cases e; exact h4), ?_⟩
    have hm : (xs.take i ++ xs.drop (i + 1)).length = xs.length - 1 := by simp; omega
    have := own_cut ho (m := xs.length - 1) (by omega)
    rw [hm]
    rw [← List.map_take, List.take_append_of_le_length (by omega), List.take_of_length_le (by omega)] at this
    exact this

theorem LS.drewN {g c : Nat} {xs : List Int} {w W : World} (h : LS g c xs w W) (q : Nat) : LS g c xs w (W.drewN q) := ⟨below_drewN h.b q, own_same h.own fun _ _ _ => rfl⟩
theorem LS.of {g c n : Nat} {xs : List Int} {w W : World} (ho : W.ownsRow w.heap.size 3 1 (.slice (some ⟨g, 0, none⟩) n c) n (xs.map (Value.int .i64))) (hb : Below w.heap.size w W) : LS g c xs w W := by
  have hl : xs.length = n := by simpa using ho.1
  subst hl
  exact ⟨hb, ho⟩

/-- What holds at each jump back. -/
def joinJ (a : Option Addr) (n c : Nat) (xs : List Int) (w : World) (a' : Act) (W : World) : Prop :=
  ∃ (g cy m : Nat) (ys : List Int) (u4 u5 u6 u7 u8 u9 u10 u11 u12 u13 u14 u15 u16 u17 u18 u19 u20 u21 u22 u23 u24 u25 u26 u27 u28 u29 u30 u31 u32 u33 u34 u35 u36 u37 : Value), a' = { tmps := #[.slice a n c, undef, .slice none 0 0, .slice (some ⟨g, 0, none⟩) m cy, u4, u5, u6, u7, u8, u9, u10, u11, u12, u13, u14, u15, u16, u17, u18, u19, u20, u21, u22, u23, u24, u25, u26, u27, u28, u29, u30, u31, u32, u33, u34, u35, u36, u37], defers := [] } ∧ LS g cy ys w W ∧ goodL ys ∧ joinF ys 0 = joinF xs 0 ∧ ys.length = m
def joinM (a' : Act) : Nat := match a'.tmps.getD 3 undef with
  | .slice _ n _ => n
  | _ => 0

set_option maxHeartbeats 4000000 in
set_option maxRecDepth 100000 in
theorem joined_some (ad : Addr) (n c : Nat) (xs : List Int) (w : World) (h : Ints w (some ad) n xs) (hP : isP xs = true) :
    Calls Try.prog 71 #[.slice (some ad) n c] w fun e w' => ∃ g c' m, e = .returned (.slice (some ⟨g, 0, none⟩) m c') ∧ LS g c' (joinF xs 0) w w' ∧ (joinF xs 0).length = m := by
  have hn := isP_len hP
  rw [h.1] at hn
  have H := Lib.hid h
  have HG := Lib.hid (isP_good hP)
  clear h hP
  go_enter Try.func71, Try.ntmps71
  go_wp2
  refine wp_scope_jumps 0 (joinJ (some ad) n c xs w) (fun a' _ => joinM a') rfl ?_ ?_
  · go_wp2_with fail
    refine (clonep_any ad n c xs _ H.out (by omega)).mono ?_
    rintro e w1 ⟨g, cy, rfl, ho, hb⟩
    have hl : xs.length = n := H.out.1
    have HS := Lib.hid (LS.of ho hb)
    have HGY := Lib.hid HG.out
    obtain ⟨ys, hys⟩ : ∃ ys, ys = xs := ⟨_, rfl⟩
    rw [← hys] at HS HGY
    have HJ := Lib.hid (show joinF ys 0 = joinF xs 0 by rw [hys])
    have HL := Lib.hid (show ys.length = n by rw [hys]; exact hl)
    clear ho hb hl hys
    go_wp2_with fail
    go_step3
    go_wp2
    go_loopg [3, 4] n (fun gk v i wr => ∃ (j : Nat), j + gk = n ∧ v = .slice (some ⟨g, 0, none⟩) n cy ∧ i = .int .i64 ((j : Int) + 1) ∧ LS g cy ys w wr ∧ joinF ys j = joinF xs 0)
    case atStart => exact ⟨0, by omega, rfl, rfl, HS.out, HJ.out⟩
    case round =>
      obtain ⟨j, hj, rfl, rfl, hs, hjj⟩ := hrel
      have HS2 := Lib.hid hs
      have HJ2 := Lib.hid hjj
      have hm30 : n ≤ 30 := by have := HGY.out.len; have := HL.out; omega
      clear hs hjj HS HJ
      by_cases hjm : n ≤ j + 1
      · have hge : ¬ (j : Int) + 1 < (n : Int) := by omega
        have hend : joinF xs 0 = ys := by rw [← HJ2.out, joinF_end (by have := HL.out; omega)]
        have HE := Lib.hid hend
        clear hjm hend hj
        go_wp2
        simp only [Exit.jump]
        go_ret
        exact ⟨g, cy, n, rfl, by rw [HE.out]; exact HS2.out, by rw [HE.out]; exact HL.out⟩
      · have hlt : (j : Int) + 1 < (n : Int) := by omega
        have hlt1 : j + 1 < n := by omega
        have hlt2 : j < n := by omega
        have hlt3 : (j : Int) < (n : Int) := by omega
        have hj0 : (0 : Int) ≤ (j : Int) := by omega
        have hidx : (j : Int) + 1 - 1 = (j : Int) := by omega
        have hc1 := HS2.out.cell (j := j + 1) (by have := HL.out; omega)
        have hc0 := HS2.out.cell (j := j) (by have := HL.out; omega)
        have hf0 := HS2.out.frozen j
        have hb0 := HGY.out.at (j := j) (by have := HL.out; omega)
        obtain ⟨x, hx⟩ : ∃ x, ys.getD j 0 = x := ⟨_, rfl⟩
        obtain ⟨y, hy⟩ : ∃ y, ys.getD (j + 1) 0 = y := ⟨_, rfl⟩
        rw [hx] at hc0 hb0
        rw [hy] at hc1
        have HX := Lib.hid hx
        have HY := Lib.hid hy
        have HJN := Lib.hid hj
        obtain ⟨hb1, hb2⟩ := hb0
        clear hx hy hj hjm
        by_cases hxy : (y == x) = true
        · have hxe : y = x := by simpa using hxy
          have hgj := HGY.out.join (j := j) (by have := HL.out; omega) (by rw [HX.out, HY.out]; exact hxe)
          rw [HX.out] at hgj
          have HGJ := Lib.hid hgj
          have HJJ := Lib.hid (HJ2.out.symm.trans (joinF_join (by have := HL.out; omega) (by rw [HX.out, HY.out]; exact hxe)))
          rw [HX.out] at HJJ
          have HXY := Lib.hid hxy
          clear hxe hgj
          go_wp2
          go_quiet (fail)
          go_wp2_with fail
          have hls2 := (HS2.out.drewN nq).put j (x * 2)
          refine (delete_any g cy n (j + 1) j _ w _ hls2 (by rw [List.length_set]; exact HL.out) (by omega) (by omega) rfl).mono ?_
          rintro e w3 ⟨rfl, hd3⟩
          rw [set_take_drop ys j (x * 2) (by have := HL.out; omega)] at hd3
          obtain ⟨zs, hzs⟩ : ∃ zs, ys.take j ++ (x * 2) :: ys.drop (j + 2) = zs := ⟨_, rfl⟩
          have hzl : zs.length = n - 1 := by
            have := HL.out
            rw [← hzs]
            simp
            omega
          rw [hzs] at hd3 HGJ HJJ
          have HD3 := Lib.hid hd3
          have HZL := Lib.hid hzl
          clear hls2 hd3 hzs hzl
          go_wp2_with fail
          refine (falling_any g cy (n - 1) zs w _ HD3.out HZL.out (by omega)).mono ?_
          rintro e w4 ⟨rfl, hd4⟩
          have HD4 := Lib.hid hd4
          clear hd4 HD3
          go_wp2_with fail
          go_step3
          exact And.intro rfl ⟨g, cy, n - 1, sortD zs, _, _, _, _, _, _, _, _, _, _, _, _, _, _, _, _, _, _, _, _, _, _, _, _, _, _, _, _, _, _, _, _, _, _, rfl, HD4.out, HGJ.out.sort, HJJ.out.symm, by rw [sortD_len]; exact HZL.out⟩
        · have hxy' : (y == x) = false := by simpa using hxy
          have hxe : ¬ y = x := by simpa using hxy
          have HJJ := Lib.hid ((joinF_on (by have := HL.out; omega) (by rw [HX.out, HY.out]; exact hxe)).symm.trans HJ2.out)
          have HXY := Lib.hid hxy'
          clear hxy hxe
          go_wp2
          go_quiet (fail)
          go_wp2
          go_roundg (n - j - 1)
          case rel => exact ⟨j + 1, by have := HJN.out; omega, rfl, by go_num, HS2.out.drewN nq, HJJ.out⟩
          case measure => have := HJN.out; omega
  · rintro a' w' ⟨g, cy, m, ys, u4, u5, u6, u7, u8, u9, u10, u11, u12, u13, u14, u15, u16, u17, u18, u19, u20, u21, u22, u23, u24, u25, u26, u27, u28, u29, u30, u31, u32, u33, u34, u35, u36, u37, rfl, hls, hgood, hj, hlen⟩
    have HS := Lib.hid hls
    have HGY := Lib.hid hgood
    have HJ := Lib.hid hj
    have HL := Lib.hid hlen
    clear hls hgood hj hlen HG
    go_wp2
    go_loopg [3, 4] m (fun gk v i wr => ∃ (j : Nat), j + gk = m ∧ v = .slice (some ⟨g, 0, none⟩) m cy ∧ i = .int .i64 ((j : Int) + 1) ∧ LS g cy ys w wr ∧ joinF ys j = joinF xs 0)
    case atStart => exact ⟨0, by omega, rfl, rfl, HS.out, HJ.out⟩
    case round =>
      obtain ⟨j, hj, rfl, rfl, hs, hjj⟩ := hrel
      have HS2 := Lib.hid hs
      have HJ2 := Lib.hid hjj
      have hm30 : m ≤ 30 := by have := HGY.out.len; have := HL.out; omega
      clear hs hjj HS HJ
      by_cases hjm : m ≤ j + 1
      · have hge : ¬ (j : Int) + 1 < (m : Int) := by omega
        have hend : joinF xs 0 = ys := by rw [← HJ2.out, joinF_end (by have := HL.out; omega)]
        have HE := Lib.hid hend
        clear hjm hend hj
        go_wp2
        simp only [Exit.jump]
        go_ret
        exact ⟨g, cy, m, rfl, by rw [HE.out]; exact HS2.out, by rw [HE.out]; exact HL.out⟩
      · have hlt : (j : Int) + 1 < (m : Int) := by omega
        have hlt1 : j + 1 < m := by omega
        have hlt2 : j < m := by omega
        have hlt3 : (j : Int) < (m : Int) := by omega
        have hj0 : (0 : Int) ≤ (j : Int) := by omega
        have hidx : (j : Int) + 1 - 1 = (j : Int) := by omega
        have hc1 := HS2.out.cell (j := j + 1) (by have := HL.out; omega)
        have hc0 := HS2.out.cell (j := j) (by have := HL.out; omega)
        have hf0 := HS2.out.frozen j
        have hb0 := HGY.out.at (j := j) (by have := HL.out; omega)
        obtain ⟨x, hx⟩ : ∃ x, ys.getD j 0 = x := ⟨_, rfl⟩
        obtain ⟨y, hy⟩ : ∃ y, ys.getD (j + 1) 0 = y := ⟨_, rfl⟩
        rw [hx] at hc0 hb0
        rw [hy] at hc1
        have HX := Lib.hid hx
        have HY := Lib.hid hy
        have HJN := Lib.hid hj
        obtain ⟨hb1, hb2⟩ := hb0
        clear hx hy hj hjm
        by_cases hxy : (y == x) = true
        · have hxe : y = x := by simpa using hxy
          have hgj := HGY.out.join (j := j) (by have := HL.out; omega) (by rw [HX.out, HY.out]; exact hxe)
          rw [HX.out] at hgj
          have HGJ := Lib.hid hgj
          have HJJ := Lib.hid (HJ2.out.symm.trans (joinF_join (by have := HL.out; omega) (by rw [HX.out, HY.out]; exact hxe)))
          rw [HX.out] at HJJ
          have HXY := Lib.hid hxy
          clear hxe hgj
          go_wp2
          go_quiet (fail)
          go_wp2_with fail
          have hls2 := (HS2.out.drewN nq).put j (x * 2)
          refine (delete_any g cy m (j + 1) j _ w _ hls2 (by rw [List.length_set]; exact HL.out) (by omega) (by omega) rfl).mono ?_
          rintro e w3 ⟨rfl, hd3⟩
          rw [set_take_drop ys j (x * 2) (by have := HL.out; omega)] at hd3
          obtain ⟨zs, hzs⟩ : ∃ zs, ys.take j ++ (x * 2) :: ys.drop (j + 2) = zs := ⟨_, rfl⟩
          have hzl : zs.length = m - 1 := by
            have := HL.out
            rw [← hzs]
            simp
            omega
          rw [hzs] at hd3 HGJ HJJ
          have HD3 := Lib.hid hd3
          have HZL := Lib.hid hzl
          clear hls2 hd3 hzs hzl
          go_wp2_with fail
          refine (falling_any g cy (m - 1) zs w _ HD3.out HZL.out (by omega)).mono ?_
          rintro e w4 ⟨rfl, hd4⟩
          have HD4 := Lib.hid hd4
          clear hd4 HD3
          go_wp2_with fail
          go_step3
          refine And.intro rfl (And.intro ⟨g, cy, m - 1, sortD zs, _, _, _, _, _, _, _, _, _, _, _, _, _, _, _, _, _, _, _, _, _, _, _, _, _, _, _, _, _, _, _, _, _, _, rfl, HD4.out, HGJ.out.sort, HJJ.out.symm, by rw [sortD_len]; exact HZL.out⟩ ?_)
          show m - 1 < m
          omega
        · have hxy' : (y == x) = false := by simpa using hxy
          have hxe : ¬ y = x := by simpa using hxy
          have HJJ := Lib.hid ((joinF_on (by have := HL.out; omega) (by rw [HX.out, HY.out]; exact hxe)).symm.trans HJ2.out)
          have HXY := Lib.hid hxy'
          clear hxy hxe
          go_wp2
          go_quiet (fail)
          go_wp2
          go_roundg (m - j - 1)
          case rel => exact ⟨j + 1, by have := HJN.out; omega, rfl, by go_num, HS2.out.drewN nq, HJJ.out⟩
          case measure => have := HJN.out; omega

set_option maxHeartbeats 1000000 in
theorem clonep_nil (c : Nat) (w : World) : Calls Try.prog 91 #[.slice none 0 c] w fun e w' => e = .returned (.slice none 0 0) ∧ Below w.heap.size w w' := by
  have q22 : ∀ (w : World) (a : Option Addr) (n c n' c' : Nat), (binOp .eql 56 (.slice a n c) (.slice none n' c')).run Try.prog w = .ok (.bool a.isNone) w := fun w a n c n' c' => Lib.run_eql_slice_nil w _ _ a n c n' c' Try.underlying56
  go_enter Try.func91, Try.ntmps91
  go_wp2
  go_ret
  exact ⟨rfl, Below.refl _ _⟩

set_option maxHeartbeats 1000000 in
theorem joined_nil (c : Nat) (w : World) : Calls Try.prog 71 #[.slice none 0 c] w fun e w' => e = .returned (.slice none 0 0) ∧ Below w.heap.size w w' := by
  go_enter Try.func71, Try.ntmps71
  go_wp2
  go_step3
  go_wp2_with fail
  refine (clonep_nil c _).mono ?_
  rintro e w1 ⟨rfl, hb⟩
  have HB := Lib.hid hb
  clear hb
  go_wp2
  go_step3
  go_wp2
  refine wp_loop_rounds 1 ?_
  rw [rounds_succ]
  go_wp2
  (try rw [Exit.noGoto_ret])
  go_ret
  exact ⟨rfl, HB.out⟩

def halfJ (a : Option Addr) (n c : Nat) (xs : List Int) (w : World) (a' : Act) (W : World) : Prop :=
  ∃ (g cy m : Nat) (ys : List Int) (u4 u5 u6 u7 u8 u9 u10 u11 u12 u13 u14 u15 u16 u17 u18 u19 u20 u21 u22 u23 u24 u25 u26 u27 u28 u29 u30 u31 : Value), a' = { tmps := #[.slice a n c, undef, .slice none 0 0, .slice (some ⟨g, 0, none⟩) m cy, u4, u5, u6, u7, u8, u9, u10, u11, u12, u13, u14, u15, u16, u17, u18, u19, u20, u21, u22, u23, u24, u25, u26, u27, u28, u29, u30, u31], defers := [] } ∧ LS g cy ys w W ∧ goodL ys ∧ halfF ys 0 = halfF xs 0 ∧ ys.length = m

set_option maxHeartbeats 4000000 in
set_option maxRecDepth 100000 in
theorem halved_some (ad : Addr) (n c : Nat) (xs : List Int) (w : World) (h : Ints w (some ad) n xs) (hP : isP xs = true) :
    Calls Try.prog 73 #[.slice (some ad) n c] w fun e w' => ∃ g c' m, e = .returned (.slice (some ⟨g, 0, none⟩) m c') ∧ LS g c' (halfF xs 0) w w' ∧ (halfF xs 0).length = m := by
  have hn := isP_len hP
  rw [h.1] at hn
  obtain ⟨i3, j1, j2, j3, j4⟩ := info_parts info3
  have J := Lib.hid (And.intro j1 (And.intro j2 (And.intro j3 j4)))
  have H := Lib.hid h
  have HG := Lib.hid (isP_good hP)
  clear h hP j1 j2 j3 j4
  go_enter Try.func73, Try.ntmps73
  go_wp2
  refine wp_scope_jumps 0 (halfJ (some ad) n c xs w) (fun a' _ => 31 - joinM a') rfl ?_ ?_
  · go_wp2_with fail
    refine (clonep_any ad n c xs _ H.out (by omega)).mono ?_
    rintro e w1 ⟨g, cy, rfl, ho, hb⟩
    have hl : xs.length = n := H.out.1
    have HS := Lib.hid (LS.of ho hb)
    have HGY := Lib.hid HG.out
    obtain ⟨ys, hys⟩ : ∃ ys, ys = xs := ⟨_, rfl⟩
    rw [← hys] at HS HGY
    have HJ := Lib.hid (show halfF ys 0 = halfF xs 0 by rw [hys])
    have HL := Lib.hid (show ys.length = n by rw [hys]; exact hl)
    clear ho hb hl hys
    go_wp2_with fail
    go_step3
    go_wp2
    go_loopg [3, 10] n (fun gk v i wr => ∃ (j : Nat), j + gk = n ∧ v = .slice (some ⟨g, 0, none⟩) n cy ∧ i = .int .i64 (j : Int) ∧ LS g cy ys w wr ∧ halfF ys j = halfF xs 0)
    case atStart => exact ⟨0, by omega, rfl, rfl, HS.out, HJ.out⟩
    case round =>
      obtain ⟨j, hj, rfl, rfl, hs, hjj⟩ := hrel
      have HS2 := Lib.hid hs
      have HJ2 := Lib.hid hjj
      have hm30 : n ≤ 30 := by have := HGY.out.len; have := HL.out; omega
      clear hs hjj HS HJ
      by_cases hjm : j = n
      · have hge : ¬ (j : Int) < (n : Int) := by omega
        have hend : halfF xs 0 = ys := by rw [← HJ2.out, halfF_end (by have := HL.out; omega)]
        have HE := Lib.hid hend
        clear hjm hend hj
        go_wp2
        simp only [Exit.jump]
        go_ret
        exact ⟨g, cy, n, rfl, by rw [HE.out]; exact HS2.out, by rw [HE.out]; exact HL.out⟩
      · have hlt : (j : Int) < (n : Int) := by omega
        have hlt2 : j < n := by omega
        have hj0 : (0 : Int) ≤ (j : Int) := by omega
        have hc0 := HS2.out.cell (j := j) (by have := HL.out; omega)
        have hf0 := HS2.out.frozen j
        have hb0 := HGY.out.at (j := j) (by have := HL.out; omega)
        obtain ⟨x, hx⟩ : ∃ x, ys.getD j 0 = x := ⟨_, rfl⟩
        rw [hx] at hc0 hb0
        have HX := Lib.hid hx
        have HJN := Lib.hid hj
        obtain ⟨hb1, hb2⟩ := hb0
        have hmod : x.tmod 2 = x % 2 := Int.tmod_eq_emod_of_nonneg (by omega)
        have hquo : x.tdiv 2 = x / 2 := Int.tdiv_eq_ediv_of_nonneg (by omega)
        obtain ⟨r, hr⟩ : ∃ r, x % 2 = r := ⟨_, rfl⟩
        rw [hr] at hmod
        have hr2 : r = 0 ∨ r = 1 := by omega
        have HR := Lib.hid hr
        clear hx hj hjm hr
        rcases hr2 with rfl | rfl
        · have hgj := HGY.out.half (i := j) (by have := HL.out; omega) (by rw [HX.out]; exact HR.out)
          have hjj2 := HJ2.out.symm.trans (halfF_half (i := j) (by have := HL.out; omega) (by have := HL.out; omega) (by rw [HX.out]; exact HR.out))
          have hpp := set_append_perm ys j (x / 2) (by have := HL.out; omega)
          rw [HX.out] at hgj hjj2
          have hls2 := HS2.out.put j (x / 2)
          obtain ⟨q, hq⟩ : ∃ q, x / 2 = q := ⟨_, rfl⟩
          have hq1 : 1 ≤ q := by have := HR.out; omega
          have hq2 : q ≤ 15 := by omega
          rw [hq] at hgj hjj2 hpp hls2 hquo
          rw [sortD_congr hpp] at hjj2
          have HGJ := Lib.hid (hgj.perm hpp)
          have HJJ := Lib.hid hjj2
          have HS3 := Lib.hid hls2
          obtain ⟨W2, hW2⟩ : ∃ W2, wr.setCell ⟨g, j, none⟩ (.int .i64 q) = W2 := ⟨_, rfl⟩
          rw [hW2] at HS3
          have HQ := Lib.hid hq
          have hll : (ys.set j q).length = n := by rw [List.length_set]; exact HL.out
          have HLL := Lib.hid hll
          have hown := HS3.out.own
          rw [hll] at hown
          have hsz := HS3.out.b.size
          obtain ⟨j1, j2, j3, j4⟩ := J.out
          clear hgj hjj2 hpp hls2 hq hll
          go_wp2_with (at_builtin; refine wpList_append_own _ rfl _ _ 56 rfl w.heap.size 3 i3 (.int .i64 0) 1 8 Try.underlying56 j1 j2 j3 j4 rfl (by decide) _ n _ rfl (hown.alloc _) ⟨W2.heap.size, 0, none⟩ 1 1 [.int .i64 q] rfl rfl (cell_one_new _ _ _) (by simp [Value.oneCell']) (by unfold maxLen; omega) (by omega) (by simp; omega) ?_; intro v3 w3 ho3 hg3 _; obtain ⟨g3, c3, rfl⟩ := own_form ho3 (by omega))
          have hb3 : Below w.heap.size w w3 := (HS3.out.b.alloc hsz _).grown hg3 (by simp; omega) (fun k e => by cases e; exact HS3.out.le)
          have hls3 : LS g3 c3 (ys.set j q ++ [q]) w w3 := LS.of (n := n + 1) (by rw [List.map_append]; exact ho3) hb3
          have HZL := Lib.hid (show (ys.set j q ++ [q]).length = n + 1 by rw [List.length_append, HLL.out]; rfl)
          have HS4 := Lib.hid hls3
          clear hb3 hls3 ho3 hg3 hown hsz
          refine (falling_any g3 c3 (n + 1) (ys.set j q ++ [q]) w _ HS4.out HZL.out (by omega)).mono ?_
          rintro e w4 ⟨rfl, hd4⟩
          have HD4 := Lib.hid hd4
          clear hd4 HS4
          go_wp2_with fail
          go_step3
          exact And.intro rfl ⟨g3, c3, n + 1, sortD (ys.set j q ++ [q]), _, _, _, _, _, _, _, _, _, _, _, _, _, _, _, _, _, _, _, _, _, _, _, _, _, _, _, _, rfl, HD4.out, HGJ.out.sort, HJJ.out.symm, by rw [sortD_len]; exact HZL.out⟩
        · have HJJ := Lib.hid ((halfF_on (i := j) (by have := HL.out; omega) (by have := HL.out; omega) (by rw [HX.out, HR.out]; omega)).symm.trans HJ2.out)
          go_wp2
          go_roundg (n - j - 1)
          case rel => exact ⟨j + 1, by have := HJN.out; omega, rfl, by go_num, HS2.out, HJJ.out⟩
          case measure => have := HJN.out; omega
  · rintro a' w' ⟨g, cy, m, ys, u4, u5, u6, u7, u8, u9, u10, u11, u12, u13, u14, u15, u16, u17, u18, u19, u20, u21, u22, u23, u24, u25, u26, u27, u28, u29, u30, u31, rfl, hls, hgood, hj, hlen⟩
    have HS := Lib.hid hls
    have HGY := Lib.hid hgood
    have HJ := Lib.hid hj
    have HL := Lib.hid hlen
    clear hls hgood hj hlen HG
    go_wp2
    go_loopg [3, 10] m (fun gk v i wr => ∃ (j : Nat), j + gk = m ∧ v = .slice (some ⟨g, 0, none⟩) m cy ∧ i = .int .i64 (j : Int) ∧ LS g cy ys w wr ∧ halfF ys j = halfF xs 0)
    case atStart => exact ⟨0, by omega, rfl, rfl, HS.out, HJ.out⟩
    case round =>
      obtain ⟨j, hj, rfl, rfl, hs, hjj⟩ := hrel
      have HS2 := Lib.hid hs
      have HJ2 := Lib.hid hjj
      have hm30 : m ≤ 30 := by have := HGY.out.len; have := HL.out; omega
      clear hs hjj HS HJ
      by_cases hjm : j = m
      · have hge : ¬ (j : Int) < (m : Int) := by omega
        have hend : halfF xs 0 = ys := by rw [← HJ2.out, halfF_end (by have := HL.out; omega)]
        have HE := Lib.hid hend
        clear hjm hend hj
        go_wp2
        simp only [Exit.jump]
        go_ret
        exact ⟨g, cy, m, rfl, by rw [HE.out]; exact HS2.out, by rw [HE.out]; exact HL.out⟩
      · have hlt : (j : Int) < (m : Int) := by omega
        have hlt2 : j < m := by omega
        have hj0 : (0 : Int) ≤ (j : Int) := by omega
        have hc0 := HS2.out.cell (j := j) (by have := HL.out; omega)
        have hf0 := HS2.out.frozen j
        have hb0 := HGY.out.at (j := j) (by have := HL.out; omega)
        obtain ⟨x, hx⟩ : ∃ x, ys.getD j 0 = x := ⟨_, rfl⟩
        rw [hx] at hc0 hb0
        have HX := Lib.hid hx
        have HJN := Lib.hid hj
        obtain ⟨hb1, hb2⟩ := hb0
        have hmod : x.tmod 2 = x % 2 := Int.tmod_eq_emod_of_nonneg (by omega)
        have hquo : x.tdiv 2 = x / 2 := Int.tdiv_eq_ediv_of_nonneg (by omega)
        obtain ⟨r, hr⟩ : ∃ r, x % 2 = r := ⟨_, rfl⟩
        rw [hr] at hmod
        have hr2 : r = 0 ∨ r = 1 := by omega
        have HR := Lib.hid hr
        clear hx hj hjm hr
        rcases hr2 with rfl | rfl
        · have hgj := HGY.out.half (i := j) (by have := HL.out; omega) (by rw [HX.out]; exact HR.out)
          have hjj2 := HJ2.out.symm.trans (halfF_half (i := j) (by have := HL.out; omega) (by have := HL.out; omega) (by rw [HX.out]; exact HR.out))
          have hpp := set_append_perm ys j (x / 2) (by have := HL.out; omega)
          rw [HX.out] at hgj hjj2
          have hls2 := HS2.out.put j (x / 2)
          obtain ⟨q, hq⟩ : ∃ q, x / 2 = q := ⟨_, rfl⟩
          have hq1 : 1 ≤ q := by have := HR.out; omega
          have hq2 : q ≤ 15 := by omega
          rw [hq] at hgj hjj2 hpp hls2 hquo
          rw [sortD_congr hpp] at hjj2
          have HGJ := Lib.hid (hgj.perm hpp)
          have HJJ := Lib.hid hjj2
          have HS3 := Lib.hid hls2
          obtain ⟨W2, hW2⟩ : ∃ W2, wr.setCell ⟨g, j, none⟩ (.int .i64 q) = W2 := ⟨_, rfl⟩
          rw [hW2] at HS3
          have HQ := Lib.hid hq
          have hll : (ys.set j q).length = m := by rw [List.length_set]; exact HL.out
          have HLL := Lib.hid hll
          have hown := HS3.out.own
          rw [hll] at hown
          have hsz := HS3.out.b.size
          obtain ⟨j1, j2, j3, j4⟩ := J.out
          clear hgj hjj2 hpp hls2 hq hll
          go_wp2_with (at_builtin; refine wpList_append_own _ rfl _ _ 56 rfl w.heap.size 3 i3 (.int .i64 0) 1 8 Try.underlying56 j1 j2 j3 j4 rfl (by decide) _ m _ rfl (hown.alloc _) ⟨W2.heap.size, 0, none⟩ 1 1 [.int .i64 q] rfl rfl (cell_one_new _ _ _) (by simp [Value.oneCell']) (by unfold maxLen; omega) (by omega) (by simp; omega) ?_; intro v3 w3 ho3 hg3 _; obtain ⟨g3, c3, rfl⟩ := own_form ho3 (by omega))
          have hb3 : Below w.heap.size w w3 := (HS3.out.b.alloc hsz _).grown hg3 (by simp; omega) (fun k e => by cases e; exact HS3.out.le)
          have hls3 : LS g3 c3 (ys.set j q ++ [q]) w w3 := LS.of (n := m + 1) (by rw [List.map_append]; exact ho3) hb3
          have HZL := Lib.hid (show (ys.set j q ++ [q]).length = m + 1 by rw [List.length_append, HLL.out]; rfl)
          have HS4 := Lib.hid hls3
          clear hb3 hls3 ho3 hg3 hown hsz
          refine (falling_any g3 c3 (m + 1) (ys.set j q ++ [q]) w _ HS4.out HZL.out (by omega)).mono ?_
          rintro e w4 ⟨rfl, hd4⟩
          have HD4 := Lib.hid hd4
          clear hd4 HS4
          go_wp2_with fail
          go_step3
          refine And.intro rfl (And.intro ⟨g3, c3, m + 1, sortD (ys.set j q ++ [q]), _, _, _, _, _, _, _, _, _, _, _, _, _, _, _, _, _, _, _, _, _, _, _, _, _, _, _, _, rfl, HD4.out, HGJ.out.sort, HJJ.out.symm, by rw [sortD_len]; exact HZL.out⟩ ?_)
          show 31 - (m + 1) < 31 - m
          omega
        · have HJJ := Lib.hid ((halfF_on (i := j) (by have := HL.out; omega) (by have := HL.out; omega) (by rw [HX.out, HR.out]; omega)).symm.trans HJ2.out)
          go_wp2
          go_roundg (m - j - 1)
          case rel => exact ⟨j + 1, by have := HJN.out; omega, rfl, by go_num, HS2.out, HJJ.out⟩
          case measure => have := HJN.out; omega

set_option maxHeartbeats 1000000 in
theorem halved_nil (c : Nat) (w : World) : Calls Try.prog 73 #[.slice none 0 c] w fun e w' => e = .returned (.slice none 0 0) ∧ Below w.heap.size w w' := by
  go_enter Try.func73, Try.ntmps73
  go_wp2
  go_step3
  go_wp2_with fail
  refine (clonep_nil c _).mono ?_
  rintro e w1 ⟨rfl, hb⟩
  have HB := Lib.hid hb
  clear hb
  go_wp2
  go_step3
  go_wp2
  refine wp_loop_rounds 1 ?_
  rw [rounds_succ]
  go_wp2
  (try rw [Exit.noGoto_ret])
  go_ret
  exact ⟨rfl, HB.out⟩
end Go.Proofs.Ytfecdpglcdhijaa
