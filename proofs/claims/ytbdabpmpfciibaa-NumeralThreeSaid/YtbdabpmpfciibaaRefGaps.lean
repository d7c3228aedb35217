/- The walk of the reference's Gaps. Condition: the numbers are arguments of Gaps. -/
import Derived.Test.YtbdabpmpfciibaaGap1
namespace Go.Proofs.Ytbdabpmpfciibaa
open Go.RowKit
attribute [local go_sem] Oper.semAt_some

/-- A row of m whole numbers of the call's own whose cell j holds f j. -/
structure NS (g m B : Nat) (f : Nat → Int) (W : World) : Prop where
  own : W.ownsRow B 3 1 (.slice (some ⟨g, 0, none⟩) m m) m ((List.range m).map fun j => Value.int .i64 (f j))
theorem NS.cell {g m B : Nat} {f : Nat → Int} {W : World} (h : NS g m B f W) {j : Nat} (hj : j < m) : W.cell? ⟨g, j, none⟩ = some (.int .i64 (f j)) := by
  rw [h.own.cellAt j (by omega), List.getElem?_map, List.getElem?_range hj]
  rfl
theorem NS.frozen {g m B : Nat} {f : Nat → Int} {W : World} (h : NS g m B f W) (j : Nat) : W.frozen? ⟨g, j, none⟩ = false := h.own.frozenAt j
theorem NS.le {g m B : Nat} {f : Nat → Int} {W : World} (h : NS g m B f W) : B ≤ g := (h.own.lt g rfl).1
theorem NS.put {g m B : Nat} {f : Nat → Int} {W : World} (h : NS g m B f W) (j : Nat) (v : Int) : NS g m B (fun i => if i = j then v else f i) (W.setCell ⟨g, j, none⟩ (.int .i64 v)) := by
  refine ⟨?_⟩
  have := (h.own.stored j (.int .i64 v)).1
  rw [map_range_set] at this
  have e : (fun i => if i = j then Value.int .i64 v else Value.int .i64 (f i)) = fun i => Value.int .i64 (if i = j then v else f i) := by
    funext i
    split <;> rfl
  rw [e] at this
  exact this
theorem NS.congr {g m B : Nat} {f f' : Nat → Int} {W : World} (h : NS g m B f W) (e : ∀ j, j < m → f j = f' j) : NS g m B f' W := by
  refine ⟨?_⟩
  have e2 : ((List.range m).map fun j => Value.int .i64 (f j)) = (List.range m).map fun j => Value.int .i64 (f' j) := by
    apply List.map_congr_left
    intro j hj
    rw [e j (List.mem_range.1 hj)]
  rw [← e2]
  exact h.own
theorem NS.made {g m B : Nat} {W : World} (h : W.ownsRow B 3 1 (.slice (some ⟨g, 0, none⟩) m m) m (madeCells (Value.int .i64 0).cells (m * 1)).toList) : NS g m B (fun _ => 0) W := by
  refine ⟨?_⟩
  have e : (madeCells (Value.int .i64 0).cells (m * 1)).toList = (List.range m).map fun _ => Value.int .i64 0 := by
    rw [Nat.mul_one, show (Value.int .i64 0).cells = #[Value.int .i64 0] from rfl, toList_madeCells_one]
    apply List.ext_getElem?
    intro i
    by_cases hi : i < m
    · simp [hi]
    · simp [hi]
  rw [e] at h
  exact h
theorem NS.later {g m B : Nat} {f : Nat → Int} {W W' : World} (h : NS g m B f W) (hb : Below W.heap.size W W') : NS g m B f W' := ⟨own_later h.own hb⟩
theorem info4' : (Try.prog.info? 4).map (fun i => (i.zero, i.size, i.bytes)) = some (some (.bool false), 1, 1) := by kernel_rfl

theorem tf_succ (p m k j : Nat) : (if j = k * p % m then true else tf p m k j) = tf p m (k + 1) j := by
  unfold tf
  rw [List.range_succ, List.any_append]
  by_cases h : j = k * p % m
  · rw [if_pos h, h]; simp
  · rw [if_neg h]
    have : (k * p % m == j) = false := by rw [beq_eq_false_iff_ne]; exact fun e => h e.symm
    simp [this]
theorem tf_zero (p m n : Nat) (hn : 1 ≤ n) : tf p m n 0 = true := by
  unfold tf
  rw [List.any_eq_true]
  exact ⟨0, List.mem_range.2 (by omega), by simp⟩

/-- The two rows of the reference. -/
structure GR (w : World) (g g2 m M1 : Nat) (T : Nat → Bool) (f : Nat → Int) (W : World) : Prop where
  b : Below w.heap.size w W
  t : BS g m w.heap.size T W
  c : NS g2 M1 w.heap.size f W
theorem GR.put {w W : World} {g g2 m M1 : Nat} {T : Nat → Bool} {f : Nat → Int} (h : GR w g g2 m M1 T f W) (j : Nat) (v : Int) : GR w g g2 m M1 T (fun i => if i = j then v else f i) (W.setCell ⟨g2, j, none⟩ (.int .i64 v)) :=
  ⟨h.b.setCell (p := ⟨g2, j, none⟩) h.c.le _, ⟨World.ownsRow.kept h.t.own (h.c.own.stored j (.int .i64 v)).2 (own_kinds h.t.own h.c.own (by decide))⟩, h.c.put j v⟩
theorem GR.congr {w W : World} {g g2 m M1 : Nat} {T : Nat → Bool} {f f' : Nat → Int} (h : GR w g g2 m M1 T f W) (e : ∀ j, j < M1 → f j = f' j) : GR w g g2 m M1 T f' W := ⟨h.b, h.t, h.c.congr e⟩

/-- The counts of the places up to i. -/
def cnF (T : Nat → Bool) (m i d : Nat) : Nat := cF T m ((List.range' 0 i).filter T) d
theorem cnF_succ (T : Nat → Bool) (m i d : Nat) : cnF T m (i + 1) d = cnF T m i d + if T i = true ∧ nx T m i - i = d then 1 else 0 := by
  unfold cnF
  have e : List.range' 0 (i + 1) = List.range' 0 i ++ [i] := by
    rw [List.range'_concat]; simp
  rw [e, List.filter_append]
  by_cases h : T i = true
  · have e2 : [i].filter T = [i] := by simp [h]
    rw [e2, cF_snoc]
    by_cases h2 : nx T m i - i = d
    · rw [if_pos h2, if_pos ⟨h, h2⟩]
    · rw [if_neg h2, if_neg (fun hh => h2 hh.2)]
  · have e2 : [i].filter T = [] := by simp [h]
    rw [e2, List.append_nil, if_neg (fun hh => h hh.1), Nat.add_zero]
theorem cnF_le (T : Nat → Bool) (m i d : Nat) : cnF T m i d ≤ i := by
  unfold cnF cF
  refine Nat.le_trans List.countP_le_length (Nat.le_trans (List.length_filter_le _ _) ?_)
  simp

/-- The list that the reference builds. -/
structure OR (w : World) (g2 M1 : Nat) (f : Nat → Int) (v : Value) (L : List (Int × Int)) (W : World) : Prop where
  b : Below w.heap.size w W
  c : NS g2 M1 w.heap.size f W
  l : Row2 w.heap.size v L W

set_option maxHeartbeats 16000000 in
set_option maxRecDepth 100000 in
theorem refGaps_any (p m n : Nat) (w : World) (hp : p ≤ 1000) (hm : 1 ≤ m) (hm2 : m ≤ 1000) (hn : 1 ≤ n) (hnm : n ≤ m) :
    Calls Try.prog 55 #[.int .i64 (p : Int), .int .i64 (m : Int), .int .i64 (n : Int)] w fun e w' => ∃ v, e = .returned v ∧ Row2 w.heap.size v (canL (cF (tf p m n) m (plN p m n)) (m + 1)) w' ∧ Below w.heap.size w w' := by
  obtain ⟨i4, hi, hz0, hz1, hz2⟩ := info_parts info4'
  obtain ⟨i3, ki, kz0, kz1, kz2⟩ := info_parts info3
  have m0 : (0 : Int) ≤ (m : Int) := by omega
  have n0 : (0 : Int) ≤ (n : Int) := by omega
  obtain ⟨M1, hM1⟩ : ∃ M1, m + 1 = M1 := ⟨_, rfl⟩
  have hM1i : (m : Int) + 1 = (M1 : Int) := by omega
  have M10 : (0 : Int) ≤ (M1 : Int) := by omega
  have M11 : M1 ≤ 1001 := by omega
  have HM1 := Lib.hid hM1
  clear hM1
  go_enter Try.func55, Try.ntmps55
  go_wp2_with (at_make; refine wpList_make_full _ rfl _ _ 64 rfl w.heap.size 4 i4 (.bool false) 1 Try.underlying64 hi hz0 hz1 _ _ _ _ m rfl rfl (by omega) (by omega) (by rw [hz2]; omega) (by unfold maxLen; omega) (Nat.le_refl _) ?_; intro w1 hown hgrow)
  have S0 := Lib.hid (BS.made hown)
  have B0 := Lib.hid ((Below.refl w.heap.size w).grown hgrow (Nat.le_refl _) (fun k e => by cases e))
  clear hown hgrow hi hz0 hz1 hz2
  obtain ⟨g, hg⟩ : ∃ g, w.heap.size = g := ⟨_, rfl⟩
  have HG := Lib.hid hg
  have S0' : BS g m w.heap.size (fun _ => false) w1 := by
    have h := S0.out
    rw [hg] at h ⊢
    exact h
  have S1 := Lib.hid S0'
  rw [hg]
  clear S0 S0' hg
  go_loopg [8, 18] n (fun gk u8 i wr => ∃ (k : Nat), k + gk = n ∧ i = .int .i64 (k : Int) ∧ Below w.heap.size w wr ∧ BS g m w.heap.size (tf p m k) wr)
  case atStart => exact ⟨0, by omega, rfl, B0.out, S1.out.congr fun j _ => rfl⟩
  case round =>
    obtain ⟨k, hk, rfl, hb, hs⟩ := hrel
    have HB := Lib.hid hb
    have HS := Lib.hid hs
    clear hb hs S1 B0
    by_cases hkn : k = n
    · have hge : ¬ (k : Int) < (n : Int) := by omega
      have hge2 : ¬ k < n := by omega
      rw [hkn] at HS
      clear hkn hk
      go_wp2_with (at_make; refine wpList_make_full _ rfl _ _ 22 rfl wr.heap.size 3 i3 (.int .i64 0) 1 Try.underlying22 ki kz0 kz1 _ _ _ _ M1 rfl rfl (by omega) (by omega) (by rw [kz2]; omega) (by unfold maxLen; omega) (Nat.le_refl _) ?_; intro w2 hown hgrow)
      have hb2 := (Below.refl wr.heap.size wr).grown hgrow (Nat.le_refl _) (fun k e => by cases e)
      have hnx := HB.out.size
      have hmade := NS.made hown
      have hgr0 : GR w g wr.heap.size m M1 (tf p m n) (fun d => (cnF (tf p m n) m 0 d : Int)) w2 :=
        ⟨HB.out.trans (hb2.mono hnx), HS.out.later hb2, ⟨own_mono (hmade.congr fun j _ => rfl).own hnx⟩⟩
      obtain ⟨g2, hg2⟩ : ∃ g2, wr.heap.size = g2 := ⟨_, rfl⟩
      rw [hg2] at hgr0 ⊢
      have HGR0 := Lib.hid hgr0
      clear hb2 hmade hgr0 hg2 hown hgrow HB HS hge hge2 hnx ki kz0 kz1 kz2
      obtain ⟨T, hT⟩ : ∃ T, tf p m n = T := ⟨_, rfl⟩
      have HT0 := Lib.hid (show T 0 = true by rw [← hT]; exact tf_zero p m n hn)
      have HPL := Lib.hid (show plN p m n = (List.range' 0 m).filter T by rw [← hT]; rfl)
      rw [hT] at HGR0
      have HTT := Lib.hid hT
      clear hT
      go_loopg [10, 11, 33] m (fun gk u10 u11 i wr => ∃ (k : Nat), k + gk = m ∧ i = .int .i64 (k : Int) ∧ GR w g g2 m M1 T (fun d => (cnF T m k d : Int)) wr)
      case atStart => exact ⟨0, by omega, rfl, HGR0.out⟩
      case round =>
        obtain ⟨i, hi, rfl, hgr⟩ := hrel
        clear HGR0
        have HGR := Lib.hid hgr
        have HI := Lib.hid hi
        clear hgr hi
        by_cases him : i = m
        · have hge : ¬ (i : Int) < (m : Int) := by omega
          have hge2 : ¬ i < m := by omega
          rw [him] at HGR
          have HN := Lib.hid (show OR w g2 M1 (fun d => (cnF T m m d : Int)) (.slice none 0 0) (canL (fun d => cnF T m m d) 0) wr from ⟨HGR.out.b, HGR.out.c, World.ownsRow_nil _ _ _ _⟩)
          clear him HGR HI
          go_wp2
          go_loopg [12, 13, 14, 60] M1 (fun gk v u13 u14 i wr => ∃ (k : Nat), k + gk = M1 ∧ i = .int .i64 (k : Int) ∧ OR w g2 M1 (fun d => (cnF T m m d : Int)) v (canL (fun d => cnF T m m d) k) wr)
          case atStart => exact ⟨0, by omega, rfl, HN.out⟩
          case round =>
            obtain ⟨d, hd, rfl, hor⟩ := hrel
            clear HN
            have HOR := Lib.hid hor
            have HD := Lib.hid hd
            clear hor hd
            by_cases hdm : d = M1
            · have hge : ¬ (d : Int) < (M1 : Int) := by omega
              have hge2 : ¬ d < M1 := by omega
              rw [hdm] at HOR
              clear hdm HD
              have HR := Lib.hid (show Row2 w.heap.size u12 (canL (cF (tf p m n) m (plN p m n)) (m + 1)) wr by
                have h := HOR.out.l
                rw [← HM1.out] at h
                rw [HPL.out, HTT.out]
                exact h)
              have HBB := Lib.hid HOR.out.b
              clear HOR
              go_wp2
              go_ret
              exact ⟨_, rfl, HR.out, HBB.out⟩
            · have hlt2 : d < M1 := by have := HD.out; omega
              have hlt : (d : Int) < (M1 : Int) := by omega
              have d0 : (0 : Int) ≤ (d : Int) := by omega
              have hcg := HOR.out.c.cell hlt2
              have hle := cnF_le T m m d
              have hcs : canL (fun d => cnF T m m d) (d + 1) = if 0 < cnF T m m d then canL (fun d => cnF T m m d) d ++ [((d : Int), (cnF T m m d : Int))] else canL (fun d => cnF T m m d) d := rfl
              have hll := canL_len (fun d => cnF T m m d) d
              obtain ⟨c, hc⟩ : ∃ c, cnF T m m d = c := ⟨_, rfl⟩
              rw [hc] at hcg hle hcs
              have HCS := Lib.hid hcs
              obtain ⟨L, hL⟩ : ∃ L, canL (fun d => cnF T m m d) d = L := ⟨_, rfl⟩
              have HOR2 : OR w g2 M1 (fun d => (cnF T m m d : Int)) u12 L wr := by rw [← hL]; exact HOR.out
              rw [hL] at HCS hll
              have HO := Lib.hid HOR2
              clear hcs hc hL HOR HOR2 hdm
              by_cases hc0 : 0 < c
              · have hc0i : (0 : Int) < (c : Int) := by omega
                have hlit := World.ownsRow_lit (base := w.heap.size) (e := 46) (size := 2) wr #[.int .i64 (d : Int), .int .i64 (c : Int)] 1 HO.out.b.size (by unfold maxLen; omega) rfl
                have hrow2 := World.ownsRow.alloc (h := HO.out.l) (.cells #[.int .i64 (d : Int), .int .i64 (c : Int)] 46)
                have hn2 := World.ownsRow.alloc (h := HO.out.c.own) (.cells #[.int .i64 (d : Int), .int .i64 (c : Int)] 46)
                have hb2 := HO.out.b.alloc HO.out.b.size (.cells #[.int .i64 (d : Int), .int .i64 (c : Int)] 46)
                have hsz2 : w.heap.size ≤ (wr.alloc (.cells #[.int .i64 (d : Int), .int .i64 (c : Int)] 46)).heap.size := hb2.size
                have HH := Lib.hid (And.intro hrow2 (And.intro hlit (And.intro hn2 (And.intro hb2 hsz2))))
                have e := HCS.out
                rw [if_pos hc0] at e
                have HE := Lib.hid e
                clear hlit hrow2 hn2 hb2 hsz2 e HCS
                go_wp2_with (at_builtin; refine wpList_app2 rfl _ _ rfl w.heap.size w.heap.size _ _ L [((d : Int), (c : Int))] rfl HH.out.1 rfl HH.out.2.1 (by simp; omega) HH.out.2.2.2.2 ?_; intro v' w3 hown' hgrow'; have HO3 := Lib.hid hown'; have HGR3 := Lib.hid hgrow'; clear hown' hgrow')
                have HN3 := Lib.hid (show OR w g2 M1 (fun d => (cnF T m m d : Int)) v' (canL (fun d => cnF T m m d) (d + 1)) w3 from
                  ⟨HH.out.2.2.2.1.grown HGR3.out HH.out.2.2.2.1.size (fun k e => (World.ownsRow.lt HH.out.1 k e).1), ⟨World.ownsRow.kept HH.out.2.2.1 HGR3.out (own_kinds HH.out.2.2.1 HH.out.1 (by decide))⟩, by rw [HE.out]; exact HO3.out⟩)
                go_roundg (M1 - d - 1)
                case rel => exact ⟨d + 1, by have := HD.out; omega, by go_num, HN3.out⟩
                case measure => have := HD.out; omega
              · have hc0i : ¬ (0 : Int) < (c : Int) := by omega
                have e := HCS.out
                rw [if_neg hc0] at e
                have HE := Lib.hid e
                clear e HCS
                go_wp2
                go_roundg (M1 - d - 1)
                case rel => exact ⟨d + 1, by have := HD.out; omega, by go_num, by rw [HE.out]; exact HO.out⟩
                case measure => have := HD.out; omega
        · have hlt2 : i < m := by have := HI.out; omega
          have hlt : (i : Int) < (m : Int) := by omega
          have i0 : (0 : Int) ≤ (i : Int) := by omega
          obtain ⟨s1, s2, s3, s4⟩ := nx_spec T hlt2
          obtain ⟨X, hX⟩ : ∃ X, nx T m i = X := ⟨_, rfl⟩
          rw [hX] at s1 s2 s3 s4
          have HX := Lib.hid hX
          have HS3 := Lib.hid s3
          have HS4 := Lib.hid s4
          obtain ⟨gk0, hgk0⟩ : ∃ gk0, gk = gk0 := ⟨_, rfl⟩
          have HI0 := Lib.hid (show i + gk0 = m by rw [← hgk0]; exact HI.out)
          have HGK0 := Lib.hid hgk0
          obtain ⟨W0, hW0⟩ : ∃ W0, wr = W0 := ⟨_, rfl⟩
          rw [hW0] at HGR ⊢
          clear hX s3 s4 him HI hgk0 hW0
          go_wp2
          go_loopg [11] (X - i - 1) (fun gk dd wr => ∃ (d : Nat), i + d + gk = X ∧ 1 ≤ d ∧ dd = .int .i64 (d : Int) ∧ wr = W0)
          case atStart => exact ⟨1, by omega, by omega, rfl, rfl⟩
          case round =>
            obtain ⟨d, hd, d1, rfl, rfl⟩ := hrel
            have hmz : ¬ (m : Int) = 0 := by omega
            have hmb : ((m : Int) == 0) = false := by rw [beq_eq_false_iff_ne]; exact hmz
            obtain ⟨Y, hY⟩ : ∃ Y, i + d = Y := ⟨_, rfl⟩
            have hYi : (i : Int) + (d : Int) = (Y : Int) := by omega
            have hY2 : Y ≤ m := by omega
            have hdk : d ≤ 1000 := by omega
            have hdk2 : (d : Int) ≤ 1000 := by omega
            have HY := Lib.hid hY
            have HD := Lib.hid hd
            by_cases hYX : Y = X
            · have hd2 : X - i = d := by omega
              have HDX := Lib.hid hd2
              obtain ⟨V, hV⟩ : ∃ V, Y % m = V := ⟨_, rfl⟩
              have hVt : (Y : Int).tmod (m : Int) = (V : Int) := by rw [Int.tmod_eq_emod_of_nonneg (by omega), ← hV]; omega
              have hVm : V < m := hV ▸ Nat.mod_lt _ (by omega)
              have hTV : T V = true := by
                by_cases hYm : Y = m
                · have : V = 0 := by rw [← hV, hYm]; exact Nat.mod_self m
                  rw [this]; exact HT0.out
                · have : V = Y := by rw [← hV]; exact Nat.mod_eq_of_lt (by omega)
                  rw [this, hYX]; exact HS4.out (by omega)
              have hVm2 : (V : Int) < (m : Int) := by omega
              have V0 : (0 : Int) ≤ (V : Int) := by omega
              have hct := HGR.out.t.cell hVm
              rw [hTV] at hct
              have hci := HGR.out.t.cell hlt2
              have hdM : d < M1 := by have := HM1.out; omega
              have hdM2 : (d : Int) < (M1 : Int) := by omega
              have d0 : (0 : Int) ≤ (d : Int) := by omega
              have hcd := HGR.out.c.cell hdM
              have hfd := HGR.out.c.frozen d
              have hle := cnF_le T m i d
              have hsucc := fun e => cnF_succ T m i e
              obtain ⟨t, ht⟩ : ∃ t, T i = t := ⟨_, rfl⟩
              rw [ht] at hci
              rw [ht, HX.out] at hsucc
              have HSUC := Lib.hid hsucc
              obtain ⟨c, hc⟩ : ∃ c, cnF T m i d = c := ⟨_, rfl⟩
              rw [hc] at hcd hle
              have HC := Lib.hid hc
              clear hV hTV ht hc hsucc hYX hY hd hd2
              cases t with
              | true =>
                go_wp2
                have HG2 := Lib.hid (show GR w g g2 m M1 T (fun e => (cnF T m (i + 1) e : Int)) (wr.setCell ⟨g2, d, none⟩ (.int .i64 ((c : Int) + 1))) from
                  (HGR.out.put d ((c : Int) + 1)).congr fun e _ => by
                    rw [HSUC.out e]
                    by_cases he : e = d
                    · subst he
                      rw [if_pos rfl, if_pos ⟨by first | trivial | rfl, HDX.out⟩, HC.out]
                      omega
                    · rw [if_neg he, if_neg (fun h => he (h.2.symm.trans HDX.out)), Nat.add_zero])
                go_roundg (gk0 - 1)
                case rel => exact ⟨i + 1, by have := HI0.out; omega, by go_num, HG2.out⟩
                case measure => have := HI0.out; have := HGK0.out; omega
              | false =>
                have HG2 := Lib.hid (show GR w g g2 m M1 T (fun e => (cnF T m (i + 1) e : Int)) wr from
                  HGR.out.congr fun e _ => by
                    rw [HSUC.out e, if_neg (fun h => absurd h.1 (by simp)), Nat.add_zero])
                go_wp2
                go_roundg (gk0 - 1)
                case rel => exact ⟨i + 1, by have := HI0.out; omega, by go_num, HG2.out⟩
                case measure => have := HI0.out; have := HGK0.out; omega
            · have hYlt : Y < X := by omega
              have hVt : (Y : Int).tmod (m : Int) = (Y : Int) := by rw [Int.tmod_eq_emod_of_nonneg (by omega)]; exact Int.emod_eq_of_lt (by omega) (by omega)
              have hVm : Y < m := by omega
              have hTV : T Y = false := HS3.out Y (by omega) hYlt
              have hVm2 : (Y : Int) < (m : Int) := by omega
              have V0 : (0 : Int) ≤ (Y : Int) := by omega
              have hct := HGR.out.t.cell hVm
              rw [hTV] at hct
              clear hTV hYX hY hd
              go_wp2
              go_roundg (X - (i + d) - 1)
              case rel => exact ⟨d + 1, by have := HY.out; have := HD.out; omega, by omega, by go_num, rfl⟩
              case measure => have := HY.out; have := HD.out; omega
    · have hlt : (k : Int) < (n : Int) := by omega
      have hlt2 : k < n := by omega
      have k0 : (0 : Int) ≤ (k : Int) := by omega
      obtain ⟨X, hX⟩ : ∃ X, k * p = X := ⟨_, rfl⟩
      have hXi : (k : Int) * (p : Int) = (X : Int) := by rw [← hX]; simp
      have hXb : X ≤ 1000 * 1000 := by rw [← hX]; exact Nat.mul_le_mul (by omega) hp
      obtain ⟨V, hV⟩ : ∃ V, X % m = V := ⟨_, rfl⟩
      have hVi : (X : Int).tmod (m : Int) = (V : Int) := by rw [Int.tmod_eq_emod_of_nonneg (by omega), ← hV]; omega
      have hVb : V < m := hV ▸ Nat.mod_lt _ (by omega)
      have hVb2 : (V : Int) < (m : Int) := by omega
      have V0 : (0 : Int) ≤ (V : Int) := by omega
      have hmz : ¬ (m : Int) = 0 := by omega
      have hmb : ((m : Int) == 0) = false := by rw [beq_eq_false_iff_ne]; exact hmz
      have HV := Lib.hid (show k * p % m = V by rw [hX, hV])
      have hcg := HS.out.cell hVb
      have hfg := HS.out.frozen V
      obtain ⟨u, hu⟩ : ∃ u : Bool, tf p m k V = u := ⟨_, rfl⟩
      rw [hu] at hcg
      have HK := Lib.hid hk
      clear hX hV hu hkn hk
      go_wp2
      have HS2 := Lib.hid (show BS g m w.heap.size (tf p m (k + 1)) (wr.setCell ⟨g, V, none⟩ (.bool true)) from
        (HS.out.put V true).congr fun j _ => by rw [← tf_succ, HV.out])
      have HB2 := Lib.hid (show Below w.heap.size w (wr.setCell ⟨g, V, none⟩ (.bool true)) from HB.out.setCell (p := ⟨g, V, none⟩) HS.out.le _)
      go_roundg (n - k - 1)
      case rel => exact ⟨k + 1, by have := HK.out; omega, by go_num, HB2.out, HS2.out⟩
      case measure => have := HK.out; omega
end Go.Proofs.Ytbdabpmpfciibaa
