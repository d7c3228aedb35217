/- The walk of covers.Needless. Condition: the slice lies in memory. -/
import Derived.Test.YtanhjgneaaenpaaRepl
namespace Go.Proofs.Ytanhjgneaaenpaa
open Go.RowKit
attribute [local go_sem] Oper.semAt_some

theorem closure54_any (a : Option Addr) (n c : Nat) (xs : List (Int × Int)) (i : Nat) (a2 : Option Addr) (n2 c2 : Nat) (d g g' : Nat) (w : World) (h : Prs w a n xs) (h2 : Prs w a2 n2 (wo xs i)) (hok : Ok xs) (hok2 : Ok (wo xs i)) (hn : n ≤ 10) (hn2 : n2 ≤ 10) (hd : d ≤ 1000000)
    (hc : w.cell? ⟨g, 0, none⟩ = some (.slice a n c)) (hc2 : w.cell? ⟨g', 0, none⟩ = some (.slice a2 n2 c2)) :
    Calls Try.prog 54 #[.int .i64 (d : Int), .pointer (some ⟨g, 0, none⟩), .pointer (some ⟨g', 0, none⟩)] w fun e w' => e = .returned (.bool (missB xs i d)) ∧ Below w.heap.size w w' := by
  have hT := times_any a n c xs d w h hok (by omega) hd
  have hT2 := fun w h => times_any a2 n2 c2 (wo xs i) d w h hok2 (by omega) hd
  have e : missB xs i d = (decide (0 < tm (d : Int) xs) && decide (tm (d : Int) (wo xs i) = 0)) := rfl
  obtain ⟨T, ht⟩ : ∃ T, tm (d : Int) xs = T := ⟨_, rfl⟩
  obtain ⟨T2, ht2⟩ : ∃ T2, tm (d : Int) (wo xs i) = T2 := ⟨_, rfl⟩
  rw [ht] at hT e
  rw [ht2] at e
  simp only [ht2] at hT2
  rw [e]
  have HT := Lib.hid hT
  have HT2 := Lib.hid hT2
  have H2 := Lib.hid h2
  have HC2 := Lib.hid hc2
  clear h hok hok2 hT hT2 ht ht2 e h2 hc2
  by_cases h0 : 0 < T
  · have h0d : decide ((0 : Int) < (T : Int)) = true := by simp; omega
    have e : (decide (0 < T) && decide (T2 = 0)) = ((T2 : Int) == 0) := by
      rw [decide_eq_true h0, Bool.true_and, Bool.eq_iff_iff]; simp
    rw [e]
    have h0n : decide (0 < T) = true := by simpa using h0
    have h0i : (0 : Int) < (T : Int) := by omega
    clear e
    go_enter Try.func54, Try.ntmps54
    go_wp2_with fail
    refine HT.out.mono ?_
    rintro e w1 ⟨rfl, hb⟩
    have c1 := cell_later HC2.out hb
    have HP := Lib.hid (H2.out.below hb)
    have HB := Lib.hid hb
    clear hb
    go_wp2_with fail
    refine (HT2.out _ HP.out).mono ?_
    rintro e w2 ⟨rfl, hb⟩
    have HB2 := Lib.hid (HB.out.trans (hb.mono HB.out.size))
    clear hb
    go_wp2
    go_ret
    exact ⟨rfl, HB2.out⟩
  · have h0d : decide ((0 : Int) < (T : Int)) = false := by simp; omega
    rw [decide_eq_false h0, Bool.false_and]
    have h0n : decide (0 < T) = false := by simpa using h0
    have h0i : ¬ (0 : Int) < (T : Int) := by omega
    go_enter Try.func54, Try.ntmps54
    go_wp2_with fail
    refine HT.out.mono ?_
    rintro e w1 ⟨rfl, hb⟩
    have HB := Lib.hid hb
    clear hb
    go_wp2
    go_ret
    exact ⟨rfl, HB.out⟩

theorem info3 : (Try.prog.info? 3).map (fun i => (i.zero, i.size, i.bytes)) = some (some (.int .i64 0), 1, 8) := by kernel_rfl
theorem cell_one_new (W : World) (x : Value) (t : TypeId) : ∀ (j : Nat) (u : Value), [x][j]? = some u → (W.alloc (.cells #[x] t)).cell? ((⟨W.heap.size, 0, none⟩ : Addr).add j) = some u := by
  intro j u h
  have hn : (W.alloc (.cells #[x] t)).heap[W.heap.size]? = some (.cells #[x] t (0, 0)) := heap_alloc_last W _
  unfold World.cell?
  rw [show ((⟨W.heap.size, 0, none⟩ : Addr).add j).block = W.heap.size by unfold Addr.add; split <;> rfl, hn]
  match j, h with
  | 0, h => simpa [Addr.add] using h
  | j + 1, h => simp at h
/-- A row of whole numbers of the call's own. -/
def RowI (B : Nat) (v : Value) (l : List Int) (W : World) : Prop := W.ownsRow B 3 1 v l.length (l.map (Value.int .i64))
theorem needL_len (L : List (Int × Int)) (k : Nat) : (needL L k).length ≤ k := by
  unfold needL
  rw [List.length_map]
  have := List.length_filter_le (needB L) (List.range k)
  rw [List.length_range] at this
  exact this
/-- What Needless answers. -/
theorem Needless_no (a : Option Addr) (n c : Nat) (xs : List (Int × Int)) (w : World) (h : Prs w a n xs) (hn : n ≤ 4611686018427387904) (hs : isS xs = false) :
    Calls Try.prog 18 #[.slice a n c] w fun e w' => e = .returned (.tuple #[.slice none 0 0, .int .i64 2]) ∧ Below w.heap.size w w' := by
  have hb0 : Below w.heap.size w (w.alloc (.cells #[.slice a n c] 58)) := (Below.refl _ _).alloc (Nat.le_refl _) _
  have HV := Lib.hid (valid_any a n c xs _ (h.below hb0) hn)
  have HB0 := Lib.hid hb0
  rw [hs] at HV
  clear hb0 h hs
  go_enter Try.func18, Try.ntmps18
  go_wp2_with fail
  refine HV.out.mono ?_
  rintro e w1 ⟨rfl, hb1⟩
  have HB1 := Lib.hid (HB0.out.trans (hb1.mono HB0.out.size))
  clear hb1
  go_wp2
  go_ret2
  exact ⟨rfl, HB1.out⟩

set_option maxRecDepth 100000 in
set_option maxHeartbeats 8000000 in
theorem Needless_yes (a : Option Addr) (n c : Nat) (xs : List (Int × Int)) (w : World) (h : Prs w a n xs) (hc : n ≤ c) (hcm : c ≤ maxLen) (hs : isS xs = true) :
    Calls Try.prog 18 #[.slice a n c] w fun e w' => ∃ v, e = .returned (.tuple #[v, .int .i64 0]) ∧ RowI w.heap.size v (needL xs n) w' ∧ Below w.heap.size w w' := by
  have HY := Lib.hid (isS_spec.1 hs)
  have hn : n ≤ 10 := by have := HY.out.len2; have := h.1; omega
  have hb0 : Below w.heap.size w (w.alloc (.cells #[.slice a n c] 58)) := (Below.refl _ _).alloc (Nat.le_refl _) _
  have hh := h.below hb0
  have hc0 := cell_box w (.slice a n c) 58
  have HV := Lib.hid (valid_any a n c xs _ hh (by omega))
  have HL := Lib.hid h.1
  have HB0 := Lib.hid hb0
  have HH := Lib.hid hh
  have HC := Lib.hid hc0
  rw [hs] at HV
  clear hb0 hs hh hc0
  obtain ⟨i0, hi, hz0, hz1, hz2⟩ := info_parts info3
  have HI := Lib.hid (And.intro hi (And.intro hz0 (And.intro hz1 hz2)))
  clear hi hz0 hz1 hz2 h
  obtain ⟨W0, hW0⟩ : ∃ W0, w.alloc (.cells #[.slice a n c] 58) = W0 := ⟨_, rfl⟩
  obtain ⟨g, hg⟩ : ∃ g, w.heap.size = g := ⟨_, rfl⟩
  have HW0 := Lib.hid hW0
  have HG := Lib.hid hg
  rw [hW0] at HV HB0 HH HC
  clear hW0 hg
  have hsz0 : W0.heap.size = w.heap.size + 1 := by rw [← HW0.out]; simp
  have HSZ := Lib.hid hsz0
  clear hsz0
  go_enter Try.func18, Try.ntmps18
  go_wp2_with fail
  rw [HW0.out]
  refine HV.out.mono ?_
  rintro e w1 ⟨rfl, hb1⟩
  have HX1 := Lib.hid hb1
  have hc1 := cell_later HC.out hb1
  clear hb1
  rw [HG.out] at hc1 ⊢
  go_wp2
  clear hc1
  go_loopg [5, 6, 7, 8, 9, 10, 17] n (fun gk s5 s6 s7 s8 s9 s10 s17 wr => ∃ (j : Nat), j + gk = n ∧ s17 = .int .i64 (j : Int) ∧ RowI W0.heap.size s5 (needL xs j) wr ∧ Below W0.heap.size W0 wr)
  case atStart => exact ⟨0, by omega, rfl, World.ownsRow_nil _ _ _ _, HX1.out⟩
  case round =>
    obtain ⟨j, hj, rfl, ho, hx⟩ := hrel
    have HO := Lib.hid ho
    have HX := Lib.hid hx
    have hcw := cell_later HC.out hx
    rw [HG.out] at hcw
    have HCW := Lib.hid hcw
    have HP := Lib.hid (HH.out.below hx)
    have HJ := Lib.hid hj
    clear ho hx
    by_cases hjn : j = n
    · have hge : ¬ (j : Int) < (n : Int) := by omega
      have hge2 : ¬ j < n := by omega
      have ho := HO.out
      rw [hjn] at ho
      have HF := Lib.hid (own_base ho (show w.heap.size ≤ W0.heap.size by rw [HSZ.out]; omega))
      have HB := Lib.hid (HB0.out.trans (HX.out.mono HB0.out.size))
      clear hjn hj ho hcw
      go_wp2
      go_ret2
      exact ⟨_, rfl, HF.out, HB.out⟩
    · have hlt : (j : Int) < (n : Int) := by omega
      have hlt2 : j < n := by omega
      have j0 : (0 : Int) ≤ (j : Int) := by omega
      have HS := Lib.hid (needL_succ xs j)
      have HNL := Lib.hid (needL_len xs j)
      have HLST := Lib.hid (need_lst xs j)
      obtain ⟨l1, hl1⟩ : ∃ l, lst (missB xs j) 0 (wl xs) = l := ⟨_, rfl⟩
      obtain ⟨l1, l2⟩ := l1
      have hor := lst_or (missB xs j) (wl xs) 0
      rw [hl1] at hor
      replace hor : l2 = 0 ∨ l2 = 4 := hor
      have HOR := Lib.hid hor
      have HLL := Lib.hid hl1
      have hsub : ∀ p ∈ wo xs j, p ∈ xs := fun p hp => by
        unfold wo at hp
        rcases List.mem_append.1 hp with hp | hp
        · exact List.mem_of_mem_take hp
        · exact List.mem_of_mem_drop hp
      have HOK2 := Lib.hid (show Ok (wo xs j) from fun p hp => HY.out.ok p (hsub p hp))
      have hwl : (wo xs j).length = n - 1 := by
        unfold wo
        rw [List.length_append, List.length_take, List.length_drop, HL.out]; omega
      have HWL := Lib.hid hwl
      clear hjn hj hor hl1 hsub hwl
      go_wp2_with fail
      refine (replaced_any a n c j xs none 0 0 [] wr HP.out hlt2 hc (by omega) hcm (Prs.nil _ _) (by omega)).mono ?_
      rintro e w2 ⟨v2, rfl, hbs, hb2⟩
      rw [List.append_nil] at hbs
      replace hbs : Bas wr.heap.size v2 (wo xs j) w2 := hbs
      obtain ⟨a2, c2, rfl, hl2, hm2, hp2⟩ := hbs.prs (by have := HWL.out; omega)
      rw [HWL.out] at hp2 hl2 ⊢
      have hbb : Below w2.heap.size w2 (w2.alloc (.cells #[.slice a2 (n - 1) c2] 58)) := (Below.refl _ _).alloc (Nat.le_refl _) _
      have hcb := cell_box w2 (.slice a2 (n - 1) c2) 58
      have hp2' := hp2.below hbb
      have HX2 := Lib.hid (HX.out.trans (hb2.mono HX.out.size))
      have HX3 := Lib.hid (HX2.out.trans (hbb.mono HX2.out.size))
      have HO3 := Lib.hid (own_later (own_later HO.out hb2) hbb)
      obtain ⟨W3, hW3⟩ : ∃ W3, w2.alloc (.cells #[.slice a2 (n - 1) c2] 58) = W3 := ⟨_, rfl⟩
      obtain ⟨g2, hg2⟩ : ∃ g2, w2.heap.size = g2 := ⟨_, rfl⟩
      rw [hW3] at hcb hp2' HX3 HO3
      rw [hg2] at hcb
      have hp3 := HH.out.below HX3.out
      have hcg := cell_later HC.out HX3.out
      rw [HG.out] at hcg
      have hLD := leastDay54 a n c xs 0 (missB xs j) g g2 W3 hp3 HY.out.ok hn HY.out.wl2 (by omega) (fun d W hd hbW => closure54_any a n c xs j a2 (n - 1) c2 d g g2 W (hp3.below hbW) (hp2'.below hbW) HY.out.ok HOK2.out hn (by omega) (by omega) (cell_later hcg hbW) (cell_later hcb hbW))
      rw [HLL.out] at hLD
      have HLD := Lib.hid hLD
      have HW3 := Lib.hid hW3
      have HG2 := Lib.hid hg2
      have hcg2 : (w2.alloc (.cells #[.slice a2 (n - 1) c2] 58)).cell? ⟨g, 0, none⟩ = some (.slice a n c) := by rw [hW3]; exact hcg
      clear hbs hp2 hbb hp2' hp3 hLD hcb hW3 hb2 hcw hcg
      go_wp2_with fail
      rw [HW3.out]
      refine HLD.out.mono ?_
      rintro e w4 ⟨rfl, hb4⟩
      have HX4 := Lib.hid (HX3.out.trans (hb4.mono HX3.out.size))
      have HO4 := Lib.hid (own_later HO3.out hb4)
      clear hb4 HLD hcg2 hg2
      rcases HOR.out with hl2' | hl2'
      · subst hl2'
        have hnb : needB xs j = false := by
          cases e : needB xs j with
          | false => rfl
          | true => have := HLST.out.1 e; rw [HLL.out] at this; cases this
        have HN := Lib.hid (show RowI W0.heap.size u5 (needL xs (j + 1)) w4 by rw [HS.out, hnb]; simp only [Bool.false_eq_true, if_false, List.append_nil]; exact HO4.out)
        clear hnb
        go_wp2
        go_roundg (n - j - 1)
        case rel => exact ⟨j + 1, by have := HJ.out; omega, by go_num, HN.out, HX4.out⟩
        case measure => have := HJ.out; omega
      · subst hl2'
        have hnb : needB xs j = true := HLST.out.2 (by rw [HLL.out])
        have HS2 := Lib.hid (show needL xs (j + 1) = needL xs j ++ [(j : Int)] by rw [HS.out, hnb]; rfl)
        obtain ⟨hi, hz0, hz1, hz2⟩ := HI.out
        have ho := HO4.out
        unfold RowI at ho
        have hsz := HX4.out.size
        have hnl := HNL.out
        clear hnb
        go_wp2_with (at_builtin; refine wpList_append_own _ rfl _ _ 31 rfl W0.heap.size 3 i0 (.int .i64 0) 1 8 Try.underlying31 hi hz0 hz1 hz2 rfl (by decide) _ _ _ rfl (World.ownsRow.alloc (h := ho) _) ⟨w4.heap.size, 0, none⟩ 1 1 [.int .i64 (j : Int)] rfl rfl (cell_one_new _ _ _) (by simp [Value.oneCell']) (by unfold maxLen; omega) (by omega) (by simp; omega) ?_; intro v' w5 hown' hgrow _)
        have hb5 : Below W0.heap.size W0 w5 := (HX4.out.alloc hsz _).grown hgrow (by simp; omega) (fun j e => (ho.lt j e).1)
        have HX5 := Lib.hid hb5
        have HN := Lib.hid (show RowI W0.heap.size v' (needL xs (j + 1)) w5 by
          unfold RowI
          rw [HS2.out, List.length_append, List.map_append]
          exact hown')
        clear hown' hgrow hb5
        go_roundg (n - j - 1)
        case rel => exact ⟨j + 1, by have := HJ.out; omega, by go_num, HN.out, HX5.out⟩
        case measure => have := HJ.out; omega
end Go.Proofs.Ytanhjgneaaenpaa
