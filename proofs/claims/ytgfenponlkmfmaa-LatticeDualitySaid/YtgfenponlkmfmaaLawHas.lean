/- The walk of the law LatticeHas. Condition: the table and the vector lie in memory. -/
import Derived.Test.YtgfenponlkmfmaaRHas
import Derived.Test.YtgfenponlkmfmaaAwk5
namespace Go.Proofs.Ytgfenponlkmfmaa
open Go.RowKit
attribute [local go_sem] Oper.semAt_some

theorem table2_any (a : Option Addr) (n c : Nat) (L : List (List Int)) (w : World) (h : Tab w a n L) (hn : n ≤ 4611686018427387904) :
    Calls Try.prog 19 #[.slice a n c] w fun e w' => ∃ a' c', e = .returned (.slice a' (tcut L).length c') ∧ Tab w' a' (tcut L).length (tcut L) ∧ Below w.heap.size w w' := by
  refine (table_any a n c L w h hn).mono ?_
  rintro e w1 ⟨v, rfl, ht, hb⟩
  obtain ⟨a', c', rfl, htab, -⟩ := ht.form
  exact ⟨a', c', rfl, htab, hb⟩
theorem list3_any (a : Option Addr) (m c : Nat) (xs : List Int) (w : World) (h : Ints w a m xs) (hc : m ≤ c) (hcm : c ≤ maxLen) :
    Calls Try.prog 29 #[.slice a m c] w fun e w' => ∃ a' c', e = .returned (.slice a' (xs.take 6).length c') ∧ Lies w' a' c' (xs.take 6) ∧ Below w.heap.size w w' := by
  have hl := h.1
  subst hl
  refine (list2_any a c xs w ⟨h, hc, hcm⟩).mono ?_
  rintro e w1 ⟨v, rfl, hr, hb⟩
  obtain ⟨a', c', rfl, hl, -⟩ := hr.lies
  exact ⟨a', c', rfl, hl, hb⟩

set_option maxHeartbeats 4000000 in
set_option maxRecDepth 100000 in
theorem LawHas_any (a : Option Addr) (n c : Nat) (L : List (List Int)) (av : Option Addr) (m cv : Nat) (v : List Int) (W : World) (h : Tab W a n L) (hn : n ≤ 4611686018427387904) (hv : Ints W av m v) (hm : m ≤ 4611686018427387904) (hcv : m ≤ cv) (hcm : cv ≤ maxLen) :
    Calls Try.prog 4 #[.slice a n c, .slice av m cv] W fun e w' => e = .returned (.bool true) ∧ Below W.heap.size W w' := by
  have HT := Lib.hid (table2_any a n c L W h hn)
  have HLI := Lib.hid (fun W' (hb : Below W.heap.size W W') => list3_any av m cv v W' (hv.below hb) hcv hcm)
  have H := Lib.hid h
  have HV := Lib.hid hv
  have HVR := Lib.hid (fun W' (hb : Below W.heap.size W W') => validR_any a n c L W' (h.below hb) hn)
  have HPT := Lib.hid (fun W' (hb : Below W.heap.size W W') => point_any av m cv v n 10000 W' (hv.below hb) hm (by omega) (by omega))
  obtain ⟨t1, t2⟩ := tcut_small L
  have hk : (v.take 6).length ≤ 6 := by rw [List.length_take]; omega
  by_cases hyes : isBasis L = true ∧ inB v n 10000 = true
  · obtain ⟨hA, hP⟩ := hyes
    have B := bas_of h.1 hA
    obtain ⟨hvl, hvb⟩ := inB_abs hP (M := 10000) rfl
    have hmn : m = n := by rw [← hv.1]; exact hvl
    subst hmn
    have hv6 : v.take 6 = v := List.take_of_length_le (by have := B.n4; omega)
    have hL6 := basis_same hA
    rw [hL6, h.1] at HT
    have HLI2 := Lib.hid (fun W' (hb : Below W.heap.size W W') => by have := HLI.out W' hb; rw [hv6, hvl] at this; exact this)
    have hH : ∀ W' a' c' a2 c2, Tab W' a' m L → Lies W' a2 c2 v → Calls Try.prog 28 #[.slice a' m c', .slice a2 m c2] W' fun e w' => HasR m L v W'.heap.size e w' ∧ Below W'.heap.size W' w' :=
      fun W' a' c' a2 c2 ht hl => Has_yes a' m c' L a2 m c2 v W' ht (by have := B.n4; omega) (fun i hi => by rw [B.sq i hi]; have := B.n4; omega) (by rw [← hvl]; exact hl.ints) (by have := B.n4; omega) (by rw [← hvl]; exact hl.le) hl.max hA hP
    have HH := Lib.hid hH
    have HR := Lib.hid (fun W' (hb : Below W.heap.size W W') => hasR_any a m c L av cv v W' (h.below hb) B (hv.below hb) hvl hvb)
    have hn4 := B.n4
    rw [hA] at HVR
    rw [hP] at HPT
    clear h hv hH B hvl hvb hA hP hv6 hL6 t1 t2 hk HLI
    go_enter Try.func4, Try.ntmps4
    go_wp2_with fail
    refine HT.out.mono ?_
    rintro e w1 ⟨a1, c1, rfl, htab1, hb1⟩
    have HT1 := Lib.hid htab1
    have HB1 := Lib.hid hb1
    have HC2 := Lib.hid (HLI2.out w1 hb1)
    clear htab1 hb1
    go_wp2_with fail
    refine HC2.out.mono ?_
    rintro e w2 ⟨a2, c2, rfl, hl2, hb2⟩
    have HB2 := Lib.hid (HB1.out.trans (hb2.mono HB1.out.size))
    have HC3 := Lib.hid (HH.out w2 a1 c1 a2 c2 (HT1.out.below hb2) hl2)
    clear hl2 hb2
    go_wp2_with fail
    refine HC3.out.mono ?_
    rintro e w3 ⟨hres, hb3⟩
    have HB3 := Lib.hid (HB2.out.trans (hb3.mono HB2.out.size))
    clear hb3
    rcases hres with ⟨hall, vv, rfl, hrow⟩ | ⟨hall, rfl⟩
    · have HROW := Lib.hid hrow
      have HALL := Lib.hid hall
      have HC4 := Lib.hid (HVR.out w3 HB3.out)
      clear hrow hall
      go_wp2_with fail
      refine HC4.out.mono ?_
      rintro e w4 ⟨rfl, hb4⟩
      have HB4 := Lib.hid (HB3.out.trans (hb4.mono HB3.out.size))
      have HROW4 := Lib.hid (HROW.out.later hb4)
      have HC5 := Lib.hid (HPT.out w4 HB4.out)
      clear hb4
      go_wp2_with fail
      refine HC5.out.mono ?_
      rintro e w5 ⟨rfl, hw5⟩
      subst hw5
      have HC6 := Lib.hid (HR.out w5 HB4.out)
      go_wp2_with fail
      refine HC6.out.mono ?_
      rintro e w6 ⟨hres, hb6⟩
      rcases hres with ⟨-, v2, rfl, hrow2⟩ | ⟨hno, -⟩
      · have hlen : ((List.range m).map fun i => (nu m L v i).tdiv (det m (ent L))).length = m := by simp
        obtain ⟨x1, d1, rfl, k1, -⟩ := (HROW4.out.later hb6).lies
        obtain ⟨x2, d2, rfl, k2, -⟩ := hrow2.lies
        have heq := equal_any x1 x2 _ _ d1 d2 _ _ w6 k1.ints k2.ints (by omega) (by omega)
        rw [hlen] at heq ⊢
        have HEQ := Lib.hid heq
        have HB6 := Lib.hid (HB4.out.trans (hb6.mono HB4.out.size))
        clear heq hlen k1 k2 hrow2 hb6
        go_wp2_with fail
        refine HEQ.out.mono ?_
        rintro e w7 ⟨rfl, q, rfl⟩
        have hself : ((List.range m).map fun i => (nu m L v i).tdiv (det m (ent L))) == ((List.range m).map fun i => (nu m L v i).tdiv (det m (ent L))) := by simp
        have HAW := Lib.hid (awake_any (w6.drewN q))
        have HB7 := Lib.hid (below_drewN HB6.out q)
        rw [hself]
        clear hself
        go_wp2_with fail
        refine HAW.out.mono ?_
        rintro e w8 ⟨rfl, hb8⟩
        go_wp2
        go_ret
        exact ⟨rfl, HB7.out.trans (hb8.mono HB7.out.size)⟩
      · exact absurd HALL.out hno
    · have HALL := Lib.hid hall
      have HC4 := Lib.hid (HVR.out w3 HB3.out)
      clear hall
      go_wp2_with fail
      refine HC4.out.mono ?_
      rintro e w4 ⟨rfl, hb4⟩
      have HB4 := Lib.hid (HB3.out.trans (hb4.mono HB3.out.size))
      have HC5 := Lib.hid (HPT.out w4 HB4.out)
      clear hb4
      go_wp2_with fail
      refine HC5.out.mono ?_
      rintro e w5 ⟨rfl, hw5⟩
      subst hw5
      have HC6 := Lib.hid (HR.out w5 HB4.out)
      go_wp2_with fail
      refine HC6.out.mono ?_
      rintro e w6 ⟨hres, hb6⟩
      rcases hres with ⟨hyes, -⟩ | ⟨-, rfl⟩
      · exact absurd hyes HALL.out
      · have HEQ := Lib.hid (equal_any none none 0 0 0 0 [] [] w6 (Ints.nil _ _) (Ints.nil _ _) (by omega) (by omega))
        have HB6 := Lib.hid (HB4.out.trans (hb6.mono HB4.out.size))
        clear hb6
        go_wp2_with fail
        refine HEQ.out.mono ?_
        rintro e w7 ⟨rfl, q, rfl⟩
        have hself : (([] : List Int) == []) = true := rfl
        have HAW := Lib.hid (awake_any (w6.drewN q))
        have HB7 := Lib.hid (below_drewN HB6.out q)
        rw [hself]
        clear hself
        go_wp2_with fail
        refine HAW.out.mono ?_
        rintro e w8 ⟨rfl, hb8⟩
        go_wp2
        go_ret
        exact ⟨rfl, HB7.out.trans (hb8.mono HB7.out.size)⟩
  · have hno : ¬ (isBasis (tcut L) = true ∧ inB (v.take 6) (tcut L).length 10000 = true) := by
      rintro ⟨q1, q2⟩
      rw [basis_cut] at q1
      have hn4 := (bas_of rfl q1).n4
      rw [basis_same q1, inB_cut hn4, h.1] at q2
      exact hyes ⟨q1, q2⟩
    obtain ⟨T, hT⟩ : ∃ T, tcut L = T := ⟨_, rfl⟩
    obtain ⟨V, hV⟩ : ∃ V, v.take 6 = V := ⟨_, rfl⟩
    obtain ⟨tn, htn⟩ : ∃ tn, T.length = tn := ⟨_, rfl⟩
    obtain ⟨vn, hvn⟩ : ∃ vn, V.length = vn := ⟨_, rfl⟩
    rw [hT] at HT t1 t2 hno
    rw [hV] at HLI hk hno
    rw [htn] at HT t1 t2 hno
    rw [hvn] at HLI hk
    have HH := Lib.hid (fun W' a' c' a2 c2 (ht : Tab W' a' tn T) (hl : Lies W' a2 c2 V) => Has_no a' tn c' T a2 vn c2 V W' ht (by omega) (fun i hi => by have := t2 i hi; omega) (by rw [← hvn]; exact hl.ints) (by omega) hno)
    have HYES := Lib.hid hyes
    clear h hv hyes hno t1 t2 hk hT hV htn hvn
    go_enter Try.func4, Try.ntmps4
    go_wp2_with fail
    refine HT.out.mono ?_
    rintro e w1 ⟨a1, c1, rfl, htab1, hb1⟩
    have HT1 := Lib.hid htab1
    have HB1 := Lib.hid hb1
    have HC2 := Lib.hid (HLI.out w1 hb1)
    clear htab1 hb1
    go_wp2_with fail
    refine HC2.out.mono ?_
    rintro e w2 ⟨a2, c2, rfl, hl2, hb2⟩
    have HB2 := Lib.hid (HB1.out.trans (hb2.mono HB1.out.size))
    have HC3 := Lib.hid (HH.out w2 a1 c1 a2 c2 (HT1.out.below hb2) hl2)
    clear hl2 hb2
    go_wp2_with fail
    refine HC3.out.mono ?_
    rintro e w3 ⟨rfl, hw3⟩
    subst hw3
    have hC4 := HVR.out w3 HB2.out
    cases hA : isBasis L with
    | false =>
      rw [hA] at hC4
      have HC4 := Lib.hid hC4
      clear hC4 hA
      go_wp2_with fail
      refine HC4.out.mono ?_
      rintro e w4 ⟨rfl, hb4⟩
      have HB4 := Lib.hid (HB2.out.trans (hb4.mono HB2.out.size))
      have HAW := Lib.hid (awake_any w4)
      clear hb4
      go_wp2_with fail
      refine HAW.out.mono ?_
      rintro e w8 ⟨rfl, hb8⟩
      go_wp2
      go_ret
      exact ⟨rfl, HB4.out.trans (hb8.mono HB4.out.size)⟩
    | true =>
      rw [hA] at hC4
      have hP : inB v n 10000 = false := by
        rw [Bool.eq_false_iff]
        exact fun h2 => HYES.out ⟨hA, h2⟩
      rw [hP] at HPT
      have HC4 := Lib.hid hC4
      clear hC4 hA hP
      go_wp2_with fail
      refine HC4.out.mono ?_
      rintro e w4 ⟨rfl, hb4⟩
      have HB4 := Lib.hid (HB2.out.trans (hb4.mono HB2.out.size))
      have HC5 := Lib.hid (HPT.out w4 HB4.out)
      clear hb4
      go_wp2_with fail
      refine HC5.out.mono ?_
      rintro e w5 ⟨rfl, hw5⟩
      subst hw5
      have HAW := Lib.hid (awake_any w5)
      go_wp2_with fail
      refine HAW.out.mono ?_
      rintro e w8 ⟨rfl, hb8⟩
      go_wp2
      go_ret
      exact ⟨rfl, HB4.out.trans (hb8.mono HB4.out.size)⟩
end Go.Proofs.Ytgfenponlkmfmaa
