/- The walks of the denominators, the digits and the number along a fraction, the program's and the reference's (written by tools/along.py). Condition: the slices lie in memory and are those of a fraction. -/
import Derived.Test.YtbdabpmpfciibaaAlongMath
import Derived.Test.YtbdabpmpfciibaaLawCodes
namespace Go.Proofs.Ytbdabpmpfciibaa
open Go.RowKit
attribute [local go_sem] Oper.semAt_some

theorem wrap_of {x : Int} (h0 : -9000000000000000000 ≤ x) (h1 : x ≤ 9000000000000000000) : wrap64 x = x := by unfold wrap64; omega

set_option maxHeartbeats 4000000 in
set_option maxRecDepth 100000 in
theorem den_prog (a : Option Addr) (n c : Nat) (q : List Int) (w : World) (h : Ints w a n q) (hq : isQ q = true) :
    Calls Try.prog 102 #[.slice a n c] w fun e w' => ∃ ao co, e = .returned (.slice ao (n + 1) co) ∧ Ints w' ao (n + 1) (denL q n) ∧ n + 1 ≤ co ∧ co ≤ maxLen ∧ Below w.heap.size w w' := by
  have H := Lib.hid h
  have HL := Lib.hid h.1
  have hn := isQ_yes hq
  rw [h.1] at hn
  have HQ := Lib.hid hn.2.2
  have HQQ := Lib.hid hq
  have hn10 : n ≤ 10 := hn.2.1
  have h1 := World.ownsRow_lit (base := w.heap.size) (e := 3) (size := 1) w #[.int .i64 1] 1 (Nat.le_refl _) (by unfold maxLen; omega) rfl
  have HR0 := Lib.hid (show Row w.heap.size (.slice (some ⟨w.heap.size, 0, none⟩) 1 1) (denL q 0) (w.alloc (.cells #[.int .i64 1] 3)) from by rw [denL_0]; exact h1)
  have HB0 := Lib.hid ((Below.refl w.heap.size w).alloc (Nat.le_refl _) (.cells #[.int .i64 1] 3))
  clear h hq hn h1
  go_enter Try.func102, Try.ntmps102
  go_wp2
  go_loopg [3, 4, 10] n (fun gk v b i wr => ∃ (k : Nat), k + gk = n ∧ i = .int .i64 (k : Int) ∧ b = .int .i64 (dB q k) ∧ Row w.heap.size v (denL q k) wr ∧ Below w.heap.size w wr)
  case atStart => exact ⟨0, by omega, rfl, rfl, HR0.out, HB0.out⟩
  case round =>
    obtain ⟨k, hk, rfl, rfl, hr, hb⟩ := hrel
    have HR := Lib.hid hr
    have HB := Lib.hid hb
    clear hr hb HR0 HB0
    by_cases hkn : k = n
    · have hge : ¬ (k : Int) < (n : Int) := by omega
      have hge2 : ¬ k < n := by omega
      have hr := HR.out
      obtain ⟨a6, c6, rfl, hi6, h61, h62⟩ := hr.form
      rw [denL_len, hkn] at hi6 h61
      rw [denL_len, hkn]
      have HI6 := Lib.hid (And.intro hi6 (And.intro h61 h62))
      obtain ⟨D, hD⟩ : ∃ D, dB q n = D := ⟨_, rfl⟩
      rw [hD]
      clear hr hi6 hk HR hD hkn hge hge2 h61 h62
      have hge : ¬ (n : Int) < (n : Int) := by omega
      go_wp2
      go_ret
      exact ⟨a6, c6, rfl, HI6.out.1, HI6.out.2.1, HI6.out.2.2, HB.out⟩
    · have hlt : (k : Int) < (n : Int) := by omega
      have hlt2 : k < n := by omega
      obtain ⟨b', off, rfl, hb', hc⟩ := H.out.at (by omega)
      have hck := (HB.out.cell (p := ⟨b', off + k, none⟩) hb').trans (hc k hlt2)
      have hxb := HQ.out k (by have := HL.out; omega)
      have hr := HR.out
      obtain ⟨a6, c6, rfl, hi6, -, -⟩ := hr.form
      rw [denL_len] at hi6 hr
      rw [denL_len]
      obtain ⟨b6, off6, rfl, hb6, hc6⟩ := hi6.at (by omega)
      have hcd := hc6 k (by omega)
      rw [denL_at (Nat.le_refl k)] at hcd
      have hdp := dN_pos HQQ.out k (by have := HL.out; omega)
      have hdl := dN_le HQQ.out (k := k) (by have := HL.out; omega)
      have hds := dN_succ q k
      have hdl2 := dN_le HQQ.out (k := k + 1) (by have := HL.out; omega)
      have hls := denL_succ q k
      have hat := denL_at (q := q) (k := k + 1) (j := k) (by omega)
      obtain ⟨x, hx⟩ : ∃ x, q.getD k 0 = x := ⟨_, rfl⟩
      rw [hx] at hck hxb hds
      obtain ⟨y, hy⟩ : ∃ y, dN q k = y := ⟨_, rfl⟩
      rw [hy] at hcd hdp hdl hds hat
      obtain ⟨z, hz⟩ : ∃ z, dB q k = z := ⟨_, rfl⟩
      rw [hz] at hdp hds ⊢
      obtain ⟨M, hM⟩ : ∃ M, x * y = M := ⟨_, rfl⟩
      have hm0 : 0 ≤ M := hM ▸ Int.mul_nonneg (by omega) (by omega)
      rw [hM] at hds
      rw [hds] at hdl2 hls
      obtain ⟨hd1, hd2, hd3, -⟩ := hdp
      have hw1 : wrap64 (x * y) = M := by rw [hM]; exact wrap_of (by omega) (by omega)
      have HY := Lib.hid (show dB q (k + 1) = y from hy)
      have HLS := Lib.hid hls
      have HAT := Lib.hid hat
      have HK := Lib.hid hk
      have k0 : (0 : Int) ≤ (k : Int) := by omega
      have k1 : (k : Int) < ((k + 1 : Nat) : Int) := by omega
      have k2 : k < k + 1 := by omega
      obtain ⟨i0, hi, hz0, hz1, hz2⟩ := info_parts info3
      have hsz := HB.out.size
      have HHR := Lib.hid (show wr.ownsRow w.heap.size 3 1 (.slice (some ⟨b6, off6, none⟩) (k + 1) c6) (k + 1) ((denL q k).map (Value.int .i64)) from by
        have := HR.out
        unfold Row at this
        rw [denL_len] at this
        exact this)
      obtain ⟨p1, hp1⟩ : ∃ p1, k + 1 = p1 := ⟨_, rfl⟩
      rw [hp1] at HHR k1 k2 ⊢
      have HP1 := Lib.hid hp1
      have hp11 : p1 ≤ 11 := by omega
      clear hc hx hy hz hM hls hds hk hkn hc6 hi6 hat hr HR hp1
      go_wp2_with (
       (at_builtin
        refine wpList_append_own _ rfl _ _ 22 rfl w.heap.size 3 i0 (.int .i64 0) 1 8 Try.underlying22 hi hz0 hz1 hz2 rfl (by decide) _ _ _ rfl (World.ownsRow.alloc (h := HHR.out) _) ⟨wr.heap.size, 0, none⟩ 1 1 [.int .i64 (M + z)] rfl rfl (cell_one_new _ _ _) (by simp [Value.oneCell']) (by unfold maxLen; omega) (by omega) (by simp; omega) ?_
        intro v' w3 hown' hgrow _
        have hb3 : Below w.heap.size w w3 := (HB.out.alloc hsz _).grown hgrow (by simp; omega) (fun j e => (HHR.out.lt j e).1)
        have hr3 : Row w.heap.size v' (denL q (k + 1)) w3 := by
          rw [HLS.out]
          unfold Row
          rw [List.length_append, List.map_append, denL_len, HP1.out]
          exact hown'
        have HB3 := Lib.hid hb3
        have HR3 := Lib.hid hr3
        obtain ⟨a7, c7, rfl, hi7, -, -⟩ := hr3.form
        rw [denL_len] at hi7
        rw [denL_len]
        obtain ⟨b7, off7, rfl, hb7, hc7⟩ := hi7.at (by omega)
        have hcd7 := hc7 k (by omega)
        rw [HAT.out] at hcd7
        obtain ⟨p2, hp2⟩ : ∃ p2, k + 1 + 1 = p2 := ⟨_, rfl⟩
        have k3 : (k : Int) < (p2 : Int) := by omega
        have k4 : k < p2 := by omega
        rw [hp2]
        have HP2 := Lib.hid hp2
        clear hp2
        clear hown' hgrow hb3 hr3 hi7 hc7))
      go_roundg (n - k - 1)
      case rel => exact ⟨k + 1, by have := HK.out; omega, by go_num, by rw [HY.out], by have := HR3.out; rw [denL_len, HP2.out] at this; exact this, HB3.out⟩
      case measure => have := HK.out; omega

set_option maxHeartbeats 4000000 in
set_option maxRecDepth 100000 in
theorem digits_prog (a : Option Addr) (n c : Nat) (q : List Int) (x : Int) (w : World) (h : Ints w a n q) (hq : isQ q = true) (hx0 : 0 ≤ x) (hx1 : x ≤ 1000000000000000000) :
    Calls Try.prog 80 #[.slice a n c, .int .i64 x] w fun e w' => ∃ ao co, e = .returned (.slice ao n co) ∧ Ints w' ao n (digL q x) ∧ n ≤ co ∧ co ≤ maxLen ∧ Below w.heap.size w w' := by
  obtain ⟨i0, hi, hz0, hz1, hz2⟩ := info_parts info3
  have H := Lib.hid h
  have HL := Lib.hid h.1
  have hn := isQ_yes hq
  rw [h.1] at hn
  have HQQ := Lib.hid hq
  have hn10 : n ≤ 10 := hn.2.1
  have hn1 : 1 ≤ n := hn.1
  have HDEN := Lib.hid (den_prog a n c q w h hq)
  clear h hq hn
  have n0 : (0 : Int) ≤ (n : Int) := by omega
  go_enter Try.func80, Try.ntmps80
  go_wp2_with (first | (go_at_call 102; refine HDEN.out.mono ?_; rintro e w1 ⟨a1, c1, rfl, hi1, -, -, hb1⟩; have HI := Lib.hid hi1; have HB := Lib.hid hb1; clear hi1 hb1) | (at_make; refine wpList_make_full _ rfl _ _ 22 rfl w1.heap.size 3 i0 (.int .i64 0) 1 Try.underlying22 hi hz0 hz1 _ _ _ _ n rfl rfl (by omega) (by omega) (by rw [hz2]; omega) (by unfold maxLen; omega) (Nat.le_refl _) ?_; intro w2 hown hgrow))
  clear hi hz0 hz1 hz2
  have S0 := Lib.hid (CoState.made hown ((Below.refl w1.heap.size w1).grown hgrow (Nat.le_refl _) (fun k e => by cases e)))
  clear hown hgrow
  obtain ⟨g, hg⟩ : ∃ g, w1.heap.size = g := ⟨_, rfl⟩
  rw [hg] at S0 ⊢
  have HG := Lib.hid hg
  clear hg
  go_loopg [1, 7] n (fun gk r i wr => ∃ (t : Nat), t + gk = n ∧ i = .int .i64 ((gk : Int) - 1) ∧ r = .int .i64 (remN q x t) ∧ CoState g n (fun j => if n - t ≤ j then dig q x j else 0) w1 wr)
  case atStart => exact ⟨0, by omega, rfl, rfl, S0.out.congr fun j hj => by rw [if_neg (by omega)]⟩
  case round =>
    obtain ⟨t, ht, rfl, rfl, hs⟩ := hrel
    have HS := Lib.hid hs
    clear hs S0
    obtain ⟨r0, r1⟩ := remN_nonneg HQQ.out hx0 t (by have := HL.out; omega)
    by_cases hgk : gk = 0
    · subst hgk
      have htn : t = n := by omega
      have ho := HS.out.own
      have hcells : ((List.range n).map fun j : Nat => Value.int .i64 (if n - t ≤ j then dig q x j else 0)) = (digL q x).map (Value.int .i64) := by
        unfold digL
        rw [HL.out, List.map_map]
        apply List.map_congr_left
        intro j _
        rw [if_pos (by omega)]
        rfl
      rw [hcells] at ho
      have HI2 := Lib.hid (Ints.own ho).1
      obtain ⟨R, hR⟩ : ∃ R, remN q x t = R := ⟨_, rfl⟩
      rw [hR] at r0 r1 ⊢
      have hlt : ¬ 0 ≤ ((0 : Nat) : Int) - 1 := by omega
      clear ho hcells hR htn ht
      go_wp2
      go_ret
      exact ⟨_, n, rfl, HI2.out, Nat.le_refl _, by unfold maxLen; omega, HB.out.trans (HS.out.b.mono HB.out.size)⟩
    · obtain ⟨k, rfl⟩ : ∃ k, gk = k + 1 := ⟨gk - 1, by omega⟩
      have hk : ((k + 1 : Nat) : Int) - 1 = (k : Int) := by omega
      rw [hk]
      have hk0 : (0 : Int) ≤ (k : Int) := by omega
      have hkn : k < n := by omega
      have hkn2 : (k : Int) < (n : Int) := by omega
      have hkn3 : k < n + 1 := by omega
      have hkn4 : (k : Int) < ((n + 1 : Nat) : Int) := by omega
      obtain ⟨b1, off1, rfl, hb1, hc1⟩ := HI.out.at (by omega)
      have hcd := (HS.out.b.cell (p := ⟨b1, off1 + k, none⟩) hb1).trans (hc1 k (by omega))
      rw [denL_at (by omega)] at hcd
      have hdp := (dN_pos HQQ.out k (by have := HL.out; omega)).1
      have hcg := HS.out.cell (j := k) hkn
      have hfg := HS.out.frozen k
      have hdig : dig q x k = remN q x t / dN q k := by
        unfold dig
        rw [show q.length - 1 - k = t by have := HL.out; omega]
      have hrem : remN q x (t + 1) = remN q x t % dN q k := by
        rw [remN, show q.length - 1 - t = k by have := HL.out; omega]
      obtain ⟨u, hu⟩ : ∃ u : Int, (if n - t ≤ k then dig q x k else 0) = u := ⟨_, rfl⟩
      rw [hu] at hcg
      obtain ⟨d, hd⟩ : ∃ d, dN q k = d := ⟨_, rfl⟩
      rw [hd] at hcd hdp hdig hrem
      obtain ⟨R, hR⟩ : ∃ R, remN q x t = R := ⟨_, rfl⟩
      rw [hR] at r0 r1 hdig hrem ⊢
      have hdz : ¬ d = 0 := by omega
      have hbg : ¬ b1 = g := by have := HG.out; omega
      have hgb : ¬ g = b1 := by have := HG.out; omega
      have HDIG := Lib.hid hdig
      have HREM := Lib.hid hrem
      have HT := Lib.hid ht
      clear hc1 hu hd hR hdig hrem ht hk hgk
      go_wp2
      have HS2 := Lib.hid (show CoState g n (fun j => if n - (t + 1) ≤ j then dig q x j else 0) w1 (wr.setCell ⟨g, k, none⟩ (.int .i64 (R / d))) from
        (HS.out.put k (R / d)).congr fun j hj => by
          have := HT.out
          by_cases hjk : j = k
          · subst hjk
            rw [if_pos rfl, if_pos (by omega), HDIG.out]
          · rw [if_neg hjk]
            by_cases hj2 : n - t ≤ j
            · rw [if_pos hj2, if_pos (by omega)]
            · rw [if_neg hj2, if_neg (by omega)])
      go_roundg k
      case rel => exact ⟨t + 1, by have := HT.out; omega, by rfl, by rw [HREM.out], HS2.out⟩
      case measure => omega

set_option maxHeartbeats 4000000 in
set_option maxRecDepth 100000 in
theorem number_prog (a1 a2 : Option Addr) (n c m d : Nat) (q cs : List Int) (w : World) (h : Ints w a1 n q) (h2 : Ints w a2 m cs) (hq : isQ q = true) (hA : isA q cs = true) :
    Calls Try.prog 82 #[.slice a1 n c, .slice a2 m d] w fun e w' => e = .returned (.int .i64 (numA q cs q.length)) ∧ Below w.heap.size w w' := by
  have H := Lib.hid h
  have HL := Lib.hid h.1
  have H2 := Lib.hid h2
  have hn := isQ_yes hq
  rw [h.1] at hn
  have hmn : m = n := by rw [← h2.1, (isA_yes hA).1, h.1]
  have hn10 : n ≤ 10 := hn.2.1
  have hn1 : 1 ≤ n := hn.1
  have HDEN := Lib.hid (den_prog a1 n c q w h hq)
  have HQQ := Lib.hid hq
  have HA := Lib.hid hA
  have hlen : q.length = n := h.1
  rw [hlen]
  have HMN := Lib.hid hmn
  clear h hq hn h2 hA hlen hmn
  have m10 : m ≤ 10 := by have := HMN.out; omega
  go_enter Try.func82, Try.ntmps82
  go_wp2_with (go_at_call 102; refine HDEN.out.mono ?_; rintro e w1 ⟨b1, c1, rfl, hi1, -, -, hb1⟩; have HI := Lib.hid hi1; have HB := Lib.hid hb1; clear hi1 hb1)
  go_loopg [5, 13] m (fun gk s i wr => ∃ (k : Nat), k + gk = m ∧ i = .int .i64 (k : Int) ∧ s = .int .i64 (numA q cs k) ∧ wr = w1)
  case atStart => exact ⟨0, by omega, rfl, rfl, rfl⟩
  case round =>
    obtain ⟨k, hk, rfl, rfl, hww⟩ := hrel
    have hww2 := hww.symm
    subst hww2
    have hbk := numA_bd HQQ.out HA.out k (by have := HL.out; have := HMN.out; omega)
    by_cases hkm : k = m
    · have hge : ¬ (k : Int) < (m : Int) := by omega
      have hge2 : ¬ k < m := by omega
      have hkn : k = n := hkm.trans HMN.out
      have e : numA q cs k = numA q cs n := by rw [hkn]
      rw [e]
      obtain ⟨S, hS⟩ : ∃ S, numA q cs n = S := ⟨_, rfl⟩
      rw [hS]
      have HS := Lib.hid hS
      clear hkm hkn hbk hS hk e
      go_wp2
      go_ret
      exact ⟨ret_int HS.out.symm, HB.out⟩
    · have hlt : (k : Int) < (m : Int) := by omega
      have hlt2 : k < m := by omega
      have hkn : k < n := by have := HMN.out; omega
      have hkn3 : k < n + 1 := by omega
      have hkn4 : (k : Int) < ((n + 1 : Nat) : Int) := by omega
      obtain ⟨b', off, rfl, hb', hc⟩ := H2.out.at (by omega)
      have hck := (HB.out.cell (p := ⟨b', off + k, none⟩) hb').trans (hc k hlt2)
      obtain ⟨b6, off6, rfl, hb6, hc6⟩ := HI.out.at (by omega)
      have hcd := hc6 k (by omega)
      rw [denL_at (by omega)] at hcd
      have hbk1 := numA_bd HQQ.out HA.out (k + 1) (by have := HL.out; omega)
      have hdl := dN_le HQQ.out (k := k) (by have := HL.out; omega)
      have hdl1 := dN_le HQQ.out (k := k + 1) (by have := HL.out; omega)
      have hst : numA q cs (k + 1) = numA q cs k + cs.getD k 0 * dN q k := rfl
      have ho := okA_iff.1 ((isA_yes HA.out).2 k (by have := HL.out; omega))
      have hdp := (dN_pos HQQ.out k (by have := HL.out; omega)).1
      obtain ⟨x, hx⟩ : ∃ x, cs.getD k 0 = x := ⟨_, rfl⟩
      rw [hx] at hck hst ho
      obtain ⟨y, hy⟩ : ∃ y, dN q k = y := ⟨_, rfl⟩
      rw [hy] at hcd hst hdl hdp hbk
      obtain ⟨M, hM⟩ : ∃ M, x * y = M := ⟨_, rfl⟩
      have hm0 : 0 ≤ M := hM ▸ Int.mul_nonneg ho.1 (by omega)
      rw [hM] at hst
      obtain ⟨S, hS⟩ : ∃ S, numA q cs k = S := ⟨_, rfl⟩
      rw [hS] at hst hbk ⊢
      rw [hst] at hbk1
      have hs0 := hbk.1
      have hs1 : S ≤ 10000000000 := by omega
      have hsm : S + M ≤ 10000000000 := by omega
      have hw1 : wrap64 (x * y) = M := by rw [hM]; exact wrap_of (by omega) (by omega)
      have HST := Lib.hid hst
      have HK := Lib.hid hk
      have k0 : (0 : Int) ≤ (k : Int) := by omega
      clear hc hx hy hM hst hk hkm hc6 hbk hbk1 ho hS hdl1
      go_wp2
      go_roundg (m - k - 1)
      case rel => exact ⟨k + 1, by have := HK.out; omega, by go_num, by rw [HST.out], rfl⟩
      case measure => have := HK.out; omega

set_option maxHeartbeats 4000000 in
set_option maxRecDepth 100000 in
theorem den_ref (a : Option Addr) (n c : Nat) (q : List Int) (w : World) (h : Ints w a n q) (hq : isQ q = true) :
    Calls Try.prog 48 #[.slice a n c] w fun e w' => ∃ ao co, e = .returned (.slice ao (n + 1) co) ∧ Ints w' ao (n + 1) (denL q n) ∧ n + 1 ≤ co ∧ co ≤ maxLen ∧ Below w.heap.size w w' := by
  have H := Lib.hid h
  have HL := Lib.hid h.1
  have hn := isQ_yes hq
  rw [h.1] at hn
  have HQ := Lib.hid hn.2.2
  have HQQ := Lib.hid hq
  have hn10 : n ≤ 10 := hn.2.1
  have h1 := World.ownsRow_lit (base := w.heap.size) (e := 3) (size := 1) w #[.int .i64 1] 1 (Nat.le_refl _) (by unfold maxLen; omega) rfl
  have HR0 := Lib.hid (show Row w.heap.size (.slice (some ⟨w.heap.size, 0, none⟩) 1 1) (denL q 0) (w.alloc (.cells #[.int .i64 1] 3)) from by rw [denL_0]; exact h1)
  have HB0 := Lib.hid ((Below.refl w.heap.size w).alloc (Nat.le_refl _) (.cells #[.int .i64 1] 3))
  clear h hq hn h1
  go_enter Try.func48, Try.ntmps48
  go_wp2
  go_loopg [3, 4, 10] n (fun gk v b i wr => ∃ (k : Nat), k + gk = n ∧ i = .int .i64 (k : Int) ∧ b = .int .i64 (dB q k) ∧ Row w.heap.size v (denL q k) wr ∧ Below w.heap.size w wr)
  case atStart => exact ⟨0, by omega, rfl, rfl, HR0.out, HB0.out⟩
  case round =>
    obtain ⟨k, hk, rfl, rfl, hr, hb⟩ := hrel
    have HR := Lib.hid hr
    have HB := Lib.hid hb
    clear hr hb HR0 HB0
    by_cases hkn : k = n
    · have hge : ¬ (k : Int) < (n : Int) := by omega
      have hge2 : ¬ k < n := by omega
      have hr := HR.out
      obtain ⟨a6, c6, rfl, hi6, h61, h62⟩ := hr.form
      rw [denL_len, hkn] at hi6 h61
      rw [denL_len, hkn]
      have HI6 := Lib.hid (And.intro hi6 (And.intro h61 h62))
      obtain ⟨D, hD⟩ : ∃ D, dB q n = D := ⟨_, rfl⟩
      rw [hD]
      clear hr hi6 hk HR hD hkn hge hge2 h61 h62
      have hge : ¬ (n : Int) < (n : Int) := by omega
      go_wp2
      go_ret
      exact ⟨a6, c6, rfl, HI6.out.1, HI6.out.2.1, HI6.out.2.2, HB.out⟩
    · have hlt : (k : Int) < (n : Int) := by omega
      have hlt2 : k < n := by omega
      obtain ⟨b', off, rfl, hb', hc⟩ := H.out.at (by omega)
      have hck := (HB.out.cell (p := ⟨b', off + k, none⟩) hb').trans (hc k hlt2)
      have hxb := HQ.out k (by have := HL.out; omega)
      have hr := HR.out
      obtain ⟨a6, c6, rfl, hi6, -, -⟩ := hr.form
      rw [denL_len] at hi6 hr
      rw [denL_len]
      obtain ⟨b6, off6, rfl, hb6, hc6⟩ := hi6.at (by omega)
      have hcd := hc6 k (by omega)
      rw [denL_at (Nat.le_refl k)] at hcd
      have hdp := dN_pos HQQ.out k (by have := HL.out; omega)
      have hdl := dN_le HQQ.out (k := k) (by have := HL.out; omega)
      have hds := dN_succ q k
      have hdl2 := dN_le HQQ.out (k := k + 1) (by have := HL.out; omega)
      have hls := denL_succ q k
      have hat := denL_at (q := q) (k := k + 1) (j := k) (by omega)
      obtain ⟨x, hx⟩ : ∃ x, q.getD k 0 = x := ⟨_, rfl⟩
      rw [hx] at hck hxb hds
      obtain ⟨y, hy⟩ : ∃ y, dN q k = y := ⟨_, rfl⟩
      rw [hy] at hcd hdp hdl hds hat
      obtain ⟨z, hz⟩ : ∃ z, dB q k = z := ⟨_, rfl⟩
      rw [hz] at hdp hds ⊢
      obtain ⟨M, hM⟩ : ∃ M, x * y = M := ⟨_, rfl⟩
      have hm0 : 0 ≤ M := hM ▸ Int.mul_nonneg (by omega) (by omega)
      rw [hM] at hds
      rw [hds] at hdl2 hls
      obtain ⟨hd1, hd2, hd3, -⟩ := hdp
      have hw1 : wrap64 (x * y) = M := by rw [hM]; exact wrap_of (by omega) (by omega)
      have HY := Lib.hid (show dB q (k + 1) = y from hy)
      have HLS := Lib.hid hls
      have HAT := Lib.hid hat
      have HK := Lib.hid hk
      have k0 : (0 : Int) ≤ (k : Int) := by omega
      have k1 : (k : Int) < ((k + 1 : Nat) : Int) := by omega
      have k2 : k < k + 1 := by omega
      obtain ⟨i0, hi, hz0, hz1, hz2⟩ := info_parts info3
      have hsz := HB.out.size
      have HHR := Lib.hid (show wr.ownsRow w.heap.size 3 1 (.slice (some ⟨b6, off6, none⟩) (k + 1) c6) (k + 1) ((denL q k).map (Value.int .i64)) from by
        have := HR.out
        unfold Row at this
        rw [denL_len] at this
        exact this)
      obtain ⟨p1, hp1⟩ : ∃ p1, k + 1 = p1 := ⟨_, rfl⟩
      rw [hp1] at HHR k1 k2 ⊢
      have HP1 := Lib.hid hp1
      have hp11 : p1 ≤ 11 := by omega
      clear hc hx hy hz hM hls hds hk hkn hc6 hi6 hat hr HR hp1
      go_wp2_with (
       (at_builtin
        refine wpList_append_own _ rfl _ _ 22 rfl w.heap.size 3 i0 (.int .i64 0) 1 8 Try.underlying22 hi hz0 hz1 hz2 rfl (by decide) _ _ _ rfl (World.ownsRow.alloc (h := HHR.out) _) ⟨wr.heap.size, 0, none⟩ 1 1 [.int .i64 (M + z)] rfl rfl (cell_one_new _ _ _) (by simp [Value.oneCell']) (by unfold maxLen; omega) (by omega) (by simp; omega) ?_
        intro v' w3 hown' hgrow _
        have hb3 : Below w.heap.size w w3 := (HB.out.alloc hsz _).grown hgrow (by simp; omega) (fun j e => (HHR.out.lt j e).1)
        have hr3 : Row w.heap.size v' (denL q (k + 1)) w3 := by
          rw [HLS.out]
          unfold Row
          rw [List.length_append, List.map_append, denL_len, HP1.out]
          exact hown'
        have HB3 := Lib.hid hb3
        have HR3 := Lib.hid hr3
        obtain ⟨a7, c7, rfl, hi7, -, -⟩ := hr3.form
        rw [denL_len] at hi7
        rw [denL_len]
        obtain ⟨b7, off7, rfl, hb7, hc7⟩ := hi7.at (by omega)
        have hcd7 := hc7 k (by omega)
        rw [HAT.out] at hcd7
        obtain ⟨p2, hp2⟩ : ∃ p2, k + 1 + 1 = p2 := ⟨_, rfl⟩
        have k3 : (k : Int) < (p2 : Int) := by omega
        have k4 : k < p2 := by omega
        rw [hp2]
        have HP2 := Lib.hid hp2
        clear hp2
        clear hown' hgrow hb3 hr3 hi7 hc7))
      go_roundg (n - k - 1)
      case rel => exact ⟨k + 1, by have := HK.out; omega, by go_num, by rw [HY.out], by have := HR3.out; rw [denL_len, HP2.out] at this; exact this, HB3.out⟩
      case measure => have := HK.out; omega

set_option maxHeartbeats 4000000 in
set_option maxRecDepth 100000 in
theorem digits_ref (a : Option Addr) (n c : Nat) (q : List Int) (x : Int) (w : World) (h : Ints w a n q) (hq : isQ q = true) (hx0 : 0 ≤ x) (hx1 : x ≤ 1000000000000000000) :
    Calls Try.prog 49 #[.slice a n c, .int .i64 x] w fun e w' => ∃ ao co, e = .returned (.slice ao n co) ∧ Ints w' ao n (digL q x) ∧ n ≤ co ∧ co ≤ maxLen ∧ Below w.heap.size w w' := by
  obtain ⟨i0, hi, hz0, hz1, hz2⟩ := info_parts info3
  have H := Lib.hid h
  have HL := Lib.hid h.1
  have hn := isQ_yes hq
  rw [h.1] at hn
  have HQQ := Lib.hid hq
  have hn10 : n ≤ 10 := hn.2.1
  have hn1 : 1 ≤ n := hn.1
  have HDEN := Lib.hid (den_ref a n c q w h hq)
  clear h hq hn
  have n0 : (0 : Int) ≤ (n : Int) := by omega
  go_enter Try.func49, Try.ntmps49
  go_wp2_with (first | (go_at_call 48; refine HDEN.out.mono ?_; rintro e w1 ⟨a1, c1, rfl, hi1, -, -, hb1⟩; have HI := Lib.hid hi1; have HB := Lib.hid hb1; clear hi1 hb1) | (at_make; refine wpList_make_full _ rfl _ _ 22 rfl w1.heap.size 3 i0 (.int .i64 0) 1 Try.underlying22 hi hz0 hz1 _ _ _ _ n rfl rfl (by omega) (by omega) (by rw [hz2]; omega) (by unfold maxLen; omega) (Nat.le_refl _) ?_; intro w2 hown hgrow))
  clear hi hz0 hz1 hz2
  have S0 := Lib.hid (CoState.made hown ((Below.refl w1.heap.size w1).grown hgrow (Nat.le_refl _) (fun k e => by cases e)))
  clear hown hgrow
  obtain ⟨g, hg⟩ : ∃ g, w1.heap.size = g := ⟨_, rfl⟩
  rw [hg] at S0 ⊢
  have HG := Lib.hid hg
  clear hg
  go_loopg [1, 7] n (fun gk r i wr => ∃ (t : Nat), t + gk = n ∧ i = .int .i64 ((gk : Int) - 1) ∧ r = .int .i64 (remN q x t) ∧ CoState g n (fun j => if n - t ≤ j then dig q x j else 0) w1 wr)
  case atStart => exact ⟨0, by omega, rfl, rfl, S0.out.congr fun j hj => by rw [if_neg (by omega)]⟩
  case round =>
    obtain ⟨t, ht, rfl, rfl, hs⟩ := hrel
    have HS := Lib.hid hs
    clear hs S0
    obtain ⟨r0, r1⟩ := remN_nonneg HQQ.out hx0 t (by have := HL.out; omega)
    by_cases hgk : gk = 0
    · subst hgk
      have htn : t = n := by omega
      have ho := HS.out.own
      have hcells : ((List.range n).map fun j : Nat => Value.int .i64 (if n - t ≤ j then dig q x j else 0)) = (digL q x).map (Value.int .i64) := by
        unfold digL
        rw [HL.out, List.map_map]
        apply List.map_congr_left
        intro j _
        rw [if_pos (by omega)]
        rfl
      rw [hcells] at ho
      have HI2 := Lib.hid (Ints.own ho).1
      obtain ⟨R, hR⟩ : ∃ R, remN q x t = R := ⟨_, rfl⟩
      rw [hR] at r0 r1 ⊢
      have hlt : ¬ 0 ≤ ((0 : Nat) : Int) - 1 := by omega
      clear ho hcells hR htn ht
      go_wp2
      go_ret
      exact ⟨_, n, rfl, HI2.out, Nat.le_refl _, by unfold maxLen; omega, HB.out.trans (HS.out.b.mono HB.out.size)⟩
    · obtain ⟨k, rfl⟩ : ∃ k, gk = k + 1 := ⟨gk - 1, by omega⟩
      have hk : ((k + 1 : Nat) : Int) - 1 = (k : Int) := by omega
      rw [hk]
      have hk0 : (0 : Int) ≤ (k : Int) := by omega
      have hkn : k < n := by omega
      have hkn2 : (k : Int) < (n : Int) := by omega
      have hkn3 : k < n + 1 := by omega
      have hkn4 : (k : Int) < ((n + 1 : Nat) : Int) := by omega
      obtain ⟨b1, off1, rfl, hb1, hc1⟩ := HI.out.at (by omega)
      have hcd := (HS.out.b.cell (p := ⟨b1, off1 + k, none⟩) hb1).trans (hc1 k (by omega))
      rw [denL_at (by omega)] at hcd
      have hdp := (dN_pos HQQ.out k (by have := HL.out; omega)).1
      have hcg := HS.out.cell (j := k) hkn
      have hfg := HS.out.frozen k
      have hdig : dig q x k = remN q x t / dN q k := by
        unfold dig
        rw [show q.length - 1 - k = t by have := HL.out; omega]
      have hrem : remN q x (t + 1) = remN q x t % dN q k := by
        rw [remN, show q.length - 1 - t = k by have := HL.out; omega]
      obtain ⟨u, hu⟩ : ∃ u : Int, (if n - t ≤ k then dig q x k else 0) = u := ⟨_, rfl⟩
      rw [hu] at hcg
      obtain ⟨d, hd⟩ : ∃ d, dN q k = d := ⟨_, rfl⟩
      rw [hd] at hcd hdp hdig hrem
      obtain ⟨R, hR⟩ : ∃ R, remN q x t = R := ⟨_, rfl⟩
      rw [hR] at r0 r1 hdig hrem ⊢
      have hdz : ¬ d = 0 := by omega
      have hbg : ¬ b1 = g := by have := HG.out; omega
      have hgb : ¬ g = b1 := by have := HG.out; omega
      have HDIG := Lib.hid hdig
      have HREM := Lib.hid hrem
      have HT := Lib.hid ht
      clear hc1 hu hd hR hdig hrem ht hk hgk
      go_wp2
      have HS2 := Lib.hid (show CoState g n (fun j => if n - (t + 1) ≤ j then dig q x j else 0) w1 (wr.setCell ⟨g, k, none⟩ (.int .i64 (R / d))) from
        (HS.out.put k (R / d)).congr fun j hj => by
          have := HT.out
          by_cases hjk : j = k
          · subst hjk
            rw [if_pos rfl, if_pos (by omega), HDIG.out]
          · rw [if_neg hjk]
            by_cases hj2 : n - t ≤ j
            · rw [if_pos hj2, if_pos (by omega)]
            · rw [if_neg hj2, if_neg (by omega)])
      go_roundg k
      case rel => exact ⟨t + 1, by have := HT.out; omega, by rfl, by rw [HREM.out], HS2.out⟩
      case measure => omega

set_option maxHeartbeats 4000000 in
set_option maxRecDepth 100000 in
theorem number_ref (a1 a2 : Option Addr) (n c m d : Nat) (q cs : List Int) (w : World) (h : Ints w a1 n q) (h2 : Ints w a2 m cs) (hq : isQ q = true) (hA : isA q cs = true) :
    Calls Try.prog 51 #[.slice a1 n c, .slice a2 m d] w fun e w' => e = .returned (.int .i64 (numA q cs q.length)) ∧ Below w.heap.size w w' := by
  have H := Lib.hid h
  have HL := Lib.hid h.1
  have H2 := Lib.hid h2
  have hn := isQ_yes hq
  rw [h.1] at hn
  have hmn : m = n := by rw [← h2.1, (isA_yes hA).1, h.1]
  have hn10 : n ≤ 10 := hn.2.1
  have hn1 : 1 ≤ n := hn.1
  have HDEN := Lib.hid (den_ref a1 n c q w h hq)
  have HQQ := Lib.hid hq
  have HA := Lib.hid hA
  have hlen : q.length = n := h.1
  rw [hlen]
  have HMN := Lib.hid hmn
  clear h hq hn h2 hA hlen hmn
  have m10 : m ≤ 10 := by have := HMN.out; omega
  go_enter Try.func51, Try.ntmps51
  go_wp2_with (go_at_call 48; refine HDEN.out.mono ?_; rintro e w1 ⟨b1, c1, rfl, hi1, -, -, hb1⟩; have HI := Lib.hid hi1; have HB := Lib.hid hb1; clear hi1 hb1)
  go_loopg [5, 13] m (fun gk s i wr => ∃ (k : Nat), k + gk = m ∧ i = .int .i64 (k : Int) ∧ s = .int .i64 (numA q cs k) ∧ wr = w1)
  case atStart => exact ⟨0, by omega, rfl, rfl, rfl⟩
  case round =>
    obtain ⟨k, hk, rfl, rfl, hww⟩ := hrel
    have hww2 := hww.symm
    subst hww2
    have hbk := numA_bd HQQ.out HA.out k (by have := HL.out; have := HMN.out; omega)
    by_cases hkm : k = m
    · have hge : ¬ (k : Int) < (m : Int) := by omega
      have hge2 : ¬ k < m := by omega
      have hkn : k = n := hkm.trans HMN.out
      have e : numA q cs k = numA q cs n := by rw [hkn]
      rw [e]
      obtain ⟨S, hS⟩ : ∃ S, numA q cs n = S := ⟨_, rfl⟩
      rw [hS]
      have HS := Lib.hid hS
      clear hkm hkn hbk hS hk e
      go_wp2
      go_ret
      exact ⟨ret_int HS.out.symm, HB.out⟩
    · have hlt : (k : Int) < (m : Int) := by omega
      have hlt2 : k < m := by omega
      have hkn : k < n := by have := HMN.out; omega
      have hkn3 : k < n + 1 := by omega
      have hkn4 : (k : Int) < ((n + 1 : Nat) : Int) := by omega
      obtain ⟨b', off, rfl, hb', hc⟩ := H2.out.at (by omega)
      have hck := (HB.out.cell (p := ⟨b', off + k, none⟩) hb').trans (hc k hlt2)
      obtain ⟨b6, off6, rfl, hb6, hc6⟩ := HI.out.at (by omega)
      have hcd := hc6 k (by omega)
      rw [denL_at (by omega)] at hcd
      have hbk1 := numA_bd HQQ.out HA.out (k + 1) (by have := HL.out; omega)
      have hdl := dN_le HQQ.out (k := k) (by have := HL.out; omega)
      have hdl1 := dN_le HQQ.out (k := k + 1) (by have := HL.out; omega)
      have hst : numA q cs (k + 1) = numA q cs k + cs.getD k 0 * dN q k := rfl
      have ho := okA_iff.1 ((isA_yes HA.out).2 k (by have := HL.out; omega))
      have hdp := (dN_pos HQQ.out k (by have := HL.out; omega)).1
      obtain ⟨x, hx⟩ : ∃ x, cs.getD k 0 = x := ⟨_, rfl⟩
      rw [hx] at hck hst ho
      obtain ⟨y, hy⟩ : ∃ y, dN q k = y := ⟨_, rfl⟩
      rw [hy] at hcd hst hdl hdp hbk
      obtain ⟨M, hM⟩ : ∃ M, x * y = M := ⟨_, rfl⟩
      have hm0 : 0 ≤ M := hM ▸ Int.mul_nonneg ho.1 (by omega)
      rw [hM] at hst
      obtain ⟨S, hS⟩ : ∃ S, numA q cs k = S := ⟨_, rfl⟩
      rw [hS] at hst hbk ⊢
      rw [hst] at hbk1
      have hs0 := hbk.1
      have hs1 : S ≤ 10000000000 := by omega
      have hsm : S + M ≤ 10000000000 := by omega
      have hw1 : wrap64 (x * y) = M := by rw [hM]; exact wrap_of (by omega) (by omega)
      have HST := Lib.hid hst
      have HK := Lib.hid hk
      have k0 : (0 : Int) ≤ (k : Int) := by omega
      clear hc hx hy hM hst hk hkm hc6 hbk hbk1 ho hS hdl1
      go_wp2
      go_roundg (m - k - 1)
      case rel => exact ⟨k + 1, by have := HK.out; omega, by go_num, by rw [HST.out], rfl⟩
      case measure => have := HK.out; omega
end Go.Proofs.Ytbdabpmpfciibaa
