/- The law NumeralPairs: its walk in every case. No condition. -/
import Derived.Test.YtbdabpmpfciibaaColdMath
namespace Go.Proofs.Ytbdabpmpfciibaa
open Go.RowKit
attribute [local go_sem] Oper.semAt_some

theorem uint_mod (x M : Int) (hM : 0 < M) : ∃ t, (IntKind.u64.wrap x).tmod M = t ∧ 0 ≤ t ∧ t < M := by
  have h0 : 0 ≤ IntKind.u64.wrap x := by simp [IntKind.wrap, IntKind.bits, IntKind.signed]; omega
  refine ⟨_, rfl, ?_, ?_⟩
  · rw [Int.tmod_eq_emod_of_nonneg h0]; exact Int.emod_nonneg _ (by omega)
  · rw [Int.tmod_eq_emod_of_nonneg h0]; exact Int.emod_lt_of_pos _ hM
theorem Pair_at {d a s : Int} (h0 : 0 ≤ d) (h1 : d ≤ 100000) (ha : coldA d = a) (hs : a + d = s) (w : World) :
    Calls Try.prog 40 #[.int .i64 d] w fun e w' => e = .returned (.tuple #[.agg #[.int .i64 a, .int .i64 s], .int .i64 0]) ∧ Below w.heap.size w w' := by
  have := Pair_yes d w h0 h1
  rw [ha, hs] at this
  exact this
theorem Cold_at {d a s : Int} (h0 : 1 ≤ d) (ha : coldA d = a) (hs : a + d = s) (h1 : 0 ≤ a) (h2 : s ≤ 1000000) (w : World) :
    Calls Try.prog 38 #[.int .i64 s, .int .i64 a] w fun e w' => e = .returned (.tuple #[.bool true, .int .i64 0]) ∧ Below w.heap.size w w' := by
  have h := Cold_any s a w
  have e1 : isHp s a = true := isHp_mk (by omega)
  have e2 : coldE s a = 0 := by unfold coldE; rw [if_pos e1]
  have e3 : coldV s a = true := by
    unfold coldV isCold cpA cpB
    rw [e1, if_pos (by omega), if_pos (by omega), show -(a - s) = d by omega, ha]
    simp
    omega
  rw [e2, e3] at h
  exact h

set_option maxHeartbeats 8000000 in
set_option maxRecDepth 100000 in
theorem lawPairs_even (x t n : Int) (w : World) (ht : (IntKind.u64.wrap x).tmod 100000 = t) (t0 : 0 ≤ t) (t1 : t < 100000) (hn : 1 + t = n) (he : lastF (enc n) % 2 = 0) :
    Calls Try.prog 14 #[.int .i64 x] w fun e w' => e = .returned (.bool true) ∧ Below w.heap.size w w' := by
  have hnum := isNum_mk (n := n) (by omega) (by omega)
  have n1 : 1 ≤ n := by omega
  have n2 : n ≤ 100000 := by omega
  obtain ⟨c1, c2, c3⟩ := cold_even n1 (by omega) he
  have hsv : shV n = shN n ∧ shE n = 0 := by
    have := near_num hnum
    rcases sh_vals n with ⟨g1, g2, -, -⟩ | ⟨-, -, g3⟩ | ⟨-, g3⟩
    · exact ⟨g2, g1⟩
    · omega
    · rw [hnum] at g3; cases g3
  obtain ⟨s, hs⟩ : ∃ s, shN n = s := ⟨_, rfl⟩
  rw [hs] at c1 c2 c3 hsv
  have hlast := enc_mem hnum
  have hlg := lastF_getD (enc n)
  have hne := enc_ne hnum n1
  have hlen := enc_len hnum
  have HNUM := Lib.hid hnum
  obtain ⟨L, hL⟩ : ∃ L, enc n = L := ⟨_, rfl⟩
  rw [hL] at he hlast hlg hne hlen
  have HL := Lib.hid hL
  have HSV := Lib.hid hsv
  have HNE := Lib.hid hne
  have HE := Lib.hid he
  have HLG := Lib.hid hlg
  have HLT := Lib.hid hlast
  have HP := Lib.hid (fun w => Pair_at (d := s - n) (a := n) (s := s) (by omega) (by omega) c3 (by omega) w)
  have HC := Lib.hid (fun w => Cold_at (d := s - n) (a := n) (s := s) (by omega) c3 (by omega) (by omega) (by omega) w)
  have hq := eql46
  have hgd := guard46
  clear hnum hsv hs hlast hlg hne hL he c3
  go_enter Try.func14, Try.ntmps14
  go_wp2_with fail
  refine (EncodeI n HNUM.out _).mono ?_
  rintro e w1 ⟨a, N, c, rfl, hi, hN, -, -, hb⟩
  rw [HL.out] at hi
  have HI := Lib.hid hi
  have HB := Lib.hid hb
  obtain ⟨j, rfl⟩ : ∃ j, N = j + 1 := ⟨N - 1, by
    have h1 := hi.1
    have h2 : L.length ≠ 0 := fun h => HNE.out (List.length_eq_zero_iff.1 h)
    omega⟩
  have hnz : ¬ ((j + 1 : Nat) : Int) = 0 := by omega
  have hnz2 : ¬ j + 1 = 0 := by omega
  have hidx : ((j + 1 : Nat) : Int) - 1 = (j : Int) := by omega
  have hj0 : (0 : Int) ≤ (j : Int) := by omega
  have hj1 : (j : Int) < ((j + 1 : Nat) : Int) := by omega
  have hj2 : j < j + 1 := by omega
  obtain ⟨b, off, rfl, hb2, hc⟩ := hi.at (by omega)
  have hcj := hc j (by omega)
  have hy := HLG.out
  have hll := hi.1
  rw [hll, Nat.add_sub_cancel] at hy
  have hbd := HLT.out j (by omega)
  rw [← hy] at hcj hbd
  obtain ⟨y, hyy⟩ : ∃ y, lastF L = y := ⟨_, rfl⟩
  have hpar := HE.out
  rw [hyy] at hcj hbd hpar
  obtain ⟨y0, y1⟩ := hbd
  have hpar2 : ¬ y % 2 = 1 := by omega
  clear hi hb hc hy hll hyy ht hn
  go_wp2_with fail
  refine (Shift_any n _).mono ?_
  rintro e w2 ⟨rfl, hb3⟩
  rw [HSV.out.1, HSV.out.2]
  have HB2 := Lib.hid (HB.out.trans (hb3.mono HB.out.size))
  clear hb3 hcj hpar
  go_wp2_with fail
  refine (HP.out _).mono ?_
  rintro e w3 ⟨rfl, hb4⟩
  have HB3 := Lib.hid (HB2.out.trans (hb4.mono HB2.out.size))
  clear hb4
  go_wp2_with fail
  refine (HC.out _).mono ?_
  rintro e w4 ⟨rfl, hb5⟩
  have d0 := (hb5.cell (p := ⟨w3.heap.size, 0, none⟩) (by simp)).trans (show (w3.alloc (.cells #[.int .i64 n, .int .i64 s] 46)).cell? ⟨w3.heap.size, 0, none⟩ = some (.int .i64 n) by simp)
  have d1 := (hb5.cell (p := ⟨w3.heap.size, 1, none⟩) (by simp)).trans (show (w3.alloc (.cells #[.int .i64 n, .int .i64 s] 46)).cell? ⟨w3.heap.size, 1, none⟩ = some (.int .i64 s) by simp)
  have HB4 := Lib.hid ((HB3.out.alloc HB3.out.size _).trans (hb5.mono (by have := HB3.out.size; simp; omega)))
  obtain ⟨g, hg⟩ : ∃ g, w3.heap.size = g := ⟨_, rfl⟩
  rw [hg] at d0 d1 ⊢
  clear hb5 hg
  go_wp2_with fail
  refine (awake_any _).mono ?_
  rintro e w5 ⟨rfl, hb6⟩
  have HB5 := Lib.hid (HB4.out.trans (hb6.mono HB4.out.size))
  clear hb6 d0 d1
  go_wp2
  go_ret
  exact ⟨rfl, HB5.out⟩

structure BK (w1 : World) (v : Value) (xs : List Int) (W : World) : Prop where
  b : Below w1.heap.size w1 W
  r : Row w1.heap.size v xs W

set_option maxHeartbeats 8000000 in
set_option maxRecDepth 100000 in
theorem lawPairs_odd (x t n : Int) (w : World) (ht : (IntKind.u64.wrap x).tmod 100000 = t) (t0 : 0 ≤ t) (t1 : t < 100000) (hn : 1 + t = n) (he : lastF (enc n) % 2 = 1) :
    Calls Try.prog 14 #[.int .i64 x] w fun e w' => e = .returned (.bool true) ∧ Below w.heap.size w w' := by
  have hnum := isNum_mk (n := n) (by omega) (by omega)
  have n1 : 1 ≤ n := by omega
  have n2 : n ≤ 100000 := by omega
  obtain ⟨hN, m1, mlt, hsm, hca⟩ := cold_odd n1 (by omega) he
  have htv : totV (upL (-1) (enc n)) = sumF (-1) (enc n) ∧ totE (upL (-1) (enc n)) = 0 := by
    rw [(tot_up (-1) (enc n)).1, (tot_up (-1) (enc n)).2]
    unfold szV szE
    rw [if_neg (by omega), if_neg (by omega)]
    exact ⟨rfl, rfl⟩
  obtain ⟨m, hm⟩ : ∃ m, sumF (-1) (enc n) = m := ⟨_, rfl⟩
  rw [hm] at m1 mlt hsm hca htv
  have hsv : shV m = n ∧ shE m = 0 := by
    unfold shV shE
    have hmn : isNum m = true := isNum_mk (by omega) (by omega)
    rw [if_pos hmn, if_pos hmn, hsm]
    unfold szV szE
    rw [if_neg (by omega), if_neg (by omega)]
    exact ⟨rfl, rfl⟩
  have hlast := enc_mem hnum
  have hlg := lastF_getD (enc n)
  have hne := enc_ne hnum n1
  have hlen := enc_len hnum
  have HNUM := Lib.hid hnum
  obtain ⟨L, hL⟩ : ∃ L, enc n = L := ⟨_, rfl⟩
  rw [hL] at he hlast hlg hne hlen hN htv
  have HL := Lib.hid hL
  have HSV := Lib.hid hsv
  have HNE := Lib.hid hne
  have HE := Lib.hid he
  have HLG := Lib.hid hlg
  have HLT := Lib.hid hlast
  have HNN := Lib.hid hN
  have HTV := Lib.hid htv
  have HP := Lib.hid (fun w => Pair_at (d := n - m) (a := m) (s := n) (by omega) (by omega) hca (by omega) w)
  have HC := Lib.hid (fun w => Cold_at (d := n - m) (a := m) (s := n) (by omega) hca (by omega) (by omega) (by omega) w)
  have hq := eql46
  have hgd := guard46
  clear hnum hsv hlast hlg hne hL he hca hN htv hsm hm
  go_enter Try.func14, Try.ntmps14
  go_wp2_with fail
  refine (EncodeI n HNUM.out _).mono ?_
  rintro e w1 ⟨a, N, c, rfl, hi, hN, -, -, hb⟩
  rw [HL.out] at hi
  have HI := Lib.hid hi
  have HB := Lib.hid hb
  obtain ⟨j, hjj⟩ : ∃ j, N = j + 1 := ⟨N - 1, by
    have h1 := hi.1
    have h2 : L.length ≠ 0 := fun h => HNE.out (List.length_eq_zero_iff.1 h)
    omega⟩
  have hnz : ¬ (N : Int) = 0 := by omega
  have hnb : ((N : Int) == 0) = false := by simp; omega
  have hnz2 : ¬ N = 0 := by omega
  have hidx : (N : Int) - 1 = (j : Int) := by omega
  have hj0 : (0 : Int) ≤ (j : Int) := by omega
  have hj1 : (j : Int) < (N : Int) := by omega
  have hj2 : j < N := by omega
  obtain ⟨b, off, rfl, hb2, hc⟩ := hi.at (by omega)
  have hcj := hc j (by omega)
  have hy := HLG.out
  have hll := hi.1
  rw [hll, hjj, Nat.add_sub_cancel] at hy
  have hbd := HLT.out j (by omega)
  rw [← hy] at hcj hbd
  obtain ⟨y, hyy⟩ : ∃ y, lastF L = y := ⟨_, rfl⟩
  have hpar := HE.out
  rw [hyy] at hcj hbd hpar
  obtain ⟨y0, y1⟩ := hbd
  have HLL := Lib.hid hll
  have HCC := Lib.hid (And.intro hb2 hc)
  clear hi hb hc hy hll hyy ht hn hjj
  go_wp2
  clear hcj hpar
  go_loopg [6, 41] N (fun gk v i wr => ∃ (k : Nat), k + gk = N ∧ i = .int .i64 (k : Int) ∧ BK w1 v (upL (-1) (L.take k)) wr)
  case atStart => exact ⟨0, by omega, rfl, ⟨Below.refl _ _, Row.nil _ _⟩⟩
  case round =>
    obtain ⟨k, hk, rfl, hs⟩ := hrel
    have HS := Lib.hid hs
    clear hs
    by_cases hkn : k = N
    · have hge : ¬ (k : Int) < (N : Int) := by omega
      have hge2 : ¬ k < N := by omega
      have hr := HS.out.r
      rw [List.take_of_length_le (by have := HLL.out; omega)] at hr
      obtain ⟨a6, c6, rfl, hi6, -, -⟩ := hr.form
      rw [upL_len, HLL.out] at hi6 ⊢
      have HI6 := Lib.hid hi6
      have HBB := Lib.hid (HB.out.trans (HS.out.b.mono HB.out.size))
      obtain ⟨W1, hW1⟩ : ∃ W1, wr = W1 := ⟨_, rfl⟩
      rw [hW1] at HI6 HBB ⊢
      clear hkn hr hi6 hk HS hW1
      go_wp2_with fail
      refine (Value_yes a6 N c6 _ _ HI6.out (by omega) HNN.out).mono ?_
      rintro e w1b ⟨rfl, hb1⟩
      rw [HTV.out.1, HTV.out.2]
      have HB1 := Lib.hid (HBB.out.trans (hb1.mono HBB.out.size))
      clear hb1
      go_wp2_with fail
      refine (Shift_any m _).mono ?_
      rintro e w2 ⟨rfl, hb3⟩
      rw [HSV.out.1, HSV.out.2]
      have HB2 := Lib.hid (HB1.out.trans (hb3.mono HB1.out.size))
      clear hb3
      go_wp2_with fail
      refine (HP.out _).mono ?_
      rintro e w3 ⟨rfl, hb4⟩
      have HB3 := Lib.hid (HB2.out.trans (hb4.mono HB2.out.size))
      clear hb4
      go_wp2_with fail
      refine (HC.out _).mono ?_
      rintro e w4 ⟨rfl, hb5⟩
      have hne2 : ¬ n = m := by omega
      have d0 := (hb5.cell (p := ⟨w3.heap.size, 0, none⟩) (by simp)).trans (show (w3.alloc (.cells #[.int .i64 m, .int .i64 n] 46)).cell? ⟨w3.heap.size, 0, none⟩ = some (.int .i64 m) by simp)
      have d1 := (hb5.cell (p := ⟨w3.heap.size, 1, none⟩) (by simp)).trans (show (w3.alloc (.cells #[.int .i64 m, .int .i64 n] 46)).cell? ⟨w3.heap.size, 1, none⟩ = some (.int .i64 n) by simp)
      have HB4 := Lib.hid ((HB3.out.alloc HB3.out.size _).trans (hb5.mono (by have := HB3.out.size; simp; omega)))
      obtain ⟨g, hg⟩ : ∃ g, w3.heap.size = g := ⟨_, rfl⟩
      rw [hg] at d0 d1 ⊢
      clear hb5 hg
      go_wp2_with fail
      refine (awake_any _).mono ?_
      rintro e w5 ⟨rfl, hb6⟩
      have HB5 := Lib.hid (HB4.out.trans (hb6.mono HB4.out.size))
      clear hb6 d0 d1
      go_wp2
      go_ret
      exact ⟨rfl, HB5.out⟩
    · have hlt : (k : Int) < (N : Int) := by omega
      have hlt2 : k < N := by omega
      have hck := (HS.out.b.cell (p := ⟨b, off + k, none⟩) HCC.out.1).trans (HCC.out.2 k hlt2)
      have hbd2 := HLT.out k (by have := HLL.out; omega)
      have htk := take_succ_getD (l := L) (k := k) (by have := HLL.out; omega)
      obtain ⟨z, hz⟩ : ∃ z, L.getD k 0 = z := ⟨_, rfl⟩
      rw [hz] at hck hbd2 htk
      have hup : upL (-1) (L.take (k + 1)) = upL (-1) (L.take k) ++ [z - 1] := by
        rw [htk]; unfold upL; rw [List.map_append]; rfl
      have HUP := Lib.hid hup
      have HK := Lib.hid hk
      have k0 : (0 : Int) ≤ (k : Int) := by omega
      obtain ⟨i0, hi, hz0, hz1, hz2⟩ := info_parts info3
      have hr := HS.out.r
      have hsz := HS.out.b.size
      have hll : (upL (-1) (L.take k)).length ≤ 30 := by rw [upL_len, List.length_take]; omega
      obtain ⟨M, hM⟩ : ∃ M, upL (-1) (L.take k) = M := ⟨_, rfl⟩
      rw [hM] at hr hll HUP
      clear hup htk hz hk hkn hM
      go_wp2_with (at_builtin; refine wpList_append_own _ rfl _ _ 22 rfl w1.heap.size 3 i0 (.int .i64 0) 1 8 Try.underlying22 hi hz0 hz1 hz2 rfl (by decide) _ _ _ rfl (World.ownsRow.alloc (h := hr) _) ⟨wr.heap.size, 0, none⟩ 1 1 [.int .i64 (z - 1)] rfl rfl (cell_one_new _ _ _) (by simp [Value.oneCell']) (by unfold maxLen; omega) (by omega) (by simp; omega) ?_; intro v' w3 hown' hgrow _)
      have HBK : BK w1 v' (M ++ [z - 1]) w3 := by
        refine ⟨(HS.out.b.alloc (by omega) _).grown hgrow (by simp; omega) (fun j e => (hr.lt j e).1), ?_⟩
        unfold Row
        rw [List.length_append, List.map_append]
        exact hown'
      have H3 := Lib.hid HBK
      clear HBK hown' hgrow hr
      go_roundg (N - k - 1)
      case rel => exact ⟨k + 1, by have := HK.out; omega, by go_num, by rw [HUP.out]; exact H3.out⟩
      case measure => have := HK.out; omega

theorem lawPairs_any (x : Int) (w : World) :
    Calls Try.prog 14 #[.int .i64 x] w fun e w' => e = .returned (.bool true) ∧ Below w.heap.size w w' := by
  obtain ⟨t, ht, t0, t1⟩ := uint_mod x 100000 (by omega)
  by_cases he : lastF (enc (1 + t)) % 2 = 0
  · exact lawPairs_even x t (1 + t) w ht t0 t1 rfl he
  · exact lawPairs_odd x t (1 + t) w ht t0 t1 rfl (by omega)
end Go.Proofs.Ytbdabpmpfciibaa
