/- The law TopUnder: its walk in every case (written by tools/lawunder.py). No condition. -/
import Derived.Test.YtbdabpmpfciibaaPlConvergent
import Derived.Test.YtbdabpmpfciibaaLawAlong
namespace Go.Proofs.Ytbdabpmpfciibaa
open Go.RowKit
attribute [local go_sem] Oper.semAt_some

set_option maxHeartbeats 1000000 in
theorem codes_any (w : World) :
    Calls Try.prog 59 #[] w fun e w' => e = .returned (.bool true) ∧ Below w.heap.size w w' := by
  have hL := Encode_yes 4 rfl w
  rw [enc_4] at hL
  have HL := Lib.hid hL
  clear hL
  go_enter Try.func59, Try.ntmps59
  go_wp2_with fail
  refine HL.out.mono ?_
  rintro e w1 ⟨a, c, rfl, hr, hb⟩
  have HR := Lib.hid hr
  have HB := Lib.hid hb
  clear hr hb
  go_wp2_with fail
  have hlit := World.ownsRow_lit (base := w1.heap.size) (e := 3) (size := 1) w1 #[.int .i64 4, .int .i64 2] 2 (Nat.le_refl _) (by unfold maxLen; omega) rfl
  refine (equal_any _ _ 2 2 _ _ [4, 2] [4, 2] _ ((Ints.own HR.out).1.below ((Below.refl _ _).alloc (Nat.le_refl _) _)) (Ints.own (xs := [4, 2]) hlit).1 (by omega) (by omega)).mono ?_
  rintro e w2 ⟨rfl, q, rfl⟩
  clear hlit
  go_wp2
  go_ret
  exact ⟨rfl, below_drewN (HB.out.alloc HB.out.size _) q⟩

/-- The number of the period at place i, and the first i of them. -/
def qAt (d : Int) (i : Nat) : Int := pl.cfA d (i % pl.pL d + 1)
def qPre (d : Int) (i : Nat) : List Int := (List.range i).map (qAt d)
def uC (k : Nat) : List Int := (List.range (k + 1)).map fun i => if i = k then 1 else 0
theorem qPre_succ (d : Int) (i : Nat) : qPre d (i + 1) = qPre d i ++ [qAt d i] := by simp [qPre, List.range_succ]
theorem qPre_len (d : Int) (i : Nat) : (qPre d i).length = i := by simp [qPre]
theorem qPre_at {d : Int} {i j : Nat} (h : j < i) : (qPre d i).getD j 0 = qAt d j := by
  unfold qPre
  rw [List.getD_eq_getElem?_getD, List.getElem?_map, List.getElem?_range h]
  rfl
def small (d : Int) (i : Nat) : Bool := (List.range i).all fun j => decide (1 ≤ qAt d j) && decide (qAt d j ≤ 9)
theorem small_mk {d : Int} {i : Nat} (h : ∀ j, j < i → 1 ≤ qAt d j ∧ qAt d j ≤ 9) : small d i = true := by
  simp only [small, List.all_eq_true, List.mem_range, Bool.and_eq_true, decide_eq_true_eq]
  exact h
def chkU (d : Int) (k : Nat) : Bool := !pl.isD d || !small d (k + 1) || (if k = 0 ∧ qAt d 0 = 1 then decide (alE (qPre d (k + 1)) (uC k) = 2) else decide (alE (qPre d (k + 1)) (uC k) = 0) && decide (alV (qPre d (k + 1)) (uC k) = (pl.cvt d k).2.1) && decide ((pl.cvt d k).2.2 = 0))
theorem chkU_all : ∀ d : Fin 101, ∀ k : Fin 10, chkU (d.val : Int) k.val = true := by decide +kernel
theorem under_facts {d : Int} {k : Nat} (hd : pl.isD d = true) (hk : k < 10) (hs : small d (k + 1) = true) :
    ((k = 0 ∧ qAt d 0 = 1) → alE (qPre d (k + 1)) (uC k) = 2) ∧ (¬ (k = 0 ∧ qAt d 0 = 1) → alE (qPre d (k + 1)) (uC k) = 0 ∧ alV (qPre d (k + 1)) (uC k) = (pl.cvt d k).2.1 ∧ (pl.cvt d k).2.2 = 0) := by
  have hb := pl.isD_bd hd
  have h := chkU_all ⟨d.toNat, by omega⟩ ⟨k, hk⟩
  simp only [Int.toNat_of_nonneg (show 0 ≤ d by omega)] at h
  unfold chkU at h
  rw [hd, hs] at h
  by_cases hc : k = 0 ∧ qAt d 0 = 1
  · rw [if_pos hc] at h
    simp at h
    exact ⟨fun _ => h, fun hn => absurd hc hn⟩
  · rw [if_neg hc] at h
    simp only [Bool.not_true, Bool.false_or, Bool.and_eq_true, decide_eq_true_eq] at h
    exact ⟨fun hp => absurd hp hc, fun _ => ⟨h.1.1, h.1.2, h.2⟩⟩
def cfl (d : Int) (k : Nat) : List Int := (List.range k).map (pl.cfA d)
theorem cfl_row (d : Int) (k : Nat) : pl.cfRow d k = (cfl d k).map (Value.int .i64) := by
  unfold pl.cfRow cfl
  rw [List.map_map]
  rfl
theorem cfl_at {d : Int} {k j : Nat} (h : j < k) : (cfl d k).getD j 0 = pl.cfA d j := by
  unfold cfl
  rw [List.getD_eq_getElem?_getD, List.getElem?_map, List.getElem?_range h]
  rfl

set_option maxHeartbeats 4000000 in
theorem lawUnder_no (d k : Int) (w : World) (hd : pl.isD d = false) :
    Calls Try.prog 18 #[.int .i64 d, .int .i64 k] w fun e w' => e = .returned (.bool true) ∧ Below w.heap.size w w' := by
  have HE := Lib.hid (pl.Expand_no d hd w)
  clear hd
  go_enter Try.func18, Try.ntmps18
  go_wp2_with fail
  refine HE.out.mono ?_
  rintro e w' ⟨rfl, rfl⟩
  go_wp2_with fail
  refine (codes_any _).mono ?_
  rintro e w1 ⟨rfl, hb⟩
  have HB := Lib.hid hb
  clear hb
  go_wp2
  go_ret
  exact ⟨rfl, HB.out⟩

structure QS (w1 : World) (v : Value) (xs : List Int) (W : World) : Prop where
  b : Below w1.heap.size w1 W
  r : Row w1.heap.size v xs W
theorem uC_cells (K M : Nat) (h : K + 1 = M) (f : Nat → Int) (hf : ∀ j, j < M → f j = if j = K then 1 else 0) : ((List.range M).map fun j : Nat => Value.int .i64 (f j)) = (uC K).map (Value.int .i64) := by
  subst h
  unfold uC
  rw [List.map_map]
  apply List.map_congr_left
  intro j hj
  rw [hf j (List.mem_range.1 hj)]
  rfl
theorem uC_at {K j : Nat} (h : j < K) : (uC K).getD j 0 = 0 := by
  unfold uC
  rw [List.getD_eq_getElem?_getD, List.getElem?_map, List.getElem?_range (by omega)]
  simp; omega

set_option maxHeartbeats 16000000 in
set_option maxRecDepth 100000 in
theorem lawUnder_yes (d x : Int) (K : Nat) (w : World) (hd : pl.isD d = true) (ht : (IntKind.u64.wrap x).tmod 10 = (K : Int)) (hK : K < 10) :
    Calls Try.prog 18 #[.int .i64 d, .int .i64 x] w fun e w' => e = .returned (.bool true) ∧ Below w.heap.size w w' := by
  obtain ⟨pa, pb, -, -⟩ := pl.p_all hd
  have HE := Lib.hid (pl.Expand_yes d hd w)
  have HD := Lib.hid hd
  have HUF := Lib.hid (fun hs => under_facts (d := d) (k := K) hd hK hs)
  have HCV := Lib.hid (fun w => pl.Convergent_yes d hd K (by omega) w)
  obtain ⟨p, hp⟩ : ∃ p, pl.pL d = p := ⟨_, rfl⟩
  rw [hp] at pa pb HE
  have HP := Lib.hid hp
  obtain ⟨M, hM⟩ : ∃ M, K + 1 = M := ⟨_, rfl⟩
  have hKM : (K : Int) + 1 = (M : Int) := by omega
  have K0 : (0 : Int) ≤ (K : Int) := by omega
  have K9 : (K : Int) ≤ 9 := by omega
  have HM := Lib.hid hM
  have KM1 : K < M := by omega
  have KM2 : (K : Int) < (M : Int) := by omega
  have M10 : M ≤ 10 := by omega
  have M0 : (0 : Int) ≤ (M : Int) := by omega
  clear hd hp hM
  go_enter Try.func18, Try.ntmps18
  go_wp2_with fail
  refine HE.out.mono ?_
  rintro e w1 ⟨v1, rfl, ho1, hb1⟩
  obtain ⟨g1, c1, rfl⟩ := own_form ho1 (by omega)
  rw [cfl_row] at ho1
  have HI1 := Lib.hid (Ints.own ho1).1
  have HB1 := Lib.hid hb1
  obtain ⟨P1, hP1⟩ : ∃ P1, p + 1 = P1 := ⟨_, rfl⟩
  rw [hP1] at HI1 ⊢
  have HP1 := Lib.hid hP1
  have g2 : ¬ (P1 : Int) < 2 := by omega
  have g3 : ¬ P1 < 2 := by omega
  have g4 : (P1 : Int) - 1 = (p : Int) := by omega
  have g5 : ¬ (p : Int) = 0 := by omega
  have g6 : (0 : Int) ≤ (p : Int) := by omega
  clear ho1 hb1 hP1 HE
  go_wp2_with fail
  refine (pl.Valid_any d _).mono ?_
  rintro e w' ⟨rfl, rfl⟩
  rw [HD.out]
  go_wp2
  clear ht
  go_loopg [7, 8, 9, 41] M (fun gk v u8 u9 i wr => ∃ (j : Nat), j + gk = M ∧ i = .int .i64 (j : Int) ∧ QS w1 v (qPre d j) wr ∧ (∀ i, i < j → 1 ≤ qAt d i ∧ qAt d i ≤ 9))
  case atStart => exact ⟨0, by omega, rfl, ⟨Below.refl _ _, Row.nil _ _⟩, fun i hi => by omega⟩
  case round =>
    obtain ⟨j, hj, rfl, hs, hall⟩ := hrel
    have HS := Lib.hid hs
    have HALL := Lib.hid hall
    clear hs hall
    by_cases hjM : j = M
    · have hge : ¬ (j : Int) < (M : Int) := by omega
      have hge2 : ¬ j < M := by omega
      have hr := HS.out.r
      rw [hjM] at hr
      obtain ⟨a6, c6, rfl, hi6, -, -⟩ := hr.form
      rw [qPre_len] at hi6 ⊢
      have HQ := Lib.hid hi6
      have hsm : small d (K + 1) = true := by rw [HM.out]; exact small_mk (fun i hi => HALL.out i (by omega))
      have HF := Lib.hid (HUF.out hsm)
      rw [HM.out] at HF
      have HB6 := Lib.hid (HB1.out.trans (HS.out.b.mono HB1.out.size))
      obtain ⟨W6, hW6⟩ : ∃ W6, wr = W6 := ⟨_, rfl⟩
      rw [hW6] at HQ HB6 ⊢
      obtain ⟨i0, hi, hz0, hz1, hz2⟩ := info_parts info3
      clear hjM hj hr hi6 hsm HS HALL hW6 HUF
      go_wp2_with (at_make; refine wpList_make_full _ rfl _ _ 22 rfl W6.heap.size 3 i0 (.int .i64 0) 1 Try.underlying22 hi hz0 hz1 _ _ _ _ M rfl rfl (by omega) (by omega) (by rw [hz2]; omega) (by unfold maxLen; omega) (Nat.le_refl _) ?_; intro w7 hown hgrow; have S0 := CoState.made hown ((Below.refl W6.heap.size W6).grown hgrow (Nat.le_refl _) (fun k e => by cases e)); have HS0 := Lib.hid S0; have hcg := S0.cell (j := K) KM1; have hfg := S0.frozen K; obtain ⟨g, hg⟩ : (∃ g, W6.heap.size = g) := ⟨_, rfl⟩; rw [hg] at HS0 hcg hfg ⊢; have HG := Lib.hid hg; clear S0 hown hgrow hg hi hz0 hz1 hz2)
      have HS7 := Lib.hid (HS0.out.put K 1)
      obtain ⟨W7, hW7⟩ : ∃ W7, w7.setCell ⟨g, K, none⟩ (.int .i64 1) = W7 := ⟨_, rfl⟩
      rw [hW7] at HS7 ⊢
      have ho7 := HS7.out.own
      rw [uC_cells K M HM.out _ (fun j hj => by simp)] at ho7
      have HC7 := Lib.hid (Ints.own ho7).1
      have HQ7 := Lib.hid (HQ.out.below HS7.out.b)
      have HB7 := Lib.hid (HB6.out.trans (HS7.out.b.mono HB6.out.size))
      clear ho7 hcg hfg hW7 HS7 HS0
      obtain ⟨Cq, hCq⟩ : ∃ Cq, pl.cvt d K = Cq := ⟨_, rfl⟩
      rw [hCq] at HCV HF
      clear hCq
      go_wp2_with fail
      refine (HCV.out _).mono ?_
      rintro e w8 ⟨rfl, hb8⟩
      have HC8 := Lib.hid (HC7.out.below hb8)
      have HQ8 := Lib.hid (HQ7.out.below hb8)
      have HB8 := Lib.hid (HB7.out.trans (hb8.mono HB7.out.size))
      clear hb8 HC7 HQ7 HB7
      go_wp2_with fail
      refine (Along_any a6 (some ⟨g, 0, none⟩) M c6 M M (qPre d M) (uC K) _ HQ8.out HC8.out (by omega) (by omega)).mono ?_
      rintro e w9 ⟨rfl, hb9⟩
      have HC9 := Lib.hid (HC8.out.below hb9)
      have HQ9 := Lib.hid (HQ8.out.below hb9)
      have HB := Lib.hid (HB8.out.trans (hb9.mono HB8.out.size))
      clear hb9 HC8 HQ8 HB8
      obtain ⟨bq, oq, rfl, hbq, hcq⟩ := HQ9.out.at (by omega)
      by_cases hK0 : K = 0
      · have q0 := hcq 0 (by omega)
        rw [Nat.add_zero, qPre_at (by omega)] at q0
        have kb1 : ((K : Int) == 0) = true := by simp; omega
        have kb2 : ¬ (0 : Int) < (K : Int) := by omega
        have M0' : (0 : Int) < (M : Int) := by omega
        have M0'' : 0 < M := by omega
        by_cases h1 : qAt d 0 = 1
        · have hF := HF.out.1 ⟨hK0, h1⟩
          rw [h1] at q0
          rw [hF]
          obtain ⟨V, hV⟩ : ∃ V, alV (qPre d M) (uC K) = V := ⟨_, rfl⟩
          rw [hV]
          clear hcq hK0 h1 hF hV
          go_wp2_with fail
          refine (codes_any _).mono ?_
          rintro e w9 ⟨rfl, hb9⟩
          have HB9 := Lib.hid (HB.out.trans (hb9.mono HB.out.size))
          clear hb9
          go_wp2
          go_ret
          exact ⟨rfl, HB9.out⟩
        · obtain ⟨hF1, hF2, hF3⟩ := HF.out.2 (fun hh => h1 hh.2)
          obtain ⟨y, hy⟩ : ∃ y, qAt d 0 = y := ⟨_, rfl⟩
          rw [hy] at q0 h1
          have yb : (y == 1) = false := by simp [h1]
          rw [hF1, hF2, hF3]
          obtain ⟨U, hU⟩ : ∃ U, Cq.2.1 = U := ⟨_, rfl⟩
          rw [hU]
          clear hcq hK0 hF1 hF2 hF3 hU hy
          go_wp2_with fail
          refine (codes_any _).mono ?_
          rintro e w9 ⟨rfl, hb9⟩
          have HB9 := Lib.hid (HB.out.trans (hb9.mono HB.out.size))
          clear hb9
          go_wp2
          go_ret
          exact ⟨rfl, HB9.out⟩
      · have qK := hcq K KM1
        rw [qPre_at KM1] at qK
        obtain ⟨j, hjK⟩ : ∃ j, K = j + 1 := ⟨K - 1, by omega⟩
        have kb1 : ((K : Int) == 0) = false := by simp; omega
        have kb2 : (0 : Int) < (K : Int) := by omega
        have hidx : (K : Int) - 1 = (j : Int) := by omega
        have hj0 : (0 : Int) ≤ (j : Int) := by omega
        have hj1 : (j : Int) < (M : Int) := by omega
        have hj2 : j < M := by omega
        obtain ⟨bc, oc, hbc, hbcl, hcc⟩ := HC9.out.at (by omega)
        cases hbc
        have cj := hcc j hj2
        rw [uC_at (by omega), Nat.zero_add] at cj
        obtain ⟨hF1, hF2, hF3⟩ := HF.out.2 (fun hh => hK0 hh.1)
        rw [hF1, hF2, hF3]
        obtain ⟨U, hU⟩ : ∃ U, Cq.2.1 = U := ⟨_, rfl⟩
        rw [hU]
        obtain ⟨y, hy⟩ : ∃ y, qAt d K = y := ⟨_, rfl⟩
        rw [hy] at qK
        clear hcq hcc hK0 hF1 hF2 hF3 hU hy hjK
        by_cases h1 : y = 1
        · have yb : (y == 1) = true := by simp [h1]
          clear h1
          go_wp2_with fail
          refine (codes_any _).mono ?_
          rintro e w9 ⟨rfl, hb9⟩
          have HB9 := Lib.hid (HB.out.trans (hb9.mono HB.out.size))
          clear hb9
          go_wp2
          go_ret
          exact ⟨rfl, HB9.out⟩
        · have yb : (y == 1) = false := by simp [h1]
          clear h1
          go_wp2_with fail
          refine (codes_any _).mono ?_
          rintro e w9 ⟨rfl, hb9⟩
          have HB9 := Lib.hid (HB.out.trans (hb9.mono HB.out.size))
          clear hb9
          go_wp2
          go_ret
          exact ⟨rfl, HB9.out⟩
    · have hlt : (j : Int) < (M : Int) := by omega
      have hlt2 : j < M := by omega
      have j0 : (0 : Int) ≤ (j : Int) := by omega
      obtain ⟨r, hr⟩ : ∃ r, j % p = r := ⟨_, rfl⟩
      have hrp : r < p := hr ▸ Nat.mod_lt _ (by omega)
      have hmod : (j : Int) % (p : Int) = (r : Int) := by rw [← hr]; omega
      have hidx : 1 + (r : Int) = ((r + 1 : Nat) : Int) := by omega
      obtain ⟨s, hs⟩ : ∃ s, r + 1 = s := ⟨_, rfl⟩
      rw [hs] at hidx
      have s0 : (0 : Int) ≤ (s : Int) := by omega
      have s1 : (s : Int) < (P1 : Int) := by have := HP1.out; omega
      have s2 : s < P1 := by have := HP1.out; omega
      have r0 : (0 : Int) ≤ (r : Int) := by omega
      have r1 : (r : Int) ≤ 100 := by omega
      obtain ⟨b1, o1, hba, hbl1, hcc⟩ := HI1.out.at (by omega)
      cases hba
      have hcs := (HS.out.b.cell (p := ⟨g1, 0 + s, none⟩) hbl1).trans (hcc s s2)
      rw [cfl_at (by have := HP1.out; omega), Nat.zero_add] at hcs
      have hq : qAt d j = pl.cfA d s := by unfold qAt; rw [HP.out, hr, hs]
      have hps := qPre_succ d j
      rw [hq] at hps
      obtain ⟨y, hy⟩ : ∃ y, pl.cfA d s = y := ⟨_, rfl⟩
      rw [hy] at hcs hps hq
      have HPS := Lib.hid hps
      have HQY := Lib.hid hq
      have HJ := Lib.hid hj
      clear hr hs hcc hps hq hy hj hjM
      by_cases h1 : y < 1
      · have HB := Lib.hid (HB1.out.trans (HS.out.b.mono HB1.out.size))
        go_wp2_with fail
        refine (codes_any _).mono ?_
        rintro e w9 ⟨rfl, hb9⟩
        have HB9 := Lib.hid (HB.out.trans (hb9.mono HB.out.size))
        clear hb9
        go_wp2
        go_ret
        exact ⟨rfl, HB9.out⟩
      · by_cases h9 : 9 < y
        · have HB := Lib.hid (HB1.out.trans (HS.out.b.mono HB1.out.size))
          go_wp2_with fail
          refine (codes_any _).mono ?_
          rintro e w9 ⟨rfl, hb9⟩
          have HB9 := Lib.hid (HB.out.trans (hb9.mono HB.out.size))
          clear hb9
          go_wp2
          go_ret
          exact ⟨rfl, HB9.out⟩
        · obtain ⟨i0, hi, hz0, hz1, hz2⟩ := info_parts info3
          have hr := HS.out.r
          have hsz := HS.out.b.size
          have hll : (qPre d j).length ≤ 10 := by rw [qPre_len]; omega
          obtain ⟨L, hL⟩ : ∃ L, qPre d j = L := ⟨_, rfl⟩
          rw [hL] at hr hll HPS
          clear hL
          go_wp2_with (at_builtin; refine wpList_append_own _ rfl _ _ 22 rfl w1.heap.size 3 i0 (.int .i64 0) 1 8 Try.underlying22 hi hz0 hz1 hz2 rfl (by decide) _ _ _ rfl (World.ownsRow.alloc (h := hr) _) ⟨wr.heap.size, 0, none⟩ 1 1 [.int .i64 y] rfl rfl (cell_one_new _ _ _) (by simp [Value.oneCell']) (by unfold maxLen; omega) (by omega) (by simp; omega) ?_; intro v' w3 hown' hgrow _)
          have HQS : QS w1 v' (L ++ [y]) w3 := by
            refine ⟨(HS.out.b.alloc (by omega) _).grown hgrow (by simp; omega) (fun j e => (hr.lt j e).1), ?_⟩
            unfold Row
            rw [List.length_append, List.map_append]
            exact hown'
          have H3 := Lib.hid HQS
          clear HQS hown' hgrow hr
          go_roundg (M - j - 1)
          case rel =>
            refine ⟨j + 1, by have := HJ.out; omega, by go_num, by rw [HPS.out]; exact H3.out, fun i hi => ?_⟩
            by_cases hij : i = j
            · subst hij; rw [HQY.out]; omega
            · exact HALL.out i (by omega)
          case measure => have := HJ.out; omega

theorem lawUnder_any (d k : Int) (w : World) :
    Calls Try.prog 18 #[.int .i64 d, .int .i64 k] w fun e w' => e = .returned (.bool true) ∧ Below w.heap.size w w' := by
  by_cases hd : pl.isD d = true
  · obtain ⟨t, ht, t0, t1⟩ := uint_mod k 10 (by omega)
    obtain ⟨K, rfl⟩ : ∃ K : Nat, t = (K : Int) := ⟨t.toNat, by omega⟩
    exact lawUnder_yes d k K w hd ht (by omega)
  · exact lawUnder_no d k w (by simpa using hd)
end Go.Proofs.Ytbdabpmpfciibaa
