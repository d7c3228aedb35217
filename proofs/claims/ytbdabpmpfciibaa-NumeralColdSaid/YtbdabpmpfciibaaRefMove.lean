/- The walk of the reference's Move (written by tools/refmove.py). Condition: heaps are at most a million. -/
import Derived.Test.YtbdabpmpfciibaaMoveMath
namespace Go.Proofs.Ytbdabpmpfciibaa
open Go.RowKit
attribute [local go_sem] Oper.semAt_some

theorem own_but {B n s : Nat} {e : TypeId} {v : Value} {xs : List Value} {W W' : World} {bb : Nat} (h : W.ownsRow B e s v n xs) (ne : v.ownBlock ≠ some bb) (hk : ∀ k, k ≠ bb → W'.heap[k]? = W.heap[k]?) : W'.ownsRow B e s v n xs := by
  refine ⟨h.1, h.2.imp id ?_⟩
  rintro ⟨g, cap, cur, h1, h2, h3, h4⟩
  have hne : g ≠ bb := fun e => ne (by rw [h1, e]; rfl)
  exact ⟨g, cap, cur, h1, h2, (hk g hne).trans h3, h4⟩

/-- The worlds of the scan. -/
structure MV (w : World) (g : Nat) (v : Value) (L : List (Int × Int)) (m : Int × Int) (W : World) : Prop where
  b : Below w.heap.size w W
  r : W.heap[w.heap.size]? = some (.cells #[.int .i64 0, .int .i64 0] 46 (0, 0))
  l : Row2 (w.heap.size + 1) v L W
  m : W.heap[g]? = some (.cells #[.int .i64 m.1, .int .i64 m.2] 46 (0, 0))
  hg : w.heap.size < g
  ne : v.ownBlock ≠ some g
theorem MV.later {w W W' : World} {g : Nat} {v : Value} {L : List (Int × Int)} {m : Int × Int} (h : MV w g v L m W) (hb : Below W.heap.size W W') : MV w g v L m W' :=
  ⟨h.b.trans (hb.mono h.b.size), (hb.block _ (Array.getElem?_eq_some_iff.1 h.r).1).trans h.r, own_later h.l hb, (hb.block _ (Array.getElem?_eq_some_iff.1 h.m).1).trans h.m, h.hg, h.ne⟩
theorem MV.put {w W : World} {g : Nat} {v : Value} {L : List (Int × Int)} {m : Int × Int} (h : MV w g v L m W) (x y : Int) : MV w g v L (x, y) (W.setRow g #[.int .i64 x, .int .i64 y]) :=
  ⟨below_setRow h.b (Nat.le_of_lt h.hg) _, (setRow_other _ _ _ _ (by have := h.hg; omega)).trans h.r, own_but h.l h.ne (fun k hk => setRow_other _ _ _ _ hk), setRow_heap W g _ _ 46 (0, 0) h.m, h.hg, h.ne⟩

set_option maxHeartbeats 16000000 in
set_option maxRecDepth 100000 in
theorem refMove_any (a b : Int) (w : World) (h : isHp a b = true) :
    Calls Try.prog 43 #[.int .i64 a, .int .i64 b] w fun e w' => e = .returned (.tuple #[.agg #[.int .i64 (moveV a b).1, .int .i64 (moveV a b).2], .int .i64 (moveE a b)]) ∧ Below w.heap.size w w' := by
  have hc := refCold_any a b
  have HP := Lib.hid (PX.start w)
  have HCD := Lib.hid (fun w => hc w h)
  by_cases hcold : isCold a b = true
  · have h1 : moveV a b = (0, 0) := by unfold moveV; rw [if_pos h, if_pos hcold]
    have h2 : moveE a b = 4 := by unfold moveE; rw [if_pos h, if_pos hcold]
    rw [h1, h2]
    rw [hcold] at HCD
    clear h hcold h1 h2 hc
    go_enter Try.func43, Try.ntmps43
    go_wp2_with fail
    refine (HCD.out _).mono ?_
    rintro e w1 ⟨rfl, hb⟩
    have HP1 := Lib.hid (HP.out.later hb)
    clear hb
    go_wp2_with (refine wpList_store_row rfl 46 (.tmp 4) (.tmp 15) rfl w.heap.size #[.int .i64 0, .int .i64 0] #[.int .i64 0, .int .i64 0] rfl rfl HP1.out.h info46 rfl (one_pair _ _) ?_)
    refine bodyPost_ret (v := .tuple #[.agg #[.int .i64 0, .int .i64 0], .int .i64 4]) ?_ rfl ⟨rfl, below_setRow HP1.out.b (Nat.le_refl _) _⟩
    rw [results_cell_tmp (fn := Try.f43) Try.results43]
    exact move_back _ w.heap.size 0 0 4 { tmps := #[], defers := [] } (setRow_heap w1 w.heap.size _ _ 46 (0, 0) HP1.out.h)
  · have hw : isCold a b = false := by simpa using hcold
    have h1 : moveV a b = bestF a b := by unfold moveV; rw [if_pos h, if_neg hcold]
    have h2 : moveE a b = 0 := by unfold moveE; rw [if_pos h, if_neg hcold]
    rw [h1, h2]
    rw [hw] at HCD
    obtain ⟨t1, t2, t3, t4⟩ := best_movL h hw
    have HBST := Lib.hid (fun n (e : n = takes a b) => by
      subst e
      exact pk_best t1 t2 (fun p hp hk => best_at h t3 hp hk) : ∀ n, n = takes a b → pk (movL a b n) (movL a b n).length = (true, bestF a b))
    have HNON := Lib.hid (fun n (hn : 1 ≤ n) (hl : n ≤ takes a b) (ne : ¬ n = takes a b) => pk_none (L := movL a b n) (fun p hp => none_before h hn (by omega) hp) _ (Nat.le_refl _))
    obtain ⟨a0, a1, b0, b1⟩ := isHp_yes h
    have HHP := Lib.hid (And.intro a1 b1)
    have HT4 := Lib.hid t4
    have ht : takes a b = ((takes a b).toNat : Int) := by omega
    have HTN := Lib.hid ht
    clear h hcold hw h1 h2 hc t1 t2 ht
    go_enter Try.func43, Try.ntmps43
    go_wp2_with fail
    refine (HCD.out _).mono ?_
    rintro e w1 ⟨rfl, hb⟩
    have HP1 := Lib.hid (HP.out.later hb)
    clear hb HP HCD
    go_wp2
    go_loopg [6, 7, 8, 9, 11, 47] ((takes a b).toNat - 1) (fun gk s6 u7 u8 u9 u11 u47 wr => ∃ (n : Int), s6 = .int .i64 n ∧ 1 ≤ n ∧ n + (gk : Int) = takes a b ∧ Below w.heap.size w wr ∧ wr.heap[w.heap.size]? = some (.cells #[.int .i64 0, .int .i64 0] 46 (0, 0)))
    case atStart => exact ⟨1, rfl, by omega, by have := HTN.out; omega, HP1.out.b, HP1.out.h⟩
    case round =>
      obtain ⟨n, rfl, n0, hgk, hb, hr⟩ := hrel
      clear HP1
      have n1 : n ≤ 2000000 := by have := HT4.out; omega
      have HGE := Lib.hid n0
      have HBEST := Lib.hid (HBST.out n)
      have HNONE := Lib.hid (fun e => HNON.out n n0 (by omega) e)
      have HGK := Lib.hid hgk
      have hwa : IntKind.i64.wrap (a - n) = a - n := by simp [IntKind.wrap, IntKind.bits, IntKind.signed]; omega
      have hwb : IntKind.i64.wrap (b - n) = b - n := by simp [IntKind.wrap, IntKind.bits, IntKind.signed]; omega
      obtain ⟨gk0, hgk0⟩ : ∃ gk0, gk = gk0 := ⟨_, rfl⟩
      rw [hgk0] at HGK
      have HGK0 := Lib.hid hgk0
      obtain ⟨W0, hW0⟩ : ∃ W0, wr = W0 := ⟨_, rfl⟩
      rw [hW0] at hb hr ⊢
      clear hW0
      have hgr : w.heap.size < W0.heap.size := (Array.getElem?_eq_some_iff.1 hr).1
      have hbox := (Below.refl W0.heap.size W0).alloc (Nat.le_refl _) (.cells #[.int .i64 0, .int .i64 0] 46)
      have hbh := heap_alloc_last W0 (.cells #[.int .i64 0, .int .i64 0] 46)
      have hW1 := hb.trans (hbox.mono hb.size)
      have hr1 := (hbox.block _ (Array.getElem?_eq_some_iff.1 hr).1).trans hr
      have hs1 : (W0.alloc (.cells #[.int .i64 0, .int .i64 0] 46)).heap.size = W0.heap.size + 1 := by simp
      have hl2 := World.ownsRow_lit (base := W0.heap.size + 1) (e := 46) (size := 2) (W0.alloc (.cells #[.int .i64 0, .int .i64 0] 46)) #[.int .i64 (a - n), .int .i64 b, .int .i64 a, .int .i64 (b - n)] 2 (by omega) (by unfold maxLen; omega) rfl
      have hbx2 := (Below.refl (W0.alloc (.cells #[.int .i64 0, .int .i64 0] 46)).heap.size (W0.alloc (.cells #[.int .i64 0, .int .i64 0] 46))).alloc (Nat.le_refl _) (.cells #[.int .i64 (a - n), .int .i64 b, .int .i64 a, .int .i64 (b - n)] 46)
      have hW2 := hW1.trans (hbx2.mono hW1.size)
      have hr2 := (hbx2.block _ (by rw [hs1]; omega)).trans hr1
      have hm2 := (hbx2.block W0.heap.size (by rw [hs1]; omega)).trans hbh
      rw [hs1] at hl2
      clear hbox hbh hW1 hr1 hbx2 hb hr hgk hgk0
      by_cases hpar : n % 2 = 0
      · have htm : n.tmod 2 = 0 := by rw [Int.tmod_eq_emod_of_nonneg (by omega)]; exact hpar
        have htd : n.tdiv 2 = n / 2 := Int.tdiv_eq_ediv_of_nonneg (by omega)
        obtain ⟨q, hq⟩ : ∃ q, n / 2 = q := ⟨_, rfl⟩
        rw [hq] at htd
        have q0 : 0 ≤ q := by omega
        have q1 : q ≤ 1000000 := by omega
        have hmv : movL a b n = [(a - n, b), (a, b - n)] ++ [(a - q, b - q)] := by unfold movL; rw [if_pos hpar, hq]; rfl
        have hwc : IntKind.i64.wrap (a - q) = a - q := by simp [IntKind.wrap, IntKind.bits, IntKind.signed]; omega
        have hwd : IntKind.i64.wrap (b - q) = b - q := by simp [IntKind.wrap, IntKind.bits, IntKind.signed]; omega
        have HMV := Lib.hid hmv
        have HNN := Lib.hid (show (movL a b n).length = 3 by rw [hmv]; rfl)
        have hs2 : ((W0.alloc (.cells #[.int .i64 0, .int .i64 0] 46)).alloc (.cells #[.int .i64 (a - n), .int .i64 b, .int .i64 a, .int .i64 (b - n)] 46)).heap.size = W0.heap.size + 1 + 1 := by simp
        have hl1 := World.ownsRow_lit (base := W0.heap.size + 1) (e := 46) (size := 2) ((W0.alloc (.cells #[.int .i64 0, .int .i64 0] 46)).alloc (.cells #[.int .i64 (a - n), .int .i64 b, .int .i64 a, .int .i64 (b - n)] 46)) #[.int .i64 (a - q), .int .i64 (b - q)] 1 (by omega) (by unfold maxLen; omega) rfl
        have hbx3 := (Below.refl ((W0.alloc (.cells #[.int .i64 0, .int .i64 0] 46)).alloc (.cells #[.int .i64 (a - n), .int .i64 b, .int .i64 a, .int .i64 (b - n)] 46)).heap.size ((W0.alloc (.cells #[.int .i64 0, .int .i64 0] 46)).alloc (.cells #[.int .i64 (a - n), .int .i64 b, .int .i64 a, .int .i64 (b - n)] 46))).alloc (Nat.le_refl _) (.cells #[.int .i64 (a - q), .int .i64 (b - q)] 46)
        have hW3 := hW2.trans (hbx3.mono hW2.size)
        have hr3 := (hbx3.block _ (by rw [hs2]; omega)).trans hr2
        have hm3 := (hbx3.block W0.heap.size (by rw [hs2]; omega)).trans hm2
        have hl3 := World.ownsRow.alloc (h := hl2) (.cells #[.int .i64 (a - q), .int .i64 (b - q)] 46)
        rw [hs2] at hl1
        have hsz3 : W0.heap.size + 1 ≤ (((W0.alloc (.cells #[.int .i64 0, .int .i64 0] 46)).alloc (.cells #[.int .i64 (a - n), .int .i64 b, .int .i64 a, .int .i64 (b - n)] 46)).alloc (.cells #[.int .i64 (a - q), .int .i64 (b - q)] 46)).heap.size := by first | (simp; done) | (simp; omega)
        have HZ := Lib.hid (And.intro hl3 (And.intro hl1 (And.intro hW3 (And.intro hr3 (And.intro hm3 hsz3)))))
        have HG := Lib.hid hgr
        clear hpar hq hmv hl2 hW2 hr2 hm2 hgr hs1 HBST HNON hs2 hl1 hbx3 hW3 hr3 hm3 hl3 hsz3
        go_wp2_with (at_builtin; refine wpList_app2 rfl _ _ rfl (W0.heap.size + 1) (W0.heap.size + 1) _ _ [(a - n, b), (a, b - n)] [(a - q, b - q)] rfl HZ.out.1 rfl HZ.out.2.1 (by simp) HZ.out.2.2.2.2.2 ?_; intro v9 w9 hown hgrow; rw [← HMV.out] at hown; obtain ⟨a9, c9, hv9, -, -, -⟩ := hown.form; rw [HNN.out] at hv9; subst hv9; have HR9 := Lib.hid hown; have HG9 := Lib.hid hgrow; clear hown hgrow)
        have hM0 : MV w W0.heap.size (.slice a9 3 c9) (movL a b n) (0, 0) w9 :=
          ⟨HZ.out.2.2.1.grown HG9.out HZ.out.2.2.1.size (fun k e => by have e' : W0.heap.size + 1 = k := Option.some.inj e; have := HG.out; omega),
           (HG9.out.block w.heap.size (by have := HZ.out.2.2.2.2.2; have := HG.out; omega) (by intro e; have e' : w.heap.size = W0.heap.size + 1 := Option.some.inj (e : some w.heap.size = some (W0.heap.size + 1)); have := HG.out; omega)).trans HZ.out.2.2.2.1,
           own_mono HR9.out (by have := HG.out; omega),
           (HG9.out.block W0.heap.size (by have := HZ.out.2.2.2.2.2; omega) (by intro e; have e' : W0.heap.size = W0.heap.size + 1 := Option.some.inj (e : some W0.heap.size = some (W0.heap.size + 1)); omega)).trans HZ.out.2.2.2.2.1,
           HG.out, fun e => by have := (World.ownsRow.lt HR9.out _ e).1; omega⟩
        have HM0 := Lib.hid hM0
        obtain ⟨g, hg⟩ : ∃ g, W0.heap.size = g := ⟨_, rfl⟩
        rw [hg] at HM0 ⊢
        clear hM0 HZ HR9 HG9 hg

        go_loopg [8, 11, 47] 3 (fun gk s8 u11 i wr => ∃ (j : Nat), j + gk = 3 ∧ s8 = .bool (pk (movL a b n) j).1 ∧ i = .int .i64 (j : Int) ∧ MV w g (.slice a9 3 c9) (movL a b n) (pk (movL a b n) j).2 wr)
        case atStart => exact ⟨0, by omega, rfl, rfl, HM0.out⟩
        case round =>
          obtain ⟨j, hj, rfl, rfl, hm⟩ := hrel
          clear HM0
          have HM := Lib.hid hm
          have HJ := Lib.hid hj
          clear hm hj
          by_cases hjn : j = 3
          · have hge : ¬ (j : Int) < 3 := by omega
            have hge2 : ¬ j < 3 := by omega
            rw [hjn] at HM ⊢
            by_cases hT : n = takes a b
            · have hpk : pk (movL a b n) 3 = (true, bestF a b) := by rw [← HNN.out]; exact HBEST.out hT
              rw [hpk] at HM ⊢
              have HF := Lib.hid HM.out
              obtain ⟨X, hX⟩ : ∃ X, (bestF a b).1 = X := ⟨_, rfl⟩
              obtain ⟨Y, hY⟩ : ∃ Y, (bestF a b).2 = Y := ⟨_, rfl⟩
              have hbx := HF.out.m
              rw [hX, hY] at hbx
              have b0 : wr.cell? ⟨g, 0, none⟩ = some (.int .i64 X) := by unfold World.cell?; rw [hbx]; rfl
              have b1 : wr.cell? ⟨g, 1, none⟩ = some (.int .i64 Y) := by unfold World.cell?; rw [hbx]; rfl
              have HX := Lib.hid hX
              have HY := Lib.hid hY
              clear hpk hbx hX hY HM
              go_wp2_with (refine wpList_store_row rfl 46 (.tmp 4) (.tmp 80) rfl w.heap.size #[.int .i64 X, .int .i64 Y] #[.int .i64 0, .int .i64 0] rfl rfl HF.out.r info46 rfl (one_pair _ _) ?_)
              refine bodyPost_ret (v := .tuple #[.agg #[.int .i64 X, .int .i64 Y], .int .i64 0]) ?_ rfl ⟨by rw [HX.out, HY.out], below_setRow HF.out.b (Nat.le_refl _) _⟩
              rw [results_cell_tmp (fn := Try.f43) Try.results43]
              exact move_back _ w.heap.size X Y 0 { tmps := #[], defers := [] } (setRow_heap wr w.heap.size _ _ 46 (0, 0) HF.out.r)
            · have hpk : pk (movL a b n) 3 = (false, (0, 0)) := by rw [← HNN.out]; exact HNONE.out hT
              rw [hpk] at HM ⊢
              have HF := Lib.hid (And.intro HM.out.b HM.out.r)
              have hTT : n < takes a b := by have := HGK.out; omega
              clear hpk HM
              go_wp2
              go_roundg (gk0 - 1)
              case rel => exact ⟨n + 1, by go_num, by omega, by have := HGK.out; omega, HF.out.1, HF.out.2⟩
              case measure => have := HGK.out; have := HGK0.out; omega
          · have hlt2 : j < 3 := by have := HJ.out; omega
            have hlt : (j : Int) < 3 := by omega
            have j0 : (0 : Int) ≤ (j : Int) := by omega
            have hjl : j < (movL a b n).length := by rw [HNN.out]; exact hlt2
            obtain ⟨g9, rfl, hg9⟩ : ∃ g9, a9 = some ⟨g9, 0, none⟩ ∧ g9 ≠ g := by
              obtain ⟨a8, c8, e8, -, -, h8⟩ := HM.out.l.form
              obtain rfl : a9 = a8 := by injection e8
              rcases h8 with ⟨-, h8⟩ | ⟨g9, h8, -, -⟩
              · rw [h8] at hjl; exact absurd hjl (by simp)
              · exact ⟨g9, h8, fun h => HM.out.ne (by rw [h8, h]; rfl)⟩
            have hcc := HM.out.l
            obtain ⟨c0, c1⟩ := Row2.cell hcc hjl
            obtain ⟨y0, y1⟩ := movL_bd HGE.out (nth2_mem hjl)
            have hbx := HM.out.m
            have hskip := fun h => pk_skip (L := movL a b n) (k := j) h
            have htake := fun h1 h2 => pk_take (L := movL a b n) (k := j) h1 h2
            have hleave := fun h1 h2 => pk_leave (L := movL a b n) (k := j) h1 h2
            have hokp : okP (nth2 (movL a b n) j) = (decide (0 ≤ (nth2 (movL a b n) j).1) && decide (0 ≤ (nth2 (movL a b n) j).2) && isCold (nth2 (movL a b n) j).1 (nth2 (movL a b n) j).2) := rfl
            obtain ⟨pr, hpr⟩ : ∃ pr, pk (movL a b n) j = pr := ⟨_, rfl⟩
            obtain ⟨f, mx, my⟩ := pr
            obtain ⟨x, hx⟩ : ∃ x, (nth2 (movL a b n) j).1 = x := ⟨_, rfl⟩
            obtain ⟨y, hy⟩ : ∃ y, (nth2 (movL a b n) j).2 = y := ⟨_, rfl⟩
            have hxy : nth2 (movL a b n) j = (x, y) := by rw [← hx, ← hy]
            rw [hpr] at hbx hskip htake hleave HM ⊢
            simp only at hbx hskip htake hleave HM ⊢
            rw [hx] at c0 y0 htake hleave hokp
            rw [hy] at c1 y1 hokp
            have HXY := Lib.hid hxy
            have HSK := Lib.hid hskip
            have HTK := Lib.hid htake
            have HLV := Lib.hid hleave
            have HOK := Lib.hid hokp
            have hb1 := (Below.refl wr.heap.size wr).alloc (Nat.le_refl _) (.cells #[.int .i64 x, .int .i64 y] 46)
            have HM1 := Lib.hid (HM.out.later hb1)
            clear hskip htake hleave hokp hbx hpr hx hy hxy hcc HM hjn
            by_cases hx0 : x < 0
            · have hsk := HSK.out (by rw [HOK.out, decide_eq_false (show ¬ 0 ≤ x by omega)]; rfl)
              have HK := Lib.hid hsk
              clear hsk
              go_wp2
              go_roundg (3 - j - 1)
              case rel => exact ⟨j + 1, by have := HJ.out; omega, by rw [HK.out], by go_num, by rw [HK.out]; exact HM1.out⟩
              case measure => have := HJ.out; omega
            · by_cases hy0 : y < 0
              · have hsk := HSK.out (by rw [HOK.out, decide_eq_false (show ¬ 0 ≤ y by omega), Bool.and_false]; rfl)
                have HK := Lib.hid hsk
                clear hsk
                go_wp2
                go_roundg (3 - j - 1)
                case rel => exact ⟨j + 1, by have := HJ.out; omega, by rw [HK.out], by go_num, by rw [HK.out]; exact HM1.out⟩
                case measure => have := HJ.out; omega
              · have hp : isHp x y = true := isHp_mk ⟨by omega, by have := HHP.out; omega, by omega, by have := HHP.out; omega⟩
                have HC := Lib.hid (fun w => refCold_any x y w hp)
                have hok2 := HOK.out
                rw [decide_eq_true (show 0 ≤ x by omega), decide_eq_true (show 0 ≤ y by omega), Bool.and_true, Bool.true_and] at hok2
                obtain ⟨cd, hcd⟩ : ∃ cd, isCold x y = cd := ⟨_, rfl⟩
                rw [hcd] at HC hok2
                have HOK2 := Lib.hid hok2
                clear hp hcd hok2 HOK
                go_wp2_with fail
                refine (HC.out _).mono ?_
                rintro e w5 ⟨rfl, hb5⟩
                have HM5 := Lib.hid (HM1.out.later hb5)
                have x0 := (hb5.cell (p := ⟨wr.heap.size, 0, none⟩) (by simp)).trans (show (wr.alloc (.cells #[.int .i64 x, .int .i64 y] 46)).cell? ⟨wr.heap.size, 0, none⟩ = some (.int .i64 x) by simp)
                have x1 := (hb5.cell (p := ⟨wr.heap.size, 1, none⟩) (by simp)).trans (show (wr.alloc (.cells #[.int .i64 x, .int .i64 y] 46)).cell? ⟨wr.heap.size, 1, none⟩ = some (.int .i64 y) by simp)
                have hbx := HM5.out.m
                simp only at hbx
                have b0 : w5.cell? ⟨g, 0, none⟩ = some (.int .i64 mx) := by unfold World.cell?; rw [hbx]; rfl
                have b1 : w5.cell? ⟨g, 1, none⟩ = some (.int .i64 my) := by unfold World.cell?; rw [hbx]; rfl
                have HBX := Lib.hid hbx
                clear hb5 hb1 HC hbx HM1
                cases cd with
                | false =>
                  have HK := Lib.hid (HSK.out HOK2.out)
                  go_wp2
                  go_roundg (3 - j - 1)
                  case rel => exact ⟨j + 1, by have := HJ.out; omega, by rw [HK.out], by go_num, by rw [HK.out]; exact HM5.out⟩
                  case measure => have := HJ.out; omega
                | true =>
                  cases f with
                  | false =>
                    have hk := HTK.out HOK2.out (.inl rfl)
                    rw [HXY.out] at hk
                    have HK := Lib.hid hk
                    clear hk
                    go_wp2_with (refine wpList_store_row rfl 46 (.tmp 7) (.tmp 77) rfl g #[.int .i64 x, .int .i64 y] #[.int .i64 mx, .int .i64 my] rfl rfl HBX.out info46 rfl (one_pair _ _) ?_)
                    have HM6 := Lib.hid (HM5.out.put x y)
                    go_roundg (3 - j - 1)
                    case rel => exact ⟨j + 1, by have := HJ.out; omega, by rw [HK.out], by go_num, by rw [HK.out]; exact HM6.out⟩
                    case measure => have := HJ.out; omega
                  | true =>
                    by_cases hlm : x < mx
                    · have hk := HTK.out HOK2.out (.inr hlm)
                      rw [HXY.out] at hk
                      have HK := Lib.hid hk
                      clear hk
                      go_wp2_with (refine wpList_store_row rfl 46 (.tmp 7) (.tmp 77) rfl g #[.int .i64 x, .int .i64 y] #[.int .i64 mx, .int .i64 my] rfl rfl HBX.out info46 rfl (one_pair _ _) ?_)
                      have HM6 := Lib.hid (HM5.out.put x y)
                      go_roundg (3 - j - 1)
                      case rel => exact ⟨j + 1, by have := HJ.out; omega, by rw [HK.out], by go_num, by rw [HK.out]; exact HM6.out⟩
                      case measure => have := HJ.out; omega
                    · have HK := Lib.hid (HLV.out rfl (by omega))
                      go_wp2
                      go_roundg (3 - j - 1)
                      case rel => exact ⟨j + 1, by have := HJ.out; omega, by rw [HK.out], by go_num, by rw [HK.out]; exact HM5.out⟩
                      case measure => have := HJ.out; omega


      · have htm : n.tmod 2 = 1 := by rw [Int.tmod_eq_emod_of_nonneg (by omega)]; omega
        have hmv : movL a b n = [(a - n, b), (a, b - n)] := by unfold movL; rw [if_neg hpar]
        have HNN := Lib.hid (show (movL a b n).length = 2 by rw [hmv]; rfl)
        have hM0 : MV w W0.heap.size (.slice (some ⟨W0.heap.size + 1, 0, none⟩) 2 2) (movL a b n) (0, 0) ((W0.alloc (.cells #[.int .i64 0, .int .i64 0] 46)).alloc (.cells #[.int .i64 (a - n), .int .i64 b, .int .i64 a, .int .i64 (b - n)] 46)) :=
          ⟨hW2, hr2, by rw [hmv]; exact own_mono hl2 (by omega), hm2, hgr, by intro e; have e' : W0.heap.size + 1 = W0.heap.size := Option.some.inj e; omega⟩
        have HM0 := Lib.hid hM0
        clear hpar hmv hl2 hW2 hr2 hm2 hgr hs1 HBST HNON hM0
        go_wp2
        obtain ⟨w9, hw9⟩ : ∃ w9, ((W0.alloc (.cells #[.int .i64 0, .int .i64 0] 46)).alloc (.cells #[.int .i64 (a - n), .int .i64 b, .int .i64 a, .int .i64 (b - n)] 46)) = w9 := ⟨_, rfl⟩
        rw [hw9] at HM0 ⊢
        obtain ⟨a9, ha9⟩ : ∃ a9, (some ⟨W0.heap.size + 1, 0, none⟩ : Option Addr) = a9 := ⟨_, rfl⟩
        rw [ha9] at HM0 ⊢
        obtain ⟨g, hg⟩ : ∃ g, W0.heap.size = g := ⟨_, rfl⟩
        rw [hg] at HM0 ⊢
        clear hw9 ha9 hg

        go_loopg [8, 11, 47] 2 (fun gk s8 u11 i wr => ∃ (j : Nat), j + gk = 2 ∧ s8 = .bool (pk (movL a b n) j).1 ∧ i = .int .i64 (j : Int) ∧ MV w g (.slice a9 2 2) (movL a b n) (pk (movL a b n) j).2 wr)
        case atStart => exact ⟨0, by omega, rfl, rfl, HM0.out⟩
        case round =>
          obtain ⟨j, hj, rfl, rfl, hm⟩ := hrel
          clear HM0
          have HM := Lib.hid hm
          have HJ := Lib.hid hj
          clear hm hj
          by_cases hjn : j = 2
          · have hge : ¬ (j : Int) < 2 := by omega
            have hge2 : ¬ j < 2 := by omega
            rw [hjn] at HM ⊢
            by_cases hT : n = takes a b
            · have hpk : pk (movL a b n) 2 = (true, bestF a b) := by rw [← HNN.out]; exact HBEST.out hT
              rw [hpk] at HM ⊢
              have HF := Lib.hid HM.out
              obtain ⟨X, hX⟩ : ∃ X, (bestF a b).1 = X := ⟨_, rfl⟩
              obtain ⟨Y, hY⟩ : ∃ Y, (bestF a b).2 = Y := ⟨_, rfl⟩
              have hbx := HF.out.m
              rw [hX, hY] at hbx
              have b0 : wr.cell? ⟨g, 0, none⟩ = some (.int .i64 X) := by unfold World.cell?; rw [hbx]; rfl
              have b1 : wr.cell? ⟨g, 1, none⟩ = some (.int .i64 Y) := by unfold World.cell?; rw [hbx]; rfl
              have HX := Lib.hid hX
              have HY := Lib.hid hY
              clear hpk hbx hX hY HM
              go_wp2_with (refine wpList_store_row rfl 46 (.tmp 4) (.tmp 80) rfl w.heap.size #[.int .i64 X, .int .i64 Y] #[.int .i64 0, .int .i64 0] rfl rfl HF.out.r info46 rfl (one_pair _ _) ?_)
              refine bodyPost_ret (v := .tuple #[.agg #[.int .i64 X, .int .i64 Y], .int .i64 0]) ?_ rfl ⟨by rw [HX.out, HY.out], below_setRow HF.out.b (Nat.le_refl _) _⟩
              rw [results_cell_tmp (fn := Try.f43) Try.results43]
              exact move_back _ w.heap.size X Y 0 { tmps := #[], defers := [] } (setRow_heap wr w.heap.size _ _ 46 (0, 0) HF.out.r)
            · have hpk : pk (movL a b n) 2 = (false, (0, 0)) := by rw [← HNN.out]; exact HNONE.out hT
              rw [hpk] at HM ⊢
              have HF := Lib.hid (And.intro HM.out.b HM.out.r)
              have hTT : n < takes a b := by have := HGK.out; omega
              clear hpk HM
              go_wp2
              go_roundg (gk0 - 1)
              case rel => exact ⟨n + 1, by go_num, by omega, by have := HGK.out; omega, HF.out.1, HF.out.2⟩
              case measure => have := HGK.out; have := HGK0.out; omega
          · have hlt2 : j < 2 := by have := HJ.out; omega
            have hlt : (j : Int) < 2 := by omega
            have j0 : (0 : Int) ≤ (j : Int) := by omega
            have hjl : j < (movL a b n).length := by rw [HNN.out]; exact hlt2
            obtain ⟨g9, rfl, hg9⟩ : ∃ g9, a9 = some ⟨g9, 0, none⟩ ∧ g9 ≠ g := by
              obtain ⟨a8, c8, e8, -, -, h8⟩ := HM.out.l.form
              obtain rfl : a9 = a8 := by injection e8
              rcases h8 with ⟨-, h8⟩ | ⟨g9, h8, -, -⟩
              · rw [h8] at hjl; exact absurd hjl (by simp)
              · exact ⟨g9, h8, fun h => HM.out.ne (by rw [h8, h]; rfl)⟩
            have hcc := HM.out.l
            obtain ⟨c0, c1⟩ := Row2.cell hcc hjl
            obtain ⟨y0, y1⟩ := movL_bd HGE.out (nth2_mem hjl)
            have hbx := HM.out.m
            have hskip := fun h => pk_skip (L := movL a b n) (k := j) h
            have htake := fun h1 h2 => pk_take (L := movL a b n) (k := j) h1 h2
            have hleave := fun h1 h2 => pk_leave (L := movL a b n) (k := j) h1 h2
            have hokp : okP (nth2 (movL a b n) j) = (decide (0 ≤ (nth2 (movL a b n) j).1) && decide (0 ≤ (nth2 (movL a b n) j).2) && isCold (nth2 (movL a b n) j).1 (nth2 (movL a b n) j).2) := rfl
            obtain ⟨pr, hpr⟩ : ∃ pr, pk (movL a b n) j = pr := ⟨_, rfl⟩
            obtain ⟨f, mx, my⟩ := pr
            obtain ⟨x, hx⟩ : ∃ x, (nth2 (movL a b n) j).1 = x := ⟨_, rfl⟩
            obtain ⟨y, hy⟩ : ∃ y, (nth2 (movL a b n) j).2 = y := ⟨_, rfl⟩
            have hxy : nth2 (movL a b n) j = (x, y) := by rw [← hx, ← hy]
            rw [hpr] at hbx hskip htake hleave HM ⊢
            simp only at hbx hskip htake hleave HM ⊢
            rw [hx] at c0 y0 htake hleave hokp
            rw [hy] at c1 y1 hokp
            have HXY := Lib.hid hxy
            have HSK := Lib.hid hskip
            have HTK := Lib.hid htake
            have HLV := Lib.hid hleave
            have HOK := Lib.hid hokp
            have hb1 := (Below.refl wr.heap.size wr).alloc (Nat.le_refl _) (.cells #[.int .i64 x, .int .i64 y] 46)
            have HM1 := Lib.hid (HM.out.later hb1)
            clear hskip htake hleave hokp hbx hpr hx hy hxy hcc HM hjn
            by_cases hx0 : x < 0
            · have hsk := HSK.out (by rw [HOK.out, decide_eq_false (show ¬ 0 ≤ x by omega)]; rfl)
              have HK := Lib.hid hsk
              clear hsk
              go_wp2
              go_roundg (2 - j - 1)
              case rel => exact ⟨j + 1, by have := HJ.out; omega, by rw [HK.out], by go_num, by rw [HK.out]; exact HM1.out⟩
              case measure => have := HJ.out; omega
            · by_cases hy0 : y < 0
              · have hsk := HSK.out (by rw [HOK.out, decide_eq_false (show ¬ 0 ≤ y by omega), Bool.and_false]; rfl)
                have HK := Lib.hid hsk
                clear hsk
                go_wp2
                go_roundg (2 - j - 1)
                case rel => exact ⟨j + 1, by have := HJ.out; omega, by rw [HK.out], by go_num, by rw [HK.out]; exact HM1.out⟩
                case measure => have := HJ.out; omega
              · have hp : isHp x y = true := isHp_mk ⟨by omega, by have := HHP.out; omega, by omega, by have := HHP.out; omega⟩
                have HC := Lib.hid (fun w => refCold_any x y w hp)
                have hok2 := HOK.out
                rw [decide_eq_true (show 0 ≤ x by omega), decide_eq_true (show 0 ≤ y by omega), Bool.and_true, Bool.true_and] at hok2
                obtain ⟨cd, hcd⟩ : ∃ cd, isCold x y = cd := ⟨_, rfl⟩
                rw [hcd] at HC hok2
                have HOK2 := Lib.hid hok2
                clear hp hcd hok2 HOK
                go_wp2_with fail
                refine (HC.out _).mono ?_
                rintro e w5 ⟨rfl, hb5⟩
                have HM5 := Lib.hid (HM1.out.later hb5)
                have x0 := (hb5.cell (p := ⟨wr.heap.size, 0, none⟩) (by simp)).trans (show (wr.alloc (.cells #[.int .i64 x, .int .i64 y] 46)).cell? ⟨wr.heap.size, 0, none⟩ = some (.int .i64 x) by simp)
                have x1 := (hb5.cell (p := ⟨wr.heap.size, 1, none⟩) (by simp)).trans (show (wr.alloc (.cells #[.int .i64 x, .int .i64 y] 46)).cell? ⟨wr.heap.size, 1, none⟩ = some (.int .i64 y) by simp)
                have hbx := HM5.out.m
                simp only at hbx
                have b0 : w5.cell? ⟨g, 0, none⟩ = some (.int .i64 mx) := by unfold World.cell?; rw [hbx]; rfl
                have b1 : w5.cell? ⟨g, 1, none⟩ = some (.int .i64 my) := by unfold World.cell?; rw [hbx]; rfl
                have HBX := Lib.hid hbx
                clear hb5 hb1 HC hbx HM1
                cases cd with
                | false =>
                  have HK := Lib.hid (HSK.out HOK2.out)
                  go_wp2
                  go_roundg (2 - j - 1)
                  case rel => exact ⟨j + 1, by have := HJ.out; omega, by rw [HK.out], by go_num, by rw [HK.out]; exact HM5.out⟩
                  case measure => have := HJ.out; omega
                | true =>
                  cases f with
                  | false =>
                    have hk := HTK.out HOK2.out (.inl rfl)
                    rw [HXY.out] at hk
                    have HK := Lib.hid hk
                    clear hk
                    go_wp2_with (refine wpList_store_row rfl 46 (.tmp 7) (.tmp 77) rfl g #[.int .i64 x, .int .i64 y] #[.int .i64 mx, .int .i64 my] rfl rfl HBX.out info46 rfl (one_pair _ _) ?_)
                    have HM6 := Lib.hid (HM5.out.put x y)
                    go_roundg (2 - j - 1)
                    case rel => exact ⟨j + 1, by have := HJ.out; omega, by rw [HK.out], by go_num, by rw [HK.out]; exact HM6.out⟩
                    case measure => have := HJ.out; omega
                  | true =>
                    by_cases hlm : x < mx
                    · have hk := HTK.out HOK2.out (.inr hlm)
                      rw [HXY.out] at hk
                      have HK := Lib.hid hk
                      clear hk
                      go_wp2_with (refine wpList_store_row rfl 46 (.tmp 7) (.tmp 77) rfl g #[.int .i64 x, .int .i64 y] #[.int .i64 mx, .int .i64 my] rfl rfl HBX.out info46 rfl (one_pair _ _) ?_)
                      have HM6 := Lib.hid (HM5.out.put x y)
                      go_roundg (2 - j - 1)
                      case rel => exact ⟨j + 1, by have := HJ.out; omega, by rw [HK.out], by go_num, by rw [HK.out]; exact HM6.out⟩
                      case measure => have := HJ.out; omega
                    · have HK := Lib.hid (HLV.out rfl (by omega))
                      go_wp2
                      go_roundg (2 - j - 1)
                      case rel => exact ⟨j + 1, by have := HJ.out; omega, by rw [HK.out], by go_num, by rw [HK.out]; exact HM5.out⟩
                      case measure => have := HJ.out; omega


end Go.Proofs.Ytbdabpmpfciibaa
