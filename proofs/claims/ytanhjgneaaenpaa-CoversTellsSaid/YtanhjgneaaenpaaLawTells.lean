/- The walk of the law CoversTells, in every case. No condition. -/
import Derived.Test.YtanhjgneaaenpaaLawParted
import Derived.Test.YtanhjgneaaenpaaRefT2
import Derived.Deep.RegionHeld3
namespace Go.Proofs.Ytanhjgneaaenpaa
open Go.RowKit
attribute [local go_sem] Oper.semAt_some

def BelF (B : Nat) (w W : World) : Prop := W.os = w.os ∧ W.tape = w.tape ∧ W.output = w.output ∧ w.heap.size ≤ W.heap.size ∧ ∀ k, k < B → W.heap[k]? = w.heap[k]?
theorem BelF.to {B : Nat} {w W : World} (h : BelF B w W) : Below B w W := ⟨h.1, h.2.1, h.2.2.1, h.2.2.2.1, h.2.2.2.2⟩
theorem BelF.of {B : Nat} {w W : World} (h : Below B w W) : BelF B w W := ⟨h.os, h.tape, h.output, h.size, h.block⟩
theorem held_next {g B : Nat} {u v : Int} {vn : Value} {L : List Int} {w W W' : World} (hb : Below W.heap.size W W') (h : W.cell? ⟨g, 0, none⟩ = some (.int .i64 u) ∧ W.cell? ⟨g, 1, none⟩ = some (.int .i64 v) ∧ g < W.heap.size ∧ RowI B vn L W ∧ BelF w.heap.size w W) :
    W'.cell? ⟨g, 0, none⟩ = some (.int .i64 u) ∧ W'.cell? ⟨g, 1, none⟩ = some (.int .i64 v) ∧ g < W'.heap.size ∧ RowI B vn L W' ∧ BelF w.heap.size w W' :=
  ⟨(hb.cell (p := ⟨g, 0, none⟩) h.2.2.1).trans h.1, (hb.cell (p := ⟨g, 1, none⟩) h.2.2.1).trans h.2.1, Nat.lt_of_lt_of_le h.2.2.1 hb.size, own_later h.2.2.2.1 hb, BelF.of (h.2.2.2.2.to.trans (hb.mono h.2.2.2.2.2.2.2.1))⟩
theorem held_prs {g B : Nat} {u v : Int} {vn : Value} {L : List Int} {w W : World} {a : Option Addr} {n : Nat} {xs : List (Int × Int)} (h : W.cell? ⟨g, 0, none⟩ = some (.int .i64 u) ∧ W.cell? ⟨g, 1, none⟩ = some (.int .i64 v) ∧ g < W.heap.size ∧ RowI B vn L W ∧ BelF w.heap.size w W) (hp : Prs w a n xs) : Prs W a n xs := hp.below h.2.2.2.2.to
theorem held_row {g B : Nat} {u v : Int} {vn : Value} {L : List Int} {w W : World} (h : W.cell? ⟨g, 0, none⟩ = some (.int .i64 u) ∧ W.cell? ⟨g, 1, none⟩ = some (.int .i64 v) ∧ g < W.heap.size ∧ RowI B vn L W ∧ BelF w.heap.size w W) : RowI B vn L W := h.2.2.2.1
theorem held_below {g B : Nat} {u v : Int} {vn : Value} {L : List Int} {w W : World} (h : W.cell? ⟨g, 0, none⟩ = some (.int .i64 u) ∧ W.cell? ⟨g, 1, none⟩ = some (.int .i64 v) ∧ g < W.heap.size ∧ RowI B vn L W ∧ BelF w.heap.size w W) : Below w.heap.size w W := h.2.2.2.2.to
theorem drew_below (w : World) (q : Nat) : Below w.heap.size w (w.drewN q) := below_drewN (Below.refl _ _) q
set_option maxRecDepth 100000 in
set_option maxHeartbeats 8000000 in
theorem lawTells_no (a : Option Addr) (n c : Nat) (xs : List (Int × Int)) (w : World) (h : Prs w a n xs) (hc : n ≤ c) (hn : n ≤ 4611686018427387904) (hcm : c ≤ maxLen) (hs : isS xs = false) :
    Calls Try.prog 3 #[.slice a n c] w fun e w' => e = .returned (.bool true) ∧ Below w.heap.size w w' := by
  have H := Lib.hid h
  have HT := Lib.hid (take12_no hs)
  have HVR := Lib.hid (fun w h => validR_any a n c xs w h hn)
  rw [hs] at HVR
  have e28 := eql28
  have g28 := guard28
  clear h hs
  go_enter Try.func3, Try.ntmps3
  go_wp2_with fail
  refine (pairs_any a n c xs _ H.out hc hn hcm).mono ?_
  rintro e w1 ⟨a1, c1, m1, rfl, hm1, hp1, hc1, hcm1, hb⟩
  have HR1 := Lib.hid hb
  have HB1 := Lib.hid hb
  clear hb
  have HP1 := Lib.hid hp1
  clear hp1
  unfold maxLen at hcm1
  go_wp2_with fail
  refine (Left_no HT.out a1 m1 c1 _ HP1.out (by omega)).mono ?_
  rintro e w2 ⟨rfl, hb⟩
  have HR2 := Lib.hid hb
  have HB2 := Lib.hid (HB1.out.trans (hb.mono HB1.out.size))
  clear hb
  go_wp2_with fail
  refine (pairs_any a n c xs _ (H.out.below HB2.out) hc hn hcm).mono ?_
  rintro e w3 ⟨a3, c3, m3, rfl, hm3, hp3, hc3, hcm3, hb⟩
  have HR3 := Lib.hid hb
  have HB3 := Lib.hid (HB2.out.trans (hb.mono HB2.out.size))
  clear hb
  have HP3 := Lib.hid hp3
  clear hp3
  unfold maxLen at hcm3
  go_wp2_with fail
  refine (Twice_no HT.out a3 m3 c3 _ HP3.out (by omega)).mono ?_
  rintro e w4 ⟨rfl, hb⟩
  have HR4 := Lib.hid hb
  have HB4 := Lib.hid (HB3.out.trans (hb.mono HB3.out.size))
  clear hb
  go_wp2_with fail
  refine (pairs_any a n c xs _ (H.out.below HB4.out) hc hn hcm).mono ?_
  rintro e w5 ⟨a5, c5, m5, rfl, hm5, hp5, hc5, hcm5, hb⟩
  have HR5 := Lib.hid hb
  have HB5 := Lib.hid (HB4.out.trans (hb.mono HB4.out.size))
  clear hb
  have HP5 := Lib.hid hp5
  clear hp5
  unfold maxLen at hcm5
  go_wp2_with fail
  refine (Share_no HT.out a5 m5 c5 _ HP5.out (by omega)).mono ?_
  rintro e w6 ⟨rfl, hb⟩
  have HR6 := Lib.hid hb
  have HB6 := Lib.hid (HB5.out.trans (hb.mono HB5.out.size))
  clear hb
  have HB7 := Lib.hid (HB6.out.alloc HB6.out.size (.cells #[.int .i64 0, .int .i64 0] 28))
  have HR7 := Lib.hid ((Below.refl w6.heap.size w6).alloc (Nat.le_refl _) (.cells #[.int .i64 0, .int .i64 0] 28))
  have QA := Lib.hid (cell_pair w6 (.int .i64 0) (.int .i64 0) 28)
  go_wp2_with fail
  refine (pairs_any a n c xs _ (H.out.below HB7.out) hc hn hcm).mono ?_
  rintro e w8 ⟨a8, c8, m8, rfl, hm8, hp8, hc8, hcm8, hb⟩
  have HR8 := Lib.hid hb
  have HB8 := Lib.hid (HB7.out.trans (hb.mono HB7.out.size))
  clear hb
  have QAq := Lib.hid (And.intro (cell_later QA.out.1 HR8.out) (cell_later QA.out.2 HR8.out))
  clear QA
  have QA := QAq
  clear QAq
  have HP8 := Lib.hid hp8
  clear hp8
  unfold maxLen at hcm8
  go_wp2_with fail
  refine (Needless_no a8 m8 c8 (xs.take 12) _ HP8.out (by omega) HT.out).mono ?_
  rintro e w9 ⟨rfl, hb⟩
  have HR9 := Lib.hid hb
  have HB9 := Lib.hid (HB8.out.trans (hb.mono HB8.out.size))
  clear hb
  have QAq := Lib.hid (And.intro (cell_later QA.out.1 HR9.out) (cell_later QA.out.2 HR9.out))
  clear QA
  have QA := QAq
  clear QAq
  go_wp2_with fail
  refine (HVR.out _ (H.out.below HB9.out)).mono ?_
  rintro e w10 ⟨rfl, hb⟩
  have HR10 := Lib.hid hb
  have HB10 := Lib.hid (HB9.out.trans (hb.mono HB9.out.size))
  clear hb
  have QAq := Lib.hid (And.intro (cell_later QA.out.1 HR10.out) (cell_later QA.out.2 HR10.out))
  clear QA
  have QA := QAq
  clear QAq
  obtain ⟨f0, f1⟩ := QA.out
  go_wp2_with fail
  refine (awake_any _).mono ?_
  rintro e w11 ⟨rfl, hb⟩
  have HR11 := Lib.hid hb
  have HB11 := Lib.hid (HB10.out.trans (hb.mono HB10.out.size))
  clear hb
  go_wp2
  go_ret
  exact ⟨rfl, HB11.out⟩
set_option maxRecDepth 100000 in
set_option maxHeartbeats 8000000 in
theorem lawTells_yes (a : Option Addr) (n c : Nat) (xs : List (Int × Int)) (w : World) (h : Prs w a n xs) (hc : n ≤ c) (hn : n ≤ 4611686018427387904) (hcm : c ≤ maxLen) (hs : isS xs = true) (l1 l2 t1 t2 u v : Int) (hl : leftF xs = (l1, l2)) (ht : twiceF xs = (t1, t2)) (hu : numF xs = u) (hv : denF xs = v) :
    Calls Try.prog 3 #[.slice a n c] w fun e w' => e = .returned (.bool true) ∧ Below w.heap.size w w' := by
  have H := Lib.hid h
  have HL := Lib.hid h.1
  have HT := Lib.hid (take12_yes hs)
  have HI := Lib.hid hs
  have HY := Lib.hid (isS_spec.1 hs)
  have hn2 : n ≤ 10 := by have := HY.out.len2; have := HL.out; omega
  have HVR := Lib.hid (fun w h => validR_any a n c xs w h hn)
  rw [hs] at HVR
  have HLL := Lib.hid hl
  have HTT := Lib.hid ht
  have HU := Lib.hid hu
  have HV := Lib.hid hv
  have e28 := eql28
  have g28 := guard28
  clear h hs hl ht hu hv
  go_enter Try.func3, Try.ntmps3
  go_wp2_with fail
  refine (pairs_any a n c xs _ H.out hc hn hcm).mono ?_
  rintro e w1 ⟨a1, c1, m1, rfl, hm1, hp1, hc1, hcm1, hb⟩
  have HR1 := Lib.hid hb
  have HB1 := Lib.hid hb
  clear hb
  have HP1 := Lib.hid hp1
  clear hp1
  unfold maxLen at hcm1
  have hq1 := HP1.out
  rw [HT.out] at hq1
  have HQ1 := Lib.hid hq1
  clear hq1
  go_wp2_with fail
  refine (Left_yes HI.out l1 l2 HLL.out a1 m1 c1 _ HQ1.out (by omega)).mono ?_
  rintro e w2 ⟨rfl, hb⟩
  have HR2 := Lib.hid hb
  have HB2 := Lib.hid (HB1.out.trans (hb.mono HB1.out.size))
  clear hb
  go_wp2_with fail
  refine (pairs_any a n c xs _ (H.out.below HB2.out) hc hn hcm).mono ?_
  rintro e w3 ⟨a3, c3, m3, rfl, hm3, hp3, hc3, hcm3, hb⟩
  have HR3 := Lib.hid hb
  have HB3 := Lib.hid (HB2.out.trans (hb.mono HB2.out.size))
  clear hb
  have HP3 := Lib.hid hp3
  clear hp3
  unfold maxLen at hcm3
  have hq3 := HP3.out
  rw [HT.out] at hq3
  have HQ3 := Lib.hid hq3
  clear hq3
  go_wp2_with fail
  refine (Twice_yes HI.out t1 t2 HTT.out a3 m3 c3 _ HQ3.out (by omega)).mono ?_
  rintro e w4 ⟨rfl, hb⟩
  have HR4 := Lib.hid hb
  have HB4 := Lib.hid (HB3.out.trans (hb.mono HB3.out.size))
  clear hb
  go_wp2_with fail
  refine (pairs_any a n c xs _ (H.out.below HB4.out) hc hn hcm).mono ?_
  rintro e w5 ⟨a5, c5, m5, rfl, hm5, hp5, hc5, hcm5, hb⟩
  have HR5 := Lib.hid hb
  have HB5 := Lib.hid (HB4.out.trans (hb.mono HB4.out.size))
  clear hb
  have HP5 := Lib.hid hp5
  clear hp5
  unfold maxLen at hcm5
  have hq5 := HP5.out
  rw [HT.out] at hq5
  have HQ5 := Lib.hid hq5
  clear hq5
  go_wp2_with fail
  refine (Share_yes HI.out u v HU.out HV.out a5 m5 c5 _ HQ5.out (by omega)).mono ?_
  rintro e w6 ⟨rfl, hb⟩
  have HR6 := Lib.hid hb
  have HB6 := Lib.hid (HB5.out.trans (hb.mono HB5.out.size))
  clear hb
  have HB7 := Lib.hid (HB6.out.alloc HB6.out.size (.cells #[.int .i64 u, .int .i64 v] 28))
  have HR7 := Lib.hid ((Below.refl w6.heap.size w6).alloc (Nat.le_refl _) (.cells #[.int .i64 u, .int .i64 v] 28))
  have QA := Lib.hid (cell_pair w6 (.int .i64 u) (.int .i64 v) 28)
  go_wp2_with fail
  refine (pairs_any a n c xs _ (H.out.below HB7.out) hc hn hcm).mono ?_
  rintro e w8 ⟨a8, c8, m8, rfl, hm8, hp8, hc8, hcm8, hb⟩
  have HR8 := Lib.hid hb
  have HB8 := Lib.hid (HB7.out.trans (hb.mono HB7.out.size))
  clear hb
  have QAq := Lib.hid (And.intro (cell_later QA.out.1 HR8.out) (cell_later QA.out.2 HR8.out))
  clear QA
  have QA := QAq
  clear QAq
  have HP8 := Lib.hid hp8
  clear hp8
  unfold maxLen at hcm8
  have hq8 := HP8.out
  rw [HT.out] at hq8
  have hmn8 : m8 = n := by have h1 := hq8.1; have h2 := HL.out; omega
  subst hmn8
  have HQ8 := Lib.hid hq8
  clear hq8
  go_wp2_with fail
  refine (Needless_yes a8 m8 c8 xs _ HQ8.out hc8 (by unfold maxLen; exact hcm8) HI.out).mono ?_
  rintro e w9 ⟨vn, rfl, hrn, hb⟩
  have HR9 := Lib.hid hb
  have HB9 := Lib.hid (HB8.out.trans (hb.mono HB8.out.size))
  clear hb
  have QAq := Lib.hid (And.intro (cell_later QA.out.1 HR9.out) (cell_later QA.out.2 HR9.out))
  clear QA
  have QA := QAq
  clear QAq
  obtain ⟨B, hB⟩ : ∃ B, w8.heap.size = B := ⟨_, rfl⟩
  rw [hB] at hrn
  have HRN := Lib.hid hrn
  clear hrn hB
  go_wp2_with fail
  refine (HVR.out _ (H.out.below HB9.out)).mono ?_
  rintro e w10 ⟨rfl, hb⟩
  have HR10 := Lib.hid hb
  have HB10 := Lib.hid (HB9.out.trans (hb.mono HB9.out.size))
  clear hb
  have QAq := Lib.hid (And.intro (cell_later QA.out.1 HR10.out) (cell_later QA.out.2 HR10.out))
  clear QA
  have QA := QAq
  clear QAq
  have HRNq := Lib.hid (own_later HRN.out HR10.out)
  clear HRN
  have HRN := HRNq
  clear HRNq
  go_wp2_with fail
  refine (refLeft_any a m8 c xs _ (H.out.below HB10.out) HY.out l1 l2 HLL.out).mono ?_
  rintro e w11 ⟨rfl, hb⟩
  have HR11 := Lib.hid hb
  have HB11 := Lib.hid (HB10.out.trans (hb.mono HB10.out.size))
  clear hb
  have QAq := Lib.hid (And.intro (cell_later QA.out.1 HR11.out) (cell_later QA.out.2 HR11.out))
  clear QA
  have QA := QAq
  clear QAq
  have HRNq := Lib.hid (own_later HRN.out HR11.out)
  clear HRN
  have HRN := HRNq
  clear HRNq
  go_wp2_with fail
  refine (refTwice_any a m8 c xs _ (H.out.below HB11.out) HY.out t1 t2 HTT.out).mono ?_
  rintro e w12 ⟨rfl, hb⟩
  have HR12 := Lib.hid hb
  have HB12 := Lib.hid (HB11.out.trans (hb.mono HB11.out.size))
  clear hb
  have QAq := Lib.hid (And.intro (cell_later QA.out.1 HR12.out) (cell_later QA.out.2 HR12.out))
  clear QA
  have QA := QAq
  clear QAq
  have HRNq := Lib.hid (own_later HRN.out HR12.out)
  clear HRN
  have HRN := HRNq
  clear HRNq
  have HSH := Lib.hid (fun w h => refShare_any a m8 c xs w h HY.out u v HU.out HV.out)
  have HND := Lib.hid (fun w h => refNeedless_any a m8 c xs w h HY.out)
  have hLL := needL_len xs m8
  obtain ⟨L, hL⟩ : ∃ L, needL xs m8 = L := ⟨_, rfl⟩
  rw [hL] at HRN HND hLL
  have HEQ := Lib.hid (fun v1 v2 B1 B2 w h1 h2 => equalI_any L (by omega) v1 v2 B1 B2 w h1 h2)
  obtain ⟨g, hg⟩ : ∃ g, w6.heap.size = g := ⟨_, rfl⟩
  have hgl : w6.heap.size < w12.heap.size := World.block_lt_of_cell? _ _ QA.out.1
  rw [hg] at QA hgl ⊢
  have HS0 := Lib.hid (show w12.cell? ⟨g, 0, none⟩ = some (.int .i64 u) ∧ w12.cell? ⟨g, 1, none⟩ = some (.int .i64 v) ∧ g < w12.heap.size ∧ RowI B vn L w12 ∧ BelF w.heap.size w w12 from ⟨QA.out.1, QA.out.2, hgl, HRN.out, BelF.of HB12.out⟩)
  clear hg hL QA HRN hgl
  go_wp2
  go_region_held3 (fun w' => w'.cell? ⟨g, 0, none⟩ = some (.int .i64 u) ∧ w'.cell? ⟨g, 1, none⟩ = some (.int .i64 v) ∧ g < w'.heap.size ∧ RowI B vn L w' ∧ BelF w.heap.size w w')
    (first | exact HS0.out | exact held_next (by assumption) (by assumption) | exact held_next (drew_below _ _) (by assumption))
    (first
      | (go_at_call 23; refine (HSH.out _ (held_prs (by assumption) H.out)).mono ?_; rintro e wx ⟨rfl, hb⟩)
      | (go_at_call 25; refine (HND.out _ (held_prs (by assumption) H.out)).mono ?_; rintro e wx ⟨vm, rfl, hrm, hb⟩)
      | (go_at_call 24; refine (HEQ.out vn vm _ _ _ (held_row (w := w) (g := g) (u := u) (v := v) (B := B) (by assumption)) (by assumption)).mono ?_; rintro e wx ⟨rfl, q, rfl⟩)
      | (go_at_call 20; refine (awake_any _).mono ?_; rintro e wx ⟨rfl, hb⟩))
  all_goals
    go_wp2
    go_ret
    exact ⟨rfl, held_below (g := g) (B := B) (u := u) (v := v) (vn := vn) (L := L) (by assumption)⟩

theorem lawTells_any (a : Option Addr) (n c : Nat) (xs : List (Int × Int)) (w : World) (h : Prs w a n xs) (hc : n ≤ c) (hn : n ≤ 4611686018427387904) (hcm : c ≤ maxLen) :
    Calls Try.prog 3 #[.slice a n c] w fun e w' => e = .returned (.bool true) ∧ Below w.heap.size w w' := by
  cases hs : isS xs with
  | false => exact lawTells_no a n c xs w h hc hn hcm hs
  | true => exact lawTells_yes a n c xs w h hc hn hcm hs (leftF xs).1 (leftF xs).2 (twiceF xs).1 (twiceF xs).2 _ _ rfl rfl rfl rfl
end Go.Proofs.Ytanhjgneaaenpaa
