/- The walk of the reference's list and List: a table that holds all partitions, rising. Condition: the number is at most 20, the greatest part at most 30. -/
import Derived.Test.YtfecdpglcdhijaaFrank4
import Derived.ArgAppend
namespace Go.Proofs.Ytfecdpglcdhijaa
open Go.RowKit
attribute [local go_sem] Oper.semAt_some

/-- A slice of whole numbers, in a block of whole numbers. -/
def IntK (W : World) (a : Option Addr) (n : Nat) (xs : List Int) : Prop :=
  xs.length = n ∧ (n = 0 ∨ ∃ b off cs f, a = some ⟨b, off, none⟩ ∧ W.heap[b]? = some (.cells cs 3 f) ∧ ∀ j, j < n → W.cell? ⟨b, off + j, none⟩ = some (.int .i64 (xs.getD j 0)))
theorem IntK.ints {W : World} {a : Option Addr} {n : Nat} {xs : List Int} (h : IntK W a n xs) : Ints W a n xs := by
  refine ⟨h.1, h.2.imp id ?_⟩
  rintro ⟨b, off, cs, f, h1, h2, h3⟩
  exact ⟨b, off, h1, (Array.getElem?_eq_some_iff.1 h2).1, h3⟩
theorem IntK.same {W W' : World} {a : Option Addr} {n : Nat} {xs : List Int} (h : IntK W a n xs) (hk : ∀ (b : Nat) (cs : Array Value) (f : Nat × Nat), W.heap[b]? = some (Obj.cells cs 3 f) → W'.heap[b]? = W.heap[b]?) : IntK W' a n xs := by
  refine ⟨h.1, h.2.imp id ?_⟩
  rintro ⟨b, off, cs, f, h1, h2, h3⟩
  have e := hk b cs f h2
  exact ⟨b, off, cs, f, h1, e.trans h2, fun j hj => (World.cell?_of_block (a := ⟨b, off + j, none⟩) e).trans (h3 j hj)⟩
theorem IntK.old {W W' : World} {a : Option Addr} {n : Nat} {xs : List Int} (h : IntK W a n xs) (hk : ∀ q, q < W.heap.size → W'.heap[q]? = W.heap[q]?) : IntK W' a n xs :=
  h.same fun b _ _ hb => hk b (Array.getElem?_eq_some_iff.1 hb).1
theorem IntK.own {w : World} {B n m : Nat} {a : Option Addr} {c : Nat} {xs : List Int} (h : w.ownsRow B 3 1 (.slice a m c) n (xs.map (Value.int .i64))) : IntK w a n xs := by
  have hl : xs.length = n := by simpa using h.1
  refine ⟨hl, ?_⟩
  rcases h.2 with ⟨h1, h2⟩ | ⟨g, cap, cur, h1, h2, h3, h4, h5, h6, h7⟩
  · exact .inl h2
  · cases h1
    refine .inr ⟨g, 0, cur, (0, 0), rfl, h3, fun j hj => ?_⟩
    rw [Nat.zero_add, h.cellAt j (by omega)]
    simp [List.getD, hj, hl]

/-- A table in a row of its own, whose rows can be read. -/
def TabV (W : World) (B : Nat) (v : Value) (L : List (List Int)) : Prop :=
  ∃ vs, W.ownsRow B 33 1 v L.length vs ∧ ∀ i, i < L.length → ∃ ai ci, vs[i]? = some (.slice ai (nthL L i).length ci) ∧ IntK W ai (nthL L i).length (nthL L i)
theorem TabV.nil (W : World) (B : Nat) : TabV W B (.slice none 0 0) [] := ⟨[], World.ownsRow_nil _ _ _ _, fun i hi => by simp at hi⟩
theorem TabV.old {W W' : World} {B : Nat} {v : Value} {L : List (List Int)} (h : TabV W B v L) (hk : ∀ q, q < W.heap.size → W'.heap[q]? = W.heap[q]?) : TabV W' B v L := by
  obtain ⟨vs, h1, h2⟩ := h
  refine ⟨vs, own_same h1 fun k _ hq => hk k hq, fun i hi => ?_⟩
  obtain ⟨ai, ci, h3, h4⟩ := h2 i hi
  exact ⟨ai, ci, h3, h4.old hk⟩
theorem TabV.append {W W' : World} {B : Nat} {v v' : Value} {vs us : List Value} {L R : List (List Int)}
    (ho : W.ownsRow B 33 1 v L.length vs) (h1 : ∀ i, i < L.length → ∃ ai ci, vs[i]? = some (.slice ai (nthL L i).length ci) ∧ IntK W ai (nthL L i).length (nthL L i))
    (hu : us.length = R.length) (h2 : ∀ i, i < R.length → ∃ ai ci, us[i]? = some (.slice ai (nthL R i).length ci) ∧ IntK W ai (nthL R i).length (nthL R i))
    (ho' : W'.ownsRow B 33 1 v' (L.length + R.length) (vs ++ us)) (hg : W.grownBy W' v.ownBlock) : TabV W' B v' (L ++ R) := by
  have hvl : vs.length = L.length := by simpa using ho.1
  have hk : ∀ (b : Nat) (cs : Array Value) (f : Nat × Nat), W.heap[b]? = some (Obj.cells cs 3 f) → W'.heap[b]? = W.heap[b]? := by
    intro b cs f hb
    refine hg.block b (Array.getElem?_eq_some_iff.1 hb).1 fun e => ?_
    obtain ⟨c2, f2, h5⟩ := Go.Lib.ownsRow_kind ho b e.symm
    rw [hb] at h5
    simp at h5
  refine ⟨vs ++ us, by rw [List.length_append]; exact ho', fun i hi => ?_⟩
  by_cases hiL : i < L.length
  · obtain ⟨ai, ci, h3, h4⟩ := h1 i hiL
    refine ⟨ai, ci, ?_, ?_⟩
    · rw [nthL_append_left hiL, List.getElem?_append_left (by omega), h3]
    · rw [nthL_append_left hiL]; exact h4.same hk
  · rw [List.length_append] at hi
    obtain ⟨ai, ci, h3, h4⟩ := h2 (i - L.length) (by omega)
    have e : nthL (L ++ R) i = nthL R (i - L.length) := by simp [nthL, List.getD, List.getElem?_append_right (show L.length ≤ i by omega)]
    refine ⟨ai, ci, ?_, ?_⟩
    · rw [e, List.getElem?_append_right (by omega), hvl, h3]
    · rw [e]; exact h4.same hk
theorem TabV.read {W : World} {B n c : Nat} {a : Option Addr} {L : List (List Int)} (h : TabV W B (.slice a n c) L) : TabR W a L := by
  obtain ⟨vs, h1, h2⟩ := h
  rcases h1.2 with ⟨h3, h4⟩ | ⟨g, cap, cur, h3, h4, h5, h6⟩
  · exact .inl h4
  · cases h3
    refine .inr ⟨g, 0, rfl, (Array.getElem?_eq_some_iff.1 h5).1, fun i hi => ?_⟩
    obtain ⟨ai, ci, h7, h8⟩ := h2 i hi
    exact ⟨ai, ci, by rw [Nat.zero_add, h1.cellAt i (by omega), h7], h8.ints⟩
theorem rleaf_tab (w : World) (a : Option Addr) (k c : Nat) (bg : List Int) (h : IntK w a k bg) : TabV (w.alloc (.cells #[.slice a k c] 33)) w.heap.size (.slice (some ⟨w.heap.size, 0, none⟩) 1 1) [bg] := by
  have h2 := World.ownsRow_lit (base := w.heap.size) (e := 33) (size := 1) w #[.slice a k c] 1 (Nat.le_refl _) (by unfold maxLen; omega) rfl
  refine ⟨_, h2, fun i hi => ?_⟩
  have : i = 0 := by simp at hi; omega
  subst this
  refine ⟨a, c, ?_, ?_⟩
  · show some (Value.slice a k c) = some (Value.slice a bg.length c)
    rw [h.1]
  · show IntK _ a bg.length bg
    rw [h.1]
    exact h.old fun q hq => Below.heap_alloc _ _ _ hq

theorem pF_pos : ∀ (f n m : Nat), n ≤ f → 1 ≤ m → 1 ≤ (pF f n m).length
  | f, 0, m, _, _ => by rw [pF_zero]; simp
  | 0, n + 1, m, h, _ => by omega
  | f + 1, n + 1, m, h, hm => by
    rw [pF_succ m (by omega)]
    obtain ⟨k, hk⟩ : ∃ k, min (n + 1) m = k + 1 := ⟨min (n + 1) m - 1, by omega⟩
    have := pF_pos f (n + 1 - (k + 1)) (k + 1) (by omega) (by omega)
    rw [hk, pPre_succ, List.length_append, List.length_map]
    omega
theorem map_pre_succ (f n k : Nat) (bg : List Int) : (pPre f n (k + 1)).map (bg ++ ·) = (pPre f n k).map (bg ++ ·) ++ (pF f (n - (k + 1)) (k + 1)).map ((bg ++ [((k + 1 : Nat) : Int)]) ++ ·) := by
  rw [pPre_succ, List.map_append, List.map_map]
  congr 1
  apply List.map_congr_left
  intro l _
  simp

set_option maxRecDepth 100000 in
set_option maxHeartbeats 4000000 in
theorem rlist_any : ∀ (f n m k : Nat) (a : Option Addr) (c : Nat) (bg : List Int) (w : World), n ≤ f → n ≤ 20 → m ≤ 30 → k + n ≤ 100 → IntK w a k bg → (a = none → k = 0) → k ≤ c →
    Calls Try.prog 60 #[.int .i64 (n : Int), .int .i64 (m : Int), .slice a k c] w fun e w' => ∃ ao co, e = .returned (.slice ao ((pF f n m).map (bg ++ ·)).length co) ∧ TabV w' w.heap.size (.slice ao ((pF f n m).map (bg ++ ·)).length co) ((pF f n m).map (bg ++ ·)) ∧ Below w.heap.size w w' := by
  have leaf : ∀ (f m k : Nat) (a : Option Addr) (c : Nat) (bg : List Int) (w : World), IntK w a k bg → Calls Try.prog 60 #[.int .i64 ((0 : Nat) : Int), .int .i64 (m : Int), .slice a k c] w fun e w' => ∃ ao co, e = .returned (.slice ao ((pF f 0 m).map (bg ++ ·)).length co) ∧ TabV w' w.heap.size (.slice ao ((pF f 0 m).map (bg ++ ·)).length co) ((pF f 0 m).map (bg ++ ·)) ∧ Below w.heap.size w w' := by
    intro f m k a c bg w hb
    rw [pF_zero]
    have e : ([[]] : List (List Int)).map (bg ++ ·) = [bg] := by simp
    rw [e]
    have HT := Lib.hid (rleaf_tab w a k c bg hb)
    clear e hb
    go_enter Try.func60, Try.ntmps60
    go_wp2
    go_ret
    exact ⟨some ⟨w.heap.size, 0, none⟩, 1, rfl, HT.out, (Below.refl _ _).alloc (Nat.le_refl _) _⟩
  intro f
  induction f with
  | zero =>
    intro n m k a c bg w hn _ _ _ hb _ _
    obtain rfl : n = 0 := by omega
    exact leaf 0 m k a c bg w hb
  | succ f ih =>
    intro n m k a c bg w hnf hn20 hm30 hk100 hbg hnone hkc
    by_cases hn0 : n = 0
    · subst hn0
      exact leaf (f + 1) m k a c bg w hbg
    · rw [pF_succ m hn0]
      have IH := Lib.hid ih
      obtain ⟨M, hM⟩ : ∃ M, min n m = M := ⟨_, rfl⟩
      have hMi : min (n : Int) (m : Int) = (M : Int) := by omega
      have hMn : M ≤ n := by omega
      rw [hM]
      obtain ⟨i3, j1, j2, j3, j4⟩ := info_parts info3
      obtain ⟨i33, k1, k2, k3, k4⟩ := info_parts info33
      have J := Lib.hid (And.intro j1 (And.intro j2 (And.intro j3 j4)))
      have K := Lib.hid (And.intro k1 (And.intro k2 (And.intro k3 k4)))
      have HBG := Lib.hid hbg
      have HNONE := Lib.hid hnone
      have hnz : ((n : Int) == 0) = false := by simp; omega
      have hml : (bg.map (Value.int .i64)).length = k * 1 := by rw [List.length_map, hbg.1, Nat.mul_one]
      clear ih hM leaf j1 j2 j3 j4 k1 k2 k3 k4 hn0 hbg hnone
      go_enter Try.func60, Try.ntmps60
      go_wp2
      go_loopg [7, 8] M (fun gk v i wr => ∃ (q : Nat) (ao : Option Addr) (co : Nat), q + gk = M ∧ i = .int .i64 ((q : Int) + 1) ∧ v = .slice ao ((pPre f n q).map (bg ++ ·)).length co ∧ TabV wr w.heap.size v ((pPre f n q).map (bg ++ ·)) ∧ Below w.heap.size w wr)
      case atStart => exact ⟨0, none, 0, by omega, rfl, rfl, TabV.nil _ _, Below.refl _ _⟩
      case round =>
        obtain ⟨q, ao, co, hq, rfl, rfl, ht, hb⟩ := hrel
        have HT := Lib.hid ht
        have HB := Lib.hid hb
        clear ht hb
        by_cases hqM : q = M
        · have hgt : ¬ (q : Int) + 1 ≤ (M : Int) := by omega
          have ht := HT.out
          obtain ⟨P, hP⟩ : ∃ P, (pPre f n q).map (bg ++ ·) = P := ⟨_, rfl⟩
          have hP2 : (pPre f n M).map (bg ++ ·) = P := by rw [← hqM]; exact hP
          rw [hP] at ht ⊢
          obtain ⟨LP, hLP⟩ : ∃ LP, P.length = LP := ⟨_, rfl⟩
          rw [hLP] at ht ⊢
          have HT2 := Lib.hid ht
          have HP2 := Lib.hid hP2
          have HLP := Lib.hid hLP
          clear hqM ht hP hP2 hLP HT
          go_wp2
          go_ret
          have hl : (pPre f n M).length = LP := by rw [← HLP.out, ← HP2.out, List.length_map]
          refine ⟨ao, co, by (try rw [List.length_map]); rw [hl]; rfl, ?_, HB.out⟩
          (try rw [List.length_map])
          rw [HP2.out, hl]
          exact HT2.out
        · have hle : (q : Int) + 1 ≤ (M : Int) := by omega
          have hqn : q + 1 ≤ n := by omega
          have hsub : (n : Int) - ((q : Int) + 1) = ((n - (q + 1) : Nat) : Int) := by omega
          have HQM := Lib.hid (show q + 1 ≤ M by omega)
          have hnext := map_pre_succ f n q bg
          have hlen2 := pPre_len2 f n (q + 1) (by omega) hqn
          have hpow : 2 ^ n ≤ 2 ^ 20 := Nat.pow_le_pow_right (by omega) hn20
          have hlen3 : ((pPre f n (q + 1)).map (bg ++ ·)).length ≤ 1048576 := by rw [List.length_map]; omega
          rw [hnext, List.length_append] at hlen3
          have hbgr : IntK wr a k bg := HBG.out.old fun p hp => HB.out.block p hp
          have holds : ∀ b, a = some b → ∀ j u, (bg.map (Value.int .i64))[j]? = some u → (wr.alloc (.cells #[.int .i64 ((q : Int) + 1)] 3)).cell? (b.add j) = some u := by
            intro b0 hb0 j u hj
            have hjn : j < k := by
              have := (List.getElem?_eq_some_iff.1 hj).1
              omega
            rcases hbgr.2 with h0 | ⟨b, off, cs, ff, had, hh, hc⟩
            · omega
            · rw [hb0] at had
              cases had
              rw [Addr.add_lit]
              refine cell_alloc_k _ ?_
              rw [hc j hjn]
              have e : (bg.map (Value.int .i64))[j]? = some (Value.int .i64 (bg.getD j 0)) := by
                have : j < bg.length := by rw [hbgr.1]; exact hjn
                simp [List.getD, this]
              rw [e] at hj
              exact hj
          have hnone2 : a = none → k = 0 ∧ k = 0 := fun h => ⟨HNONE.out h, HNONE.out h⟩
          obtain ⟨R, hR⟩ : ∃ R, (pF f (n - (q + 1)) (q + 1)).map ((bg ++ [((q + 1 : Nat) : Int)]) ++ ·) = R := ⟨_, rfl⟩
          obtain ⟨P, hP⟩ : ∃ P, (pPre f n q).map (bg ++ ·) = P := ⟨_, rfl⟩
          have ht := HT.out
          rw [hP] at ht hnext hlen3 ⊢
          rw [hR] at hnext hlen3
          have hRpos : 1 ≤ R.length := by rw [← hR, List.length_map]; exact pF_pos f _ _ (by omega) (by omega)
          have hih : ∀ (a' : Option Addr) (c' : Nat) (W : World), IntK W a' (k + 1) (bg ++ [((q + 1 : Nat) : Int)]) → (a' = none → k + 1 = 0) → k + 1 ≤ c' →
              Calls Try.prog 60 #[.int .i64 ((n - (q + 1) : Nat) : Int), .int .i64 ((q : Int) + 1), .slice a' (k + 1) c'] W fun e w' => ∃ ao co, e = .returned (.slice ao R.length co) ∧ TabV w' W.heap.size (.slice ao R.length co) R ∧ Below W.heap.size W w' := by
            intro a' c' W h1 h2 h3
            have := IH.out (n - (q + 1)) (q + 1) (k + 1) a' c' (bg ++ [((q + 1 : Nat) : Int)]) W (by omega) (by omega) (by omega) (by omega) h1 h2 h3
            rw [hR] at this
            exact this
          have HIH := Lib.hid hih
          have HNX := Lib.hid hnext
          have HT2 := Lib.hid ht
          have hbs := HB.out.size
          obtain ⟨j1, j2, j3, j4⟩ := J.out
          obtain ⟨k1, k2, k3, k4⟩ := K.out
          clear hqM hnext hlen2 hpow hR hP ht hih hbgr HT
          go_wp2_with (at_builtin; refine wpList_append_grows _ rfl _ _ 33 rfl 3 i3 (.int .i64 0) 1 8 Try.underlying33 j1 j2 j3 j4 rfl (by decide) a k k (bg.map (Value.int .i64)) rfl hnone2 hml holds ⟨wr.heap.size, 0, none⟩ 1 1 [.int .i64 ((q : Int) + 1)] rfl rfl (cell_one_new _ _ _) (by simp [Value.oneCell']) (by omega) (by unfold maxLen; omega) (by omega) ?_; intro v3 w3 ho3 hg3; have hs3 : wr.heap.size + 1 ≤ w3.heap.size := (by have := hg3.size; simpa using this); obtain ⟨g3, c3, rfl⟩ := own_form ho3 (by omega); obtain ⟨hcap3, -⟩ := own_cap ho3; have hk3 : IntK w3 (some ⟨g3, 0, none⟩) (k + 1) (bg ++ [((q + 1 : Nat) : Int)]) := IntK.own (by rw [List.map_append]; exact ho3); have HK3 := Lib.hid hk3; have HG3 := Lib.hid hg3; clear ho3 hg3 hk3)
          refine (HIH.out (some ⟨g3, 0, none⟩) c3 w3 HK3.out (fun e => by cases e) hcap3).mono ?_
          rintro e w4 ⟨aR, cR, rfl, htR, hbR⟩
          obtain ⟨us, hu1, hu2⟩ := htR
          obtain ⟨gR, cR', haR⟩ := own_form hu1 hRpos
          cases haR
          have hold : ∀ p, p < wr.heap.size → w4.heap[p]? = wr.heap[p]? := fun p hp => (hbR.block p (by omega)).trans ((HG3.out.block p (by simp; omega) (by simp)).trans (Below.heap_alloc wr _ p hp))
          obtain ⟨vs, hv1, hv2⟩ := HT2.out.old hold
          have hul : us.length = R.length * 1 := hu1.1
          have hnews := hu1.cells (g := gR) rfl
          have hone : ∀ u ∈ us, u.oneCell' = true := by
            intro u hu
            obtain ⟨i, hi, rfl⟩ := List.getElem_of_mem hu
            obtain ⟨ai, ci, h3, -⟩ := hu2 i (by omega)
            rw [List.getElem?_eq_getElem hi] at h3
            rw [Option.some.inj h3]
            rfl
          have hs4 : w.heap.size ≤ w4.heap.size := by have := hbR.size; omega
          have HU2 := Lib.hid hu2
          have HV2 := Lib.hid hv2
          have HV1 := Lib.hid hv1
          have hb4 : Below w.heap.size w w4 := by
            have hb3 : Below w.heap.size w w3 := (HB.out.alloc hbs _).grown HG3.out (by simp; omega) (fun k e => by cases e)
            exact hb3.trans (hbR.mono (by omega))
          have HB4 := Lib.hid hb4
          clear hu2 hv2 hbR hold hu1 hb4
          go_wp2_with (at_builtin; refine wpList_append_own _ rfl _ _ 22 rfl w.heap.size 33 i33 (.slice none 0 0) 1 24 Try.underlying22 k1 k2 k3 k4 rfl (by decide) _ _ vs rfl hv1 ⟨gR, 0, none⟩ R.length cR us rfl hul hnews hone (by unfold maxLen; omega) (by omega) hs4 ?_; intro v5 w5 ho5 hg5 _; obtain ⟨g5, c5, rfl⟩ := own_form ho5 (by omega))
          have htv := TabV.append HV1.out HV2.out (by omega) HU2.out ho5 hg5
          have hb5 : Below w.heap.size w w5 := HB4.out.grown hg5 hs4 (fun j e => (HV1.out.lt j e).1)
          go_roundg (M - q - 1)
          case rel =>
            refine ⟨q + 1, some ⟨g5, 0, none⟩, c5, by have := HQM.out; omega, by go_num, ?_, ?_, hb5⟩
            · rw [HNX.out, List.length_append]
            · rw [HNX.out]
              exact htv
          case measure => have := HQM.out; omega

set_option maxHeartbeats 1000000 in
theorem refList_any (n : Nat) (hn : n ≤ 20) (w : World) :
    Calls Try.prog 20 #[.int .i64 (n : Int)] w fun e w' => ∃ ao co, e = .returned (.slice ao (pF 20 n n).length co) ∧ TabV w' w.heap.size (.slice ao (pF 20 n n).length co) (pF 20 n n) ∧ Below w.heap.size w w' := by
  have hE := rlist_any 20 n n 0 none 0 [] w hn hn (by omega) (by omega) ⟨rfl, .inl rfl⟩ (fun _ => rfl) (Nat.le_refl _)
  have e : (pF 20 n n).map (([] : List Int) ++ ·) = pF 20 n n := by simp
  rw [e] at hE
  obtain ⟨T, hT⟩ : ∃ T, pF 20 n n = T := ⟨_, rfl⟩
  rw [hT] at hE ⊢
  obtain ⟨N, hN⟩ : ∃ N, T.length = N := ⟨_, rfl⟩
  rw [hN] at hE ⊢
  have HE := Lib.hid hE
  clear hE e hT hN
  go_enter Try.func20, Try.ntmps20
  go_wp2_with (go_at_call 60; refine HE.out.mono ?_; rintro e w1 ⟨a, c, rfl, ht, hb⟩; have HT := Lib.hid (And.intro ht hb); clear ht hb)
  go_ret
  exact ⟨a, c, rfl, HT.out.1, HT.out.2⟩
end Go.Proofs.Ytfecdpglcdhijaa
