/- The walks of daysOf and Days at one prime, of lifts, and of the law TopOrder. Conditions: the slice of the prime lies in memory. -/
import Derived.Test.YtjlaclbgfidiiaaDay2
namespace Go.Proofs.Ytjlaclbgfidiiaa
open Go.RowKit
attribute [local go_sem] Oper.semAt_some

theorem cell_two_new (W : World) (x y : Value) (t : TypeId) : ∀ (j : Nat) (u : Value), [x, y][j]? = some u → (W.alloc (.cells #[x, y] t)).cell? ((⟨W.heap.size, 0, none⟩ : Addr).add j) = some u := by
  intro j u h
  have hn : (W.alloc (.cells #[x, y] t)).heap[W.heap.size]? = some (.cells #[x, y] t (0, 0)) := heap_alloc_last W _
  unfold World.cell?
  rw [show ((⟨W.heap.size, 0, none⟩ : Addr).add j).block = W.heap.size by unfold Addr.add; split <;> rfl, hn]
  match j, h with
  | 0, h => simpa [Addr.add] using h
  | 1, h => simpa [Addr.add] using h
  | j + 2, h => simp at h
/-- The days of one prime, as a slice. -/
def DaysAre (k P : Nat) (v : Value) (W : World) : Prop :=
  (dayB k P = false ∧ v = .slice none 0 0) ∨ (dayB k P = true ∧ (dayP k P).2 ≤ 60 ∧ ∃ g c, v = .slice (some ⟨g, 0, none⟩) 1 c ∧ W.cell? ⟨g, 0, none⟩ = some (.int .i64 (dayP k P).1) ∧ W.cell? ⟨g, 1, none⟩ = some (.int .i64 (dayP k P).2))
theorem own_pair {W : World} {B n : Nat} {v : Value} {x y : Value} (h : W.ownsRow B 82 2 v n [x, y]) (hn : n = 1) : ∃ g c, v = .slice (some ⟨g, 0, none⟩) 1 c ∧ W.cell? ⟨g, 0, none⟩ = some x ∧ W.cell? ⟨g, 1, none⟩ = some y := by
  subst hn
  have h' := h
  rcases h.2 with ⟨-, h0⟩ | ⟨g, cap, cur, rfl, h2, h3, h4, h5, h6, h7⟩
  · omega
  · refine ⟨g, cap, rfl, ?_, ?_⟩
    · rw [h'.cellAt 0 (by omega)]; rfl
    · rw [h'.cellAt 1 (by omega)]; rfl
theorem day_two {k P : Nat} (h : dayB k P = true) : (dayP k P).2 = ((ordF P : Nat) : Int) := by
  by_cases h0 : lastH k P (ordF P) = 0
  · rw [(day_last h0).2] at h; cases h
  · rw [(day_last' h0).1]

set_option maxHeartbeats 8000000 in
set_option maxRecDepth 100000 in
theorem daysOf_one (k P g : Nat) (w : World) (hk : k ≤ 1000000) (h3 : 3 ≤ P) (h300 : P < 300) (h2 : P % 2 = 1) (h : w.cell? ⟨g, 0, none⟩ = some (.int .i64 (P : Int))) :
    Calls Try.prog 77 #[.int .i64 (k : Int), .slice (some ⟨g, 0, none⟩) 1 1] w fun e w' => (e = .returned (.tuple #[.slice none 0 0, .int .i64 6]) ∨ ∃ v, e = .returned (.tuple #[v, .int .i64 0]) ∧ DaysAre k P v w') ∧ Below w.heap.size w w' := by
  have HD := Lib.hid (fun w => dayOf_any k P hk h3 h300 h2 w)
  have hdt : dayB k P = true → ∃ m : Nat, (dayP k P).2 = (m : Int) ∧ 1 ≤ m := fun hb => ⟨ordF P, day_two hb, (ord_spec h3 h300 h2).1⟩
  have hda : ∀ v W, ((dayB k P = false ∧ v = .slice none 0 0) ∨ (dayB k P = true ∧ (dayP k P).2 ≤ 60 ∧ ∃ g c, v = .slice (some ⟨g, 0, none⟩) 1 c ∧ W.cell? ⟨g, 0, none⟩ = some (.int .i64 (dayP k P).1) ∧ W.cell? ⟨g, 1, none⟩ = some (.int .i64 (dayP k P).2))) → DaysAre k P v W := fun v W h => h
  obtain ⟨⟨d1, d2⟩, hq⟩ : ∃ q, dayP k P = q := ⟨_, rfl⟩
  obtain ⟨T, hT⟩ : ∃ T, dayB k P = T := ⟨_, rfl⟩
  rw [hq, hT] at HD hdt
  simp only [hq, hT] at hda
  have HDA := Lib.hid hda
  have HDT := Lib.hid hdt
  have H := Lib.hid h
  obtain ⟨i0, hi, hz0, hz1, hz2⟩ := info_parts info82
  have HI := Lib.hid (And.intro hi (And.intro hz0 (And.intro hz1 hz2)))
  have HWN := Lib.hid (fun w => whole_nil w)
  clear h hda hdt hq hT hi hz0 hz1 hz2 h2
  go_enter Try.func77, Try.ntmps77
  go_wp2
  go_loopg [6, 13] 1 (fun gk s6 s13 wr => (gk = 1 ∧ s6 = .slice none 0 0 ∧ s13 = .int .i64 0 ∧ wr = w) ∨ (gk = 0 ∧ s13 = .int .i64 1 ∧ Below w.heap.size w wr ∧ ((T = false ∧ s6 = .slice none 0 0) ∨ (T = true ∧ d2 ≤ 60 ∧ ∃ g c, s6 = .slice (some ⟨g, 0, none⟩) 1 c ∧ wr.cell? ⟨g, 0, none⟩ = some (.int .i64 d1) ∧ wr.cell? ⟨g, 1, none⟩ = some (.int .i64 d2)))))
  case atStart => exact .inl ⟨rfl, rfl, rfl, rfl⟩
  case round =>
    rcases hrel with ⟨rfl, rfl, rfl, rfl⟩ | ⟨rfl, rfl, hb, hs⟩
    · have h := H.out
      go_wp2_with fail
      refine (HD.out _).mono ?_
      rintro e w1 ⟨rfl, hb1⟩
      have HB1 := Lib.hid (hb1.alloc hb1.size (.cells #[.int .i64 d1, .int .i64 d2] 82))
      obtain ⟨e0, e1⟩ := cell_pair w1 (.int .i64 d1) (.int .i64 d2) 82
      clear hb1 HD
      cases T with
      | false =>
        go_wp2
        go_roundg 0
        case rel => exact .inr ⟨rfl, rfl, HB1.out, .inl ⟨by first | trivial | rfl, rfl⟩⟩
        case measure => omega
      | true =>
        by_cases h60 : 60 < d2
        · go_wp2
          go_ret2
          exact ⟨.inl rfl, HB1.out⟩
        · obtain ⟨W2, hW2⟩ : ∃ W2, w1.alloc (.cells #[.int .i64 d1, .int .i64 d2] 82) = W2 := ⟨_, rfl⟩
          rw [hW2] at e0 e1 HB1
          have hsz := HB1.out.size
          have HW2 := Lib.hid hW2
          obtain ⟨hi, hz0, hz1, hz2⟩ := HI.out
          have ho : W2.ownsRow wr.heap.size 82 2 (.slice none 0 0) 0 [] := World.ownsRow_nil _ _ _ _
          go_wp2_with (at_builtin; refine wpList_append_own _ rfl _ _ 98 rfl wr.heap.size 82 i0 (.agg #[.int .i64 0, .int .i64 0]) 2 16 Try.underlying98 hi hz0 hz1 hz2 rfl (by decide) _ _ _ rfl (World.ownsRow.alloc (h := ho) _) ⟨W2.heap.size, 0, none⟩ 1 1 [.int .i64 d1, .int .i64 d2] rfl rfl (cell_two_new _ _ _ _) (by simp [Value.oneCell']) (by unfold maxLen; omega) (by omega) (by first | (simp; done) | (simp; omega)) ?_; intro v' w5 hown' hgrow _)
          have hb5 : Below wr.heap.size wr w5 := (HB1.out.alloc hsz _).grown hgrow (by first | (simp; done) | (simp; omega)) (fun j e => (ho.lt j e).1)
          obtain ⟨g', c', hv, hc0, hc1⟩ := own_pair (n := 0 + 1) hown' rfl
          have HF := Lib.hid (And.intro hb5 (And.intro hc0 hc1))
          have HV := Lib.hid hv
          clear hown' hgrow hb5 hc0 hc1 hW2
          subst hv
          go_wp2
          go_roundg 0
          case rel => exact .inr ⟨rfl, rfl, HF.out.1, .inr ⟨by first | trivial | rfl, by omega, g', c', rfl, HF.out.2.1, HF.out.2.2⟩⟩
          case measure => omega
    · have HB := Lib.hid hb
      rcases hs with ⟨rfl, rfl⟩ | ⟨rfl, h60, g', c', rfl, hc0, hc1⟩
      · clear hb
        go_wp2_with fail
        refine (HWN.out _).mono ?_
        rintro e w2 ⟨rfl, rfl⟩
        go_wp2
        go_ret2
        exact ⟨.inr ⟨_, rfl, HDA.out _ _ (.inl ⟨by first | trivial | rfl, rfl⟩)⟩, HB.out⟩
      · obtain ⟨m, hm, hm1⟩ := HDT.out rfl
        have hm' : d2 = (m : Int) := hm
        subst hm'
        have HW := Lib.hid (whole_one d1 m g' c' wr hm1 (by omega) hc0 hc1)
        have HC0 := Lib.hid hc0
        have HC1 := Lib.hid hc1
        have m60 : m ≤ 60 := by omega
        clear hb hm hc0 hc1
        go_wp2_with fail
        refine HW.out.mono ?_
        rintro e w2 ⟨rfl, hb⟩
        have HB2 := Lib.hid (HB.out.trans (hb.mono HB.out.size))
        have HC := Lib.hid (And.intro (cell_later HC0.out hb) (cell_later HC1.out hb))
        clear hb
        go_wp2
        go_ret2
        exact ⟨.inr ⟨_, rfl, HDA.out _ _ (.inr ⟨by first | trivial | rfl, h60, g', c', rfl, HC.out.1, HC.out.2⟩)⟩, HB2.out⟩

theorem Days_no (k p : Int) (g : Nat) (w : World) (h : w.cell? ⟨g, 0, none⟩ = some (.int .i64 p)) (hno : (isK k && pOk p) = false) :
    Calls Try.prog 51 #[.int .i64 k, .slice (some ⟨g, 0, none⟩) 1 1] w fun e w' => e = .returned (.tuple #[.slice none 0 0, .int .i64 2]) ∧ w = w' := by
  have hF := fun w => validFactor_any k w
  have hV := validPrimes_one p g w h
  cases hk : isK k with
  | false =>
    rw [hk] at hF
    have HF := Lib.hid hF
    clear hF hV hno h hk
    go_enter Try.func51, Try.ntmps51
    go_wp2_with fail
    refine (HF.out _).mono ?_
    rintro e w1 ⟨rfl, rfl⟩
    go_wp2
    go_ret2
    exact ⟨rfl, rfl⟩
  | true =>
    rw [hk] at hF
    rw [hk, Bool.true_and] at hno
    rw [hno] at hV
    have HF := Lib.hid hF
    have HV := Lib.hid hV
    clear hF hV hno h hk
    go_enter Try.func51, Try.ntmps51
    go_wp2_with fail
    refine (HF.out _).mono ?_
    rintro e w1 ⟨rfl, rfl⟩
    go_wp2_with fail
    refine HV.out.mono ?_
    rintro e w1 ⟨rfl, rfl⟩
    go_wp2
    go_ret2
    exact ⟨rfl, rfl⟩
theorem isK_spec {k : Int} (h : isK k = true) : ∃ K : Nat, k = (K : Int) ∧ K ≤ 1000000 := by
  unfold isK at h
  simp only [Bool.and_eq_true, decide_eq_true_eq] at h
  exact ⟨k.toNat, by omega, by omega⟩
theorem pOk_spec {p : Int} (h : pOk p = true) : ∃ P : Nat, p = (P : Int) ∧ 3 ≤ P ∧ P < 300 ∧ P % 2 = 1 := by
  unfold pOk at h
  simp only [Bool.and_eq_true, decide_eq_true_eq] at h
  exact ⟨p.toNat, by omega, by omega, by omega, pr_odd (by omega) h.2⟩
set_option maxRecDepth 100000 in
theorem Days_yes (k P g : Nat) (w : World) (h : w.cell? ⟨g, 0, none⟩ = some (.int .i64 (P : Int))) (hk : isK (k : Int) = true) (hp : pOk (P : Int) = true) :
    Calls Try.prog 51 #[.int .i64 (k : Int), .slice (some ⟨g, 0, none⟩) 1 1] w fun e w' => (e = .returned (.tuple #[.slice none 0 0, .int .i64 6]) ∨ ∃ v, e = .returned (.tuple #[v, .int .i64 0]) ∧ DaysAre k P v w') ∧ Below w.heap.size w w' := by
  have hF := fun w => validFactor_any (k : Int) w
  have hV := validPrimes_one (P : Int) g w h
  rw [hk] at hF
  rw [hp] at hV
  obtain ⟨K, e1, hk2⟩ := isK_spec hk
  obtain rfl : k = K := by omega
  obtain ⟨Q, e2, h3, h300, h2⟩ := pOk_spec hp
  obtain rfl : P = Q := by omega
  have HD := Lib.hid (daysOf_one k P g w hk2 h3 h300 h2 h)
  have HF := Lib.hid hF
  have HV := Lib.hid hV
  clear hF hV h hk hp e1 e2
  go_enter Try.func51, Try.ntmps51
  go_wp2_with fail
  refine (HF.out _).mono ?_
  rintro e w1 ⟨rfl, rfl⟩
  go_wp2_with fail
  refine HV.out.mono ?_
  rintro e w1 ⟨rfl, rfl⟩
  go_wp2_with fail
  refine HD.out.mono ?_
  rintro e w2 ⟨hr, hb⟩
  have HB := Lib.hid hb
  clear hb
  rcases hr with rfl | ⟨v, rfl, hv⟩
  · go_wp2
    go_ret2
    exact ⟨.inl rfl, HB.out⟩
  · have HV2 := Lib.hid hv
    clear hv
    go_wp2
    go_ret2
    exact ⟨.inr ⟨v, rfl, HV2.out⟩, HB.out⟩

set_option maxHeartbeats 4000000 in
set_option maxRecDepth 100000 in
theorem lifts_any (w : World) : Calls Try.prog 52 #[] w fun e w' => e = .returned (.bool true) ∧ Below w.heap.size w w' := by
  have hb0 := (Below.refl w.heap.size w).alloc (Nat.le_refl _) (.cells #[.int .i64 (-2), .int .i64 1] 3)
  have hR := Roots_yes 3 2 (some ⟨w.heap.size, 0, none⟩) 2 2 [-2, 1] _ (Row.lit2 w (-2) 1) (by decide +kernel) (by decide +kernel)
  rw [rts12] at hR
  have HR := Lib.hid hR
  have HB0 := Lib.hid hb0
  clear hR hb0
  go_enter Try.func52, Try.ntmps52
  go_wp2_with fail
  refine HR.out.mono ?_
  rintro e w1 ⟨⟨v, rfl, hr⟩, hb⟩
  obtain ⟨a, n, c, rfl, hi, hn⟩ := hr.ints
  have hn2 : n = 1 := hn
  subst hn2
  have HB := Lib.hid (HB0.out.trans (hb.mono HB0.out.size))
  have HI := Lib.hid hi
  have HL := Lib.hid (Row.lit w1 2)
  have HB2 := Lib.hid ((Below.refl w1.heap.size w1).alloc (Nat.le_refl _) (.cells #[.int .i64 2] 3))
  clear hr hb hn hi
  go_wp2_with fail
  refine (equal_any _ _ _ _ _ _ _ _ _ (HI.out.below HB2.out) HL.out (by omega) (by omega)).mono ?_
  rintro e w2 ⟨rfl, q, rfl⟩
  go_wp2
  go_ret
  exact ⟨ret_bool (by decide), below_drewN (HB.out.trans (HB2.out.mono HB.out.size)) q⟩

/-- The digits of one divided by a prime come again after its order. -/
theorem order_is {P s t : Nat} (h3 : 3 ≤ P) (h300 : P < 300) (h2 : P % 2 = 1) (h : IsAg 2 1 (P : Int) s t) : t = ordF P := by
  have hq : (2 : Nat) ∈ [2, 3, 5, 7, 11, 13] := by decide
  have hb : ¬ ((2 : Nat) : Int) ∣ (P : Int) := fun h => by have := Int.natCast_dvd_natCast.1 h; omega
  obtain ⟨o1, o2, o3, o4⟩ := ord_spec h3 h300 h2
  have ht := h.pos
  have e1 : (P : Int) ∣ ((2 : Nat) : Int) ^ ordF P - 1 := by
    have := Nat.div_add_mod (2 ^ ordF P) P
    rw [o3] at this
    refine ⟨((2 ^ ordF P / P : Nat) : Int), ?_⟩
    have h5 : ((2 ^ ordF P : Nat) : Int) = (P : Int) * ((2 ^ ordF P / P : Nat) : Int) + 1 := by
      rw [← Int.natCast_mul]; omega
    rw [Int.natCast_pow] at h5
    omega
  have h4 := ag_divides hq hb (by omega) (by omega) (by omega) h e1
  have h5 : t ≤ ordF P := Nat.le_of_dvd (by omega) (Nat.dvd_of_mod_eq_zero h4)
  have p1 := rs_pow hq hb (a := 1) s
  have p2 := rs_pow hq hb (a := 1) (s + t)
  rw [← h.eq] at p2
  have p3 : (P : Int) ∣ ((2 : Nat) : Int) ^ t - 1 := by
    have h6 : (P : Int) ∣ ((2 : Nat) : Int) ^ t * (((2 : Nat) : Int) ^ s * rs 2 1 (P : Int) s - 1) := Int.dvd_mul_of_dvd_right p1
    have h7 := Int.dvd_sub p2 h6
    rwa [show ((2 : Nat) : Int) ^ (s + t) * rs 2 1 (P : Int) s - 1 - ((2 : Nat) : Int) ^ t * (((2 : Nat) : Int) ^ s * rs 2 1 (P : Int) s - 1) = ((2 : Nat) : Int) ^ t - 1 by rw [Int.pow_add]; grind] at h7
  have p4 : 2 ^ t % P = 1 := by
    have h6 : ((2 ^ t : Nat) : Int) % (P : Int) = 1 := by
      rw [Int.natCast_pow, dvd_emod p3]
      exact Int.emod_eq_of_lt (by omega) (by omega)
    omega
  apply Decidable.byContradiction
  intro hne
  exact o4 t ht (by omega) p4

set_option maxHeartbeats 8000000 in
set_option maxRecDepth 100000 in
theorem lawOrder_any (k p : Int) (w : World) :
    Calls Try.prog 15 #[.int .i64 k, .int .i64 p] w fun e w' => e = .returned (.bool true) ∧ Below w.heap.size w w' := by
  have hc := cell_box w (.int .i64 p) 3
  have HB0 := Lib.hid ((Below.refl w.heap.size w).alloc (Nat.le_refl _) (.cells #[.int .i64 p] 3))
  cases hh : isK k && pOk p with
  | false =>
    have HD := Lib.hid (Days_no k p w.heap.size _ hc hh)
    clear hc hh
    go_enter Try.func15, Try.ntmps15
    go_wp2_with fail
    refine HD.out.mono ?_
    rintro e w1 ⟨rfl, hw⟩
    have HB1 := Lib.hid (show Below w.heap.size w w1 by rw [← hw]; exact HB0.out)
    clear hw
    go_wp2_with fail
    refine (lifts_any _).mono ?_
    rintro e w2 ⟨rfl, hb⟩
    have HB2 := Lib.hid (HB1.out.trans (hb.mono HB1.out.size))
    clear hb
    go_wp2
    go_ret
    exact ⟨rfl, HB2.out⟩
  | true =>
    rw [Bool.and_eq_true] at hh
    obtain ⟨K, rfl, -⟩ := isK_spec hh.1
    obtain ⟨P, rfl, h3, h300, h2⟩ := pOk_spec hh.2
    have HD := Lib.hid (Days_yes K P w.heap.size _ hc hh.1 hh.2)
    have hA := fun w => Again_yes 1 (P : Int) 2 w (by
      unfold isFr
      simp only [Bool.and_eq_true, decide_eq_true_eq, Bool.not_eq_true', decide_eq_false_iff_not]
      refine ⟨⟨⟨⟨⟨by decide, by omega⟩, by omega⟩, by omega⟩, by omega⟩, ?_⟩
      omega)
    have e2 : ((2 : Nat) : Int) = 2 := rfl
    rw [e2] at hA
    have HA := Lib.hid hA
    have HO := Lib.hid (fun s t h => order_is (s := s) (t := t) h3 h300 h2 h)
    have HDT := Lib.hid (fun h => day_two (k := K) (P := P) h)
    have p300 : ¬ (300 : Int) < (P : Int) := by omega
    clear hc hh hA e2
    go_enter Try.func15, Try.ntmps15
    go_wp2_with fail
    refine HD.out.mono ?_
    rintro e w1 ⟨hr, hb⟩
    have HB1 := Lib.hid (HB0.out.trans (hb.mono HB0.out.size))
    clear hb
    rcases hr with rfl | ⟨v, rfl, hv⟩
    · go_wp2_with fail
      refine (lifts_any _).mono ?_
      rintro e w2 ⟨rfl, hb⟩
      have HB2 := Lib.hid (HB1.out.trans (hb.mono HB1.out.size))
      clear hb
      go_wp2
      go_ret
      exact ⟨rfl, HB2.out⟩
    · have HV := Lib.hid hv
      clear hv
      go_wp2_with fail
      refine (HA.out _).mono ?_
      rintro e w2 ⟨⟨s, t, rfl, hst⟩, hb⟩
      have HB2 := Lib.hid (HB1.out.trans (hb.mono HB1.out.size))
      have ht := hst.pos
      have HT := Lib.hid (HO.out s t hst)
      have t1 : ¬ (t : Int) < 1 := by omega
      have s0 : ¬ (s : Int) < 0 := by omega
      rcases HV.out with ⟨-, rfl⟩ | ⟨hB, h60, g, c, rfl, hc0, hc1⟩
      · clear hb hst ht
        go_wp2_with fail
        refine (lifts_any _).mono ?_
        rintro e w3 ⟨rfl, hb⟩
        have HB3 := Lib.hid (HB2.out.trans (hb.mono HB2.out.size))
        clear hb
        go_wp2
        go_ret
        exact ⟨rfl, HB3.out⟩
      · have hd2 := HDT.out hB
        rw [hd2, ← HT.out] at hc1
        have c1 := cell_later hc1 hb
        clear hb hst ht hc0 hc1 h60 hB hd2
        go_wp2_with fail
        refine (lifts_any _).mono ?_
        rintro e w3 ⟨rfl, hb⟩
        have HB3 := Lib.hid (HB2.out.trans (hb.mono HB2.out.size))
        clear hb
        go_wp2
        go_ret
        exact ⟨rfl, HB3.out⟩
end Go.Proofs.Ytjlaclbgfidiiaa
