/- The walk of the reference's Refine. Condition: the slice lies in memory. -/
import Derived.Test.YtanhjgneaaenpaaNeed
import Derived.Test.YtanhjgneaaenpaaRefined
import Derived.Test.YtanhjgneaaenpaaRefine
namespace Go.Proofs.Ytanhjgneaaenpaa
open Go.RowKit
attribute [local go_sem] Oper.semAt_some
set_option maxRecDepth 100000 in
set_option maxHeartbeats 8000000 in
theorem RefineR_i0 (a : Option Addr) (n c : Nat) (xs : List (Int × Int)) (i r : Int) (w : World) (h : Prs w a n xs) (hc : n ≤ c) (hn : n ≤ 1000) (hcm : c ≤ maxLen) (hi : i < 0) :
    Calls Try.prog 40 #[.slice a n c, .int .i64 i, .int .i64 r] w fun e w' => e = .returned (.tuple #[.slice none 0 0, .bool false]) ∧ Below w.heap.size w w' := by
  have k1 : decide (i < 0) = true := by simpa using hi
  clear h
  go_enter Try.func40, Try.ntmps40
  go_wp2
  go_ret2
  exact ⟨rfl, Below.refl _ _⟩
set_option maxRecDepth 100000 in
set_option maxHeartbeats 8000000 in
theorem RefineR_in (a : Option Addr) (n c : Nat) (xs : List (Int × Int)) (i r : Int) (w : World) (h : Prs w a n xs) (hc : n ≤ c) (hn : n ≤ 1000) (hcm : c ≤ maxLen) (hi0 : 0 ≤ i) (hi : (n : Int) ≤ i) :
    Calls Try.prog 40 #[.slice a n c, .int .i64 i, .int .i64 r] w fun e w' => e = .returned (.tuple #[.slice none 0 0, .bool false]) ∧ Below w.heap.size w w' := by
  have k1 : decide (i < 0) = false := by simp; omega
  have k2 : decide ((n : Int) ≤ i) = true := by simpa using hi
  clear h
  go_enter Try.func40, Try.ntmps40
  go_wp2
  go_ret2
  exact ⟨rfl, Below.refl _ _⟩
set_option maxRecDepth 100000 in
set_option maxHeartbeats 8000000 in
theorem RefineR_r2 (a : Option Addr) (n c : Nat) (xs : List (Int × Int)) (i r : Int) (w : World) (h : Prs w a n xs) (hc : n ≤ c) (hn : n ≤ 1000) (hcm : c ≤ maxLen) (hi0 : 0 ≤ i) (hi : i < (n : Int)) (hr : r < 2) :
    Calls Try.prog 40 #[.slice a n c, .int .i64 i, .int .i64 r] w fun e w' => e = .returned (.tuple #[.slice none 0 0, .bool false]) ∧ Below w.heap.size w w' := by
  have k1 : decide (i < 0) = false := by simp; omega
  have k2 : decide ((n : Int) ≤ i) = false := by simp; omega
  have k3 : decide (r < 2) = true := by simpa using hr
  clear h
  go_enter Try.func40, Try.ntmps40
  go_wp2
  go_ret2
  exact ⟨rfl, Below.refl _ _⟩
set_option maxRecDepth 100000 in
set_option maxHeartbeats 8000000 in
theorem RefineR_r5 (a : Option Addr) (n c : Nat) (xs : List (Int × Int)) (i r : Int) (w : World) (h : Prs w a n xs) (hc : n ≤ c) (hn : n ≤ 1000) (hcm : c ≤ maxLen) (hi0 : 0 ≤ i) (hi : i < (n : Int)) (hr2 : 2 ≤ r) (hr : 5 < r) :
    Calls Try.prog 40 #[.slice a n c, .int .i64 i, .int .i64 r] w fun e w' => e = .returned (.tuple #[.slice none 0 0, .bool false]) ∧ Below w.heap.size w w' := by
  have k1 : decide (i < 0) = false := by simp; omega
  have k2 : decide ((n : Int) ≤ i) = false := by simp; omega
  have k3 : decide (r < 2) = false := by simp; omega
  have k4 : decide (5 < r) = true := by simpa using hr
  clear h
  go_enter Try.func40, Try.ntmps40
  go_wp2
  go_ret2
  exact ⟨rfl, Below.refl _ _⟩

theorem src_new (W : World) (x y : Int) (t : TypeId) : Src (some ⟨W.heap.size, 0, none⟩) 1 [(x, y)] (W.alloc (.cells #[.int .i64 x, .int .i64 y] t)) := by
  refine ⟨rfl, .inr ⟨_, rfl, fun j u hj => ?_⟩⟩
  exact cell_two_new W _ _ t j u (by simpa [fl] using hj)

/-- An append of pairs onto a row of the call's own, or a full one, outside a region that draws. -/
theorem wpList_app2 {ops : Array Oper} {rest : List Oper} {o : Oper} {a : Act} {w : World} {Q : Exit → Act → World → Prop} (hgd : o.guard = none) (s x : Operand)
    (ho : o.op = .call { callee := .builtin .append, args := #[s, x], argTypes := #[22, 22] })
    (B : Nat) (v : Value) (xs : List (Int × Int)) (hs : a.eval s = v) (hown : Row2 B v xs w) (ao : Option Addr) (m c : Nat) (ys : List (Int × Int)) (hx : a.eval x = .slice ao m c) (hy : Src ao m ys w)
    (hlen : xs.length + ys.length ≤ 100000) (hB : B ≤ w.heap.size)
    (h : ∀ v' w', Row2 B v' (xs ++ ys) w' → Below B w w' → wpList Try.prog ops Q rest (a.put o.dst v') w') :
    wpList Try.prog ops Q (o :: rest) a w := by
  obtain ⟨i3, j1, j2, j3, j4⟩ := info_parts info44
  have j0 := Try.underlying22
  obtain ⟨hl, hy⟩ := hy
  rcases hy with ⟨rfl, rfl⟩ | ⟨ad, rfl, hc⟩
  · have e : ys = [] := List.length_eq_zero_iff.1 hl
    have hr : ∀ ty, (Builtin.append_ #[22, 22] ty #[v, .slice none 0 c]).run Try.prog w = .ok v w := by
      intro ty
      rcases hown.2 with ⟨rfl, -⟩ | ⟨g, cap, cur, rfl, _, _, hnc, _⟩
      · simp [Builtin.append_, run_underlying j0, sizeOf, typeInfo, j1, Builtin.lenOf, Builtin.firstCells]
      · simp [Builtin.append_, run_underlying j0, sizeOf, typeInfo, j1, Builtin.lenOf, Builtin.firstCells, hnc, storeCells]
    refine wpList_plain hgd fun K hK => ?_
    unfold Oper.wp execOp
    simp only [ho, resolve, invoke, builtin, Sem.run_bind, Sem.run_pure, Result.andThen_ok, List.map_toArray, List.map_cons, List.map_nil, hs, hx, hr]
    exact hK _ _ (h v w (by rw [e, List.append_nil]; exact hown) (Below.refl _ _))
  · refine wpList_append_own w hgd s x 22 ho B 44 i3 (.agg #[.int .i64 0, .int .i64 0]) 2 16 j0 j1 j2 j3 j4 rfl (by decide) v _ _ hs hown ad m c (fl ys) hx (by rw [fl_len, hl]) hc (fl_one ys) (by unfold maxLen; omega) (by omega) hB fun v' w' h1 h2 _ => h v' w' ?_ ?_
    · unfold Row2
      rw [List.length_append, hl, fl_app]
      exact h1
    · exact (Below.refl B w).grown h2 hB fun k hk => (World.ownsRow.lt hown k hk).1
/-- .. inside one. -/
theorem step_app3 {ops : Array Oper} {o : Oper} {a : Act} {w : World} {K : Act → World → Prop} {Q : Exit → Act → World → Prop} {E : Prop} (hgd : o.guard = none) (s x : Operand)
    (ho : o.op = .call { callee := .builtin .append, args := #[s, x], argTypes := #[22, 22] })
    (B : Nat) (v : Value) (xs : List (Int × Int)) (hs : a.eval s = v) (hown : Row2 B v xs w) (ad : Addr) (m c : Nat) (ys : List (Int × Int)) (hx : a.eval x = .slice (some ad) m c) (hy : Src (some ad) m ys w)
    (hlen : xs.length + ys.length ≤ 100000) (hB : B ≤ w.heap.size)
    (h : ∀ v' w', Row2 B v' (xs ++ ys) w' → Below B w w' → K (a.put o.dst v') w') :
    if Region.wanted o (yielded ops a.tmps) = true then Oper.wp Try.prog o a w K Q else E := by
  have hw : Region.wanted o (yielded ops a.tmps) = true := by simp [Region.wanted, hgd]
  rw [if_pos hw]
  obtain ⟨i3, j1, j2, j3, j4⟩ := info_parts info44
  have j0 := Try.underlying22
  obtain ⟨hl, hy⟩ := hy
  rcases hy with ⟨h0, -⟩ | ⟨ad', h0, hc⟩
  · cases h0
  · cases h0
    refine wp_append_own (P := Try.prog) w s x 22 ho B 44 i3 (.agg #[.int .i64 0, .int .i64 0]) 2 16 j0 j1 j2 j3 j4 rfl (by decide) v _ _ hs hown ad m c (fl ys) hx (by rw [fl_len, hl]) hc (fl_one ys) (by unfold maxLen; omega) (by omega) hB fun v' w' h1 h2 _ => h v' w' ?_ ?_
    · unfold Row2
      rw [List.length_append, hl, fl_app]
      exact h1
    · exact (Below.refl B w).grown h2 hB fun k hk => (World.ownsRow.lt hown k hk).1
theorem src_take {b off n i : Nat} {xs : List (Int × Int)} {w : World} (hl : xs.length = n) (hi : i ≤ n) (hb : b < w.heap.size) (hcell : ∀ j, j < n → w.cell? ⟨b, off + j * 2, none⟩ = some (.int .i64 (nth xs j).1) ∧ w.cell? ⟨b, off + j * 2 + 1, none⟩ = some (.int .i64 (nth xs j).2)) :
    ∀ W, Below w.heap.size w W → Src (some ⟨b, off, none⟩) i (xs.take i) W := by
  intro W hW
  have hp : Prs w (some ⟨b, off, none⟩) n xs := ⟨hl, .inr ⟨b, off, rfl, hb, hcell⟩⟩
  exact ((hp.front i hi).below hW).src
theorem row_empty (W : World) (B : Nat) (h : B ≤ W.heap.size) : Row2 B (.slice (some ⟨W.heap.size, 0, none⟩) 0 0) [] (W.alloc (.cells #[] 44)) := World.ownsRow_made W #[] 0 h (Nat.zero_le _) rfl
set_option maxRecDepth 100000 in
set_option maxHeartbeats 8000000 in
theorem RefineR_yes (a : Option Addr) (n c : Nat) (xs : List (Int × Int)) (i r : Int) (w : World) (h : Prs w a n xs) (hc : n ≤ c) (hn : n ≤ 1000) (hcm : c ≤ maxLen) (hi0 : 0 ≤ i) (hi : i < (n : Int)) (hr2 : 2 ≤ r) (hr5 : r ≤ 5) (hok : Ok xs) :
    Calls Try.prog 40 #[.slice a n c, .int .i64 i, .int .i64 r] w fun e w' => ∃ v, e = .returned (.tuple #[v, .bool (isS (refA xs i.toNat r))]) ∧ Row2 w.heap.size v (refA xs i.toNat r) w' ∧ Below w.heap.size w w' := by
  obtain ⟨I, rfl⟩ := Int.eq_ofNat_of_zero_le hi0
  obtain ⟨R, rfl⟩ := Int.eq_ofNat_of_zero_le (show 0 ≤ r by omega)
  have k1 : decide ((I : Int) < 0) = false := by simp
  have k2 : decide ((n : Int) ≤ (I : Int)) = false := by simp; omega
  have k2' : decide (n ≤ I) = false := by simp; omega
  have k3 : decide ((R : Int) < 2) = false := by simp; omega
  have k4 : decide (5 < (R : Int)) = false := by simp; omega
  have hIn : I < n := by omega
  have R5 : R ≤ 5 := by omega
  rw [Int.toNat_natCast]
  obtain ⟨b, off, rfl, hbl, hcell⟩ := h.at (by omega)
  have HL := Lib.hid h.1
  have HT := Lib.hid (src_take h.1 (Nat.le_of_lt hIn) hbl hcell)
  obtain ⟨-, hdr⟩ := repl_facts h.1 hIn hbl hcell
  have HDR := Lib.hid hdr
  have hcell1 : ∀ W, Below w.heap.size w W → W.cell? ⟨b, off + I * 2, none⟩ = some (.int .i64 (nth xs I).1) ∧ W.cell? ⟨b, off + I * 2 + 1, none⟩ = some (.int .i64 (nth xs I).2) := fun W hW => ⟨(hW.cell (p := ⟨b, off + I * 2, none⟩) hbl).trans (hcell I hIn).1, (hW.cell (p := ⟨b, off + I * 2 + 1, none⟩) hbl).trans (hcell I hIn).2⟩
  have HC := Lib.hid hcell1
  have hokI := hok.nth (j := I) (by have := HL.out; omega)
  have HRS := Lib.hid (fun k => refL_succ (nth xs I) (R : Int) k)
  have HRL := Lib.hid (fun k => refL_len (nth xs I) (R : Int) k)
  have hAe : refA xs I (R : Int) = xs.take I ++ refL (nth xs I) (R : Int) R ++ xs.drop (I + 1) := by unfold refA; rw [Int.toNat_natCast]
  have HAE := Lib.hid hAe
  have HTL := Lib.hid (show (xs.take I).length ≤ 1000 by rw [List.length_take]; omega)
  have HDL := Lib.hid (show (xs.drop (I + 1)).length ≤ 1000 by rw [List.length_drop, HL.out]; omega)
  obtain ⟨A, hAA⟩ : ∃ A, refA xs I (R : Int) = A := ⟨_, rfl⟩
  rw [hAA] at HAE ⊢
  obtain ⟨x, hx⟩ : ∃ x, (nth xs I).1 = x := ⟨_, rfl⟩
  obtain ⟨y, hy⟩ : ∃ y, (nth xs I).2 = y := ⟨_, rfl⟩
  rw [hx, hy] at HC
  rw [hx, hy] at hokI
  obtain ⟨y0, y1, x0, x1⟩ := hokI
  have hnx : nth xs I = (x, y) := by rw [← hx, ← hy]
  have HNX := Lib.hid hnx
  have I0 : (0 : Int) ≤ (I : Int) := by omega
  have I1 : (I : Int) < (n : Int) := by omega
  have I2 : (I : Int) ≤ (c : Int) := by omega
  have I3 : I ≤ c := by omega
  clear h hi0 hi hr2 hr5 hok hcell hcell1 hAe hAA hx hy hnx hdr
  go_enter Try.func40, Try.ntmps40
  have hA1 : ([] : List (Int × Int)).length + (xs.take I).length ≤ 100000 := by have := HTL.out; simp at this ⊢; omega
  go_wp2_with (at_builtin; refine wpList_app2 rfl (.tmp 26) (.tmp 29) rfl w.heap.size _ [] rfl (row_empty w w.heap.size (Nat.le_refl _)) (some ⟨b, off, none⟩) I c (xs.take I) rfl (HT.out _ ((Below.refl _ _).alloc (Nat.le_refl _) _)) hA1 (by simp) ?_; intro v1 w1 ho1 hb1)
  rw [List.nil_append] at ho1
  have HB1 := Lib.hid (((Below.refl w.heap.size w).alloc (Nat.le_refl _) (.cells #[] 44)).trans hb1)
  have HO1 := Lib.hid ho1
  clear ho1 hb1 hA1
  go_loopg [8, 9, 32] R (fun gk s8 s9 s32 wr => ∃ (k : Nat), k + gk = R ∧ s32 = .int .i64 (k : Int) ∧ Row2 w.heap.size s8 (xs.take I ++ refL (nth xs I) (R : Int) k) wr ∧ Below w.heap.size w wr)
  case atStart => exact ⟨0, by omega, rfl, by rw [show refL (nth xs I) (R : Int) 0 = [] from rfl, List.append_nil]; exact HO1.out, HB1.out⟩
  case round =>
    obtain ⟨k, hk, rfl, ho, hb⟩ := hrel
    have HK := Lib.hid hk
    have HO := Lib.hid ho
    have HB := Lib.hid hb
    clear ho hb
    by_cases hkr : k = R
    · have hge : ¬ (k : Int) < (R : Int) := by omega
      have hge2 : ¬ k < R := by omega
      have ho := HO.out
      rw [hkr] at ho
      have HF := Lib.hid ho
      have hlen : (xs.take I ++ refL (nth xs I) (R : Int) R).length + (xs.drop (I + 1)).length ≤ 100000 := by
        rw [List.length_append, HRL.out]; have := HTL.out; have := HDL.out; omega
      have j1 : (I : Int) + 1 ≤ (n : Int) := by omega
      have j2 : (I : Int) + 1 ≤ (c : Int) := by omega
      have j3 : (0 : Int) ≤ (I : Int) + 1 := by omega
      have j4 : ((I : Int) + 1).toNat = I + 1 := by omega
      have HLEN := Lib.hid hlen
      clear hkr hk ho hlen
      have hcapc : c = I + 1 ∨ I + 1 < c := by omega
      have fin : ∀ (vf : Value) (wf : World), Row2 w.heap.size vf (xs.take I ++ refL (nth xs I) (R : Int) R ++ xs.drop (I + 1)) wf → Below w.heap.size w wf →
          ∃ a3 c3, vf = .slice a3 A.length c3 ∧ Row2 w.heap.size (.slice a3 A.length c3) A wf ∧ A.length ≤ c3 ∧ c3 ≤ maxLen ∧ Prs wf a3 A.length A := by
        intro vf wf h1 h2
        rw [← HAE.out] at h1
        obtain ⟨a3, c3, rfl, h3, h4, h5⟩ := h1.prs
        exact ⟨a3, c3, rfl, h1, h3, h4, h5⟩
      have HFIN := Lib.hid fin
      have HALN := Lib.hid (show A.length ≤ 4611686018427387904 by rw [HAE.out, List.length_append]; have := HLEN.out; omega)
      clear fin
      rcases hcapc with hcap | hcap
      · have hn1 : n = I + 1 := by omega
        subst hcap hn1
        go_wp2_with (at_builtin; refine wpList_app2 rfl (.tmp 60) (.tmp 64) rfl w.heap.size u8 _ rfl HF.out (some ⟨b, off, none⟩) 0 0 (xs.drop (I + 1)) rfl (HDR.out _ HB.out _ _ (by omega) (.inl rfl)) HLEN.out HB.out.size ?_; intro v2 w2 ho2 hb2)
        obtain ⟨a3, c3, rfl, hr3, hc3, hm3, hp3⟩ := HFIN.out v2 w2 ho2 (HB.out.trans hb2)
        have HR3 := Lib.hid hr3
        have HB2 := Lib.hid (HB.out.trans hb2)
        have HVA := Lib.hid (validR_any a3 A.length c3 A w2 hp3 HALN.out)
        clear ho2 hr3 hp3 hb2
        go_wp2_with fail
        refine HVA.out.mono ?_
        rintro e w3 ⟨rfl, hb3⟩
        have HR4 := Lib.hid (own_later HR3.out hb3)
        have HB3 := Lib.hid (HB2.out.trans (hb3.mono HB2.out.size))
        clear hb3 HVA
        go_wp2
        go_ret2
        exact ⟨_, rfl, HR4.out, HB3.out⟩
      · have hcap2 : ¬ I + 1 = c := by omega
        go_wp2_with (at_builtin; refine wpList_app2 rfl (.tmp 60) (.tmp 64) rfl w.heap.size u8 _ rfl HF.out (some ⟨b, off + (I + 1) * 2, none⟩) (n - (I + 1)) (c - (I + 1)) (xs.drop (I + 1)) rfl (HDR.out _ HB.out _ _ rfl (.inr rfl)) HLEN.out HB.out.size ?_; intro v2 w2 ho2 hb2)
        obtain ⟨a3, c3, rfl, hr3, hc3, hm3, hp3⟩ := HFIN.out v2 w2 ho2 (HB.out.trans hb2)
        have HR3 := Lib.hid hr3
        have HB2 := Lib.hid (HB.out.trans hb2)
        have HVA := Lib.hid (validR_any a3 A.length c3 A w2 hp3 HALN.out)
        clear ho2 hr3 hp3 hb2
        go_wp2_with fail
        refine HVA.out.mono ?_
        rintro e w3 ⟨rfl, hb3⟩
        have HR4 := Lib.hid (own_later HR3.out hb3)
        have HB3 := Lib.hid (HB2.out.trans (hb3.mono HB2.out.size))
        clear hb3 HVA
        go_wp2
        go_ret2
        exact ⟨_, rfl, HR4.out, HB3.out⟩
    · have hlt : (k : Int) < (R : Int) := by omega
      have hlt2 : k < R := by omega
      have k5 : (k : Int) ≤ 5 := by omega
      have r5 : (R : Int) ≤ 5 := by omega
      have k0 : (0 : Int) ≤ (k : Int) := by omega
      have q1 : 0 ≤ (k : Int) * y := Int.mul_nonneg k0 (by omega)
      have q2 : (k : Int) * y ≤ 5 * y := Int.mul_le_mul_of_nonneg_right k5 (by omega)
      have q3 : 0 ≤ y * (R : Int) := Int.mul_nonneg (by omega) (by omega)
      have q4 : y * (R : Int) ≤ y * 5 := Int.mul_le_mul_of_nonneg_left r5 (by omega)
      have z1 : IntKind.i64.wrap ((k : Int) * y) = (k : Int) * y := IntWalk.i64_in _ (by omega)
      have z2 : IntKind.i64.wrap (x + (k : Int) * y) = x + (k : Int) * y := IntWalk.i64_in _ (by omega)
      have z3 : IntKind.i64.wrap (y * (R : Int)) = y * (R : Int) := IntWalk.i64_in _ (by omega)
      obtain ⟨c0, c1⟩ := HC.out wr HB.out
      have hlen : (xs.take I ++ refL (nth xs I) (R : Int) k).length + [(x + (k : Int) * y, y * (R : Int))].length ≤ 100000 := by
        rw [List.length_append, HRL.out]; have := HTL.out; simp at this ⊢; omega
      have HLEN := Lib.hid hlen
      have ho2 : Row2 w.heap.size u8 (xs.take I ++ refL (nth xs I) (R : Int) k) (wr.drew.alloc (.cells #[.int .i64 (x + (k : Int) * y), .int .i64 (y * (R : Int))] 44)) := World.ownsRow.alloc (h := own_same HO.out fun _ _ _ => rfl) _
      have HO2 := Lib.hid ho2
      have HBD := Lib.hid ((below_drewN HB.out 1).alloc (show w.heap.size ≤ (wr.drewN 1).heap.size from HB.out.size) (.cells #[.int .i64 (x + (k : Int) * y), .int .i64 (y * (R : Int))] 44))
      have HSN := Lib.hid (src_new wr.drew (x + (k : Int) * y) (y * (R : Int)) 44)
      have HSUC := Lib.hid (show refL (nth xs I) (R : Int) (k + 1) = refL (nth xs I) (R : Int) k ++ [(x + (k : Int) * y, y * (R : Int))] by rw [HRS.out, HNX.out])
      clear hkr hk q1 q2 q3 q4 hlen ho2 k5 r5
      go_wp2
      go_region_law (refine step_app3 rfl (.tmp 35) (.tmp 57) rfl w.heap.size u8 (xs.take I ++ refL (nth xs I) (R : Int) k) (by simp [Act.eval, Act.put]) HO2.out ⟨wr.heap.size, 0, none⟩ 1 1 [(x + (k : Int) * y, y * (R : Int))] (by simp [Act.eval, Act.put]) HSN.out HLEN.out HBD.out.size ?_; intro v2 w2 hb2 hbl2; have HV2 := Lib.hid hb2; have HW2 := Lib.hid (HBD.out.trans hbl2); clear hb2 hbl2)
      all_goals
        go_wp2
        go_roundg (R - k - 1)
        case rel => exact ⟨k + 1, by have := HK.out; omega, by go_num, by rw [HSUC.out, ← List.append_assoc]; exact HV2.out, HW2.out⟩
        case measure => have := HK.out; omega
end Go.Proofs.Ytanhjgneaaenpaa
