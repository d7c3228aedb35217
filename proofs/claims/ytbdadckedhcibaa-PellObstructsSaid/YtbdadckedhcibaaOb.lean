/- The walks of pell.squares, solvable and Obstruct: the least modulus for which there is no solution. Conditions as stated in each theorem (a D, an n). -/
import Derived.Test.YtbdadckedhcibaaObMath
import Derived.Test.YtbdadckedhcibaaSame
import Derived.Maps.OwnOps
import Derived.Maps.OwnSet
import Derived.Maps.Views
import Derived.Deep.RegionHeld3
namespace Go.Proofs.Ytbdadckedhcibaa
open Go.RowKit Go.Shelf Go.Maps Go.Lib
attribute [local go_sem] Oper.semAt_some

theorem law3 : Keyed Try.prog 3 := int_keyed Try.underlying3
theorem zero4 (w : World) : (zeroValue 4).run Try.prog w = .ok (.bool false) w := by kernel_rfl
theorem wf_small {x : Int} (h0 : -1000000 ≤ x) (h1 : x ≤ 1000000) : (Lit.int .i64 x).wf = true := by
  exact WalkArith.wf_i64 (by omega)
theorem plainElem_bool_inv {e : TypeId} (he : Try.prog.underlying e = some .bool) {v : Value} {b : Bool} {ps : List MemPlace} (h : plainElem (H := Unit) Try.prog e v = some (.lit (.bool b), ps)) : v = .bool b := by
  unfold plainElem at h
  rw [he] at h
  cases v <;> simp at h
  obtain ⟨rfl, -⟩ := h
  rfl

/-- The map tells f. -/
structure SqIs (D : DataW Unit) (f : Nat → Bool) : Prop where
  at_ : ∀ r : Nat, D.atKey (.int .i64 (r : Int)) (.lit (.bool false)) = .lit (.bool (f r))
theorem SqIs.start (f : Nat → Bool) (h : ∀ r, f r = false) : SqIs (.map []) f := ⟨fun r => by rw [h r]; exact atKey_of_not_has rfl _⟩
theorem SqIs.put {D : DataW Unit} {f f' : Nat → Bool} {d : Nat} (h : SqIs D f) (hm : IsMap D) (h1 : f' d = true) (h2 : ∀ e, e ≠ d → f' e = f e) : SqIs (D.put (.int .i64 (d : Int)) (.lit (.bool true))) f' := by
  refine ⟨fun e => ?_⟩
  by_cases he : e = d
  · subst he
    rw [atKey_put_same hm (show WideAt.IsKeyLit (.int .i64 (e : Int)) from trivial), h1]
  · have hne : (Lit.int .i64 (e : Int)) ≠ .int .i64 (d : Int) := fun hh => he (by injection hh with _ h; omega)
    rw [atKey_put_other hne, h.at_ e, h2 e he]

set_option maxHeartbeats 4000000 in
set_option maxRecDepth 100000 in
theorem squares_any (m : Nat) (w : World) (h1 : 1 ≤ m) (h2 : m ≤ 100) :
    Calls Try.prog 72 #[.int .i64 (m : Int)] w fun e w' => ∃ (b : Nat) (D : DataW Unit), e = .returned (.map (some b)) ∧ w'.ownsMap Try.prog 3 (plainElem Try.prog 4) b m D ∧ SqIs D (isq m m) ∧ Below w.heap.size w w' ∧ w.heap.size ≤ b := by
  have hmm := @run_makeMap Try.prog
  go_enter Try.func72, Try.ntmps72
  go_wp2
  go_loopg [4, 7] m (fun gk u4 i wr => ∃ (k : Nat) (D : DataW Unit), k + gk = m ∧ i = .int .i64 (k : Int) ∧ wr.ownsMap Try.prog 3 (plainElem Try.prog 4) w.heap.size k D ∧ SqIs D (isq m k) ∧ Below w.heap.size w wr)
  case atStart => exact ⟨0, .map [], by omega, rfl, World.ownsMap_made _ _ _ _, SqIs.start _ (fun d => rfl), (Below.refl _ _).alloc (Nat.le_refl _) _⟩
  case round =>
    obtain ⟨k, D, hk, rfl, hown, hsq, hb⟩ := hrel
    have HOWN := Lib.hid hown
    have HSQ := Lib.hid hsq
    have HB := Lib.hid hb
    clear hown hsq hb
    by_cases hkm : k = m
    · have hge : ¬ (k : Int) < (m : Int) := by omega
      have hge2 : ¬ k < m := by omega
      have HO := Lib.hid (show wr.ownsMap Try.prog 3 (plainElem Try.prog 4) w.heap.size m D ∧ SqIs D (isq m m) from ⟨hkm ▸ HOWN.out, hkm ▸ HSQ.out⟩)
      clear hkm hk
      go_wp2
      go_ret
      exact ⟨w.heap.size, rfl, D, HO.out.1, HO.out.2, HB.out, Nat.le_refl _⟩
    · have hlt : (k : Int) < (m : Int) := by omega
      have hlt2 : k < m := by omega
      have k0 : (0 : Int) ≤ (k : Int) := by omega
      obtain ⟨S, hS⟩ : ∃ S, k * k = S := ⟨_, rfl⟩
      have hSi : (k : Int) * (k : Int) = (S : Int) := by rw [← hS]; simp
      have hSb : S ≤ 100 * 100 := by rw [← hS]; exact Nat.mul_le_mul (by omega) (by omega)
      obtain ⟨V, hV⟩ : ∃ V, S % m = V := ⟨_, rfl⟩
      have hVi : (S : Int).tmod (m : Int) = (V : Int) := by rw [Int.tmod_eq_emod_of_nonneg (by omega), ← hV]; omega
      have hVb : V < m := hV ▸ Nat.mod_lt _ (by omega)
      have hmz : ¬ (m : Int) = 0 := by omega
      have hmb : ((m : Int) == 0) = false := by rw [beq_eq_false_iff_ne]; exact hmz
      have HSQ2 := Lib.hid (HSQ.out.put (f' := isq m (k + 1)) (d := V) HOWN.out.isMap (by rw [isq_succ, decide_eq_true (by rw [hS, hV])]; simp) (fun e he => by rw [isq_succ, decide_eq_false (by rw [hS, hV]; exact fun h => he h.symm)]; simp))
      have hkw : (Lit.int .i64 (V : Int)).wf = true := wf_small (by omega) (by omega)
      have hkx : k < maxLen := by unfold maxLen; omega
      obtain ⟨w5, hrunU, hown5, hgrow5⟩ := HOWN.out.update law3 Try.underlying80 hkx (keyOf_int_mk Try.underlying3 hkw) (plainElem_bool Try.underlying4 true)
      have HOWN5 := Lib.hid hown5
      have HB5 := Lib.hid (HB.out.grown hgrow5 HB.out.size (fun q e => by have e' : w.heap.size = q := Option.some.inj e; omega))
      have HK := Lib.hid hk
      clear hown5 hgrow5 hk hkm hV hS hkw hkx
      go_wp2
      go_roundg (m - k - 1)
      case rel => exact ⟨k + 1, _, by have := HK.out; omega, by go_num, HOWN5.out, HSQ2.out, HB5.out⟩
      case measure => have := HK.out; omega

theorem colAny_of {d n : Int} {m k : Nat} (hk : k < m) (h : isq m m (rsq d n m k) = true) : colAny d n m m = true := by
  unfold colAny
  rw [List.any_eq_true]
  exact ⟨k, List.mem_range.2 hk, h⟩

set_option maxHeartbeats 4000000 in
set_option maxRecDepth 100000 in
theorem solvable_any (d n : Int) (m : Nat) (w : World) (hd : 2 ≤ d ∧ d ≤ 100) (hn : -100 ≤ n ∧ n ≤ 100) (h1 : 1 ≤ m) (h2 : m ≤ 100) :
    Calls Try.prog 60 #[.int .i64 d, .int .i64 n, .int .i64 (m : Int)] w fun e w' => e = .returned (.bool (slv d n m)) ∧ Below w.heap.size w w' := by
  obtain ⟨d1, d2⟩ := hd
  obtain ⟨n1, n2⟩ := hn
  have HC := Lib.hid (col_slv d n m h1)
  have HQ := Lib.hid (fun w => squares_any m w h1 h2)
  go_enter Try.func60, Try.ntmps60
  go_wp2_with fail
  refine (HQ.out _).mono ?_
  rintro e w1 ⟨b, D, rfl, hown, hsq, hb, hbb⟩
  have HOWN := Lib.hid hown
  have HSQ := Lib.hid hsq
  have HB := Lib.hid hb
  clear hown hsq hb hbb HQ
  go_wp2_with fail
  go_loopg [8, 12] m (fun gk u8 i wr => ∃ (k : Nat), k + gk = m ∧ i = .int .i64 (k : Int) ∧ colAny d n m k = false ∧ wr = w1)
  case atStart => exact ⟨0, by omega, rfl, rfl, rfl⟩
  case round =>
    obtain ⟨k, hk, rfl, hcol, rfl⟩ := hrel
    have HCOL := Lib.hid hcol
    clear hcol
    by_cases hkm : k = m
    · have hge : ¬ (k : Int) < (m : Int) := by omega
      have hge2 : ¬ k < m := by omega
      have HE := Lib.hid (show slv d n m = false by rw [← HC.out, ← HCOL.out, hkm])
      clear hkm hk
      go_wp2
      go_ret
      exact ⟨ret_bool HE.out.symm, HB.out⟩
    · have hlt : (k : Int) < (m : Int) := by omega
      have hlt2 : k < m := by omega
      have k0 : (0 : Int) ≤ (k : Int) := by omega
      have a1 : 0 ≤ d * (k : Int) := Int.mul_nonneg (by omega) k0
      have a2 : d * (k : Int) ≤ 100 * 100 := Int.mul_le_mul d2 (by omega) k0 (by omega)
      have a3 : 0 ≤ d * (k : Int) * (k : Int) := Int.mul_nonneg a1 k0
      have a4 : d * (k : Int) * (k : Int) ≤ (100 * 100) * 100 := Int.mul_le_mul a2 (by omega) k0 (by omega)
      have hr : rsq d n m k = ((d * (k : Int) * (k : Int) + n + 100 * (m : Int)) % (m : Int)).toNat := rfl
      obtain ⟨A, hA⟩ : ∃ A, d * (k : Int) = A := ⟨_, rfl⟩
      rw [hA] at a1 a2 a3 a4 hr
      obtain ⟨C, hC⟩ : ∃ C, A * (k : Int) = C := ⟨_, rfl⟩
      rw [hC] at a3 a4 hr
      obtain ⟨T, hT⟩ : ∃ T, C + n + 100 * (m : Int) = T := ⟨_, rfl⟩
      rw [hT] at hr
      have t0 : 0 ≤ T := by omega
      have t1 : T ≤ 1010100 := by omega
      obtain ⟨R, hR⟩ : ∃ R, rsq d n m k = R := ⟨_, rfl⟩
      have e1 : 0 ≤ T % (m : Int) := Int.emod_nonneg _ (by omega)
      have e2 : T % (m : Int) < (m : Int) := Int.emod_lt_of_pos _ (by omega)
      rw [hR] at hr
      have hRi : T.tmod (m : Int) = (R : Int) := by rw [Int.tmod_eq_emod_of_nonneg t0]; omega
      have hRb : R < m := by omega
      have hmz : ¬ (m : Int) = 0 := by omega
      have hmb : ((m : Int) == 0) = false := by rw [beq_eq_false_iff_ne]; exact hmz
      have hkw : (Lit.int .i64 (R : Int)).wf = true := wf_small (by omega) (by omega)
      obtain ⟨v, ps, hrunL, hv⟩ := HOWN.out.lookup law3 Try.underlying80 (zero4 _) (plainElem_bool Try.underlying4 false) (keyOf_int_mk Try.underlying3 hkw)
      rw [HSQ.out.at_ R] at hv
      obtain ⟨bb, hbb⟩ : ∃ bb, isq m m R = bb := ⟨_, rfl⟩
      rw [hbb] at hv
      have hv := plainElem_bool_inv Try.underlying4 hv
      subst hv
      have HSUC := Lib.hid (show colAny d n m (k + 1) = bb by rw [colAny_succ, HCOL.out, hR, hbb]; rfl)
      have HALL := Lib.hid (show bb = true → slv d n m = true from fun e => by rw [← HC.out]; exact colAny_of hlt2 (by rw [hR, hbb]; exact e))
      have HK := Lib.hid hk
      clear hk hkm hkw hR hbb hr e1 e2
      cases bb with
      | true =>
        have HE := Lib.hid (HALL.out rfl)
        clear HALL HSUC
        go_wp2
        go_ret
        exact ⟨ret_bool HE.out.symm, HB.out⟩
      | false =>
        go_wp2
        go_roundg (m - k - 1)
        case rel => exact ⟨k + 1, by have := HK.out; omega, by go_num, HSUC.out, rfl⟩
        case measure => have := HK.out; omega

set_option maxHeartbeats 4000000 in
set_option maxRecDepth 100000 in
theorem Obstruct_yes (d n : Int) (hd : isD d = true) (hn : isN n = true) (w : World) :
    Calls Try.prog 34 #[.int .i64 d, .int .i64 n] w fun e w' => e = .returned (.tuple #[.int .i64 (obs d n).1, .int .i64 (obs d n).2]) ∧ Below w.heap.size w w' := by
  have hd2 := isD_bd hd
  have hn2 := isN_bd hn
  have HS := Lib.hid (fun (m : Nat) w (h1 : 1 ≤ m) (h2 : m ≤ 100) => solvable_any d n m w hd2 ⟨hn2.1, hn2.2.1⟩ h1 h2)
  have HV := Lib.hid (fun w => validN_yes n w hn)
  have HD := Lib.hid hd
  clear hn2 hd2 hd hn
  obtain ⟨X, hX⟩ : ∃ X, obs d n = X := ⟨_, rfl⟩
  rw [hX]
  have HX := Lib.hid hX
  clear hX
  go_enter Try.func34, Try.ntmps34
  go_wp2_with (first | (go_at_call 41; refine (validD_any _ _).mono ?_; rintro e w' ⟨rfl, rfl⟩; rw [HD.out]) | (go_at_call 48; refine (HV.out _).mono ?_; rintro e w' ⟨rfl, rfl⟩))
  go_loopg [6] 99 (fun gk i wr => ∃ (m : Nat), 2 ≤ m ∧ m + gk = 101 ∧ i = .int .i64 (m : Int) ∧ obsF d n gk m = X ∧ Below w.heap.size w wr)
  case atStart => exact ⟨2, Nat.le_refl _, rfl, rfl, HX.out, Below.refl _ _⟩
  case round =>
    obtain ⟨m, hm2, hm, rfl, ho, hb⟩ := hrel
    have HB := Lib.hid hb
    clear hb
    cases gk with
    | zero =>
      have hgt : ¬ (m : Int) ≤ 100 := by omega
      have hgt2 : ¬ m ≤ 100 := by omega
      have HO := Lib.hid ho
      clear ho hm
      go_wp2
      refine bodyPost_ret (v := .tuple #[.int .i64 0, .int .i64 4]) (by simp [results, Try.results34, go_sem]) rfl ⟨?_, HB.out⟩
      rw [← HO.out]; rfl
    | succ f =>
      have hle : (m : Int) ≤ 100 := by omega
      have hle2 : m ≤ 100 := by omega
      have HO := Lib.hid ho
      have HM := Lib.hid hm
      clear ho hm
      go_wp2_with fail
      refine (HS.out m _ (by omega) hle2).mono ?_
      rintro e w2 ⟨rfl, hb2⟩
      have HB2 := Lib.hid (HB.out.trans (hb2.mono HB.out.size))
      clear hb2 HB
      cases hs : slv d n m with
      | true =>
        have HO2 := Lib.hid (HO.out.symm.trans (obsF_t hs))
        clear hs
        go_wp2
        go_roundg f
        case rel => exact ⟨m + 1, by omega, by have := HM.out; omega, by go_num, HO2.out.symm, HB2.out⟩
        case measure => omega
      | false =>
        have HO2 := Lib.hid (HO.out.symm.trans (obsF_f hs))
        clear hs
        go_wp2
        refine bodyPost_ret (v := .tuple #[.int .i64 (m : Int), .int .i64 0]) (by simp [results, Try.results34, go_sem]) rfl ⟨?_, HB2.out⟩
        rw [HO2.out]

set_option maxHeartbeats 1000000 in
theorem Obstruct_no (d n : Int) (h : isD d = false ∨ isN n = false) (w : World) :
    Calls Try.prog 34 #[.int .i64 d, .int .i64 n] w fun e w' => e = .returned (.tuple #[.int .i64 0, .int .i64 2]) ∧ Below w.heap.size w w' := by
  have HB := Lib.hid (Below.refl w.heap.size w)
  by_cases hd : isD d = true
  · have hn : isN n = false := by simpa [hd] using h
    have HD := Lib.hid hd
    have HV := Lib.hid (fun w => validN_no n w hn)
    clear hd hn h
    go_enter Try.func34, Try.ntmps34
    go_wp2_with (first | (go_at_call 41; refine (validD_any _ _).mono ?_; rintro e w' ⟨rfl, rfl⟩; rw [HD.out]) | (go_at_call 48; refine (HV.out _).mono ?_; rintro e w' ⟨rfl, rfl⟩))
    refine bodyPost_ret (v := .tuple #[.int .i64 0, .int .i64 2]) (by simp [results, Try.results34, go_sem]) rfl ⟨rfl, HB.out⟩
  · have hd' : isD d = false := by simpa using hd
    have HD := Lib.hid hd'
    clear hd hd' h
    go_enter Try.func34, Try.ntmps34
    go_wp2_with (first | (go_at_call 41; refine (validD_any _ _).mono ?_; rintro e w' ⟨rfl, rfl⟩; rw [HD.out]))
    refine bodyPost_ret (v := .tuple #[.int .i64 0, .int .i64 2]) (by simp [results, Try.results34, go_sem]) rfl ⟨rfl, HB.out⟩
end Go.Proofs.Ytbdadckedhcibaa
