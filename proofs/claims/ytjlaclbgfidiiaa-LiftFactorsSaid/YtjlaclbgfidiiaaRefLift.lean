/- The walk of the reference's Lift. Condition: the slice lies in memory, the arguments are valid. -/
import Derived.Test.YtjlaclbgfidiiaaCalls2
namespace Go.Proofs.Ytjlaclbgfidiiaa
open Go.RowKit
attribute [local go_sem] Oper.semAt_some

theorem inv_ex {q : Nat} (hq : q ∈ [2, 3, 5, 7, 11, 13]) {d : Int} (hd : ¬ (q : Int) ∣ d) : ∃ u : Int, (q : Int) ∣ d * u - 1 := by
  have h0 := (pr_bounds hq).1
  have a0 := Int.emod_nonneg d (show (q : Int) ≠ 0 by omega)
  have a1 := Int.emod_lt_of_pos d (show (0 : Int) < (q : Int) by omega)
  have a2 : d % (q : Int) ≠ 0 := fun e => hd (Int.dvd_of_emod_eq_zero e)
  obtain ⟨x, hx⟩ : ∃ x : Nat, d % q = (x : Int) := ⟨(d % q).toNat, by omega⟩
  obtain ⟨b, hb, hb2⟩ := inverseF q hq x (by omega) (by omega)
  refine ⟨(b : Int), Int.dvd_of_emod_eq_zero ?_⟩
  have e : d * (b : Int) % (q : Int) = 1 := by
    rw [Int.mul_emod, hx, Int.emod_eq_of_lt (by omega) (show (b : Int) < (q : Int) by omega), ← Int.natCast_mul, ← Int.natCast_emod, hb2]; rfl
  rw [Int.sub_emod, e, Int.emod_eq_of_lt (by omega) (show (1 : Int) < (q : Int) by omega)]
  rfl
theorem hensel_ex {q : Nat} (hq : q ∈ [2, 3, 5, 7, 11, 13]) {f : List Int} {r : Int} (er : (q : Int) ∣ ev f r) (dr : ¬ (q : Int) ∣ dev f r) : ∀ k : Nat, ∃ X : Int, (q : Int) ∣ X - r ∧ (q : Int) ^ (k + 1) ∣ ev f X
  | 0 => ⟨r, ⟨0, by omega⟩, by rw [Int.pow_succ, Int.pow_zero, Int.one_mul]; exact er⟩
  | k + 1 => by
    obtain ⟨X, h1, h2⟩ := hensel_ex hq er dr k
    obtain ⟨u, hu⟩ := inv_ex hq dr
    have := lift_step (q := q) (f := f) (j := k + 1) (k := k + 2) (x := X) (y := X - ev f X * u) (r := r) (u := u) (v := ev f X) (by omega) (by omega) h1 hu h2 ⟨0, by omega⟩ ⟨0, by omega⟩
    exact ⟨_, this⟩
theorem LRes_ex {q : Nat} (hq : q ∈ [2, 3, 5, 7, 11, 13]) {f : List Int} {k : Nat} {r : Int} (er : (q : Int) ∣ ev f r) (dr : ¬ (q : Int) ∣ dev f r) (hk : 1 ≤ k) (r0 : 0 ≤ r) (r1 : r < (q : Int)) : ∃ X, LRes f q k r X := by
  have h0 := (pr_bounds hq).1
  obtain ⟨j, rfl⟩ : ∃ j, k = j + 1 := ⟨k - 1, by omega⟩
  obtain ⟨X, h1, h2⟩ := hensel_ex hq er dr j
  have hM := pow_pos_of h0 (j + 1)
  have hqM : (q : Int) ∣ ((q ^ (j + 1) : Nat) : Int) := ⟨((q ^ j : Nat) : Int), by rw [← Int.natCast_mul, Nat.pow_succ, Nat.mul_comm]⟩
  rw [← Int.natCast_pow] at h2
  have hd := emod_sub_dvd X ((q ^ (j + 1) : Nat) : Int)
  refine ⟨X % ((q ^ (j + 1) : Nat) : Int), Int.emod_nonneg _ (by omega), Int.emod_lt_of_pos _ (by omega), ?_, ?_⟩
  · have h3 := Int.dvd_add (Int.dvd_trans hqM hd) h1
    rw [show X % ((q ^ (j + 1) : Nat) : Int) - X + (X - r) = X % ((q ^ (j + 1) : Nat) : Int) - r by omega] at h3
    rw [dvd_emod h3, Int.emod_eq_of_lt r0 r1]
  · have h3 := Int.dvd_add (ev_dvd f hd) h2
    rw [show ev f (X % ((q ^ (j + 1) : Nat) : Int)) - ev f X + ev f X = ev f (X % ((q ^ (j + 1) : Nat) : Int)) by omega] at h3
    exact Int.emod_eq_zero_of_dvd h3
theorem take_step {L : List Int} {k : Nat} (hk : 0 < k) (hl : k ≤ L.length) : L.take k = L.take (k - 1) ++ [L.getD (k - 1) 0] := by
  obtain ⟨j, rfl⟩ : ∃ j, k = j + 1 := ⟨k - 1, by omega⟩
  rw [Nat.add_sub_cancel]
  exact take_snocI (by omega)

set_option maxHeartbeats 8000000 in
set_option maxRecDepth 100000 in
theorem liftR_any (q k : Nat) (r : Int) (a : Option Addr) (n c : Nat) (f : List Int) (w : World) (h : Ints w a n f) (hok : liftOK f (q : Int) (k : Int) r = true) :
    Calls Try.prog 25 #[.slice a n c, .int .i64 (q : Int), .int .i64 ((q ^ k : Nat) : Int), .int .i64 r] w fun e w' => LAns f q k r e ∧ Below w.heap.size w w' := by
  unfold liftOK at hok
  simp only [Bool.and_eq_true, decide_eq_true_eq] at hok
  obtain ⟨⟨hpk, hf⟩, ⟨r0, r1⟩, er⟩ := hok
  obtain ⟨q', j, e1, e2, hq, hk1, -, hM⟩ := isPK_spec hpk
  obtain rfl : q = q' := by omega
  obtain rfl : k = j := by omega
  obtain ⟨q2, q13⟩ := pr_bounds hq
  obtain ⟨g1, g2, g3⟩ := poly_bounds h.1 hf
  obtain ⟨x0, t, rfl⟩ := poly_cons hf
  obtain ⟨m, rfl⟩ : ∃ m, n = m + 1 := ⟨n - 1, by omega⟩
  have hl : t.length = m := by have := h.1; simpa using this
  have hdb := dv_bound (x0 := x0) hl (by omega) (fun j hj => ⟨by have := (g3 j hj).1; omega, by have := (g3 j hj).2; omega⟩)
  have hA : ∀ a1 c1 w1, Ints w1 a1 m (dvF 1 t) → Calls Try.prog 60 #[.slice a1 m c1, .int .i64 r, .int .i64 (q : Int)] w1 fun e w' => e = .returned (.int .i64 (dev (x0 :: t) r % (q : Int))) ∧ ∃ z, w' = w1.drewN z := by
    intro a1 c1 w1 h1
    rw [← ev_dv r x0 t]
    exact atR_any a1 m c1 (dvF 1 t) r (q : Int) w1 h1 (by omega) hdb r0 r1 (by omega)
  have hR := fun w1 (hb : Below w.heap.size w w1) => rootsR_any a (m + 1) c (x0 :: t) (q ^ k) w1 (h.below hb) (by omega) (fun j hj => ⟨by have := (g3 j hj).1; omega, by have := (g3 j hj).2; omega⟩) hM
  have hdv : (q : Int) ∣ dev (x0 :: t) r ↔ dev (x0 :: t) r % (q : Int) = 0 := ⟨Int.emod_eq_zero_of_dvd, Int.dvd_of_emod_eq_zero⟩
  have hlen := rts_len (x0 :: t) (q ^ k)
  have hmem : ∀ i, i < (rts (x0 :: t) (q ^ k)).length → 0 ≤ (rts (x0 :: t) (q ^ k)).getD i 0 ∧ (rts (x0 :: t) (q ^ k)).getD i 0 < ((q ^ k : Nat) : Int) ∧ ((rts (x0 :: t) (q ^ k)).getD i 0 % (q : Int) = r → LRes (x0 :: t) q k r ((rts (x0 :: t) (q ^ k)).getD i 0)) := by
    intro i hi
    have := mem_rts.1 (at_mem hi)
    exact ⟨this.1, this.2.1, fun h => ⟨this.1, this.2.1, h, this.2.2⟩⟩
  have hex : ∀ X, LRes (x0 :: t) q k r X → ∃ i, i < (rts (x0 :: t) (q ^ k)).length ∧ (rts (x0 :: t) (q ^ k)).getD i 0 = X := fun X hX => mem_at (mem_rts.2 ⟨hX.x0, hX.x1, hX.e⟩)
  have hroot : ¬ (q : Int) ∣ dev (x0 :: t) r → ∃ X, LRes (x0 :: t) q k r X := fun hd => LRes_ex hq (Int.dvd_of_emod_eq_zero er) hd hk1 r0 r1
  have huq : ∀ X Y, ¬ (q : Int) ∣ dev (x0 :: t) r → LRes (x0 :: t) q k r X → LRes (x0 :: t) q k r Y → X = Y := fun X Y hd => LRes.uniq hq hd
  have hget : ∀ j, j < m → (dvF 1 t).getD j 0 = ((j : Int) + 1) * t.getD j 0 := fun j _ => by rw [dvF_get, Int.add_comm 1]
  have hdl : (dvF 1 t).length = m := by rw [dvF_len, hl]
  have hcell : ∀ w1, Below w.heap.size w w1 → ∃ b off, a = some ⟨b, off, none⟩ ∧ ∀ j, j < m + 1 → w1.cell? ⟨b, off + j, none⟩ = some (.int .i64 ((x0 :: t).getD j 0)) := fun w1 hb => by
    obtain ⟨b, off, h1, h2, h3⟩ := (h.below hb).at (by omega)
    exact ⟨b, off, h1, h3⟩
  have htb : ∀ j, j < m → -1000 ≤ t.getD j 0 ∧ t.getD j 0 ≤ 1000 := fun j hj => by
    have := g3 (j + 1) (by omega)
    rwa [List.getD_cons_succ] at this
  have HA := Lib.hid hA
  have HR := Lib.hid hR
  have HLEN := Lib.hid hlen
  have HMEM := Lib.hid hmem
  have HEX := Lib.hid hex
  have HROOT := Lib.hid hroot
  have HUQ := Lib.hid huq
  have HGET := Lib.hid hget
  have HDL := Lib.hid hdl
  have HCELL := Lib.hid hcell
  have HTB := Lib.hid htb
  have HDV := Lib.hid hdv
  obtain ⟨D, hDD⟩ : ∃ D, dev (x0 :: t) r % (q : Int) = D := ⟨_, rfl⟩
  simp only [hDD] at HA
  rw [hDD] at HDV
  unfold LAns
  obtain ⟨L, hL⟩ : ∃ L, rts (x0 :: t) (q ^ k) = L := ⟨_, rfl⟩
  simp only [hL] at HR HLEN HMEM HEX
  obtain ⟨d, hd⟩ : ∃ d, dvF 1 t = d := ⟨_, rfl⟩
  simp only [hd] at HA HGET HDL
  obtain ⟨f, hff⟩ : ∃ f, x0 :: t = f := ⟨_, rfl⟩
  rw [hff] at HDV HROOT HUQ HMEM HEX HCELL ⊢
  obtain ⟨M, hMM⟩ : ∃ M, q ^ k = M := ⟨_, rfl⟩
  rw [hMM] at hM HR HLEN HMEM ⊢
  have HFT : RowKit.Hid (∀ j, f.getD (j + 1) 0 = t.getD j 0) := Lib.hid (fun j => by rw [← hff]; rfl)
  clear h hpk hq er g3 hdb hA hR hdv hlen hmem hex hroot huq hget hdl hcell htb hDD hL hd hff hMM e1 e2 hl hf
  go_enter Try.func25, Try.ntmps25
  go_wp2
  go_loopg [10, 11, 12, 17] (m + 1) (fun gk v s11 s12 s17 wr => ∃ j : Nat, s17 = .int .i64 (j : Int) ∧ j + gk = m + 1 ∧ Row w.heap.size v (d.take (j - 1)) wr ∧ Below w.heap.size w wr)
  case atStart => exact ⟨0, rfl, by omega, Row.nil _ _, Below.refl _ _⟩
  case round =>
    obtain ⟨j, rfl, hj, hr0, hb⟩ := hrel
    have HRW := Lib.hid hr0
    have HB := Lib.hid hb
    have HJ := Lib.hid hj
    clear hr0 hb
    by_cases hjm : j < m + 1
    · have l1 : (j : Int) < (m : Int) + 1 := by omega
      have l2 : (j : Int) < ((m + 1 : Nat) : Int) := by omega
      have j0 : (0 : Int) ≤ (j : Int) := by omega
      obtain ⟨b, off, hab, hcc⟩ := HCELL.out wr HB.out
      subst hab
      have hcj := hcc j hjm
      by_cases hz : j = 0
      · subst hz
        obtain ⟨x, hx⟩ : ∃ x, f.getD 0 0 = x := ⟨_, rfl⟩
        rw [hx, Nat.add_zero] at hcj
        have e0 : ((0 : Nat) : Int) = 0 := rfl
        rw [e0] at l1 l2 j0 ⊢
        clear hcc hx hj e0
        go_wp2
        go_roundg m
        case rel => exact ⟨1, by go_num, by omega, HRW.out, HB.out⟩
        case measure => have := HJ.out; omega
      · have hgt : (0 : Int) < (j : Int) := by omega
        obtain ⟨i, rfl⟩ : ∃ i, j = i + 1 := ⟨j - 1, by omega⟩
        rw [HFT.out] at hcj
        obtain ⟨t0, t1⟩ := HTB.out i (by omega)
        have hgi := HGET.out i (by omega)
        have hts := take_step (L := d) (k := i + 1) (by omega) (by rw [HDL.out]; omega)
        rw [Nat.add_sub_cancel, hgi] at hts
        obtain ⟨x, hx⟩ : ∃ x, t.getD i 0 = x := ⟨_, rfl⟩
        rw [hx] at hcj t0 t1 hts
        obtain ⟨p0, p1⟩ := mul_abs (show 0 ≤ (i : Int) + 1 by omega) (show (i : Int) + 1 ≤ 21 by omega) t0 t1
        have e1 : ((i + 1 : Nat) : Int) = (i : Int) + 1 := by omega
        have p2 : -21000 ≤ ((i : Int) + 1) * x := by omega
        have p3 : ((i : Int) + 1) * x ≤ 21000 := by omega
        rw [e1] at l1 l2 j0 hgt ⊢
        obtain ⟨X, hX⟩ : ∃ X, ((i : Int) + 1) * x = X := ⟨_, rfl⟩
        rw [hX] at p2 p3 hts
        have HTS := Lib.hid hts
        have hrow := HRW.out
        rw [Nat.add_sub_cancel] at hrow
        obtain ⟨l, hll⟩ : ∃ l, d.take i = l := ⟨_, rfl⟩
        have hln : l.length = i := by rw [← hll, List.length_take, HDL.out]; omega
        rw [hll] at hrow HTS
        unfold Row at hrow
        rw [hln] at hrow
        have hsz := HB.out.size
        obtain ⟨i0, hi, hz0, hz1, hz2⟩ := info_parts info3
        clear hcc hx hj hgi hts hll p0 p1 HRW t0 t1
        go_wp2_with (at_builtin; refine wpList_append_own _ rfl _ _ 22 rfl (w.heap.size) 3 i0 (.int .i64 0) 1 8 Try.underlying22 hi hz0 hz1 hz2 rfl (by decide) _ _ _ rfl (hrow.alloc _) ⟨wr.heap.size, 0, none⟩ 1 1 [.int .i64 X] rfl rfl (cell_one_new _ _ _) (by simp [Value.oneCell']) (by unfold maxLen; omega) (by omega) (by simp; omega) ?_; intro v' w3 hown' hgrow _; have hb3 : Below w.heap.size w w3 := (HB.out.alloc hsz _).grown hgrow (by simp; omega) (fun j e => (hrow.lt j e).1))
        have hrow2 : Row w.heap.size v' (d.take (i + 1)) w3 := by
          unfold Row
          rw [HTS.out, List.length_append, hln, List.map_append]
          exact hown'
        have HF := Lib.hid (And.intro hrow2 hb3)
        clear hown' hgrow hrow hrow2 hb3
        go_wp2
        go_roundg (gk - 1)
        case rel => exact ⟨i + 2, by go_num, by have := HJ.out; omega, HF.out.1, HF.out.2⟩
        case measure => have := HJ.out; omega
    · have l1 : ¬ (j : Int) < (m : Int) + 1 := by omega
      have l2 : ¬ (j : Int) < ((m + 1 : Nat) : Int) := by omega
      have hrow := HRW.out
      have hjm2 : j = m + 1 := by omega
      rw [hjm2, Nat.add_sub_cancel, List.take_of_length_le (by rw [HDL.out]; exact Nat.le_refl _)] at hrow
      obtain ⟨a1, n1, c1, ea, i1, en⟩ := hrow.ints
      have en2 : n1 = m := by rw [en, HDL.out]
      subst ea
      rw [en2] at i1 ⊢
      have HA2 := Lib.hid (HA.out a1 c1 wr i1)
      have HB1 := Lib.hid HB.out
      clear hrow i1 en en2 hj hjm hjm2 HA HRW HB
      go_wp2_with fail
      refine HA2.out.mono ?_
      rintro e w1 ⟨rfl, z, hw⟩
      have HB2 := Lib.hid (show Below w.heap.size w w1 by rw [hw]; exact below_drewN HB1.out z)
      clear hw
      by_cases hD0 : D = 0
      · have HF := Lib.hid (HDV.out.2 hD0)
        subst hD0
        go_wp2
        go_ret2
        exact ⟨.inl ⟨HF.out, rfl⟩, HB2.out⟩
      · have hnd : ¬ (q : Int) ∣ dev f r := fun h => hD0 (HDV.out.1 h)
        obtain ⟨X, hX⟩ := HROOT.out hnd
        obtain ⟨i0, hi0, hi1⟩ := HEX.out X hX
        have HI1 := Lib.hid hi1
        have HI0 := Lib.hid hi0
        have HFIN : RowKit.Hid (∀ Y, LRes f q k r Y → Y = X) := Lib.hid (fun Y hY => HUQ.out Y X hnd hY hX)
        have HX := Lib.hid hX
        have HND := Lib.hid hnd
        have HR2 := Lib.hid (HR.out w1 HB2.out)
        clear hnd hX hi0 hi1 HROOT HEX HUQ HDV HA2 HR
        go_wp2_with fail
        refine HR2.out.mono ?_
        rintro e w2 ⟨⟨v, rfl, hr⟩, hb⟩
        obtain ⟨a2, n2, c2, rfl, i2, en⟩ := hr.ints
        have HI2 := Lib.hid i2
        have HB3 := Lib.hid (HB2.out.trans (hb.mono HB2.out.size))
        have hn2 : n2 ≤ 20000 := by have := HLEN.out; omega
        have HEN := Lib.hid en
        clear hr hb i2 en HR2
        go_wp2
        go_loopg [14, 40] i0 (fun gk s14 s40 wr => ∃ i : Nat, s40 = .int .i64 (i : Int) ∧ i + gk = i0 ∧ wr = w2)
        case atStart => exact ⟨0, rfl, by omega, rfl⟩
        case round =>
          obtain ⟨i, rfl, hi, rfl⟩ := hrel
          have HI := Lib.hid hi
          have hin : i < n2 := by have := HEN.out; have := HI0.out; omega
          have l1 : (i : Int) < (n2 : Int) := by omega
          have i00 : (0 : Int) ≤ (i : Int) := by omega
          obtain ⟨b, off, hab, hbl, hcc⟩ := HI2.out.at (by omega)
          subst hab
          have hcj := hcc i hin
          obtain ⟨m0, m1, m2⟩ := HMEM.out i (by have := HEN.out; omega)
          obtain ⟨x, hx⟩ : ∃ x, L.getD i 0 = x := ⟨_, rfl⟩
          rw [hx] at hcj m0 m1 m2
          have HX2 := Lib.hid hx
          have qne : ¬ (q : Int) = 0 := by omega
          have x1 : x ≤ 20000 := by omega
          by_cases hxr : x % (q : Int) = r
          · have HF := Lib.hid (HFIN.out x (m2 hxr))
            clear hcc hx m2 hi
            go_wp2
            go_ret2
            exact ⟨.inr ⟨HND.out, X, HX.out, by rw [HF.out]; rfl⟩, HB3.out⟩
          · have hxf : (x % (q : Int) == r) = false := by rw [beq_eq_false_iff_ne]; exact hxr
            have hne : i ≠ i0 := by
              intro e
              subst e
              apply hxr
              rw [← HX2.out, HI1.out]
              exact HX.out.r
            have HNE := Lib.hid hne
            clear hcc hx m2 hi hne
            go_wp2
            go_roundg (gk - 1)
            case rel => exact ⟨i + 1, by go_num, by have := HI.out; have := HNE.out; omega, rfl⟩
            case measure => have := HI.out; have := HNE.out; omega
end Go.Proofs.Ytjlaclbgfidiiaa
