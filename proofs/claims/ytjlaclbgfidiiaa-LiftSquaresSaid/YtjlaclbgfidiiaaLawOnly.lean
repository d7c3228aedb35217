/- The walk of the law LiftOnly. Condition: the slice lies in memory. -/
import Derived.Test.YtjlaclbgfidiiaaLawRoots
namespace Go.Proofs.Ytjlaclbgfidiiaa
open Go.RowKit
attribute [local go_sem] Oper.semAt_some

theorem rts_pair (f : List Int) (m : Nat) : (rts f m).Pairwise (· < ·) := by
  unfold rts
  refine List.Pairwise.filter _ ?_
  rw [List.pairwise_map]
  exact List.Pairwise.imp (fun h => by omega) List.pairwise_lt_range
theorem rts_lt {f : List Int} {m i j : Nat} (hij : i < j) (hj : j < (rts f m).length) : (rts f m).getD i 0 < (rts f m).getD j 0 := by
  have := (List.pairwise_iff_getElem.1 (rts_pair f m)) i j (by omega) hj hij
  simpa [List.getD, hj, show i < (rts f m).length by omega] using this
theorem rts_inj {f : List Int} {m i j : Nat} (hi : i < (rts f m).length) (hj : j < (rts f m).length) (h : (rts f m).getD i 0 = (rts f m).getD j 0) : i = j := by
  rcases Nat.lt_trichotomy i j with h1 | h1 | h1
  · have := rts_lt h1 hj; omega
  · exact h1
  · have := rts_lt h1 hi; omega
theorem LRes.down {f : List Int} {q j : Nat} {r X : Int} (h2 : 2 ≤ q) (hj : 1 ≤ j) (h : LRes f q (j + 1) r X) : LRes f q j r (X % ((q ^ j : Nat) : Int)) := by
  have hM := pow_pos_of h2 j
  have hd := emod_sub_dvd X ((q ^ j : Nat) : Int)
  refine ⟨Int.emod_nonneg _ (by omega), Int.emod_lt_of_pos _ (by omega), ?_, ?_⟩
  · have hqM : (q : Int) ∣ ((q ^ j : Nat) : Int) := by
      obtain ⟨i, rfl⟩ : ∃ i, j = i + 1 := ⟨j - 1, by omega⟩
      exact ⟨((q ^ i : Nat) : Int), by rw [← Int.natCast_mul, Nat.pow_succ, Nat.mul_comm]⟩
    rw [Int.emod_emod_of_dvd _ hqM, h.r]
  · have h1 := ev_dvd f hd
    have h3 : ((q ^ j : Nat) : Int) ∣ ev f X := by
      refine Int.dvd_trans ?_ (Int.dvd_of_emod_eq_zero h.e)
      exact ⟨(q : Int), by rw [← Int.natCast_mul, Nat.pow_succ]⟩
    have h4 := Int.dvd_add h1 h3
    rw [show ∀ a b : Int, a - b + b = a from fun a b => by omega] at h4
    exact Int.emod_eq_zero_of_dvd h4

set_option maxHeartbeats 8000000 in
set_option maxRecDepth 100000 in
theorem lawOnly_no (a : Option Addr) (n c : Nat) (xs : List Int) (p k r : Int) (w : World) (h : Ints w a n xs) (hc : n ≤ c) (hn : n ≤ 4611686018427387904) (hcm : c ≤ maxLen) (hno : liftOK (xs.take 9) p k r = false) :
    Calls Try.prog 8 #[.slice a n c, .int .i64 p, .int .i64 k, .int .i64 r] w fun e w' => e = .returned (.bool true) ∧ Below w.heap.size w w' := by
  have HL := Lib.hid (fun w1 (hb : Below w.heap.size w w1) => list_row a n c xs w1 (h.below hb) hc hn hcm)
  have HLF := Lib.hid (fun B v w1 (hr : Row B v (xs.take 9) w1) => LiftR_no p k r (xs.take 9) w1 hr (take9_len xs) hno)
  have HRT : RowKit.Hid (∀ B v w1, Row B v (xs.take 9) w1 → Calls Try.prog 16 #[v, .int .i64 p, .int .i64 k] w1 fun e w' => (∃ (v : Value) (g : Int), e = .returned (.tuple #[v, .int .i64 g])) ∧ Below w1.heap.size w1 w') := Lib.hid (fun B v w1 hr => by
    cases hh : isPK p k && isPoly (xs.take 9) with
    | false =>
      refine (RootsR_no p k (xs.take 9) w1 hr (take9_len xs) hh).mono ?_
      rintro e w' ⟨rfl, hq⟩
      exact ⟨⟨_, _, rfl⟩, below_drew (Below.refl _ _) hq⟩
    | true =>
      rw [Bool.and_eq_true] at hh
      refine (RootsR_yes p k (xs.take 9) w1 hr hh.1 hh.2).mono ?_
      rintro e w' ⟨⟨v, rfl, -⟩, hb⟩
      exact ⟨⟨_, _, rfl⟩, hb⟩)
  clear h hno
  go_enter Try.func8, Try.ntmps8
  go_wp2_with fail
  refine (HL.out w (Below.refl _ _)).mono ?_
  rintro e w1 ⟨v1, rfl, hr, hb⟩
  have HR1 := Lib.hid hr
  have HB1 := Lib.hid hb
  clear hr hb
  go_wp2_with fail
  refine (HLF.out _ _ _ HR1.out).mono ?_
  rintro e w2 ⟨rfl, hq⟩
  have HB2 := Lib.hid (below_drew HB1.out hq)
  clear hq HR1
  go_wp2_with fail
  refine (HL.out w2 HB2.out).mono ?_
  rintro e w3 ⟨v2, rfl, hr, hb⟩
  have HR3 := Lib.hid hr
  have HB3 := Lib.hid (HB2.out.trans (hb.mono HB2.out.size))
  clear hr hb
  go_wp2_with fail
  refine (HRT.out _ _ _ HR3.out).mono ?_
  rintro e w4 ⟨⟨v3, g, rfl⟩, hb⟩
  have HB4 := Lib.hid (HB3.out.trans (hb.mono HB3.out.size))
  clear hb HR3
  go_wp2_with fail
  refine (awake_any _).mono ?_
  rintro e w5 ⟨rfl, hb⟩
  have HB5 := Lib.hid (HB4.out.trans (hb.mono HB4.out.size))
  clear hb
  go_wp2
  go_ret
  exact ⟨rfl, HB5.out⟩

set_option maxHeartbeats 8000000 in
set_option maxRecDepth 100000 in
theorem lawOnly_yes (a : Option Addr) (n c : Nat) (xs : List Int) (q k : Nat) (r : Int) (w : World) (h : Ints w a n xs) (hc : n ≤ c) (hn : n ≤ 4611686018427387904) (hcm : c ≤ maxLen) (hok : liftOK xs (q : Int) (k : Int) r = true) :
    Calls Try.prog 8 #[.slice a n c, .int .i64 (q : Int), .int .i64 (k : Int), .int .i64 r] w fun e w' => e = .returned (.bool true) ∧ Below w.heap.size w w' := by
  have hok' := hok
  unfold liftOK at hok'
  simp only [Bool.and_eq_true, decide_eq_true_eq] at hok'
  obtain ⟨⟨hpk, hf⟩, ⟨r0, r1⟩, er⟩ := hok'
  have e9 := isPoly_short hf
  obtain ⟨q', j, e1, e2, hq, hk1, hk14, hM⟩ := isPK_spec hpk
  obtain rfl : q = q' := by omega
  obtain rfl : k = j := by omega
  obtain ⟨q2, q13⟩ := pr_bounds hq
  have hL := fun w1 (hb : Below w.heap.size w w1) => list_row a n c xs w1 (h.below hb) hc hn hcm
  rw [e9] at hL
  have HL := Lib.hid hL
  have hRT := fun B v w1 (hr : Row B v xs w1) => RootsR_yes (q : Int) (k : Int) xs w1 hr hpk hf
  rw [pkN_yes hpk] at hRT
  have hMp := pow_pos_of q2 k
  have HRT := Lib.hid hRT
  have HLY := Lib.hid (fun B v w1 (hr : Row B v xs w1) => LiftR_yes q k r xs w1 hr hok)
  have HLD := Lib.hid (fun i (hi : k = i + 1) (hi1 : 1 ≤ i) B v w1 (hr : Row B v xs w1) => LiftR_yes q i r xs w1 hr (by
    have h1 : q ^ i ≤ q ^ k := Nat.pow_le_pow_right (by omega) (by omega)
    unfold liftOK
    rw [isPK_of hq hi1 (by omega), hf, decide_eq_true r0, decide_eq_true r1, decide_eq_true er]
    rfl))
  have hPW := fun w => powerR_any (q : Int) (k : Int) w
  rw [pkN_yes hpk] at hPW
  have HUQ := Lib.hid (fun i X Y (hd : ¬ (q : Int) ∣ dev xs r) (h1 : LRes xs q i r X) (h2 : LRes xs q i r Y) => LRes.uniq hq hd h1 h2)
  have HDN := Lib.hid (fun i X (hi : k = i + 1) (hi1 : 1 ≤ i) (h : LRes xs q k r X) => show LRes xs q i r (X % ((q ^ i : Nat) : Int)) from LRes.down q2 hi1 (hi ▸ h))
  have HMEM := Lib.hid (fun i (hi : i < (rts xs (q ^ k)).length) => show 0 ≤ (rts xs (q ^ k)).getD i 0 ∧ (rts xs (q ^ k)).getD i 0 < ((q ^ k : Nat) : Int) ∧ ((rts xs (q ^ k)).getD i 0 % (q : Int) = r → LRes xs q k r ((rts xs (q ^ k)).getD i 0)) from by
    have := mem_rts.1 (at_mem hi)
    exact ⟨this.1, this.2.1, fun h => ⟨this.1, this.2.1, h, this.2.2⟩⟩)
  have HEX := Lib.hid (fun X (hX : LRes xs q k r X) => show (∃ i, i < (rts xs (q ^ k)).length ∧ (rts xs (q ^ k)).getD i 0 = X) ∧ (rts xs (q ^ k)).contains X = true from
    ⟨mem_at (mem_rts.2 ⟨hX.x0, hX.x1, hX.e⟩), by rw [List.contains_iff_mem]; exact mem_rts.2 ⟨hX.x0, hX.x1, hX.e⟩⟩)
  have HINJ := Lib.hid (fun i j (hi : i < (rts xs (q ^ k)).length) (hj : j < (rts xs (q ^ k)).length) h => rts_inj hi hj h)
  have HLEN := Lib.hid (show (rts xs (q ^ k)).length ≤ 20000 from Nat.le_trans (rts_len _ _) hM)
  have HXB := Lib.hid (fun X (h : LRes xs q k r X) => show 0 ≤ X ∧ X < ((q ^ k : Nat) : Int) ∧ X % (q : Int) = r from ⟨h.x0, h.x1, h.r⟩)
  have HPL : RowKit.Hid (∀ i, i < k → q ^ i * q ≤ q ^ k) := Lib.hid (fun i hi => by
    have h1 : q ^ (i + 1) ≤ q ^ k := Nat.pow_le_pow_right (by omega) hi
    rwa [Nat.pow_succ] at h1)
  have HPS : RowKit.Hid (∀ i, q ^ (i + 1) = q ^ i * q) := Lib.hid (fun i => Nat.pow_succ q i)
  obtain ⟨M, hMM⟩ : ∃ M, q ^ k = M := ⟨_, rfl⟩
  rw [hMM] at hM hMp hRT HRT hPW HMEM HEX HINJ HLEN HXB HPL
  obtain ⟨L, hLL⟩ : ∃ L, rts xs M = L := ⟨_, rfl⟩
  rw [hLL] at HRT HMEM HEX HINJ HLEN
  have HPW := Lib.hid hPW
  have mne : ¬ (M : Int) = 0 := by omega
  have mf : ((M : Int) == 0) = false := by rw [beq_eq_false_iff_ne]; exact mne
  have qne : ¬ (q : Int) = 0 := by omega
  clear h hok hpk hf hq hL hRT hPW hMM hLL e1 e2 e9 er
  go_enter Try.func8, Try.ntmps8
  go_wp2_with fail
  refine (HL.out w (Below.refl _ _)).mono ?_
  rintro e w1 ⟨v1, rfl, hr, hb⟩
  have HR1 := Lib.hid hr
  have HB1 := Lib.hid hb
  clear hr hb
  go_wp2_with fail
  refine (HLY.out _ _ _ HR1.out).mono ?_
  rintro e w2 ⟨hans, hb⟩
  have HB2 := Lib.hid (HB1.out.trans (hb.mono HB1.out.size))
  clear hb HR1
  rcases hans with ⟨-, rfl⟩ | ⟨hd, X, hX, rfl⟩
  · go_wp2_with fail
    refine (HL.out w2 HB2.out).mono ?_
    rintro e w3 ⟨v2, rfl, hr, hb⟩
    have HR3 := Lib.hid hr
    have HB3 := Lib.hid (HB2.out.trans (hb.mono HB2.out.size))
    clear hr hb
    go_wp2_with fail
    refine (HRT.out _ _ _ HR3.out).mono ?_
    rintro e w4 ⟨⟨l, rfl, -⟩, hb⟩
    have HB4 := Lib.hid (HB3.out.trans (hb.mono HB3.out.size))
    clear hb HR3
    go_wp2_with fail
    refine (awake_any _).mono ?_
    rintro e w5 ⟨rfl, hb⟩
    have HB5 := Lib.hid (HB4.out.trans (hb.mono HB4.out.size))
    clear hb
    go_wp2
    go_ret
    exact ⟨rfl, HB5.out⟩
  · have HD := Lib.hid hd
    have HX := Lib.hid hX
    obtain ⟨⟨i0, hi0, hi1⟩, hct⟩ := HEX.out X hX
    have HI0 := Lib.hid hi0
    have HI1 := Lib.hid hi1
    have HCT := Lib.hid hct
    clear hd hX hi0 hi1 hct HEX HLY
    go_wp2_with fail
    refine (HL.out w2 HB2.out).mono ?_
    rintro e w3 ⟨v2, rfl, hr, hb⟩
    have HR3 := Lib.hid hr
    have HB3 := Lib.hid (HB2.out.trans (hb.mono HB2.out.size))
    clear hr hb
    go_wp2_with fail
    refine (HRT.out _ _ _ HR3.out).mono ?_
    rintro e w4 ⟨⟨l, rfl, hl⟩, hb⟩
    have HB4 := Lib.hid (HB3.out.trans (hb.mono HB3.out.size))
    have HLR := Lib.hid hl
    obtain ⟨al, nl, cl, rfl, il, enl⟩ := hl.ints
    have HIL := Lib.hid il
    have HEN := Lib.hid enl
    have hnl : nl ≤ 20000 := by have := HLEN.out; omega
    clear hb hl HR3 il enl
    go_wp2_with fail
    refine (HPW.out _).mono ?_
    rintro e w5 ⟨rfl, rfl⟩
    go_wp2
    go_loopg [13, 15, 58] nl (fun gk s13 s15 s58 wr => ∃ (i : Nat) (cc : Int), s58 = .int .i64 (i : Int) ∧ s13 = .int .i64 cc ∧ i + gk = nl ∧ RowKit.Hid (cc = if i0 < i then 1 else 0) ∧ 0 ≤ cc ∧ cc ≤ 1 ∧ wr = w4)
    case atStart => exact ⟨0, 0, rfl, rfl, by omega, Lib.hid (by rw [if_neg (by omega)]), by omega, by omega, rfl⟩
    case round =>
      obtain ⟨i, cc, rfl, rfl, hi, HC, c0, c1, rfl⟩ := hrel
      have HI := Lib.hid hi
      by_cases hin : i < nl
      · have l1 : (i : Int) < (nl : Int) := by omega
        have i00 : (0 : Int) ≤ (i : Int) := by omega
        obtain ⟨b, off, hab, hbl, hcc⟩ := HIL.out.at (by omega)
        subst hab
        have hcj := hcc i hin
        obtain ⟨m0, m1, m2⟩ := HMEM.out i (by have := HEN.out; omega)
        have hinj := fun h => HINJ.out i i0 (by have := HEN.out; omega) HI0.out h
        obtain ⟨x, hx⟩ : ∃ x, L.getD i 0 = x := ⟨_, rfl⟩
        rw [hx] at hcj m0 m1 m2 hinj
        rw [HI1.out] at hinj
        have HX2 := Lib.hid hx
        have x1 : x ≤ 20000 := by omega
        by_cases hxr : x % (q : Int) = r
        · have hii : i = i0 := hinj (HUQ.out k x X HD.out (m2 hxr) HX.out)
          have hc0 : cc = 0 := by rw [HC.out, if_neg (by omega)]
          have HN : RowKit.Hid ((0 : Int) + 1 = if i0 < i + 1 then 1 else 0) := Lib.hid (by rw [if_pos (by omega)]; rfl)
          have hxt : (x % (q : Int) == r) = true := by rw [beq_iff_eq]; exact hxr
          subst hc0
          clear hcc hx m2 hi hinj hii HC
          go_wp2
          go_roundg (nl - i - 1)
          case rel => exact ⟨i + 1, 0 + 1, by go_num, by go_num, by have := HI.out; omega, HN, by omega, by omega, rfl⟩
          case measure => have := HI.out; omega
        · have hne : i ≠ i0 := by
            intro e
            apply hxr
            rw [← HX2.out, e, HI1.out]
            exact HX.out.r
          have HN : RowKit.Hid (cc = if i0 < i + 1 then 1 else 0) := Lib.hid (by
            rw [HC.out]
            by_cases h : i0 < i
            · rw [if_pos h, if_pos (by omega)]
            · rw [if_neg h, if_neg (by omega)])
          have hxf : (x % (q : Int) == r) = false := by rw [beq_eq_false_iff_ne]; exact hxr
          clear hcc hx m2 hi hinj hne HC
          go_wp2
          go_roundg (nl - i - 1)
          case rel => exact ⟨i + 1, cc, by go_num, rfl, by have := HI.out; omega, HN, c0, c1, rfl⟩
          case measure => have := HI.out; omega
      · have l1 : ¬ (i : Int) < (nl : Int) := by omega
        have hc1 : cc = 1 := by rw [HC.out, if_pos (by have := HEN.out; have := HI0.out; omega)]
        subst hc1
        obtain ⟨X0, X1, eX⟩ := HXB.out X HX.out
        have fX : (X % (q : Int) != r) = false := by rw [eX]; simp
        have hLe : L.length ≤ 1000000 := by have := HLEN.out; omega
        have HLe := Lib.hid hLe
        have Xb : X ≤ 20000 := by omega
        clear hi eX HC hLe
        go_wp2_with fail
        refine (contains_row X _ HLR.out HLe.out).mono ?_
        rintro e w5 ⟨rfl, rfl⟩
        rw [HCT.out]
        by_cases hk2 : k = 1
        · subst hk2
          go_wp2_with fail
          refine (awake_any _).mono ?_
          rintro e w6 ⟨rfl, hb⟩
          have HB6 := Lib.hid (HB4.out.trans (hb.mono HB4.out.size))
          clear hb
          go_wp2
          go_ret
          exact ⟨rfl, HB6.out⟩
        · obtain ⟨i', hi'⟩ : ∃ i', k = i' + 1 := ⟨k - 1, by omega⟩
          have hk1' : 1 ≤ i' := by omega
          have HLD2 := Lib.hid (HLD.out i' hi' hk1')
          have HDN2 := Lib.hid (HDN.out i' X hi' hk1' HX.out)
          have HPL2 := Lib.hid (fun j (h : j < i') => Nat.le_trans (Nat.le_of_eq rfl) (HPL.out j (by omega)))
          have ek : (k : Int) - 1 = (i' : Int) := by omega
          have k2 : ¬ (k : Int) < 2 := by omega
          have HK := Lib.hid hi'
          clear HLD HDN hi'
          go_wp2_with fail
          refine (HL.out _ HB4.out).mono ?_
          rintro e w6 ⟨v6, rfl, hr, hb⟩
          have HR6 := Lib.hid hr
          have HB6 := Lib.hid (HB4.out.trans (hb.mono HB4.out.size))
          clear hr hb
          go_wp2_with fail
          refine (HLD2.out _ _ _ HR6.out).mono ?_
          rintro e w7 ⟨hans, hb⟩
          have HB7 := Lib.hid (HB6.out.trans (hb.mono HB6.out.size))
          clear hb HR6
          rcases hans with ⟨hd, -⟩ | ⟨-, Y, hY, rfl⟩
          · exact absurd hd HD.out
          · have HY := Lib.hid (HUQ.out i' _ _ HD.out HDN2.out hY)
            clear hY
            go_wp2
            go_loopg [17, 104] i' (fun gk s17 s104 wr => ∃ (i P : Nat), s17 = .int .i64 (P : Int) ∧ s104 = .int .i64 (i : Int) ∧ i + gk = i' ∧ RowKit.Hid (q ^ i = P) ∧ 1 ≤ P ∧ P ≤ M ∧ wr = w7)
            case atStart => exact ⟨0, 1, rfl, rfl, by omega, Lib.hid (Nat.pow_zero q), by omega, by omega, rfl⟩
            case round =>
              obtain ⟨i, P, rfl, rfl, hi, HP, hP1, hPM, rfl⟩ := hrel
              have HI := Lib.hid hi
              by_cases hij : i < i'
              · have l1 : (i : Int) < (i' : Int) := by omega
                have hPL := HPL2.out i hij
                rw [HP.out] at hPL
                have HPS2 := Lib.hid (HPS.out i)
                rw [HP.out] at HPS2
                have hPQ1 : 1 ≤ P * q := Nat.le_trans hP1 (Nat.le_mul_of_pos_right _ (by omega))
                obtain ⟨PQ, hPQ⟩ : ∃ PQ, P * q = PQ := ⟨_, rfl⟩
                rw [hPQ] at hPL HPS2 hPQ1
                have epq : (P : Int) * (q : Int) = (PQ : Int) := by rw [← hPQ]; simp
                have pq1 : (PQ : Int) ≤ 20000 := by omega
                have pq0 : (0 : Int) ≤ (PQ : Int) := by omega
                clear hi hPQ
                go_wp2
                go_roundg (i' - i - 1)
                case rel => exact ⟨i + 1, PQ, rfl, by go_num, by have := HI.out; omega, HPS2, hPQ1, hPL, rfl⟩
                case measure => have := HI.out; omega
              · have l1 : ¬ (i : Int) < (i' : Int) := by omega
                have hP' : q ^ i' = P := by rw [← HP.out, show i = i' by omega]
                have hXY := HY.out
                rw [hP'] at hXY
                have fXY : (X % (P : Int) == Y) = true := by rw [beq_iff_eq]; exact hXY
                have pne : ¬ (P : Int) = 0 := by omega
                clear hi hP' hXY
                go_wp2_with fail
                refine (awake_any _).mono ?_
                rintro e w8 ⟨rfl, hb⟩
                have HB8 := Lib.hid (HB7.out.trans (hb.mono HB7.out.size))
                clear hb
                go_wp2
                go_ret
                exact ⟨rfl, HB8.out⟩

theorem lawOnly_any (a : Option Addr) (n c : Nat) (xs : List Int) (p k r : Int) (w : World) (h : Ints w a n xs) (hc : n ≤ c) (hn : n ≤ 4611686018427387904) (hcm : c ≤ maxLen) :
    Calls Try.prog 8 #[.slice a n c, .int .i64 p, .int .i64 k, .int .i64 r] w fun e w' => e = .returned (.bool true) ∧ Below w.heap.size w w' := by
  cases hh : liftOK (xs.take 9) p k r with
  | false => exact lawOnly_no a n c xs p k r w h hc hn hcm hh
  | true =>
    have h2 := hh
    unfold liftOK at h2
    simp only [Bool.and_eq_true, decide_eq_true_eq] at h2
    obtain ⟨q, j, rfl, rfl, -⟩ := isPK_spec h2.1.1
    have hf := h2.1.2
    rw [isPoly_take] at hf
    rw [isPoly_short hf] at hh
    exact lawOnly_yes a n c xs q j r w h hc hn hcm hh
end Go.Proofs.Ytjlaclbgfidiiaa
