/- The law NumeralAlong: its walk in every case (written by tools/lawalong.py). Condition: the slices lie in memory. -/
import Derived.Test.YtbdabpmpfciibaaLawDigits
import Derived.Test.YtbdabpmpfciibaaPairsLaw
import Derived.Test.YtbdabpmpfciibaaLawBack
namespace Go.Proofs.Ytbdabpmpfciibaa
open Go.RowKit
attribute [local go_sem] Oper.semAt_some

def onesQ : List Int := [2, 1, 1, 1, 1, 1, 1, 1, 1, 1]
def sumI : List Int → Int
  | [] => 0
  | x :: r => x + sumI r
theorem sumI_append : ∀ a b, sumI (a ++ b) = sumI a + sumI b
  | [], b => by simp [sumI]
  | x :: r, b => by simp only [List.cons_append, sumI, sumI_append r b]; omega
theorem sumI_take {l : List Int} {k : Nat} (h : k < l.length) : sumI (l.take (k + 1)) = sumI (l.take k) + l.getD k 0 := by
  rw [take_succ_getD h, sumI_append]
  simp [sumI]
/-- The digits along 2 1 1 1 .. are those of the numeral. -/
def chkOnes (t : Int) : Bool := isD onesQ t && (enc t).all (fun k => decide (2 ≤ k) && decide (k ≤ 11) && decide ((digL onesQ t).getD (k - 2).toNat 0 = 1)) && decide (sumI (digL onesQ t) = (enc t).length) && (digL onesQ t).all (fun x => decide (0 ≤ x) && decide (x ≤ 2)) && isNum t
theorem chkOnes_all : ∀ t : Fin 144, chkOnes (t.val : Int) = true := by decide +kernel
theorem ones_facts {t : Int} (h0 : 0 ≤ t) (h1 : t < 144) : isD onesQ t = true ∧ isNum t = true ∧ (∀ j, j < (enc t).length → 2 ≤ (enc t).getD j 0 ∧ (enc t).getD j 0 ≤ 11 ∧ (digL onesQ t).getD ((enc t).getD j 0 - 2).toNat 0 = 1) ∧ sumI (digL onesQ t) = (enc t).length ∧ (∀ j, j < (digL onesQ t).length → 0 ≤ (digL onesQ t).getD j 0 ∧ (digL onesQ t).getD j 0 ≤ 2) := by
  obtain ⟨n, rfl⟩ : ∃ n : Nat, t = (n : Int) := ⟨t.toNat, by omega⟩
  have h := chkOnes_all ⟨n, by omega⟩
  simp only [chkOnes, Bool.and_eq_true, List.all_eq_true, decide_eq_true_eq] at h
  refine ⟨h.1.1.1.1, h.2, fun j hj => ?_, h.1.1.2, fun j hj => h.1.2 _ (getD_mem hj)⟩
  have := h.1.1.1.2 _ (getD_mem hj)
  exact ⟨this.1.1, this.1.2, this.2⟩
theorem sumI_bd {l : List Int} (h : ∀ j, j < l.length → 0 ≤ l.getD j 0 ∧ l.getD j 0 ≤ 2) : ∀ k, k ≤ l.length → 0 ≤ sumI (l.take k) ∧ sumI (l.take k) ≤ 2 * k
  | 0, _ => by simp [sumI]
  | k + 1, hk => by
    have := sumI_bd h k (by omega)
    have := h k (by omega)
    rw [sumI_take (by omega)]
    omega

set_option maxHeartbeats 16000000 in
set_option maxRecDepth 100000 in
theorem lawAlong_any (a1 a2 : Option Addr) (x : Int) (n m c d : Nat) (q cs : List Int) (w : World) (h1 : Ints w a1 n q) (h2 : Ints w a2 m cs) (hc : n ≤ c) (hn : n ≤ 4611686018427387904) (hcm : c ≤ maxLen) (hd : m ≤ d) (hm : m ≤ 4611686018427387904) (hdm : d ≤ maxLen) :
    Calls Try.prog 15 #[.slice a1 n c, .int .i64 x, .slice a2 m d] w fun e w' => e = .returned (.bool true) ∧ Below w.heap.size w w' := by
  have T0 := Lib.hid (At2.mk (Below.refl _ w) h1 h2)
  have HC := Lib.hid (And.intro hc (And.intro hcm (And.intro hd hdm)))
  have HTL := Lib.hid (And.intro (dgL_take q x) (And.intro (dgE_take q x) (And.intro (alV_take q cs) (alE_take q cs))))
  obtain ⟨t, ht, t0, t1⟩ := uint_mod x 144 (by omega)
  have HON := Lib.hid (ones_facts t0 t1)
  have HDL := Lib.hid (show (digL onesQ t).length = 10 from digL_len _ _)
  have HSB := Lib.hid (sumI_bd HON.out.2.2.2.2)
  clear h1 h2 hc hcm hd hdm
  go_enter Try.func15, Try.ntmps15
  go_wp2_with fail
  refine (list_row a1 n c q _ T0.out.i HC.out.1 hn HC.out.2.1).mono ?_
  rintro e w1 ⟨b1, n1, c1, rfl, hn1, hi1, -, -, hb1⟩
  have T1 := Lib.hid (T0.out.later hb1)
  have I1 := Lib.hid hi1
  clear hi1 hb1 T0
  go_wp2_with fail
  refine (list_row a2 m d cs _ T1.out.j HC.out.2.2.1 hm HC.out.2.2.2).mono ?_
  rintro e w2 ⟨b2, n2, c2, rfl, hn2, hi2, -, -, hb2⟩
  have T2 := Lib.hid (T1.out.later hb2)
  have I2 := Lib.hid (And.intro (I1.out.below hb2) hi2)
  clear hi2 hb2 T1 I1
  go_wp2_with fail
  refine (Along_any b1 b2 n1 c1 n2 c2 _ _ _ I2.out.1 I2.out.2 (by omega) (by omega)).mono ?_
  rintro e w3 ⟨rfl, hb3⟩
  rw [HTL.out.2.2.1, HTL.out.2.2.2]
  have T3 := Lib.hid (T2.out.later hb3)
  clear hb3 T2 I2
  by_cases hA : isAL q cs = true
  · have hq := isAL_yes hA
    have hF : alE q cs = 0 := by unfold alE; rw [if_pos hA]
    have hV : alV q cs = numA q cs q.length := by unfold alV; rw [if_pos hA]
    have hnb := numA_bd hq.1 hq.2 q.length (Nat.le_refl _)
    have hdd : isD q (numA q cs q.length) = true := isD_mk hq.1 hnb.1 hnb.2.1
    have hdl := digL_num hq.1 hq.2
    have htk := isQ_take_yes hq.1
    have hDY : ∀ V, numA q cs q.length = V → isD q V = true ∧ digL q V = cs := fun V hv => hv ▸ ⟨hdd, hdl⟩
    rw [hF, hV]
    obtain ⟨V, hVV⟩ : ∃ V, numA q cs q.length = V := ⟨_, rfl⟩
    have HDY := Lib.hid (hDY V hVV)
    rw [hVV]
    have HTK := Lib.hid htk
    have hqb := isQ_yes hq.1
    have HQB := Lib.hid (show q.length ≤ 10 from hqb.2.1)
    clear hq hF hV hnb hdd hdl htk hDY hVV hA hqb
    go_wp2_with fail
    refine (list_row a1 n c q _ T3.out.i HC.out.1 hn HC.out.2.1).mono ?_
    rintro e w4 ⟨b4, n4, c4, rfl, hn4, hi4, -, -, hb4⟩
    rw [HTK.out] at hi4
    have T4 := Lib.hid (T3.out.later hb4)
    have I4 := Lib.hid hi4
    have hn44 : n4 ≤ 10 := by have := hi4.1; have := HQB.out; omega
    clear hi4 hb4 T3
    go_wp2_with fail
    refine (Digits_yes b4 n4 c4 q V _ I4.out HDY.out.1).mono ?_
    rintro e w4b ⟨a4, c4b, rfl, hi4b, -, -, hb4b⟩
    rw [HDY.out.2] at hi4b
    have T4b := Lib.hid (T4.out.later hb4b)
    have I4b := Lib.hid hi4b
    clear hi4b hb4b T4 I4
    go_wp2_with fail
    refine (equal_any a4 a2 n4 m c4b d cs cs _ I4b.out T4b.out.j (by omega) hm).mono ?_
    rintro e w5 ⟨rfl, qq, rfl⟩
    rw [beq_self_eq_true]
    have T5 := Lib.hid (T4b.out.later (below_drewN (Below.refl _ _) qq))
    clear T4b I4b
    go_wp2_with fail
    refine (list_row a1 n c q _ T5.out.i HC.out.1 hn HC.out.2.1).mono ?_
    rintro e w6 ⟨b6, n6, c6, rfl, hn6, hi6, -, -, hb6⟩
    have T6 := Lib.hid (T5.out.later hb6)
    have I6 := Lib.hid hi6
    clear hi6 hb6 T5
    go_wp2_with fail
    refine (Digits_any b6 n6 c6 _ x _ I6.out (by omega)).mono ?_
    rintro e w7 ⟨b7, n7, c7, rfl, hi7, hn7, -, -, hb7⟩
    rw [HTL.out.1] at hi7
    rw [HTL.out.2.1]
    have T7 := Lib.hid (T6.out.later hb7)
    have R7 := Lib.hid hi7
    clear hi7 hb7 T6 I6
    by_cases hD : isD q x = true
    · have hE : dgE q x = 0 := by unfold dgE; rw [if_pos hD]
      have hL : dgL q x = digL q x := by unfold dgL; rw [if_pos hD]
      have hdd := isD_yes hD
      have hal : isAL q (digL q x) = true := by unfold isAL; rw [hdd.1, digL_isA hdd.1 hdd.2.1 hdd.2.2]; rfl
      have hV : alV q (digL q x) = x ∧ alE q (digL q x) = 0 := by
        unfold alV alE
        rw [if_pos hal, if_pos hal, numA_dig_all hdd.1 hdd.2.1 hdd.2.2]
        exact ⟨rfl, rfl⟩
      have htk := isQ_take_yes hdd.1
      rw [hE]
      rw [hL] at R7
      have HVV := Lib.hid hV
      have HTK := Lib.hid htk
      clear hE hL hdd hal hV htk hD
      go_wp2_with fail
      refine (list_row a1 n c q _ T7.out.i HC.out.1 hn HC.out.2.1).mono ?_
      rintro e w8 ⟨b8, n8, c8, rfl, hn8, hi8, -, -, hb8⟩
      rw [HTK.out] at hi8
      have T8 := Lib.hid (T7.out.later hb8)
      have I8 := Lib.hid (And.intro hi8 (R7.out.below hb8))
      clear hi8 hb8 T7 R7
      go_wp2_with fail
      refine (cloneI _ _ _ _ _ I8.out.2 (by omega)).mono ?_
      rintro e w8b ⟨a8, c8b, rfl, hi8b, hb8b⟩
      have T8b := Lib.hid (T8.out.later hb8b)
      have I8b := Lib.hid (And.intro (I8.out.1.below hb8b) hi8b)
      clear hi8b hb8b T8 I8
      go_wp2_with fail
      refine (Along_any b8 a8 n8 c8 n7 c8b _ _ _ I8b.out.1 I8b.out.2 (by omega) (by omega)).mono ?_
      rintro e W9 ⟨rfl, hb9⟩
      rw [HVV.out.1, HVV.out.2]
      have B9 := Lib.hid (T8b.out.b.trans (hb9.mono T8b.out.b.size))
      clear hb9 T8b I8b
      have hlit := World.ownsRow_lit (base := W9.heap.size) (e := 3) (size := 1) W9 #[.int .i64 2, .int .i64 1, .int .i64 1, .int .i64 1, .int .i64 1, .int .i64 1, .int .i64 1, .int .i64 1, .int .i64 1, .int .i64 1] 10 (Nat.le_refl _) (by unfold maxLen; omega) rfl
      have HIO := Lib.hid (Ints.own (xs := onesQ) hlit).1
      have HBO := Lib.hid (B9.out.alloc B9.out.size (.cells #[.int .i64 2, .int .i64 1, .int .i64 1, .int .i64 1, .int .i64 1, .int .i64 1, .int .i64 1, .int .i64 1, .int .i64 1, .int .i64 1] 3))
      clear hlit
      go_wp2_with fail
      refine (Digits_yes _ 10 10 onesQ t _ HIO.out HON.out.1).mono ?_
      rintro e w10 ⟨a10, c10, rfl, hi10, -, -, hb10⟩
      have B10 := Lib.hid (HBO.out.trans (hb10.mono HBO.out.size))
      have I10 := Lib.hid hi10
      clear hi10 hb10
      go_wp2_with fail
      refine (EncodeI t HON.out.2.1 _).mono ?_
      rintro e w11 ⟨a11, N, c11, rfl, hi11, hN, -, -, hb11⟩
      have B11 := Lib.hid (B10.out.trans (hb11.mono B10.out.size))
      have I11 := Lib.hid (And.intro hi11 (I10.out.below hb11))
      have HLE := Lib.hid hi11.1
      clear hi11 hb11 I10 B10
      obtain ⟨bd, od, rfl, hbd, hcd⟩ := I11.out.2.at (by omega)
      have HCD := Lib.hid hcd
      clear hcd
      go_wp2
      go_loopg [18, 20, 103] N (fun gk s u20 i wr => ∃ (k : Nat), k + gk = N ∧ i = .int .i64 (k : Int) ∧ s = .int .i64 (k : Int) ∧ wr = w11)
      case atStart => exact ⟨0, by omega, rfl, rfl, rfl⟩
      case round =>
        obtain ⟨k, hk, rfl, rfl, hww⟩ := hrel
        have hww2 := hww.symm
        subst hww2
        by_cases hkn : k = N
        · have hge : ¬ (k : Int) < (N : Int) := by omega
          have hge2 : ¬ k < N := by omega
          have HKN := Lib.hid hkn
          have k0 : (0 : Int) ≤ (k : Int) := by omega
          have k30 : (k : Int) ≤ 30 := by omega
          clear hkn hk
          go_wp2
          go_loopg [18, 22, 126] 10 (fun gk s u22 i wr => ∃ (j : Nat), j + gk = 10 ∧ i = .int .i64 (j : Int) ∧ s = .int .i64 ((k : Int) - sumI ((digL onesQ t).take j)) ∧ wr = w11)
          case atStart => exact ⟨0, by omega, rfl, by simp [sumI], rfl⟩
          case round =>
            obtain ⟨j, hj, rfl, rfl, hww⟩ := hrel
            have hww2 := hww.symm
            subst hww2
            have hsb := HSB.out j (by have := HDL.out; omega)
            by_cases hj10 : j = 10
            · have hge3 : ¬ (j : Int) < 10 := by omega
              have hz : (k : Int) - sumI ((digL onesQ t).take j) = 0 := by
                rw [List.take_of_length_le (by have := HDL.out; omega), HON.out.2.2.2.1, HLE.out, HKN.out]
                omega
              rw [hz]
              clear hj10 hj hz hsb
              go_wp2_with fail
              refine (awake_any _).mono ?_
              rintro e w12 ⟨rfl, hb12⟩
              have B12 := Lib.hid (B11.out.trans (hb12.mono B11.out.size))
              clear hb12
              go_wp2
              go_ret
              exact ⟨rfl, B12.out⟩
            · have hlt3 : (j : Int) < 10 := by omega
              have hlt4 : j < 10 := by omega
              have hcj := HCD.out j hlt4
              have hbj := HON.out.2.2.2.2 j (by have := HDL.out; omega)
              have hst := sumI_take (l := digL onesQ t) (k := j) (by have := HDL.out; omega)
              obtain ⟨x, hx⟩ : ∃ x, (digL onesQ t).getD j 0 = x := ⟨_, rfl⟩
              rw [hx] at hcj hbj hst
              obtain ⟨S, hS⟩ : ∃ S, sumI ((digL onesQ t).take j) = S := ⟨_, rfl⟩
              rw [hS] at hst hsb ⊢
              have HST := Lib.hid hst
              have HJ := Lib.hid hj
              have j0 : (0 : Int) ≤ (j : Int) := by omega
              clear hx hst hS hj hj10
              go_wp2
              go_roundg (10 - j - 1)
              case rel => exact ⟨j + 1, by have := HJ.out; omega, by go_num, by rw [HST.out, Int.sub_sub], rfl⟩
              case measure => have := HJ.out; omega
        · have hlt : (k : Int) < (N : Int) := by omega
          have hlt2 : k < N := by omega
          obtain ⟨be, oe, rfl, hbe, hce⟩ := I11.out.1.at (by omega)
          have hck := hce k hlt2
          obtain ⟨y2, y11, y1⟩ := HON.out.2.2.1 k (by have := HLE.out; omega)
          obtain ⟨y, hy⟩ : ∃ y, (enc t).getD k 0 = y := ⟨_, rfl⟩
          rw [hy] at hck y2 y11 y1
          obtain ⟨z, hz⟩ : ∃ z : Nat, (y - 2).toNat = z := ⟨_, rfl⟩
          have hz2 : y - 2 = (z : Int) := by omega
          have hz3 : z < 10 := by omega
          have hz4 : (z : Int) < 10 := by omega
          have hz0 : (0 : Int) ≤ (z : Int) := by omega
          have hcz := HCD.out z hz3
          rw [hz] at y1
          rw [y1] at hcz
          have HK := Lib.hid hk
          have k0 : (0 : Int) ≤ (k : Int) := by omega
          clear hce hy hz y1 hk hkn
          go_wp2
          go_roundg (N - k - 1)
          case rel => exact ⟨k + 1, by have := HK.out; omega, by go_num, by go_num, rfl⟩
          case measure => have := HK.out; omega
    · have hE : dgE q x = 2 := by unfold dgE; rw [if_neg hD]
      rw [hE]
      obtain ⟨W9, hW9⟩ : ∃ W9, w7 = W9 := ⟨_, rfl⟩
      have B9 := Lib.hid (show Below w.heap.size w W9 from hW9 ▸ T7.out.b)
      rw [hW9]
      clear hE hD T7 R7 hW9
      have hlit := World.ownsRow_lit (base := W9.heap.size) (e := 3) (size := 1) W9 #[.int .i64 2, .int .i64 1, .int .i64 1, .int .i64 1, .int .i64 1, .int .i64 1, .int .i64 1, .int .i64 1, .int .i64 1, .int .i64 1] 10 (Nat.le_refl _) (by unfold maxLen; omega) rfl
      have HIO := Lib.hid (Ints.own (xs := onesQ) hlit).1
      have HBO := Lib.hid (B9.out.alloc B9.out.size (.cells #[.int .i64 2, .int .i64 1, .int .i64 1, .int .i64 1, .int .i64 1, .int .i64 1, .int .i64 1, .int .i64 1, .int .i64 1, .int .i64 1] 3))
      clear hlit
      go_wp2_with fail
      refine (Digits_yes _ 10 10 onesQ t _ HIO.out HON.out.1).mono ?_
      rintro e w10 ⟨a10, c10, rfl, hi10, -, -, hb10⟩
      have B10 := Lib.hid (HBO.out.trans (hb10.mono HBO.out.size))
      have I10 := Lib.hid hi10
      clear hi10 hb10
      go_wp2_with fail
      refine (EncodeI t HON.out.2.1 _).mono ?_
      rintro e w11 ⟨a11, N, c11, rfl, hi11, hN, -, -, hb11⟩
      have B11 := Lib.hid (B10.out.trans (hb11.mono B10.out.size))
      have I11 := Lib.hid (And.intro hi11 (I10.out.below hb11))
      have HLE := Lib.hid hi11.1
      clear hi11 hb11 I10 B10
      obtain ⟨bd, od, rfl, hbd, hcd⟩ := I11.out.2.at (by omega)
      have HCD := Lib.hid hcd
      clear hcd
      go_wp2
      go_loopg [18, 20, 103] N (fun gk s u20 i wr => ∃ (k : Nat), k + gk = N ∧ i = .int .i64 (k : Int) ∧ s = .int .i64 (k : Int) ∧ wr = w11)
      case atStart => exact ⟨0, by omega, rfl, rfl, rfl⟩
      case round =>
        obtain ⟨k, hk, rfl, rfl, hww⟩ := hrel
        have hww2 := hww.symm
        subst hww2
        by_cases hkn : k = N
        · have hge : ¬ (k : Int) < (N : Int) := by omega
          have hge2 : ¬ k < N := by omega
          have HKN := Lib.hid hkn
          have k0 : (0 : Int) ≤ (k : Int) := by omega
          have k30 : (k : Int) ≤ 30 := by omega
          clear hkn hk
          go_wp2
          go_loopg [18, 22, 126] 10 (fun gk s u22 i wr => ∃ (j : Nat), j + gk = 10 ∧ i = .int .i64 (j : Int) ∧ s = .int .i64 ((k : Int) - sumI ((digL onesQ t).take j)) ∧ wr = w11)
          case atStart => exact ⟨0, by omega, rfl, by simp [sumI], rfl⟩
          case round =>
            obtain ⟨j, hj, rfl, rfl, hww⟩ := hrel
            have hww2 := hww.symm
            subst hww2
            have hsb := HSB.out j (by have := HDL.out; omega)
            by_cases hj10 : j = 10
            · have hge3 : ¬ (j : Int) < 10 := by omega
              have hz : (k : Int) - sumI ((digL onesQ t).take j) = 0 := by
                rw [List.take_of_length_le (by have := HDL.out; omega), HON.out.2.2.2.1, HLE.out, HKN.out]
                omega
              rw [hz]
              clear hj10 hj hz hsb
              go_wp2_with fail
              refine (awake_any _).mono ?_
              rintro e w12 ⟨rfl, hb12⟩
              have B12 := Lib.hid (B11.out.trans (hb12.mono B11.out.size))
              clear hb12
              go_wp2
              go_ret
              exact ⟨rfl, B12.out⟩
            · have hlt3 : (j : Int) < 10 := by omega
              have hlt4 : j < 10 := by omega
              have hcj := HCD.out j hlt4
              have hbj := HON.out.2.2.2.2 j (by have := HDL.out; omega)
              have hst := sumI_take (l := digL onesQ t) (k := j) (by have := HDL.out; omega)
              obtain ⟨x, hx⟩ : ∃ x, (digL onesQ t).getD j 0 = x := ⟨_, rfl⟩
              rw [hx] at hcj hbj hst
              obtain ⟨S, hS⟩ : ∃ S, sumI ((digL onesQ t).take j) = S := ⟨_, rfl⟩
              rw [hS] at hst hsb ⊢
              have HST := Lib.hid hst
              have HJ := Lib.hid hj
              have j0 : (0 : Int) ≤ (j : Int) := by omega
              clear hx hst hS hj hj10
              go_wp2
              go_roundg (10 - j - 1)
              case rel => exact ⟨j + 1, by have := HJ.out; omega, by go_num, by rw [HST.out, Int.sub_sub], rfl⟩
              case measure => have := HJ.out; omega
        · have hlt : (k : Int) < (N : Int) := by omega
          have hlt2 : k < N := by omega
          obtain ⟨be, oe, rfl, hbe, hce⟩ := I11.out.1.at (by omega)
          have hck := hce k hlt2
          obtain ⟨y2, y11, y1⟩ := HON.out.2.2.1 k (by have := HLE.out; omega)
          obtain ⟨y, hy⟩ : ∃ y, (enc t).getD k 0 = y := ⟨_, rfl⟩
          rw [hy] at hck y2 y11 y1
          obtain ⟨z, hz⟩ : ∃ z : Nat, (y - 2).toNat = z := ⟨_, rfl⟩
          have hz2 : y - 2 = (z : Int) := by omega
          have hz3 : z < 10 := by omega
          have hz4 : (z : Int) < 10 := by omega
          have hz0 : (0 : Int) ≤ (z : Int) := by omega
          have hcz := HCD.out z hz3
          rw [hz] at y1
          rw [y1] at hcz
          have HK := Lib.hid hk
          have k0 : (0 : Int) ≤ (k : Int) := by omega
          clear hce hy hz y1 hk hkn
          go_wp2
          go_roundg (N - k - 1)
          case rel => exact ⟨k + 1, by have := HK.out; omega, by go_num, by go_num, rfl⟩
          case measure => have := HK.out; omega
  · have hF : alE q cs = 2 := by unfold alE; rw [if_neg hA]
    rw [hF]
    obtain ⟨V, hVV⟩ : ∃ V, alV q cs = V := ⟨_, rfl⟩
    rw [hVV]
    have T5 := T3
    clear hF hVV hA T3
    go_wp2_with fail
    refine (list_row a1 n c q _ T5.out.i HC.out.1 hn HC.out.2.1).mono ?_
    rintro e w6 ⟨b6, n6, c6, rfl, hn6, hi6, -, -, hb6⟩
    have T6 := Lib.hid (T5.out.later hb6)
    have I6 := Lib.hid hi6
    clear hi6 hb6 T5
    go_wp2_with fail
    refine (Digits_any b6 n6 c6 _ x _ I6.out (by omega)).mono ?_
    rintro e w7 ⟨b7, n7, c7, rfl, hi7, hn7, -, -, hb7⟩
    rw [HTL.out.1] at hi7
    rw [HTL.out.2.1]
    have T7 := Lib.hid (T6.out.later hb7)
    have R7 := Lib.hid hi7
    clear hi7 hb7 T6 I6
    by_cases hD : isD q x = true
    · have hE : dgE q x = 0 := by unfold dgE; rw [if_pos hD]
      have hL : dgL q x = digL q x := by unfold dgL; rw [if_pos hD]
      have hdd := isD_yes hD
      have hal : isAL q (digL q x) = true := by unfold isAL; rw [hdd.1, digL_isA hdd.1 hdd.2.1 hdd.2.2]; rfl
      have hV : alV q (digL q x) = x ∧ alE q (digL q x) = 0 := by
        unfold alV alE
        rw [if_pos hal, if_pos hal, numA_dig_all hdd.1 hdd.2.1 hdd.2.2]
        exact ⟨rfl, rfl⟩
      have htk := isQ_take_yes hdd.1
      rw [hE]
      rw [hL] at R7
      have HVV := Lib.hid hV
      have HTK := Lib.hid htk
      clear hE hL hdd hal hV htk hD
      go_wp2_with fail
      refine (list_row a1 n c q _ T7.out.i HC.out.1 hn HC.out.2.1).mono ?_
      rintro e w8 ⟨b8, n8, c8, rfl, hn8, hi8, -, -, hb8⟩
      rw [HTK.out] at hi8
      have T8 := Lib.hid (T7.out.later hb8)
      have I8 := Lib.hid (And.intro hi8 (R7.out.below hb8))
      clear hi8 hb8 T7 R7
      go_wp2_with fail
      refine (cloneI _ _ _ _ _ I8.out.2 (by omega)).mono ?_
      rintro e w8b ⟨a8, c8b, rfl, hi8b, hb8b⟩
      have T8b := Lib.hid (T8.out.later hb8b)
      have I8b := Lib.hid (And.intro (I8.out.1.below hb8b) hi8b)
      clear hi8b hb8b T8 I8
      go_wp2_with fail
      refine (Along_any b8 a8 n8 c8 n7 c8b _ _ _ I8b.out.1 I8b.out.2 (by omega) (by omega)).mono ?_
      rintro e W9 ⟨rfl, hb9⟩
      rw [HVV.out.1, HVV.out.2]
      have B9 := Lib.hid (T8b.out.b.trans (hb9.mono T8b.out.b.size))
      clear hb9 T8b I8b
      have hlit := World.ownsRow_lit (base := W9.heap.size) (e := 3) (size := 1) W9 #[.int .i64 2, .int .i64 1, .int .i64 1, .int .i64 1, .int .i64 1, .int .i64 1, .int .i64 1, .int .i64 1, .int .i64 1, .int .i64 1] 10 (Nat.le_refl _) (by unfold maxLen; omega) rfl
      have HIO := Lib.hid (Ints.own (xs := onesQ) hlit).1
      have HBO := Lib.hid (B9.out.alloc B9.out.size (.cells #[.int .i64 2, .int .i64 1, .int .i64 1, .int .i64 1, .int .i64 1, .int .i64 1, .int .i64 1, .int .i64 1, .int .i64 1, .int .i64 1] 3))
      clear hlit
      go_wp2_with fail
      refine (Digits_yes _ 10 10 onesQ t _ HIO.out HON.out.1).mono ?_
      rintro e w10 ⟨a10, c10, rfl, hi10, -, -, hb10⟩
      have B10 := Lib.hid (HBO.out.trans (hb10.mono HBO.out.size))
      have I10 := Lib.hid hi10
      clear hi10 hb10
      go_wp2_with fail
      refine (EncodeI t HON.out.2.1 _).mono ?_
      rintro e w11 ⟨a11, N, c11, rfl, hi11, hN, -, -, hb11⟩
      have B11 := Lib.hid (B10.out.trans (hb11.mono B10.out.size))
      have I11 := Lib.hid (And.intro hi11 (I10.out.below hb11))
      have HLE := Lib.hid hi11.1
      clear hi11 hb11 I10 B10
      obtain ⟨bd, od, rfl, hbd, hcd⟩ := I11.out.2.at (by omega)
      have HCD := Lib.hid hcd
      clear hcd
      go_wp2
      go_loopg [18, 20, 103] N (fun gk s u20 i wr => ∃ (k : Nat), k + gk = N ∧ i = .int .i64 (k : Int) ∧ s = .int .i64 (k : Int) ∧ wr = w11)
      case atStart => exact ⟨0, by omega, rfl, rfl, rfl⟩
      case round =>
        obtain ⟨k, hk, rfl, rfl, hww⟩ := hrel
        have hww2 := hww.symm
        subst hww2
        by_cases hkn : k = N
        · have hge : ¬ (k : Int) < (N : Int) := by omega
          have hge2 : ¬ k < N := by omega
          have HKN := Lib.hid hkn
          have k0 : (0 : Int) ≤ (k : Int) := by omega
          have k30 : (k : Int) ≤ 30 := by omega
          clear hkn hk
          go_wp2
          go_loopg [18, 22, 126] 10 (fun gk s u22 i wr => ∃ (j : Nat), j + gk = 10 ∧ i = .int .i64 (j : Int) ∧ s = .int .i64 ((k : Int) - sumI ((digL onesQ t).take j)) ∧ wr = w11)
          case atStart => exact ⟨0, by omega, rfl, by simp [sumI], rfl⟩
          case round =>
            obtain ⟨j, hj, rfl, rfl, hww⟩ := hrel
            have hww2 := hww.symm
            subst hww2
            have hsb := HSB.out j (by have := HDL.out; omega)
            by_cases hj10 : j = 10
            · have hge3 : ¬ (j : Int) < 10 := by omega
              have hz : (k : Int) - sumI ((digL onesQ t).take j) = 0 := by
                rw [List.take_of_length_le (by have := HDL.out; omega), HON.out.2.2.2.1, HLE.out, HKN.out]
                omega
              rw [hz]
              clear hj10 hj hz hsb
              go_wp2_with fail
              refine (awake_any _).mono ?_
              rintro e w12 ⟨rfl, hb12⟩
              have B12 := Lib.hid (B11.out.trans (hb12.mono B11.out.size))
              clear hb12
              go_wp2
              go_ret
              exact ⟨rfl, B12.out⟩
            · have hlt3 : (j : Int) < 10 := by omega
              have hlt4 : j < 10 := by omega
              have hcj := HCD.out j hlt4
              have hbj := HON.out.2.2.2.2 j (by have := HDL.out; omega)
              have hst := sumI_take (l := digL onesQ t) (k := j) (by have := HDL.out; omega)
              obtain ⟨x, hx⟩ : ∃ x, (digL onesQ t).getD j 0 = x := ⟨_, rfl⟩
              rw [hx] at hcj hbj hst
              obtain ⟨S, hS⟩ : ∃ S, sumI ((digL onesQ t).take j) = S := ⟨_, rfl⟩
              rw [hS] at hst hsb ⊢
              have HST := Lib.hid hst
              have HJ := Lib.hid hj
              have j0 : (0 : Int) ≤ (j : Int) := by omega
              clear hx hst hS hj hj10
              go_wp2
              go_roundg (10 - j - 1)
              case rel => exact ⟨j + 1, by have := HJ.out; omega, by go_num, by rw [HST.out, Int.sub_sub], rfl⟩
              case measure => have := HJ.out; omega
        · have hlt : (k : Int) < (N : Int) := by omega
          have hlt2 : k < N := by omega
          obtain ⟨be, oe, rfl, hbe, hce⟩ := I11.out.1.at (by omega)
          have hck := hce k hlt2
          obtain ⟨y2, y11, y1⟩ := HON.out.2.2.1 k (by have := HLE.out; omega)
          obtain ⟨y, hy⟩ : ∃ y, (enc t).getD k 0 = y := ⟨_, rfl⟩
          rw [hy] at hck y2 y11 y1
          obtain ⟨z, hz⟩ : ∃ z : Nat, (y - 2).toNat = z := ⟨_, rfl⟩
          have hz2 : y - 2 = (z : Int) := by omega
          have hz3 : z < 10 := by omega
          have hz4 : (z : Int) < 10 := by omega
          have hz0 : (0 : Int) ≤ (z : Int) := by omega
          have hcz := HCD.out z hz3
          rw [hz] at y1
          rw [y1] at hcz
          have HK := Lib.hid hk
          have k0 : (0 : Int) ≤ (k : Int) := by omega
          clear hce hy hz y1 hk hkn
          go_wp2
          go_roundg (N - k - 1)
          case rel => exact ⟨k + 1, by have := HK.out; omega, by go_num, by go_num, rfl⟩
          case measure => have := HK.out; omega
    · have hE : dgE q x = 2 := by unfold dgE; rw [if_neg hD]
      rw [hE]
      obtain ⟨W9, hW9⟩ : ∃ W9, w7 = W9 := ⟨_, rfl⟩
      have B9 := Lib.hid (show Below w.heap.size w W9 from hW9 ▸ T7.out.b)
      rw [hW9]
      clear hE hD T7 R7 hW9
      have hlit := World.ownsRow_lit (base := W9.heap.size) (e := 3) (size := 1) W9 #[.int .i64 2, .int .i64 1, .int .i64 1, .int .i64 1, .int .i64 1, .int .i64 1, .int .i64 1, .int .i64 1, .int .i64 1, .int .i64 1] 10 (Nat.le_refl _) (by unfold maxLen; omega) rfl
      have HIO := Lib.hid (Ints.own (xs := onesQ) hlit).1
      have HBO := Lib.hid (B9.out.alloc B9.out.size (.cells #[.int .i64 2, .int .i64 1, .int .i64 1, .int .i64 1, .int .i64 1, .int .i64 1, .int .i64 1, .int .i64 1, .int .i64 1, .int .i64 1] 3))
      clear hlit
      go_wp2_with fail
      refine (Digits_yes _ 10 10 onesQ t _ HIO.out HON.out.1).mono ?_
      rintro e w10 ⟨a10, c10, rfl, hi10, -, -, hb10⟩
      have B10 := Lib.hid (HBO.out.trans (hb10.mono HBO.out.size))
      have I10 := Lib.hid hi10
      clear hi10 hb10
      go_wp2_with fail
      refine (EncodeI t HON.out.2.1 _).mono ?_
      rintro e w11 ⟨a11, N, c11, rfl, hi11, hN, -, -, hb11⟩
      have B11 := Lib.hid (B10.out.trans (hb11.mono B10.out.size))
      have I11 := Lib.hid (And.intro hi11 (I10.out.below hb11))
      have HLE := Lib.hid hi11.1
      clear hi11 hb11 I10 B10
      obtain ⟨bd, od, rfl, hbd, hcd⟩ := I11.out.2.at (by omega)
      have HCD := Lib.hid hcd
      clear hcd
      go_wp2
      go_loopg [18, 20, 103] N (fun gk s u20 i wr => ∃ (k : Nat), k + gk = N ∧ i = .int .i64 (k : Int) ∧ s = .int .i64 (k : Int) ∧ wr = w11)
      case atStart => exact ⟨0, by omega, rfl, rfl, rfl⟩
      case round =>
        obtain ⟨k, hk, rfl, rfl, hww⟩ := hrel
        have hww2 := hww.symm
        subst hww2
        by_cases hkn : k = N
        · have hge : ¬ (k : Int) < (N : Int) := by omega
          have hge2 : ¬ k < N := by omega
          have HKN := Lib.hid hkn
          have k0 : (0 : Int) ≤ (k : Int) := by omega
          have k30 : (k : Int) ≤ 30 := by omega
          clear hkn hk
          go_wp2
          go_loopg [18, 22, 126] 10 (fun gk s u22 i wr => ∃ (j : Nat), j + gk = 10 ∧ i = .int .i64 (j : Int) ∧ s = .int .i64 ((k : Int) - sumI ((digL onesQ t).take j)) ∧ wr = w11)
          case atStart => exact ⟨0, by omega, rfl, by simp [sumI], rfl⟩
          case round =>
            obtain ⟨j, hj, rfl, rfl, hww⟩ := hrel
            have hww2 := hww.symm
            subst hww2
            have hsb := HSB.out j (by have := HDL.out; omega)
            by_cases hj10 : j = 10
            · have hge3 : ¬ (j : Int) < 10 := by omega
              have hz : (k : Int) - sumI ((digL onesQ t).take j) = 0 := by
                rw [List.take_of_length_le (by have := HDL.out; omega), HON.out.2.2.2.1, HLE.out, HKN.out]
                omega
              rw [hz]
              clear hj10 hj hz hsb
              go_wp2_with fail
              refine (awake_any _).mono ?_
              rintro e w12 ⟨rfl, hb12⟩
              have B12 := Lib.hid (B11.out.trans (hb12.mono B11.out.size))
              clear hb12
              go_wp2
              go_ret
              exact ⟨rfl, B12.out⟩
            · have hlt3 : (j : Int) < 10 := by omega
              have hlt4 : j < 10 := by omega
              have hcj := HCD.out j hlt4
              have hbj := HON.out.2.2.2.2 j (by have := HDL.out; omega)
              have hst := sumI_take (l := digL onesQ t) (k := j) (by have := HDL.out; omega)
              obtain ⟨x, hx⟩ : ∃ x, (digL onesQ t).getD j 0 = x := ⟨_, rfl⟩
              rw [hx] at hcj hbj hst
              obtain ⟨S, hS⟩ : ∃ S, sumI ((digL onesQ t).take j) = S := ⟨_, rfl⟩
              rw [hS] at hst hsb ⊢
              have HST := Lib.hid hst
              have HJ := Lib.hid hj
              have j0 : (0 : Int) ≤ (j : Int) := by omega
              clear hx hst hS hj hj10
              go_wp2
              go_roundg (10 - j - 1)
              case rel => exact ⟨j + 1, by have := HJ.out; omega, by go_num, by rw [HST.out, Int.sub_sub], rfl⟩
              case measure => have := HJ.out; omega
        · have hlt : (k : Int) < (N : Int) := by omega
          have hlt2 : k < N := by omega
          obtain ⟨be, oe, rfl, hbe, hce⟩ := I11.out.1.at (by omega)
          have hck := hce k hlt2
          obtain ⟨y2, y11, y1⟩ := HON.out.2.2.1 k (by have := HLE.out; omega)
          obtain ⟨y, hy⟩ : ∃ y, (enc t).getD k 0 = y := ⟨_, rfl⟩
          rw [hy] at hck y2 y11 y1
          obtain ⟨z, hz⟩ : ∃ z : Nat, (y - 2).toNat = z := ⟨_, rfl⟩
          have hz2 : y - 2 = (z : Int) := by omega
          have hz3 : z < 10 := by omega
          have hz4 : (z : Int) < 10 := by omega
          have hz0 : (0 : Int) ≤ (z : Int) := by omega
          have hcz := HCD.out z hz3
          rw [hz] at y1
          rw [y1] at hcz
          have HK := Lib.hid hk
          have k0 : (0 : Int) ≤ (k : Int) := by omega
          clear hce hy hz y1 hk hkn
          go_wp2
          go_roundg (N - k - 1)
          case rel => exact ⟨k + 1, by have := HK.out; omega, by go_num, by go_num, rfl⟩
          case measure => have := HK.out; omega
end Go.Proofs.Ytbdabpmpfciibaa
