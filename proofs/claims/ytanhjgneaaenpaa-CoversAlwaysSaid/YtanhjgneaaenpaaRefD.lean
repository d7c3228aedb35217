/- The walks of the reference's Days and Always. Condition: the slice lies in memory, k is one, the primes are. -/
import Derived.Test.YtanhjgneaaenpaaDays
namespace Go.Proofs.Ytanhjgneaaenpaa
open Go.RowKit
attribute [local go_sem] Oper.semAt_some

theorem lastH_zero {k p : Nat} : ∀ {e}, (∀ t, 1 ≤ t → t ≤ e → hit k p t = false) → lastH k p e = 0
  | 0, _ => rfl
  | e + 1, h => by
    unfold lastH
    rw [h (e + 1) (by omega) (Nat.le_refl _), if_neg (by decide)]
    exact lastH_zero fun t h1 h2 => h t h1 (by omega)
set_option maxRecDepth 100000 in
set_option maxHeartbeats 8000000 in
theorem refDays_no (k : Nat) (a : Option Addr) (n c : Nat) (xs : List Int) (w : World) (hk : k ≤ 1000000) (h : Ints w a n xs) (hp : isPs xs = true) (hd : daysB k xs = true) :
    Calls Try.prog 37 #[.int .i64 (k : Int), .slice a n c] w fun e w' => e = .returned (.tuple #[.slice none 0 0, .int .i64 6]) ∧ Below w.heap.size w w' := by
  have H := Lib.hid h
  have HL := Lib.hid h.1
  have HP := Lib.hid hp
  have hn : n ≤ 8 := by have := (isPs_len hp).2; have := h.1; omega
  have HD := Lib.hid hd
  obtain ⟨i0, hi, hz0, hz1, hz2⟩ := info_parts info44
  have HI := Lib.hid (And.intro hi (And.intro hz0 (And.intro hz1 hz2)))
  have kk : (k : Int) ≤ 1000000 := by omega
  clear h hp hd hi hz0 hz1 hz2
  go_enter Try.func37, Try.ntmps37
  go_wp2
  go_loopg [6, 14] n (fun gk s6 s14 wr => ∃ j : Nat, j + gk = n ∧ s14 = .int .i64 (j : Int) ∧ Row2 w.heap.size s6 (dyL k (xs.take j)) wr ∧ bigs k xs j = false ∧ Below w.heap.size w wr)
  case atStart => exact ⟨0, by omega, rfl, World.ownsRow_nil _ _ _ _, rfl, Below.refl _ _⟩
  case round =>
    obtain ⟨j, hj, rfl, ho, hbg, hb⟩ := hrel
    have HJ := Lib.hid hj
    have HO := Lib.hid ho
    have HBG := Lib.hid hbg
    have HB := Lib.hid hb
    clear ho hbg hb
    by_cases hjn : j = n
    · have hge : ¬ (j : Int) < (n : Int) := by omega
      have hge2 : ¬ j < n := by omega
      have ho := HO.out
      rw [List.take_of_length_le (by have := HL.out; omega)] at ho
      have hok := dyL_ok HP.out (show j ≤ xs.length by have := HL.out; omega) HBG.out
      rw [List.take_of_length_le (by have := HL.out; omega)] at hok
      have hbn := HBG.out
      rw [hjn, ← HL.out] at hbn
      have hdd := HD.out
      unfold daysB at hdd
      rw [hbn, Bool.false_or] at hdd
      have hlen := dyL_len k xs
      obtain ⟨al, cl, rfl, h1, h2, h3⟩ := ho.prs
      have hW := wholeR_any al (dyL k xs).length cl (dyL k xs) wr h3 (by have := HL.out; omega)
      have hwz : (((wholeF (dyL k xs) : Nat) : Int) == 0) = true := by
        have h5 := wl_pos (L := dyL k xs) fun p hp => (hok p hp).1
        rw [Bool.eq_iff_iff]
        have h6 : wholeF (dyL k xs) = 0 := by unfold wholeF; rw [if_neg]; rintro ⟨-, h7⟩; have := of_decide_eq_true hdd; omega
        rw [h6]; simp
      obtain ⟨W, hWl⟩ : ∃ W, wholeF (dyL k xs) = W := ⟨_, rfl⟩
      rw [hWl] at hW hwz
      have HF := Lib.hid ho
      have HW := Lib.hid hW
      clear hjn hj ho hok hbn hW hWl h1 h2 h3 hlen hdd
      go_wp2_with fail
      refine HW.out.mono ?_
      rintro e w1 ⟨rfl, hb1⟩
      have HB1 := Lib.hid (HB.out.trans (hb1.mono HB.out.size))
      have HF1 := Lib.hid (HF.out.later hb1)
      clear hb1 HW
      go_wp2
      go_ret2
      exact ⟨rfl, HB1.out⟩
    · have hlt : (j : Int) < (n : Int) := by omega
      have hlt2 : j < n := by omega
      have j0 : (0 : Int) ≤ (j : Int) := by omega
      obtain ⟨b, off, hab, hbl, hcc⟩ := (H.out.below HB.out).at (by omega)
      subst hab
      have hcj := hcc j hlt2
      obtain ⟨p1, p2, p3⟩ := isPs_at HP.out (show j < xs.length by have := HL.out; omega)
      have hds := dyL_take (k := k) (xs := xs) (j := j) (by have := HL.out; omega)
      have hbs := bigs_succ k xs j
      rw [HBG.out, Bool.false_or] at hbs
      obtain ⟨p, hpp⟩ : ∃ p, xs.getD j 0 = p := ⟨_, rfl⟩
      rw [hpp] at hcj p1 p2 p3 hds hbs
      obtain ⟨P, rfl⟩ := Int.eq_ofNat_of_zero_le (show 0 ≤ p by omega)
      unfold bigB at hbs
      rw [Int.toNat_natCast] at hds p3 hbs
      have hodd := pr_odd (by omega) p3
      obtain ⟨o1, o2, o3, o4⟩ := ord_spec (p := P) (by omega) (by omega) hodd
      have HD0 := Lib.hid (fun h => day_last (k := k) (p := P) h)
      have HD1 := Lib.hid (fun h => day_last' (k := k) (p := P) h)
      have HFL := Lib.hid (fun t h1 ht hh => first_last (k := k) (p := P) (t := t) (by omega) (by omega) hodd h1 ht hh)
      have HDS := Lib.hid hds
      have HBS := Lib.hid hbs
      have HO3 := Lib.hid o3
      have HO4 := Lib.hid o4
      have HPS := Lib.hid (fun t => pow_mod_succ P t)
      have HKS := Lib.hid (fun t => kx_succ k P t)
      have HHK := Lib.hid (fun t => hit_kx k P t)
      have HDB := Lib.hid (show ∀ (hx : bigs k xs (j + 1) = true), daysB k xs = true from fun hx => by
        unfold daysB
        have : bigs k xs xs.length = true := by
          unfold bigs at hx ⊢
          rw [List.any_eq_true] at hx ⊢
          obtain ⟨i, h1, h2⟩ := hx
          have := List.mem_range.1 h1
          exact ⟨i, List.mem_range.2 (by have := HL.out; omega), h2⟩
        rw [this]; rfl)
      obtain ⟨o, hoo⟩ : ∃ o, ordF P = o := ⟨_, rfl⟩
      rw [hoo] at o1 o2 HD0 HD1 HFL HO3 HO4
      have P0 : ¬ (P : Int) = 0 := by omega
      have PP : (0 : Int) < (P : Int) := by omega
      have P300 : (P : Int) < 300 := by omega
      have P3 : 3 ≤ P := by omega
      clear hjn hj hcc hds hbs hpp p1 p2 p3 hodd o3 o4 hoo
      go_wp2
      go_quiet (fail)
      go_wp2
      have hb2 := below_drewN HB.out nq
      have ho2 := HO.out.drew nq
      obtain ⟨W0, hW0⟩ : ∃ W0, wr.drewN nq = W0 := ⟨_, rfl⟩
      rw [hW0] at hb2 ho2 ⊢
      have HB2 := Lib.hid hb2
      have HO2 := Lib.hid ho2
      clear hb2 ho2 hW0
      have e21 : (2 : Int) % (P : Int) = ((2 ^ 1 % P : Nat) : Int) := by rw [Int.natCast_emod]; rfl
      obtain ⟨q1, hq1⟩ : ∃ q1, 2 ^ 1 % P = q1 := ⟨_, rfl⟩
      rw [hq1] at e21
      have HQ1 := Lib.hid hq1
      clear hq1
      go_loopg [9, 10] o (fun gk s9 s10 wr => ∃ t : Nat, t + gk = o + 1 ∧ (1 ≤ t ∧ t ≤ o) ∧ s9 = .int .i64 (t : Int) ∧ s10 = .int .i64 ((2 ^ t % P : Nat) : Int) ∧ wr = W0)
      case atStart => exact ⟨1, by omega, ⟨Nat.le_refl _, o1⟩, rfl, by rw [HQ1.out, e21], rfl⟩
      case round =>
        obtain ⟨t, ht, ⟨ht1, hto1⟩, rfl, rfl, hww⟩ := hrel
        have hww2 := hww.symm
        subst hww2
        clear hww
        have HT := Lib.hid ht
        have hplt : 2 ^ t % P < P := Nat.mod_lt _ (by omega)
        obtain ⟨q, hq⟩ : ∃ q, 2 ^ t % P = q := ⟨_, rfl⟩
        rw [hq] at hplt ⊢
        have HQ := Lib.hid hq
        have q300 : (q : Int) < 300 := by omega
        clear hq
        by_cases hto : t = o
        · have hq1 : q = 1 := by rw [← HQ.out, hto]; exact HO3.out
          subst hq1
          have hqb : (((1 : Nat) : Int) != 1) = false := rfl
          subst hto
          have ek : (k : Int) % (P : Int) = ((k * 2 ^ 0 % P : Nat) : Int) := by rw [Nat.pow_zero, Nat.mul_one, Int.natCast_emod]
          obtain ⟨k0, hk0⟩ : ∃ k0, k * 2 ^ 0 % P = k0 := ⟨_, rfl⟩
          rw [hk0] at ek
          have HK0 := Lib.hid hk0
          clear hk0
          clear ht e21
          go_wp2
          go_loopg [6, 10, 11] t (fun gk s6 s10 s11 wr => ∃ m : Nat, m + gk = t ∧ s6 = u6 ∧ s11 = .int .i64 ((m : Int) + 1) ∧ s10 = .int .i64 ((k * 2 ^ m % P : Nat) : Int) ∧ (∀ i, 1 ≤ i → i ≤ m → hit k P i = false) ∧ wr = W0)
          case atStart => exact ⟨0, by omega, rfl, rfl, by rw [HK0.out, ek], fun i h1 h2 => by omega, rfl⟩
          case round =>
            obtain ⟨m, hm, rfl, rfl, rfl, hall, hww⟩ := hrel
            have hww2 := hww.symm
            subst hww2
            clear hww
            have HM := Lib.hid hm
            have HALL := Lib.hid hall
            have hxlt : k * 2 ^ m % P < P := Nat.mod_lt _ (by omega)
            have hks := HKS.out m
            have hhk := HHK.out (m + 1)
            have hxlt2 : k * 2 ^ (m + 1) % P < P := Nat.mod_lt _ (by omega)
            obtain ⟨x, hx⟩ : ∃ x, k * 2 ^ m % P = x := ⟨_, rfl⟩
            rw [hx] at hxlt hks ⊢
            rw [hks] at hhk hxlt2
            have e1 : 2 * (x : Int) % (P : Int) = ((2 * x % P : Nat) : Int) := by rw [Int.natCast_emod, Int.natCast_mul]; rfl
            obtain ⟨y, hy⟩ : ∃ y, 2 * x % P = y := ⟨_, rfl⟩
            rw [hy] at hks hhk hxlt2 e1
            have e2 : ((y : Int) + 1) % (P : Int) = (((y + 1) % P : Nat) : Int) := by rw [Int.natCast_emod, Int.natCast_add]; rfl
            have hhe2 : (((y : Int) + 1) % (P : Int) == 0) = hit k P (m + 1) := by
              rw [e2, hhk, Bool.eq_iff_iff]
              simp only [beq_iff_eq, decide_eq_true_eq]
              omega
            have HKS2 := Lib.hid hks
            have x300 : (x : Int) < 300 := by omega
            have y300 : (y : Int) < 300 := by omega
            have m300 : (m : Int) < 300 := by omega
            clear hall hx hy hxlt hxlt2 hks hhk e2
            by_cases hmt : m = t
            · have hge : ¬ (m : Int) + 1 ≤ (t : Int) := by omega
              obtain ⟨f1, f2⟩ := HD0.out (lastH_zero fun i h1 h2 => HALL.out i h1 (by omega))
              have HN := Lib.hid (show Row2 w.heap.size u6 (dyL k (xs.take (j + 1))) W0 by
                rw [HDS.out, f2, if_neg (by decide), List.append_nil]; exact HO2.out)
              have HBS2 := Lib.hid (show bigs k xs (j + 1) = false by rw [HBS.out, f2]; rfl)
              clear hmt hm f1 f2 hhe2
              go_wp2
              go_roundg (n - j - 1)
              case rel => exact ⟨j + 1, by have := HJ.out; omega, by go_num, HN.out, HBS2.out, HB2.out⟩
              case measure => have := HJ.out; omega
            · have hlt3 : (m : Int) + 1 ≤ (t : Int) := by omega
              have hmlt : m < t := by omega
              obtain ⟨Hh, hH⟩ : ∃ Hh, hit k P (m + 1) = Hh := ⟨_, rfl⟩
              rw [hH] at hhe2
              have HH := Lib.hid hH
              clear hmt hm hH
              cases Hh with
              | false =>
                go_wp2
                go_roundg (t - m - 1)
                case rel =>
                  refine ⟨m + 1, by have := HM.out; omega, rfl, by go_num, by rw [HKS2.out, e1], fun i h1 h2 => ?_, rfl⟩
                  by_cases e : i = m + 1
                  · subst e; exact HH.out
                  · exact HALL.out i h1 (by omega)
                case measure => have := HM.out; omega
              | true =>
                have hlast := HFL.out (m + 1) (by omega) (by omega) HH.out
                obtain ⟨f1, f2⟩ := HD1.out (by rw [hlast]; omega)
                rw [hlast] at f1
                have hbs2 := HBS.out
                rw [f1, f2, Bool.true_and] at hbs2
                replace hbs2 : bigs k xs (j + 1) = decide (60 < (t : Int)) := hbs2
                have hdsn : dyL k (xs.take (j + 1)) = dyL k (xs.take j) ++ [((((m + 1) % t : Nat) : Int), (t : Int))] := by rw [HDS.out, f2, if_pos rfl, f1]
                have HDSN := Lib.hid hdsn
                have tz : ¬ (t : Int) = 0 := by omega
                have em : ((m : Int) + 1) % (t : Int) = (((m + 1) % t : Nat) : Int) := by rw [Int.natCast_emod, Int.natCast_add]; rfl
                have hmd : (m + 1) % t < t := Nat.mod_lt _ (by omega)
                obtain ⟨r, hr⟩ : ∃ r, (m + 1) % t = r := ⟨_, rfl⟩
                rw [hr] at em HDSN
                clear hlast f1 f2 hdsn hr hmd
                by_cases h60 : 60 < (t : Int)
                · have hbig : bigs k xs (j + 1) = true := by rw [hbs2]; simpa using h60
                  have hdt := HDB.out hbig
                  clear hbig hdt hbs2
                  go_wp2
                  go_ret2
                  exact ⟨rfl, HB2.out⟩
                · have HBS2 := Lib.hid (show bigs k xs (j + 1) = false by rw [hbs2]; simpa using h60)
                  have ho := HO2.out
                  unfold Row2 at ho
                  have hlen := dyL_len k (xs.take j)
                  have hlen2 : (xs.take j).length ≤ j := List.length_take_le _ _
                  obtain ⟨N, hN⟩ : ∃ N, (dyL k (xs.take j)).length = N := ⟨_, rfl⟩
                  rw [hN] at ho hlen
                  have HN := Lib.hid hN
                  have hsz := HB2.out.size
                  obtain ⟨hi, hz0, hz1, hz2⟩ := HI.out
                  clear hN hbs2
                  go_wp2_with (at_builtin; refine wpList_append_own _ rfl _ _ 22 rfl w.heap.size 44 i0 (.agg #[.int .i64 0, .int .i64 0]) 2 16 Try.underlying22 hi hz0 hz1 hz2 rfl (by decide) _ _ _ rfl (World.ownsRow.alloc (h := ho) _) ⟨W0.heap.size, 0, none⟩ 1 1 [.int .i64 (r : Int), .int .i64 (t : Int)] rfl rfl (cell_two_new _ _ _ _) (by simp [Value.oneCell']) (by unfold maxLen; omega) (by omega) (by simp; omega) ?_; intro v' w5 hown' hgrow _)
                  have hb5 : Below w.heap.size w w5 := (HB2.out.alloc hsz _).grown hgrow (by simp; omega) (fun j e => (ho.lt j e).1)
                  have HX5 := Lib.hid hb5
                  have HN5 := Lib.hid (show Row2 w.heap.size v' (dyL k (xs.take (j + 1))) w5 by
                    unfold Row2
                    rw [HDSN.out, List.length_append, HN.out, fl_app]
                    exact hown')
                  clear hown' hgrow hb5
                  go_roundg (n - j - 1)
                  case rel => exact ⟨j + 1, by have := HJ.out; omega, by go_num, HN5.out, HBS2.out, HX5.out⟩
                  case measure => have := HJ.out; omega
        · have htlt : t < o := by omega
          have hqn : ((q : Int) != 1) = true := by
            have h1 := HO4.out t ht1 htlt
            rw [HQ.out] at h1
            simp; omega
          have e1 : 2 * (q : Int) % (P : Int) = ((2 ^ (t + 1) % P : Nat) : Int) := by
            rw [HPS.out, HQ.out, Int.natCast_emod, Int.natCast_mul, Int.mul_comm]; rfl
          have t300 : (t : Int) < 300 := by omega
          have HE1 := Lib.hid e1
          clear hto ht e21 e1
          go_wp2
          go_roundg (o - t)
          case rel => exact ⟨t + 1, by have := HT.out; omega, by omega, by go_num, by rw [← HE1.out], rfl⟩
          case measure => have := HT.out; omega
set_option maxRecDepth 100000 in
set_option maxHeartbeats 8000000 in
theorem refDays_yes (k : Nat) (a : Option Addr) (n c : Nat) (xs : List Int) (w : World) (hk : k ≤ 1000000) (h : Ints w a n xs) (hp : isPs xs = true) (hd : daysB k xs = false) :
    Calls Try.prog 37 #[.int .i64 (k : Int), .slice a n c] w fun e w' => ∃ v, e = .returned (.tuple #[v, .int .i64 0]) ∧ Row2 w.heap.size v (dyL k xs) w' ∧ Below w.heap.size w w' := by
  have H := Lib.hid h
  have HL := Lib.hid h.1
  have HP := Lib.hid hp
  have hn : n ≤ 8 := by have := (isPs_len hp).2; have := h.1; omega
  have HD := Lib.hid hd
  obtain ⟨i0, hi, hz0, hz1, hz2⟩ := info_parts info44
  have HI := Lib.hid (And.intro hi (And.intro hz0 (And.intro hz1 hz2)))
  have kk : (k : Int) ≤ 1000000 := by omega
  clear h hp hd hi hz0 hz1 hz2
  go_enter Try.func37, Try.ntmps37
  go_wp2
  go_loopg [6, 14] n (fun gk s6 s14 wr => ∃ j : Nat, j + gk = n ∧ s14 = .int .i64 (j : Int) ∧ Row2 w.heap.size s6 (dyL k (xs.take j)) wr ∧ bigs k xs j = false ∧ Below w.heap.size w wr)
  case atStart => exact ⟨0, by omega, rfl, World.ownsRow_nil _ _ _ _, rfl, Below.refl _ _⟩
  case round =>
    obtain ⟨j, hj, rfl, ho, hbg, hb⟩ := hrel
    have HJ := Lib.hid hj
    have HO := Lib.hid ho
    have HBG := Lib.hid hbg
    have HB := Lib.hid hb
    clear ho hbg hb
    by_cases hjn : j = n
    · have hge : ¬ (j : Int) < (n : Int) := by omega
      have hge2 : ¬ j < n := by omega
      have ho := HO.out
      rw [List.take_of_length_le (by have := HL.out; omega)] at ho
      have hok := dyL_ok HP.out (show j ≤ xs.length by have := HL.out; omega) HBG.out
      rw [List.take_of_length_le (by have := HL.out; omega)] at hok
      have hbn := HBG.out
      rw [hjn, ← HL.out] at hbn
      have hdd := HD.out
      unfold daysB at hdd
      rw [hbn, Bool.false_or] at hdd
      have hlen := dyL_len k xs
      obtain ⟨al, cl, rfl, h1, h2, h3⟩ := ho.prs
      have hW := wholeR_any al (dyL k xs).length cl (dyL k xs) wr h3 (by have := HL.out; omega)
      have hwz : (((wholeF (dyL k xs) : Nat) : Int) == 0) = false := by
        have h5 := wl_pos (L := dyL k xs) fun p hp => (hok p hp).1
        have h6 : wholeF (dyL k xs) = wl (dyL k xs) := wholeF_good (fun i hi => ⟨(hok.nth hi).1, (hok.nth hi).2.1⟩) (by have := of_decide_eq_false hdd; omega)
        rw [h6]; simp; omega
      obtain ⟨W, hWl⟩ : ∃ W, wholeF (dyL k xs) = W := ⟨_, rfl⟩
      rw [hWl] at hW hwz
      have HF := Lib.hid ho
      have HW := Lib.hid hW
      clear hjn hj ho hok hbn hW hWl h1 h2 h3 hlen hdd
      go_wp2_with fail
      refine HW.out.mono ?_
      rintro e w1 ⟨rfl, hb1⟩
      have HB1 := Lib.hid (HB.out.trans (hb1.mono HB.out.size))
      have HF1 := Lib.hid (HF.out.later hb1)
      clear hb1 HW
      go_wp2
      go_ret2
      exact ⟨_, rfl, HF1.out, HB1.out⟩
    · have hlt : (j : Int) < (n : Int) := by omega
      have hlt2 : j < n := by omega
      have j0 : (0 : Int) ≤ (j : Int) := by omega
      obtain ⟨b, off, hab, hbl, hcc⟩ := (H.out.below HB.out).at (by omega)
      subst hab
      have hcj := hcc j hlt2
      obtain ⟨p1, p2, p3⟩ := isPs_at HP.out (show j < xs.length by have := HL.out; omega)
      have hds := dyL_take (k := k) (xs := xs) (j := j) (by have := HL.out; omega)
      have hbs := bigs_succ k xs j
      rw [HBG.out, Bool.false_or] at hbs
      obtain ⟨p, hpp⟩ : ∃ p, xs.getD j 0 = p := ⟨_, rfl⟩
      rw [hpp] at hcj p1 p2 p3 hds hbs
      obtain ⟨P, rfl⟩ := Int.eq_ofNat_of_zero_le (show 0 ≤ p by omega)
      unfold bigB at hbs
      rw [Int.toNat_natCast] at hds p3 hbs
      have hodd := pr_odd (by omega) p3
      obtain ⟨o1, o2, o3, o4⟩ := ord_spec (p := P) (by omega) (by omega) hodd
      have HD0 := Lib.hid (fun h => day_last (k := k) (p := P) h)
      have HD1 := Lib.hid (fun h => day_last' (k := k) (p := P) h)
      have HFL := Lib.hid (fun t h1 ht hh => first_last (k := k) (p := P) (t := t) (by omega) (by omega) hodd h1 ht hh)
      have HDS := Lib.hid hds
      have HBS := Lib.hid hbs
      have HO3 := Lib.hid o3
      have HO4 := Lib.hid o4
      have HPS := Lib.hid (fun t => pow_mod_succ P t)
      have HKS := Lib.hid (fun t => kx_succ k P t)
      have HHK := Lib.hid (fun t => hit_kx k P t)
      have HDB := Lib.hid (show ∀ (hx : bigs k xs (j + 1) = true), daysB k xs = true from fun hx => by
        unfold daysB
        have : bigs k xs xs.length = true := by
          unfold bigs at hx ⊢
          rw [List.any_eq_true] at hx ⊢
          obtain ⟨i, h1, h2⟩ := hx
          have := List.mem_range.1 h1
          exact ⟨i, List.mem_range.2 (by have := HL.out; omega), h2⟩
        rw [this]; rfl)
      obtain ⟨o, hoo⟩ : ∃ o, ordF P = o := ⟨_, rfl⟩
      rw [hoo] at o1 o2 HD0 HD1 HFL HO3 HO4
      have P0 : ¬ (P : Int) = 0 := by omega
      have PP : (0 : Int) < (P : Int) := by omega
      have P300 : (P : Int) < 300 := by omega
      have P3 : 3 ≤ P := by omega
      clear hjn hj hcc hds hbs hpp p1 p2 p3 hodd o3 o4 hoo
      go_wp2
      go_quiet (fail)
      go_wp2
      have hb2 := below_drewN HB.out nq
      have ho2 := HO.out.drew nq
      obtain ⟨W0, hW0⟩ : ∃ W0, wr.drewN nq = W0 := ⟨_, rfl⟩
      rw [hW0] at hb2 ho2 ⊢
      have HB2 := Lib.hid hb2
      have HO2 := Lib.hid ho2
      clear hb2 ho2 hW0
      have e21 : (2 : Int) % (P : Int) = ((2 ^ 1 % P : Nat) : Int) := by rw [Int.natCast_emod]; rfl
      obtain ⟨q1, hq1⟩ : ∃ q1, 2 ^ 1 % P = q1 := ⟨_, rfl⟩
      rw [hq1] at e21
      have HQ1 := Lib.hid hq1
      clear hq1
      go_loopg [9, 10] o (fun gk s9 s10 wr => ∃ t : Nat, t + gk = o + 1 ∧ (1 ≤ t ∧ t ≤ o) ∧ s9 = .int .i64 (t : Int) ∧ s10 = .int .i64 ((2 ^ t % P : Nat) : Int) ∧ wr = W0)
      case atStart => exact ⟨1, by omega, ⟨Nat.le_refl _, o1⟩, rfl, by rw [HQ1.out, e21], rfl⟩
      case round =>
        obtain ⟨t, ht, ⟨ht1, hto1⟩, rfl, rfl, hww⟩ := hrel
        have hww2 := hww.symm
        subst hww2
        clear hww
        have HT := Lib.hid ht
        have hplt : 2 ^ t % P < P := Nat.mod_lt _ (by omega)
        obtain ⟨q, hq⟩ : ∃ q, 2 ^ t % P = q := ⟨_, rfl⟩
        rw [hq] at hplt ⊢
        have HQ := Lib.hid hq
        have q300 : (q : Int) < 300 := by omega
        clear hq
        by_cases hto : t = o
        · have hq1 : q = 1 := by rw [← HQ.out, hto]; exact HO3.out
          subst hq1
          have hqb : (((1 : Nat) : Int) != 1) = false := rfl
          subst hto
          have ek : (k : Int) % (P : Int) = ((k * 2 ^ 0 % P : Nat) : Int) := by rw [Nat.pow_zero, Nat.mul_one, Int.natCast_emod]
          obtain ⟨k0, hk0⟩ : ∃ k0, k * 2 ^ 0 % P = k0 := ⟨_, rfl⟩
          rw [hk0] at ek
          have HK0 := Lib.hid hk0
          clear hk0
          clear ht e21
          go_wp2
          go_loopg [6, 10, 11] t (fun gk s6 s10 s11 wr => ∃ m : Nat, m + gk = t ∧ s6 = u6 ∧ s11 = .int .i64 ((m : Int) + 1) ∧ s10 = .int .i64 ((k * 2 ^ m % P : Nat) : Int) ∧ (∀ i, 1 ≤ i → i ≤ m → hit k P i = false) ∧ wr = W0)
          case atStart => exact ⟨0, by omega, rfl, rfl, by rw [HK0.out, ek], fun i h1 h2 => by omega, rfl⟩
          case round =>
            obtain ⟨m, hm, rfl, rfl, rfl, hall, hww⟩ := hrel
            have hww2 := hww.symm
            subst hww2
            clear hww
            have HM := Lib.hid hm
            have HALL := Lib.hid hall
            have hxlt : k * 2 ^ m % P < P := Nat.mod_lt _ (by omega)
            have hks := HKS.out m
            have hhk := HHK.out (m + 1)
            have hxlt2 : k * 2 ^ (m + 1) % P < P := Nat.mod_lt _ (by omega)
            obtain ⟨x, hx⟩ : ∃ x, k * 2 ^ m % P = x := ⟨_, rfl⟩
            rw [hx] at hxlt hks ⊢
            rw [hks] at hhk hxlt2
            have e1 : 2 * (x : Int) % (P : Int) = ((2 * x % P : Nat) : Int) := by rw [Int.natCast_emod, Int.natCast_mul]; rfl
            obtain ⟨y, hy⟩ : ∃ y, 2 * x % P = y := ⟨_, rfl⟩
            rw [hy] at hks hhk hxlt2 e1
            have e2 : ((y : Int) + 1) % (P : Int) = (((y + 1) % P : Nat) : Int) := by rw [Int.natCast_emod, Int.natCast_add]; rfl
            have hhe2 : (((y : Int) + 1) % (P : Int) == 0) = hit k P (m + 1) := by
              rw [e2, hhk, Bool.eq_iff_iff]
              simp only [beq_iff_eq, decide_eq_true_eq]
              omega
            have HKS2 := Lib.hid hks
            have x300 : (x : Int) < 300 := by omega
            have y300 : (y : Int) < 300 := by omega
            have m300 : (m : Int) < 300 := by omega
            clear hall hx hy hxlt hxlt2 hks hhk e2
            by_cases hmt : m = t
            · have hge : ¬ (m : Int) + 1 ≤ (t : Int) := by omega
              obtain ⟨f1, f2⟩ := HD0.out (lastH_zero fun i h1 h2 => HALL.out i h1 (by omega))
              have HN := Lib.hid (show Row2 w.heap.size u6 (dyL k (xs.take (j + 1))) W0 by
                rw [HDS.out, f2, if_neg (by decide), List.append_nil]; exact HO2.out)
              have HBS2 := Lib.hid (show bigs k xs (j + 1) = false by rw [HBS.out, f2]; rfl)
              clear hmt hm f1 f2 hhe2
              go_wp2
              go_roundg (n - j - 1)
              case rel => exact ⟨j + 1, by have := HJ.out; omega, by go_num, HN.out, HBS2.out, HB2.out⟩
              case measure => have := HJ.out; omega
            · have hlt3 : (m : Int) + 1 ≤ (t : Int) := by omega
              have hmlt : m < t := by omega
              obtain ⟨Hh, hH⟩ : ∃ Hh, hit k P (m + 1) = Hh := ⟨_, rfl⟩
              rw [hH] at hhe2
              have HH := Lib.hid hH
              clear hmt hm hH
              cases Hh with
              | false =>
                go_wp2
                go_roundg (t - m - 1)
                case rel =>
                  refine ⟨m + 1, by have := HM.out; omega, rfl, by go_num, by rw [HKS2.out, e1], fun i h1 h2 => ?_, rfl⟩
                  by_cases e : i = m + 1
                  · subst e; exact HH.out
                  · exact HALL.out i h1 (by omega)
                case measure => have := HM.out; omega
              | true =>
                have hlast := HFL.out (m + 1) (by omega) (by omega) HH.out
                obtain ⟨f1, f2⟩ := HD1.out (by rw [hlast]; omega)
                rw [hlast] at f1
                have hbs2 := HBS.out
                rw [f1, f2, Bool.true_and] at hbs2
                replace hbs2 : bigs k xs (j + 1) = decide (60 < (t : Int)) := hbs2
                have hdsn : dyL k (xs.take (j + 1)) = dyL k (xs.take j) ++ [((((m + 1) % t : Nat) : Int), (t : Int))] := by rw [HDS.out, f2, if_pos rfl, f1]
                have HDSN := Lib.hid hdsn
                have tz : ¬ (t : Int) = 0 := by omega
                have em : ((m : Int) + 1) % (t : Int) = (((m + 1) % t : Nat) : Int) := by rw [Int.natCast_emod, Int.natCast_add]; rfl
                have hmd : (m + 1) % t < t := Nat.mod_lt _ (by omega)
                obtain ⟨r, hr⟩ : ∃ r, (m + 1) % t = r := ⟨_, rfl⟩
                rw [hr] at em HDSN
                clear hlast f1 f2 hdsn hr hmd
                by_cases h60 : 60 < (t : Int)
                · have hbig : bigs k xs (j + 1) = true := by rw [hbs2]; simpa using h60
                  have hdt := HDB.out hbig
                  rw [HD.out] at hdt; cases hdt
                · have HBS2 := Lib.hid (show bigs k xs (j + 1) = false by rw [hbs2]; simpa using h60)
                  have ho := HO2.out
                  unfold Row2 at ho
                  have hlen := dyL_len k (xs.take j)
                  have hlen2 : (xs.take j).length ≤ j := List.length_take_le _ _
                  obtain ⟨N, hN⟩ : ∃ N, (dyL k (xs.take j)).length = N := ⟨_, rfl⟩
                  rw [hN] at ho hlen
                  have HN := Lib.hid hN
                  have hsz := HB2.out.size
                  obtain ⟨hi, hz0, hz1, hz2⟩ := HI.out
                  clear hN hbs2
                  go_wp2_with (at_builtin; refine wpList_append_own _ rfl _ _ 22 rfl w.heap.size 44 i0 (.agg #[.int .i64 0, .int .i64 0]) 2 16 Try.underlying22 hi hz0 hz1 hz2 rfl (by decide) _ _ _ rfl (World.ownsRow.alloc (h := ho) _) ⟨W0.heap.size, 0, none⟩ 1 1 [.int .i64 (r : Int), .int .i64 (t : Int)] rfl rfl (cell_two_new _ _ _ _) (by simp [Value.oneCell']) (by unfold maxLen; omega) (by omega) (by simp; omega) ?_; intro v' w5 hown' hgrow _)
                  have hb5 : Below w.heap.size w w5 := (HB2.out.alloc hsz _).grown hgrow (by simp; omega) (fun j e => (ho.lt j e).1)
                  have HX5 := Lib.hid hb5
                  have HN5 := Lib.hid (show Row2 w.heap.size v' (dyL k (xs.take (j + 1))) w5 by
                    unfold Row2
                    rw [HDSN.out, List.length_append, HN.out, fl_app]
                    exact hown')
                  clear hown' hgrow hb5
                  go_roundg (n - j - 1)
                  case rel => exact ⟨j + 1, by have := HJ.out; omega, by go_num, HN5.out, HBS2.out, HX5.out⟩
                  case measure => have := HJ.out; omega
        · have htlt : t < o := by omega
          have hqn : ((q : Int) != 1) = true := by
            have h1 := HO4.out t ht1 htlt
            rw [HQ.out] at h1
            simp; omega
          have e1 : 2 * (q : Int) % (P : Int) = ((2 ^ (t + 1) % P : Nat) : Int) := by
            rw [HPS.out, HQ.out, Int.natCast_emod, Int.natCast_mul, Int.mul_comm]; rfl
          have t300 : (t : Int) < 300 := by omega
          have HE1 := Lib.hid e1
          clear hto ht e21 e1
          go_wp2
          go_roundg (o - t)
          case rel => exact ⟨t + 1, by have := HT.out; omega, by omega, by go_num, by rw [← HE1.out], rfl⟩
          case measure => have := HT.out; omega
end Go.Proofs.Ytanhjgneaaenpaa
