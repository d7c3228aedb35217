/- The walks of system.times, whole and valid. Condition: the slice of pairs lies in memory. -/
import Derived.Test.YtanhjgneaaenpaaBase
import Derived.IntWalk
namespace Go.Proofs.Ytanhjgneaaenpaa
open Go.RowKit
attribute [local go_sem] Oper.semAt_some

/-- The pairs are pairs of a system. -/
def Ok (xs : List (Int × Int)) : Prop := ∀ p ∈ xs, 1 ≤ p.2 ∧ p.2 ≤ 60 ∧ 0 ≤ p.1 ∧ p.1 < p.2
theorem Ok.nth {xs : List (Int × Int)} (h : Ok xs) {j : Nat} (hj : j < xs.length) : 1 ≤ (nth xs j).2 ∧ (nth xs j).2 ≤ 60 ∧ 0 ≤ (nth xs j).1 ∧ (nth xs j).1 < (nth xs j).2 := h _ (nth_mem hj)
theorem cvB_tmod {d x y : Int} (b : Bool) (h : cvB d (x, y) = b) : ((d - x).tmod y == 0) = b := by
  rw [← h]
  unfold cvB
  rw [Bool.eq_iff_iff]
  simp only [beq_iff_eq, decide_eq_true_eq]
  exact ⟨Int.dvd_of_tmod_eq_zero, Int.tmod_eq_zero_of_dvd⟩

set_option maxHeartbeats 2000000 in
theorem times_any (a : Option Addr) (n c : Nat) (xs : List (Int × Int)) (d : Nat) (w : World) (h : Prs w a n xs) (hok : Ok xs) (hn : n ≤ 100000) (hd : d ≤ 1000000) :
    Calls Try.prog 48 #[.slice a n c, .int .i64 (d : Int)] w fun e w' => e = .returned (.int .i64 ((tm d xs : Nat) : Int)) ∧ Below w.heap.size w w' := by
  have H := Lib.hid h
  have HL := Lib.hid h.1
  have HOK := Lib.hid hok
  clear h hok
  go_enter Try.func48, Try.ntmps48
  go_wp2
  go_loopg [5, 10] n (fun gk s5 s10 wr => ∃ (j : Nat), j + gk = n ∧ s10 = .int .i64 (j : Int) ∧ s5 = .int .i64 ((tm d (xs.take j) : Nat) : Int) ∧ Below w.heap.size w wr)
  case atStart => exact ⟨0, by omega, rfl, rfl, Below.refl _ _⟩
  case round =>
    obtain ⟨j, hj, rfl, rfl, hb⟩ := hrel
    have HB := Lib.hid hb
    have HJ := Lib.hid hj
    clear hb
    by_cases hjn : j = n
    · have hge : ¬ (j : Int) < (n : Int) := by omega
      have hge2 : ¬ j < n := by omega
      have e : xs.take j = xs := by rw [List.take_of_length_le]; have := HL.out; omega
      rw [e]
      clear hjn hj e
      go_wp2
      go_ret
      exact ⟨rfl, HB.out⟩
    · have hlt : (j : Int) < (n : Int) := by omega
      have hlt2 : j < n := by omega
      have j0 : (0 : Int) ≤ (j : Int) := by omega
      obtain ⟨b, off, rfl, hbl, hc⟩ := (H.out.below HB.out).at (by omega)
      obtain ⟨c0, c1⟩ := hc j hlt2
      have hs := tm_take (n := d) (L := xs) (k := j) (by have := HL.out; omega)
      have hle := tm_le d (xs.take j)
      have hle2 : (xs.take j).length ≤ j := List.length_take_le _ _
      obtain ⟨k1, k2, k3, k4⟩ := HOK.out.nth (j := j) (by have := HL.out; omega)
      obtain ⟨t, ht⟩ : ∃ t, cvB d (nth xs j) = t := ⟨_, rfl⟩
      have HS := Lib.hid hs
      have HT := Lib.hid ht
      obtain ⟨x, hx⟩ : ∃ x, (nth xs j).1 = x := ⟨_, rfl⟩
      obtain ⟨y, hy⟩ : ∃ y, (nth xs j).2 = y := ⟨_, rfl⟩
      have hm := cvB_tmod (d := d) (x := x) (y := y) t (by rw [← hx, ← hy]; exact ht)
      rw [hx] at c0 k3 k4
      rw [hy] at c1 k1 k2 k4
      have hbz : b < wr.heap.size := hbl
      have hne : ¬ y = 0 := by omega
      obtain ⟨T, hT⟩ : ∃ T, tm d (xs.take j) = T := ⟨_, rfl⟩
      rw [hT] at hle ⊢
      have HTT := Lib.hid hT
      have e0 := Lib.cell?_alloc_some (.cells #[.int .i64 x, .int .i64 y] 44) c0
      have e1 := Lib.cell?_alloc_some (.cells #[.int .i64 x, .int .i64 y] 44) c1
      have HB2 := Lib.hid (HB.out.alloc HB.out.size (.cells #[.int .i64 x, .int .i64 y] 44))
      clear hjn hj hc hs hx hy ht hT
      cases t with
      | true =>
        go_wp2
        go_roundg (gk - 1)
        case rel => exact ⟨j + 1, by have := HJ.out; omega, by go_num, by rw [HS.out, HTT.out, if_pos HT.out]; go_num, HB2.out⟩
        case measure => have := HJ.out; omega
      | false =>
        go_wp2
        go_roundg (gk - 1)
        case rel => exact ⟨j + 1, by have := HJ.out; omega, by go_num, by rw [HS.out, HTT.out, if_neg (by rw [HT.out]; decide)]; go_num, HB2.out⟩
        case measure => have := HJ.out; omega

theorem wl_bound {xs : List (Int × Int)} (hok : Ok xs) (h : xs.length ≤ 10) (k : Nat) : 1 ≤ wl (xs.take k) ∧ wl (xs.take k) ≤ 604661760000000000 := by
  have h1 : ∀ p ∈ xs.take k, 1 ≤ p.2 ∧ p.2 ≤ 60 := fun p hp => ⟨(hok p (List.mem_of_mem_take hp)).1, (hok p (List.mem_of_mem_take hp)).2.1⟩
  refine ⟨wl_pos fun p hp => (h1 p hp).1, Nat.le_trans (wl_le h1) ?_⟩
  have : (xs.take k).length ≤ 10 := by rw [List.length_take]; omega
  exact Nat.le_trans (Nat.pow_le_pow_right (by decide) this) (by decide)
theorem lcm_div (w m : Nat) : (w : Int) * ((m : Int) / ((Nat.gcd w m : Nat) : Int)) = ((Nat.lcm w m : Nat) : Int) := by
  rw [← Int.natCast_ediv, ← Int.natCast_mul]
  congr 1
  unfold Nat.lcm
  rw [Nat.mul_div_assoc _ (Nat.gcd_dvd_right w m)]

set_option maxHeartbeats 2000000 in
theorem whole_any (a : Option Addr) (n c : Nat) (xs : List (Int × Int)) (w : World) (h : Prs w a n xs) (hok : Ok xs) (hn : n ≤ 10) :
    Calls Try.prog 52 #[.slice a n c] w fun e w' => e = .returned (.int .i64 ((wl xs : Nat) : Int)) ∧ Below w.heap.size w w' := by
  have H := Lib.hid h
  have HL := Lib.hid h.1
  have HOK := Lib.hid hok
  clear h hok
  go_enter Try.func52, Try.ntmps52
  go_wp2
  go_loopg [3, 8] n (fun gk s3 s8 wr => ∃ (j : Nat), j + gk = n ∧ s8 = .int .i64 (j : Int) ∧ s3 = .int .i64 ((wl (xs.take j) : Nat) : Int) ∧ Below w.heap.size w wr)
  case atStart => exact ⟨0, by omega, rfl, rfl, Below.refl _ _⟩
  case round =>
    obtain ⟨j, hj, rfl, rfl, hb⟩ := hrel
    have HB := Lib.hid hb
    have HJ := Lib.hid hj
    clear hb
    by_cases hjn : j = n
    · have hge : ¬ (j : Int) < (n : Int) := by omega
      have hge2 : ¬ j < n := by omega
      have e : xs.take j = xs := by rw [List.take_of_length_le]; have := HL.out; omega
      rw [e]
      clear hjn hj e
      go_wp2
      go_ret
      exact ⟨rfl, HB.out⟩
    · have hlt : (j : Int) < (n : Int) := by omega
      have hlt2 : j < n := by omega
      have j0 : (0 : Int) ≤ (j : Int) := by omega
      obtain ⟨b, off, rfl, hbl, hc⟩ := (H.out.below HB.out).at (by omega)
      obtain ⟨c0, c1⟩ := hc j hlt2
      have hs := wl_take (L := xs) (k := j) (by have := HL.out; omega)
      obtain ⟨W1, W2⟩ := wl_bound HOK.out (by have := HL.out; omega) j
      obtain ⟨X1, X2⟩ := wl_bound HOK.out (by have := HL.out; omega) (j + 1)
      obtain ⟨k1, k2, -, -⟩ := HOK.out.nth (j := j) (by have := HL.out; omega)
      obtain ⟨x, hx⟩ : ∃ x, (nth xs j).1 = x := ⟨_, rfl⟩
      obtain ⟨y, hy⟩ : ∃ y, (nth xs j).2 = y := ⟨_, rfl⟩
      rw [hx] at c0
      rw [hy] at c1 k1 k2 hs
      obtain ⟨m, rfl⟩ := Int.eq_ofNat_of_zero_le (show 0 ≤ y by omega)
      rw [Int.toNat_natCast] at hs
      have HS := Lib.hid hs
      rw [hs] at X1 X2
      obtain ⟨W, hW⟩ : ∃ W, wl (xs.take j) = W := ⟨_, rfl⟩
      rw [hW] at W1 W2 X1 X2 ⊢
      have HW := Lib.hid hW
      have e0 := Lib.cell?_alloc_some (.cells #[.int .i64 x, .int .i64 (m : Int)] 44) c0
      have e1 := Lib.cell?_alloc_some (.cells #[.int .i64 x, .int .i64 (m : Int)] 44) c1
      have HB2 := Lib.hid (HB.out.alloc HB.out.size (.cells #[.int .i64 x, .int .i64 (m : Int)] 44))
      have hq := lcm_div W m
      have hg := Nat.le_of_dvd (by omega) (Nat.gcd_dvd_right W m)
      have hg1 := Nat.gcd_pos_of_pos_right W (show 0 < m by omega)
      have hG := gcd_any W m (by omega) (by omega)
      obtain ⟨g, hgg⟩ : ∃ g, Nat.gcd W m = g := ⟨_, rfl⟩
      rw [hgg] at hq hg hg1 hG
      obtain ⟨l, hl⟩ : ∃ l, Nat.lcm W m = l := ⟨_, rfl⟩
      rw [hl] at hq X1 X2
      have HLL := Lib.hid hl
      have g0 : ¬ (g : Int) = 0 := by omega
      have q1 : wrap64 ((m : Int) / (g : Int)) = (m : Int) / (g : Int) := IntWalk.wrap64_in _ (by
        rw [← Int.natCast_ediv]
        have := Nat.div_le_self m g
        generalize m / g = t at this ⊢
        omega)
      have q2 : wrap64 ((W : Int) * wrap64 ((m : Int) / (g : Int))) = (l : Int) := by rw [q1, hq]; exact IntWalk.wrap64_in _ (by omega)
      have HQ := Lib.hid q2
      clear hjn hj hc hs hx hy hW hgg hl hq q1 q2
      go_wp2
      go_quiet ((go_at_call 68; exact Calls.quiet_of (hG _)))
      go_wp2
      go_roundg (gk - 1)
      case rel => exact ⟨j + 1, by have := HJ.out; omega, by go_num, by rw [HQ.out, HS.out, HW.out, HLL.out], below_drewN HB2.out _⟩
      case measure => have := HJ.out; omega

/-- The last test of valid: all pairs, then the whole. -/
theorem isS_ok {xs : List (Int × Int)} (h1 : 1 ≤ xs.length) (h2 : xs.length ≤ 10) (h3 : Ok xs) : isS xs = decide (wl xs ≤ 10080) := by
  unfold isS
  have : xs.all okP = true := List.all_eq_true.2 fun p hp => okP_spec.2 (h3 p hp)
  simp [this, h1, h2]
theorem isS_len {xs : List (Int × Int)} (h : xs.length < 1 ∨ 10 < xs.length) : isS xs = false := by
  cases e : isS xs with
  | false => rfl
  | true => have h1 := (isS_spec.1 e).len1; have h2 := (isS_spec.1 e).len2; omega
theorem isS_bad {xs : List (Int × Int)} {j : Nat} (hj : j < xs.length) (h : okP (nth xs j) = false) : isS xs = false := by
  cases e : isS xs with
  | false => rfl
  | true => rw [okP_spec.2 ((isS_spec.1 e).ok _ (nth_mem hj))] at h; cases h

set_option maxHeartbeats 4000000 in
theorem valid_any (a : Option Addr) (n c : Nat) (xs : List (Int × Int)) (w : World) (h : Prs w a n xs) (hn : n ≤ 4611686018427387904) :
    Calls Try.prog 45 #[.slice a n c] w fun e w' => e = .returned (.bool (isS xs)) ∧ Below w.heap.size w w' := by
  have H := Lib.hid h
  have HL := Lib.hid h.1
  clear h
  by_cases h1 : n < 1
  · rw [isS_len (.inl (by have := HL.out; omega))]
    have h1i : decide ((n : Int) < 1) = true := by simp; omega
    have h1j : (n : Int) < 1 := by omega
    go_enter Try.func45, Try.ntmps45
    go_wp2
    go_ret
    exact ⟨rfl, Below.refl _ _⟩
  · have h1i : decide ((n : Int) < 1) = false := by simp; omega
    have h1j : ¬ (n : Int) < 1 := by omega
    by_cases h2 : 10 < n
    · rw [isS_len (.inr (by have := HL.out; omega))]
      have h2i : decide ((10 : Int) < (n : Int)) = true := by simp; omega
      have h2j : (10 : Int) < (n : Int) := by omega
      go_enter Try.func45, Try.ntmps45
      go_wp2
      go_ret
      exact ⟨rfl, Below.refl _ _⟩
    · have h2i : decide ((10 : Int) < (n : Int)) = false := by simp; omega
      have h2j : ¬ (10 : Int) < (n : Int) := by omega
      obtain ⟨B, hB⟩ : ∃ B, isS xs = B := ⟨_, rfl⟩
      rw [hB]
      have HBB := Lib.hid hB
      clear hB
      go_enter Try.func45, Try.ntmps45
      go_wp2
      go_loopg [17] n (fun gk s17 wr => ∃ (j : Nat), j + gk = n ∧ s17 = .int .i64 (j : Int) ∧ (∀ i, i < j → okP (nth xs i) = true) ∧ Below w.heap.size w wr)
      case atStart => exact ⟨0, by omega, rfl, fun i hi => by omega, Below.refl _ _⟩
      case round =>
        obtain ⟨j, hj, rfl, hall, hb⟩ := hrel
        have HB := Lib.hid hb
        have HJ := Lib.hid hj
        have HALL := Lib.hid hall
        clear hb hall
        by_cases hjn : j = n
        · have hge : ¬ (j : Int) < (n : Int) := by omega
          have hge2 : ¬ j < n := by omega
          have hok : Ok xs := fun p hp => by
            obtain ⟨k, hk, rfl⟩ := mem_nth hp
            exact okP_spec.1 (HALL.out k (by have := HL.out; omega))
          have hW := whole_any a n c xs wr (H.out.below HB.out) hok (by omega)
          have e := isS_ok (by have := HL.out; omega) (by have := HL.out; omega) hok
          obtain ⟨W2, W3⟩ := wl_bound hok (by have := HL.out; omega) xs.length
          rw [List.take_length] at W2 W3
          obtain ⟨W, hw⟩ : ∃ W, wl xs = W := ⟨_, rfl⟩
          rw [hw] at hW e W2 W3
          have e2 : decide (W ≤ 10080) = decide ((W : Int) ≤ 10080) := by rw [decide_eq_decide]; omega
          obtain rfl : B = decide ((W : Int) ≤ 10080) := by rw [← HBB.out, e, e2]
          have HW := Lib.hid hW
          clear hjn hj e hw hW e2 hok
          go_wp2_with fail
          refine HW.out.mono ?_
          rintro e w1 ⟨rfl, hb1⟩
          have HB1 := Lib.hid (HB.out.trans (hb1.mono HB.out.size))
          clear hb1 HW
          go_wp2
          go_ret
          exact ⟨rfl, HB1.out⟩
        · have hlt : (j : Int) < (n : Int) := by omega
          have hlt2 : j < n := by omega
          have j0 : (0 : Int) ≤ (j : Int) := by omega
          obtain ⟨b, off, rfl, hbl, hc⟩ := (H.out.below HB.out).at (by omega)
          obtain ⟨c0, c1⟩ := hc j hlt2
          have hbad := fun hh => isS_bad (xs := xs) (j := j) (by have := HL.out; omega) hh
          have hall := HALL.out
          obtain ⟨p, hp⟩ : ∃ p, nth xs j = p := ⟨_, rfl⟩
          obtain ⟨x, y⟩ := p
          rw [hp] at c0 c1 hbad
          have HBAD := Lib.hid hbad
          have HP := Lib.hid hp
          have HB2 := Lib.hid (HB.out.alloc HB.out.size (.cells #[.int .i64 x, .int .i64 y] 44))
          have hbl2 : b < wr.heap.size := hbl
          clear hjn hj hc hbad hp hall hbl
          have fin : ∀ (hh : okP (x, y) = false), B = false := fun hh => by rw [← HBB.out]; exact HBAD.out hh
          have FIN := Lib.hid fin
          clear fin
          by_cases g1 : y < 1
          · have g1d : decide (y < 1) = true := by simpa using g1
            obtain rfl : B = false := FIN.out (by simp [okP]; omega)
            go_wp2
            go_quiet (fail)
            go_wp2
            go_ret
            exact ⟨rfl, below_drewN HB2.out _⟩
          · have g1d : decide (y < 1) = false := by simpa using g1
            by_cases g2 : 60 < y
            · have g2d : decide (60 < y) = true := by simpa using g2
              obtain rfl : B = false := FIN.out (by simp [okP]; omega)
              go_wp2
              go_quiet (fail)
              go_wp2
              go_ret
              exact ⟨rfl, below_drewN HB2.out _⟩
            · have g2d : decide (60 < y) = false := by simpa using g2
              by_cases g3 : x < 0
              · have g3d : decide (x < 0) = true := by simpa using g3
                obtain rfl : B = false := FIN.out (by simp [okP]; omega)
                go_wp2
                go_quiet (fail)
                go_wp2
                go_ret
                exact ⟨rfl, below_drewN HB2.out _⟩
              · have g3d : decide (x < 0) = false := by simpa using g3
                by_cases g4 : y ≤ x
                · have g4d : decide (y ≤ x) = true := by simpa using g4
                  obtain rfl : B = false := FIN.out (by simp [okP]; omega)
                  go_wp2
                  go_quiet (fail)
                  go_wp2
                  go_ret
                  exact ⟨rfl, below_drewN HB2.out _⟩
                · have g4d : decide (y ≤ x) = false := by simpa using g4
                  have hgood : okP (x, y) = true := by simp [okP]; omega
                  have HG := Lib.hid hgood
                  clear hgood
                  go_wp2
                  go_quiet (fail)
                  go_wp2
                  go_roundg (gk - 1)
                  case rel =>
                    refine ⟨j + 1, by have := HJ.out; omega, by go_num, fun i hi => ?_, below_drewN HB2.out _⟩
                    by_cases hij : i = j
                    · subst hij; rw [HP.out]; exact HG.out
                    · exact HALL.out i (by omega)
                  case measure => have := HJ.out; omega
end Go.Proofs.Ytanhjgneaaenpaa
