/- The laws SumsZolotarev and SumsEisenstein: they return true, whatever their arguments are. -/
import Derived.Test.YtopfcppmbkidgaaExp
import Derived.Test.YtopfcppmbkidgaaZol
namespace Go.Proofs.Ytopfcppmbkidgaa
open Go.RowKit
attribute [local go_sem] Oper.semAt_some

theorem trw_eq (a n i : Nat) : ∀ j, trw a n i j = pq (tt (a * i % n)) (l0 (fun x => a * x % n) j)
  | 0 => rfl
  | j + 1 => by
    rw [trw, l0, pq, trw_eq a n i j]; unfold tt
    split <;> simp
theorem sgn_eq (a n : Nat) : ∀ i, sgn a n i = sgF (fun x => a * x % n) i
  | 0 => rfl
  | i + 1 => by
    rw [sgn, sgn_eq a n i, trw_eq]
    show sgF (fun x => a * x % n) i * _ = _ * sgF (fun x => a * x % n) i
    rw [Int.mul_comm]
theorem okT.cop {a n : Nat} (h : okT (a : Int) (n : Int)) : Nat.Coprime a n := by
  have := h.2.2.2.2
  rwa [Int.toNat_natCast, Int.toNat_natCast] at this
theorem okT.mul {a b n : Nat} (ha : okT (a : Int) (n : Int)) (hb : okT (b : Int) (n : Int)) : okT ((a * b % n : Nat) : Int) (n : Int) ∧ sgn (a * b % n) n n = sgn a n n * sgn b n n := by
  have hn : 1 ≤ n := by have := ha.1; omega
  have hl := Nat.mod_lt (a * b) (show 0 < n by omega)
  have hc : Nat.Coprime (a * b % n) n := by
    have := Nat.Coprime.mul_left ha.cop hb.cop
    rw [Nat.coprime_iff_gcd_eq_one] at this ⊢
    rwa [← Nat.gcd_rec, Nat.gcd_comm] 
  refine ⟨⟨ha.1, ha.2.1, by omega, by omega, by rw [Int.toNat_natCast, Int.toNat_natCast]; exact hc⟩, ?_⟩
  rw [sgn_eq, sgn_eq, sgn_eq]
  exact sgM_mul ha.cop hb.cop
theorem okT.jac {a n : Nat} (h : okT (a : Int) (n : Int)) (ho : n % 2 = 1) : Jv (a : Int) n = sgn a n n := by
  rw [Jv_pos h.cop, sgn_eq]
  exact (zolotarev ho h.cop).symm

set_option maxRecDepth 100000 in
set_option maxHeartbeats 2000000 in
theorem zol_no (a b n : Int) (h : ¬ okT a n) (w : World) : Calls Try.prog 14 #[.int .i64 a, .int .i64 b, .int .i64 n] w fun e w' => e = .returned (.bool true) ∧ Below w.heap.size w w' := by
  have HT := Lib.hid (fun W => Turns_no a n h W)
  have HA := Lib.hid (fun W => awake_any W)
  clear h
  go_enter Try.func14, Try.ntmps14
  go_wp2_with fail
  refine (HT.out _).mono ?_
  rintro e w1 ⟨rfl, hb⟩
  have HB := Lib.hid hb
  clear hb
  go_wp2_with fail
  refine (HA.out _).mono ?_
  rintro e w2 ⟨rfl, hb⟩
  have HB2 := Lib.hid (HB.out.trans (hb.mono HB.out.size))
  clear hb
  go_wp2
  go_ret
  exact ⟨rfl, HB2.out⟩

set_option maxRecDepth 100000 in
set_option maxHeartbeats 2000000 in
theorem zol_oy (a : Nat) (b : Nat) (n : Nat) (h : okT (a : Int) (n : Int)) (h2 : okT (b : Int) (n : Int)) (ho : n % 2 = 1) (w : World) : Calls Try.prog 14 #[.int .i64 (a : Int), .int .i64 (b : Int), .int .i64 (n : Int)] w fun e w' => e = .returned (.bool true) ∧ Below w.heap.size w w' := by
  have HT := Lib.hid (fun W => Turns_yes a n h W)
  have HA := Lib.hid (fun W => awake_any W)
  have n1 := h.1
  have n2 := h.2.1
  have a0 := h.2.2.1
  have a1 := h.2.2.2.1
  have nne : ¬ (n : Int) = 0 := by omega
  have HJ := Lib.hid (fun W => Jacobi_yes (a : Int) (n : Int) ⟨by omega, by omega, by omega, by omega, by omega⟩ W)
  rw [h.jac ho] at HJ
  have hm : (n : Int) % 2 = 1 := by omega
  obtain ⟨h3, h4⟩ := h.mul h2
  have HTb := Lib.hid (fun W => Turns_yes b n h2 W)
  have HTc := Lib.hid (fun W => Turns_yes (a * b % n) n h3 W)
  rw [h4] at HTc
  have b0 := h2.2.2.1
  have b1 := h2.2.2.2.1
  have m0 : 0 ≤ (a : Int) * b := Int.mul_nonneg a0 b0
  have m1 : (a : Int) * b ≤ 40000 := by have := Int.mul_le_mul (show (a : Int) ≤ 200 by omega) (show (b : Int) ≤ 200 by omega) (by omega) (by decide); omega
  have em : (a : Int) * b % n = ((a * b % n : Nat) : Int) := by rw [Int.natCast_emod, Int.natCast_mul]
  obtain ⟨c, hc⟩ : ∃ c, a * b % n = c := ⟨_, rfl⟩
  rw [hc] at HTc em
  obtain ⟨x, hx⟩ : ∃ x, sgn a n n = x := ⟨_, rfl⟩
  obtain ⟨y, hy⟩ : ∃ y, sgn b n n = y := ⟨_, rfl⟩
  have hxy := sgn_mul2 (hx ▸ sgn_cases a n n) (hy ▸ sgn_cases b n n)
  rw [hx] at HT HTc HJ
  rw [hy] at HTb HTc
  have xy0 : -1 ≤ x * y := by omega
  have xy1 : x * y ≤ 1 := by omega
  have xw : wrap64 (x * y) = x * y := IntWalk.wrap64_in _ (by omega)
  clear h h2 h3 h4 hc hx hy hxy ho
  go_enter Try.func14, Try.ntmps14
  go_wp2_with fail
  refine (HT.out _).mono ?_
  rintro e v ⟨rfl, hb⟩
  have KP := Lib.hid hb
  clear hb
  go_wp2_with fail
  refine (HJ.out _).mono ?_
  rintro e v ⟨rfl, hb⟩
  have KQ := Lib.hid (KP.out.trans (hb.mono KP.out.size))
  clear hb KP
  have KP := KQ
  clear KQ
  go_wp2_with fail
  refine (HTb.out _).mono ?_
  rintro e v ⟨rfl, hb⟩
  have KQ := Lib.hid (KP.out.trans (hb.mono KP.out.size))
  clear hb KP
  have KP := KQ
  clear KQ
  go_wp2_with fail
  refine (HTc.out _).mono ?_
  rintro e v ⟨rfl, hb⟩
  have KQ := Lib.hid (KP.out.trans (hb.mono KP.out.size))
  clear hb KP
  have KP := KQ
  clear KQ
  go_wp2_with fail
  refine (HA.out _).mono ?_
  rintro e v ⟨rfl, hb⟩
  have KQ := Lib.hid (KP.out.trans (hb.mono KP.out.size))
  clear hb KP
  have KP := KQ
  clear KQ
  go_wp2
  go_ret
  exact ⟨rfl, KP.out⟩

set_option maxRecDepth 100000 in
set_option maxHeartbeats 2000000 in
theorem zol_ey (a : Nat) (b : Nat) (n : Nat) (h : okT (a : Int) (n : Int)) (h2 : okT (b : Int) (n : Int)) (ho : ¬ n % 2 = 1) (w : World) : Calls Try.prog 14 #[.int .i64 (a : Int), .int .i64 (b : Int), .int .i64 (n : Int)] w fun e w' => e = .returned (.bool true) ∧ Below w.heap.size w w' := by
  have HT := Lib.hid (fun W => Turns_yes a n h W)
  have HA := Lib.hid (fun W => awake_any W)
  have n1 := h.1
  have n2 := h.2.1
  have a0 := h.2.2.1
  have a1 := h.2.2.2.1
  have nne : ¬ (n : Int) = 0 := by omega
  have hm : ((n : Int) % 2 == 1) = false := beq_eq_false_iff_ne.2 (by omega)
  obtain ⟨h3, h4⟩ := h.mul h2
  have HTb := Lib.hid (fun W => Turns_yes b n h2 W)
  have HTc := Lib.hid (fun W => Turns_yes (a * b % n) n h3 W)
  rw [h4] at HTc
  have b0 := h2.2.2.1
  have b1 := h2.2.2.2.1
  have m0 : 0 ≤ (a : Int) * b := Int.mul_nonneg a0 b0
  have m1 : (a : Int) * b ≤ 40000 := by have := Int.mul_le_mul (show (a : Int) ≤ 200 by omega) (show (b : Int) ≤ 200 by omega) (by omega) (by decide); omega
  have em : (a : Int) * b % n = ((a * b % n : Nat) : Int) := by rw [Int.natCast_emod, Int.natCast_mul]
  obtain ⟨c, hc⟩ : ∃ c, a * b % n = c := ⟨_, rfl⟩
  rw [hc] at HTc em
  obtain ⟨x, hx⟩ : ∃ x, sgn a n n = x := ⟨_, rfl⟩
  obtain ⟨y, hy⟩ : ∃ y, sgn b n n = y := ⟨_, rfl⟩
  have hxy := sgn_mul2 (hx ▸ sgn_cases a n n) (hy ▸ sgn_cases b n n)
  rw [hx] at HT HTc
  rw [hy] at HTb HTc
  have xy0 : -1 ≤ x * y := by omega
  have xy1 : x * y ≤ 1 := by omega
  have xw : wrap64 (x * y) = x * y := IntWalk.wrap64_in _ (by omega)
  clear h h2 h3 h4 hc hx hy hxy ho
  go_enter Try.func14, Try.ntmps14
  go_wp2_with fail
  refine (HT.out _).mono ?_
  rintro e v ⟨rfl, hb⟩
  have KP := Lib.hid hb
  clear hb
  go_wp2_with fail
  refine (HTb.out _).mono ?_
  rintro e v ⟨rfl, hb⟩
  have KQ := Lib.hid (KP.out.trans (hb.mono KP.out.size))
  clear hb KP
  have KP := KQ
  clear KQ
  go_wp2_with fail
  refine (HTc.out _).mono ?_
  rintro e v ⟨rfl, hb⟩
  have KQ := Lib.hid (KP.out.trans (hb.mono KP.out.size))
  clear hb KP
  have KP := KQ
  clear KQ
  go_wp2_with fail
  refine (HA.out _).mono ?_
  rintro e v ⟨rfl, hb⟩
  have KQ := Lib.hid (KP.out.trans (hb.mono KP.out.size))
  clear hb KP
  have KP := KQ
  clear KQ
  go_wp2
  go_ret
  exact ⟨rfl, KP.out⟩

set_option maxRecDepth 100000 in
set_option maxHeartbeats 2000000 in
theorem zol_on (a : Nat) (b : Int) (n : Nat) (h : okT (a : Int) (n : Int)) (h2 : ¬ okT b (n : Int)) (ho : n % 2 = 1) (w : World) : Calls Try.prog 14 #[.int .i64 (a : Int), .int .i64 (b : Int), .int .i64 (n : Int)] w fun e w' => e = .returned (.bool true) ∧ Below w.heap.size w w' := by
  have HT := Lib.hid (fun W => Turns_yes a n h W)
  have HA := Lib.hid (fun W => awake_any W)
  have n1 := h.1
  have n2 := h.2.1
  have a0 := h.2.2.1
  have a1 := h.2.2.2.1
  have nne : ¬ (n : Int) = 0 := by omega
  have HJ := Lib.hid (fun W => Jacobi_yes (a : Int) (n : Int) ⟨by omega, by omega, by omega, by omega, by omega⟩ W)
  rw [h.jac ho] at HJ
  have hm : (n : Int) % 2 = 1 := by omega
  have HTb := Lib.hid (fun W => Turns_no b n h2 W)
  clear h h2 ho
  go_enter Try.func14, Try.ntmps14
  go_wp2_with fail
  refine (HT.out _).mono ?_
  rintro e v ⟨rfl, hb⟩
  have KP := Lib.hid hb
  clear hb
  go_wp2_with fail
  refine (HJ.out _).mono ?_
  rintro e v ⟨rfl, hb⟩
  have KQ := Lib.hid (KP.out.trans (hb.mono KP.out.size))
  clear hb KP
  have KP := KQ
  clear KQ
  go_wp2_with fail
  refine (HTb.out _).mono ?_
  rintro e v ⟨rfl, hb⟩
  have KQ := Lib.hid (KP.out.trans (hb.mono KP.out.size))
  clear hb KP
  have KP := KQ
  clear KQ
  go_wp2_with fail
  refine (HA.out _).mono ?_
  rintro e v ⟨rfl, hb⟩
  have KQ := Lib.hid (KP.out.trans (hb.mono KP.out.size))
  clear hb KP
  have KP := KQ
  clear KQ
  go_wp2
  go_ret
  exact ⟨rfl, KP.out⟩

set_option maxRecDepth 100000 in
set_option maxHeartbeats 2000000 in
theorem zol_en (a : Nat) (b : Int) (n : Nat) (h : okT (a : Int) (n : Int)) (h2 : ¬ okT b (n : Int)) (ho : ¬ n % 2 = 1) (w : World) : Calls Try.prog 14 #[.int .i64 (a : Int), .int .i64 (b : Int), .int .i64 (n : Int)] w fun e w' => e = .returned (.bool true) ∧ Below w.heap.size w w' := by
  have HT := Lib.hid (fun W => Turns_yes a n h W)
  have HA := Lib.hid (fun W => awake_any W)
  have n1 := h.1
  have n2 := h.2.1
  have a0 := h.2.2.1
  have a1 := h.2.2.2.1
  have nne : ¬ (n : Int) = 0 := by omega
  have hm : ((n : Int) % 2 == 1) = false := beq_eq_false_iff_ne.2 (by omega)
  have HTb := Lib.hid (fun W => Turns_no b n h2 W)
  clear h h2 ho
  go_enter Try.func14, Try.ntmps14
  go_wp2_with fail
  refine (HT.out _).mono ?_
  rintro e v ⟨rfl, hb⟩
  have KP := Lib.hid hb
  clear hb
  go_wp2_with fail
  refine (HTb.out _).mono ?_
  rintro e v ⟨rfl, hb⟩
  have KQ := Lib.hid (KP.out.trans (hb.mono KP.out.size))
  clear hb KP
  have KP := KQ
  clear KQ
  go_wp2_with fail
  refine (HA.out _).mono ?_
  rintro e v ⟨rfl, hb⟩
  have KQ := Lib.hid (KP.out.trans (hb.mono KP.out.size))
  clear hb KP
  have KP := KQ
  clear KQ
  go_wp2
  go_ret
  exact ⟨rfl, KP.out⟩

theorem zol_any (a b n : Int) (w : World) : Calls Try.prog 14 #[.int .i64 a, .int .i64 b, .int .i64 n] w fun e w' => e = .returned (.bool true) ∧ Below w.heap.size w w' := by
  by_cases h : okT a n
  · obtain ⟨x, rfl⟩ := Int.eq_ofNat_of_zero_le h.2.2.1
    obtain ⟨m, rfl⟩ := Int.eq_ofNat_of_zero_le (show 0 ≤ n by have := h.1; omega)
    by_cases h2 : okT b (m : Int)
    · obtain ⟨y, rfl⟩ := Int.eq_ofNat_of_zero_le h2.2.2.1
      by_cases ho : m % 2 = 1
      · exact zol_oy x y m h h2 ho w
      · exact zol_ey x y m h h2 ho w
    · by_cases ho : m % 2 = 1
      · exact zol_on x b m h h2 ho w
      · exact zol_en x b m h h2 ho w
  · exact zol_no a b n h w

set_option maxRecDepth 100000 in
set_option maxHeartbeats 2000000 in
theorem eis_no (p q : Int) (h : ¬ okP p q) (w : World) : Calls Try.prog 15 #[.int .i64 p, .int .i64 q] w fun e w' => e = .returned (.bool true) ∧ Below w.heap.size w w' := by
  have H1 := Lib.hid (fun W => Points_no p q h W)
  have H2 := Lib.hid (fun W => Points_no q p (fun k => h ⟨k.2.1, k.1, fun e => k.2.2.1 e.symm, k.2.2.2.2, k.2.2.2.1⟩) W)
  have HA := Lib.hid (fun W => awake_any W)
  clear h
  go_enter Try.func15, Try.ntmps15
  go_wp2_with fail
  refine (H1.out _).mono ?_
  rintro e w1 ⟨rfl, rfl⟩
  go_wp2_with fail
  refine (H2.out _).mono ?_
  rintro e w2 ⟨rfl, rfl⟩
  go_wp2_with fail
  refine (HA.out _).mono ?_
  rintro e w3 ⟨rfl, hb⟩
  have HB := Lib.hid hb
  clear hb
  go_wp2
  go_ret
  exact ⟨rfl, HB.out⟩

set_option maxRecDepth 100000 in
set_option maxHeartbeats 2000000 in
theorem eis_yes (p q : Nat) (h : okP (p : Int) (q : Int)) (w : World) : Calls Try.prog 15 #[.int .i64 (p : Int), .int .i64 (q : Int)] w fun e w' => e = .returned (.bool true) ∧ Below w.heap.size w w' := by
  have h' : okP (q : Int) (p : Int) := ⟨h.2.1, h.1, fun e => h.2.2.1 e.symm, h.2.2.2.2, h.2.2.2.1⟩
  have H1 := Lib.hid (fun W => Points_yes p q h W)
  have H2 := Lib.hid (fun W => Points_yes q p h' W)
  have HPp := Lib.hid (fun W => prime_any p true ⟨fun _ => ⟨h.2.2.2.1, by have := h.1; omega⟩, fun _ => rfl⟩ W)
  have HPq := Lib.hid (fun W => prime_any q true ⟨fun _ => ⟨h.2.2.2.2, by have := h.2.1; omega⟩, fun _ => rfl⟩ W)
  have hp := PrI.nat.1 h.2.2.2.1
  have hq := PrI.nat.1 h.2.2.2.2
  have h3 := hp.1
  have h3' := hq.1
  have hl1 := h.1
  have hl2 := h.2.1
  have op := hp.odd
  have oq := hq.odd
  have hc : Nat.Coprime q p := hp.cop (fun hd => by
    rcases hq.div hd with e | e
    · omega
    · exact h.2.2.1 (by rw [e]))
  have HJ := Lib.hid (fun W => Jacobi_yes (q : Int) (p : Int) ⟨by omega, by omega, by omega, by omega, by omega⟩ W)
  have hsum := S_sum oq op hc
  have hle : (q / 2) * (p / 2) ≤ 100 * 100 := Nat.mul_le_mul (by omega) (by omega)
  rw [Jv_pos hc, G_eq op hc oq] at HJ
  have HA := Lib.hid (fun W => awake_any W)
  obtain ⟨s, hs⟩ : ∃ s, S q p = s := ⟨_, rfl⟩
  obtain ⟨t, ht⟩ : ∃ t, S p q = t := ⟨_, rfl⟩
  rw [hs, ht] at hsum
  rw [hs] at H1 HJ
  rw [ht] at H2
  have hpow : (-1 : Int) ^ s = 1 - 2 * ((s : Int) % 2) := by
    by_cases e : s % 2 = 0
    · rw [pow_even e, show (s : Int) % 2 = 0 by omega]; rfl
    · rw [pow_odd (by omega), show (s : Int) % 2 = 1 by omega]; rfl
  rw [hpow] at HJ
  have e1 : ((p : Int) - 1) / 2 = ((p / 2 : Nat) : Int) := by omega
  have e2 : ((q : Int) - 1) / 2 = ((q / 2 : Nat) : Int) := by omega
  obtain ⟨x, hx⟩ : ∃ x, p / 2 = x := ⟨_, rfl⟩
  obtain ⟨y, hy⟩ : ∃ y, q / 2 = y := ⟨_, rfl⟩
  rw [hx, hy] at hsum hle
  rw [hx] at e1
  rw [hy] at e2
  have hm : (s : Int) + t = (x : Int) * y := by rw [Int.mul_comm, ← Int.natCast_mul, ← hsum]; omega
  have hm0 : 0 ≤ (x : Int) * y := by omega
  have hm1 : (x : Int) * y ≤ 10000 := by omega
  have hs2 : s ≤ 10000 := by omega
  have ht2 : t ≤ 10000 := by omega
  have h1p : (1 : Int) ≤ (p : Int) := by omega
  have h1q : (1 : Int) ≤ (q : Int) := by omega
  clear h h' hp hq hc hsum hle hs ht hpow hx hy h3 h3' op oq
  go_enter Try.func15, Try.ntmps15
  go_wp2_with fail
  refine (H1.out _).mono ?_
  rintro e w1 ⟨rfl, rfl⟩
  go_wp2_with fail
  refine (H2.out _).mono ?_
  rintro e w2 ⟨rfl, rfl⟩
  go_wp2_with fail
  refine (HPp.out _).mono ?_
  rintro e w2 ⟨rfl, rfl⟩
  go_wp2_with fail
  refine (HPq.out _).mono ?_
  rintro e w2 ⟨rfl, rfl⟩
  go_wp2_with fail
  refine (HJ.out _).mono ?_
  rintro e w3 ⟨rfl, hb⟩
  have HB := Lib.hid hb
  clear hb
  go_wp2_with fail
  refine (HA.out _).mono ?_
  rintro e w4 ⟨rfl, hb⟩
  have HB2 := Lib.hid (HB.out.trans (hb.mono HB.out.size))
  clear hb
  go_wp2
  go_ret
  exact ⟨rfl, HB2.out⟩

theorem eis_any (p q : Int) (w : World) : Calls Try.prog 15 #[.int .i64 p, .int .i64 q] w fun e w' => e = .returned (.bool true) ∧ Below w.heap.size w w' := by
  by_cases h : okP p q
  · obtain ⟨x, rfl⟩ := Int.eq_ofNat_of_zero_le (show 0 ≤ p by have := h.2.2.2.1.1; omega)
    obtain ⟨y, rfl⟩ := Int.eq_ofNat_of_zero_le (show 0 ≤ q by have := h.2.2.2.2.1; omega)
    exact eis_yes x y h w
  · exact eis_no p q h w
end Go.Proofs.Ytopfcppmbkidgaa
