/- The walks of Greedy, Engel and awake, and of the reference's Greedy and Engel. Conditions: the numbers are in range. -/
import Derived.Test.YtbdiknlbmjdpeaaGrd
namespace Go.Proofs.Ytbdiknlbmjdpeaa
open Go.RowKit
attribute [local go_sem] Oper.semAt_some


theorem share_nat {a b : Int} (h : isSh a b = true) : ∃ x y : Nat, a = (x : Int) ∧ b = (y : Int) ∧ 0 < x ∧ x < y ∧ y ≤ 60 := by
  obtain ⟨h1, h2, h3⟩ := isSh_spec.1 h
  obtain ⟨x, rfl⟩ := Int.eq_ofNat_of_zero_le (show 0 ≤ a by omega)
  obtain ⟨y, rfl⟩ := Int.eq_ofNat_of_zero_le (show 0 ≤ b by omega)
  exact ⟨x, y, rfl, rfl, by omega, by omega, by omega⟩
theorem GRes.mono {R : Option (List Nat)} {B B' : Nat} {e : Ending} {w : World} (h : GRes R B e w) (hB : B' ≤ B) : GRes R B' e w := by
  cases R with
  | none => exact h
  | some L => obtain ⟨v, h1, h2⟩ := h; exact ⟨v, h1, h2.mono hB⟩
theorem Greedy_no (a b : Int) (h : isSh a b = false) (w : World) :
    Calls Try.prog 15 #[.int .i64 a, .int .i64 b] w fun e w' => e = .returned (.tuple #[.slice none 0 0, .int .i64 2]) ∧ w = w' := by
  have hV := fun w => valid_any a b w
  rw [h] at hV
  have HV := Lib.hid hV
  clear h hV
  go_enter Try.func15, Try.ntmps15
  go_wp2_with fail
  refine (HV.out _).mono ?_
  rintro e w1 ⟨rfl, rfl⟩
  go_wp2
  go_ret2
  exact ⟨rfl, rfl⟩
theorem Greedy_yes (a b : Nat) (ha : 0 < a) (hab : a < b) (hb : b ≤ 60) (w : World) :
    Calls Try.prog 15 #[.int .i64 (a : Int), .int .i64 (b : Int)] w fun e w' => GRes (grd a a b) w.heap.size e w' ∧ Below w.heap.size w w' := by
  have hV := fun w => valid_any a b w
  rw [isSh_spec.2 ⟨by omega, by omega, by omega⟩] at hV
  have HV := Lib.hid hV
  have HG := Lib.hid (fun w => greedy_any a b ha hab hb w)
  obtain ⟨R, hR⟩ : ∃ R, grd a a b = R := ⟨_, rfl⟩
  rw [hR] at HG ⊢
  clear hV hR
  go_enter Try.func15, Try.ntmps15
  go_wp2_with fail
  refine (HV.out _).mono ?_
  rintro e w1 ⟨rfl, rfl⟩
  go_wp2_with fail
  refine (HG.out _).mono ?_
  rintro e w2 ⟨hg, hb2⟩
  have HB := Lib.hid hb2
  clear hb2
  cases R with
  | none =>
    have he : e = .returned (.tuple #[.slice none 0 0, .int .i64 6]) := hg
    subst he
    clear hg
    go_wp2
    go_ret2
    exact ⟨rfl, HB.out⟩
  | some L =>
    obtain ⟨v, rfl, hr⟩ := hg
    have HR := Lib.hid hr
    clear hr
    go_wp2
    go_ret2
    exact ⟨⟨v, rfl, HR.out⟩, HB.out⟩

theorem eng_step {k left b : Nat} (h : 0 < left) : eng (k + 1) left b = ceilD left b :: eng k (left * ceilD left b - b) b := by
  conv => lhs; unfold eng
  rw [if_neg (by omega)]
theorem eng_zero (k b : Nat) : eng k 0 b = [] := by cases k <;> simp [eng]
def ERes (L : List Nat) (B : Nat) (e : Ending) (w' : World) : Prop := ∃ v, e = .returned (.tuple #[v, .int .i64 0]) ∧ Row B v (nats L) w'
theorem Engel_no (a b : Int) (h : isSh a b = false) (w : World) :
    Calls Try.prog 16 #[.int .i64 a, .int .i64 b] w fun e w' => e = .returned (.tuple #[.slice none 0 0, .int .i64 2]) ∧ w = w' := by
  have hV := fun w => valid_any a b w
  rw [h] at hV
  have HV := Lib.hid hV
  clear h hV
  go_enter Try.func16, Try.ntmps16
  go_wp2_with fail
  refine (HV.out _).mono ?_
  rintro e w1 ⟨rfl, rfl⟩
  go_wp2
  go_ret2
  exact ⟨rfl, rfl⟩
set_option maxHeartbeats 4000000 in
set_option maxRecDepth 100000 in
theorem Engel_yes (a b : Nat) (ha : 0 < a) (hab : a < b) (hb : b ≤ 60) (w : World) :
    Calls Try.prog 16 #[.int .i64 (a : Int), .int .i64 (b : Int)] w fun e w' => ERes (eng a a b) w.heap.size e w' ∧ Below w.heap.size w w' := by
  have hV := fun w => valid_any a b w
  rw [isSh_spec.2 ⟨by omega, by omega, by omega⟩] at hV
  have HV := Lib.hid hV
  obtain ⟨L, hL⟩ : ∃ L, eng a a b = L := ⟨_, rfl⟩
  rw [hL]
  have HLL := Lib.hid hL
  have hb0 : 0 < b := by omega
  clear hV hL
  go_enter Try.func16, Try.ntmps16
  go_wp2_with fail
  refine (HV.out _).mono ?_
  rintro e w1 ⟨rfl, rfl⟩
  go_wp2
  go_loopg [6, 7] a (fun gk s6 s7 wr => ∃ (left : Nat) (pre : List Nat), s7 = .int .i64 (left : Int) ∧ left ≤ gk ∧ pre.length + left ≤ a ∧ pre ++ eng gk left b = L ∧ Row w.heap.size s6 (nats pre) wr ∧ Below w.heap.size w wr)
  case atStart => exact ⟨a, [], rfl, Nat.le_refl _, by simp, HLL.out, Row.nil _ _, Below.refl _ _⟩
  case round =>
    obtain ⟨left, pre, rfl, hle, hlen, hL, hr0, hb⟩ := hrel
    have HR0 := Lib.hid hr0
    have HB := Lib.hid hb
    have HL := Lib.hid hL
    have HLE := Lib.hid hle
    have HLEN := Lib.hid hlen
    clear hr0 hb hL
    by_cases h0 : left = 0
    · subst h0
      have hgt : ¬ (0 : Int) < ((0 : Nat) : Int) := by omega
      have hL2 := HL.out
      rw [eng_zero, List.append_nil] at hL2
      have hr := HR0.out
      rw [hL2] at hr
      have HF := Lib.hid hr
      clear hle hlen hL2 hr
      go_wp2
      go_ret2
      exact ⟨⟨_, rfl, HF.out⟩, HB.out⟩
    · have hpos : 0 < left := by omega
      have hgt : (0 : Int) < (left : Int) := by omega
      obtain ⟨k, rfl⟩ : ∃ k, gk = k + 1 := ⟨gk - 1, by omega⟩
      have hst := eng_step (k := k) (b := b) hpos
      have hcl := ceil_left (den := b) hpos hb0
      have hok := ceil_ok (den := b) hpos
      have hcp := ceil_pos (den := b) hpos hb0
      have hcu : ceilD left b ≤ b := (ceil_le hpos).2 (Nat.le_mul_of_pos_left _ hpos)
      have hC := fun w => least_any left b w hpos (by omega) (by omega)
      obtain ⟨U, hU⟩ : ∃ U, ceilD left b = U := ⟨_, rfl⟩
      simp only [hU] at hC
      rw [hU] at hst hcl hok hcp hcu
      have hnd : left * U ≤ 10000 := Nat.le_trans (Nat.mul_le_mul (show left ≤ 60 by omega) (show U ≤ 60 by omega)) (by decide)
      obtain ⟨P, hP⟩ : ∃ P, left * U = P := ⟨_, rfl⟩
      rw [hP] at hnd hst hcl hok
      have e1 := wrap_mul hP (Nat.le_trans hnd (by decide))
      obtain ⟨X, hX⟩ : ∃ X, P - b = X := ⟨_, rfl⟩
      rw [hX] at hst hcl
      have e2 : (P : Int) - (b : Int) = (X : Int) := by rw [← hX, Int.natCast_sub hok]
      have hLn := HL.out
      rw [hst] at hLn
      have HLN := Lib.hid (show pre ++ [U] ++ eng k X b = L by rw [← hLn]; simp)
      obtain ⟨i0, hi, hz0, hz1, hz2⟩ := info_parts info3
      have hll : pre.length ≤ 60 := by omega
      have u1 : (left : Int) ≤ 60 := by omega
      have HCL := Lib.hid hcl
      clear hle hlen hst hLn hP hX hok hcl hU
      have HC := Lib.hid hC
      clear hC
      go_wp2_with fail
      refine (HC.out _).mono ?_
      rintro e w1 ⟨rfl, hb1⟩
      have hr := HR0.out.later hb1
      unfold Row at hr
      rw [nats_len] at hr
      have hB1 := HB.out.trans (hb1.mono HB.out.size)
      have hsz := hB1.size
      clear hb1
      go_wp2_with (at_builtin; refine wpList_append_own _ rfl _ _ 22 rfl (w.heap.size) 3 i0 (.int .i64 0) 1 8 Try.underlying22 hi hz0 hz1 hz2 rfl (by decide) _ _ _ rfl (hr.alloc _) ⟨w1.heap.size, 0, none⟩ 1 1 [.int .i64 ((U : Int))] rfl rfl (cell_one_new _ _ _) (by simp [Value.oneCell']) (by unfold maxLen; omega) (by omega) (by simp; omega) ?_; intro v' w3 hown' hgrow _)
      have hb3 : Below w.heap.size w w3 := (hB1.alloc hsz _).grown hgrow (by simp; omega) (fun j e => (hr.lt j e).1)
      have hrow : Row w.heap.size v' (nats (pre ++ [U])) w3 := by
        unfold Row
        rw [nats_app, List.length_append, nats_len, List.map_append]
        exact hown'
      have HF := Lib.hid (And.intro hrow hb3)
      clear hown' hgrow hr hrow hb3
      go_wp2
      go_roundg k
      case rel => exact ⟨X, pre ++ [U], rfl, by have := HCL.out; have := HLE.out; omega, by have := HLEN.out; have := HCL.out; simp; omega, HLN.out, HF.out.1, HF.out.2⟩
      case measure => omega

set_option maxHeartbeats 4000000 in
set_option maxRecDepth 100000 in
theorem engelR_any (a b : Nat) (ha : 0 < a) (hab : a < b) (hb : b ≤ 60) (w : World) :
    Calls Try.prog 21 #[.int .i64 (a : Int), .int .i64 (b : Int)] w fun e w' => (∃ v, e = .returned v ∧ Row w.heap.size v (nats (eng a a b)) w') ∧ Below w.heap.size w w' := by
  obtain ⟨L, hL⟩ : ∃ L, eng a a b = L := ⟨_, rfl⟩
  rw [hL]
  have HLL := Lib.hid hL
  have hb0 : 0 < b := by omega
  clear hL
  go_enter Try.func21, Try.ntmps21
  go_wp2
  go_loopg [0, 5] a (fun gk s7 s6 wr => ∃ (left : Nat) (pre : List Nat), s7 = .int .i64 (left : Int) ∧ left ≤ gk ∧ pre.length + left ≤ a ∧ pre ++ eng gk left b = L ∧ Row w.heap.size s6 (nats pre) wr ∧ Below w.heap.size w wr)
  case atStart => exact ⟨a, [], rfl, Nat.le_refl _, by simp, HLL.out, Row.nil _ _, Below.refl _ _⟩
  case round =>
    obtain ⟨left, pre, rfl, hle, hlen, hL, hr0, hb⟩ := hrel
    have HR0 := Lib.hid hr0
    have HB := Lib.hid hb
    have HL := Lib.hid hL
    have HLE := Lib.hid hle
    have HLEN := Lib.hid hlen
    clear hr0 hb hL
    by_cases h0 : left = 0
    · subst h0
      have hgt : ¬ (0 : Int) < ((0 : Nat) : Int) := by omega
      have hL2 := HL.out
      rw [eng_zero, List.append_nil] at hL2
      have hr := HR0.out
      rw [hL2] at hr
      have HF := Lib.hid hr
      clear hle hlen hL2 hr
      go_wp2
      go_ret
      exact ⟨⟨_, rfl, HF.out⟩, HB.out⟩
    · have hpos : 0 < left := by omega
      have hgt : (0 : Int) < (left : Int) := by omega
      obtain ⟨k, rfl⟩ : ∃ k, gk = k + 1 := ⟨gk - 1, by omega⟩
      have hst := eng_step (k := k) (b := b) hpos
      have hcl := ceil_left (den := b) hpos hb0
      have hok := ceil_ok (den := b) hpos
      have hcp := ceil_pos (den := b) hpos hb0
      have hcu : ceilD left b ≤ b := (ceil_le hpos).2 (Nat.le_mul_of_pos_left _ hpos)
      have hC := ceil_cast (den := b) hpos
      obtain ⟨U, hU⟩ : ∃ U, ceilD left b = U := ⟨_, rfl⟩
      rw [hU] at hC
      rw [hU] at hst hcl hok hcp hcu
      have hnd : left * U ≤ 10000 := Nat.le_trans (Nat.mul_le_mul (show left ≤ 60 by omega) (show U ≤ 60 by omega)) (by decide)
      obtain ⟨P, hP⟩ : ∃ P, left * U = P := ⟨_, rfl⟩
      rw [hP] at hnd hst hcl hok
      have e1 := wrap_mul hP (Nat.le_trans hnd (by decide))
      obtain ⟨X, hX⟩ : ∃ X, P - b = X := ⟨_, rfl⟩
      rw [hX] at hst hcl
      have e2 : (P : Int) - (b : Int) = (X : Int) := by rw [← hX, Int.natCast_sub hok]
      have hLn := HL.out
      rw [hst] at hLn
      have HLN := Lib.hid (show pre ++ [U] ++ eng k X b = L by rw [← hLn]; simp)
      obtain ⟨i0, hi, hz0, hz1, hz2⟩ := info_parts info3
      have hll : pre.length ≤ 60 := by omega
      have u1 : (left : Int) ≤ 60 := by omega
      have HCL := Lib.hid hcl
      clear hle hlen hst hLn hP hX hok hcl hU
      have hr := HR0.out
      unfold Row at hr
      rw [nats_len] at hr
      have hB1 := HB.out
      have hsz := hB1.size
      have hne : ¬ (left : Int) = 0 := by omega
      go_wp2_with (at_builtin; refine wpList_append_own _ rfl _ _ 22 rfl (w.heap.size) 3 i0 (.int .i64 0) 1 8 Try.underlying22 hi hz0 hz1 hz2 rfl (by decide) _ _ _ rfl (hr.alloc _) ⟨wr.heap.size, 0, none⟩ 1 1 [.int .i64 ((U : Int))] rfl rfl (cell_one_new _ _ _) (by simp [Value.oneCell']) (by unfold maxLen; omega) (by omega) (by simp; omega) ?_; intro v' w3 hown' hgrow _)
      have hb3 : Below w.heap.size w w3 := (hB1.alloc hsz _).grown hgrow (by simp; omega) (fun j e => (hr.lt j e).1)
      have hrow : Row w.heap.size v' (nats (pre ++ [U])) w3 := by
        unfold Row
        rw [nats_app, List.length_append, nats_len, List.map_append]
        exact hown'
      have HF := Lib.hid (And.intro hrow hb3)
      clear hown' hgrow hr hrow hb3
      go_wp2
      go_roundg k
      case rel => exact ⟨X, pre ++ [U], rfl, by have := HCL.out; have := HLE.out; omega, by have := HLEN.out; have := HCL.out; simp; omega, HLN.out, HF.out.1, HF.out.2⟩
      case measure => omega

theorem grd_less_big {k x y d : Nat} (hx : 0 < x) (hx2 : x ≤ 60) (hy : 0 < y) (hy2 : y ≤ 2305843009213693952) (hd : ceilD x y = d) (hd2 : d ≤ 1000000000000) (h : 2305843009213693952 < y * (d / Nat.gcd y d)) : grd (k + 1) x y = none := by
  have hok := ceil_ok (den := y) hx
  have hle := ceil_left hx hy
  have hpos := ceil_pos hx hy
  rw [hd] at hok hle hpos
  rw [grd_step hx (by rw [hd]; exact hd2), hd]
  have h0 : 0 < x * d - y := by
    apply Decidable.byContradiction
    intro hn
    have e : y = d * x := by rw [Nat.mul_comm]; omega
    have e2 : Nat.gcd y d = d := by rw [e, Nat.gcd_mul_right_left]
    rw [e2, Nat.div_self hpos, Nat.mul_one] at h
    omega
  rw [grd_big h0]
  · rfl
  · apply Decidable.byContradiction
    intro hn
    have h1 := (ceil_le (num := x * d - y) (den := y * d) (d := 1000000000000) h0).1 (by omega)
    have h2 : (x * d - y) * 1000000000000 ≤ 60 * 1000000000000 := Nat.mul_le_mul_right _ (by omega)
    have h3 : y * (d / Nat.gcd y d) ≤ y * d := Nat.mul_le_mul_left _ (Nat.div_le_self _ _)
    have h4 : y * d ≤ 60 * 1000000000000 := Nat.le_trans h1 h2
    have h5 : (60 * 1000000000000 : Nat) < 2305843009213693952 := by decide
    exact absurd (Nat.lt_of_lt_of_le h (Nat.le_trans h3 h4)) (Nat.not_lt.2 (Nat.le_of_lt h5))
theorem le_ceil {x y : Nat} (hx : 0 < x) : ceilD x y ≤ y := (ceil_le hx).2 (Nat.le_mul_of_pos_left _ hx)

set_option maxHeartbeats 8000000 in
set_option maxRecDepth 100000 in
theorem greedyR_any (a b : Nat) (ha : 0 < a) (hab : a < b) (hb : b ≤ 60) (w : World) :
    Calls Try.prog 19 #[.int .i64 (a : Int), .int .i64 (b : Int)] w fun e w' => GRes (grd a a b) w.heap.size e w' ∧ Below w.heap.size w w' := by
  obtain ⟨R, hR⟩ : ∃ R, grd a a b = R := ⟨_, rfl⟩
  rw [hR]
  have HRR := Lib.hid hR
  have hb0 : 0 < b := by omega
  clear hR
  go_enter Try.func19, Try.ntmps19
  go_wp2
  go_loopg [0, 1, 6] a (fun gk s0 s1 s6 wr => ∃ (x y : Nat) (pre : List Nat), s0 = .int .i64 (x : Int) ∧ s1 = .int .i64 (y : Int) ∧ x ≤ gk ∧ 0 < y ∧ y ≤ 2305843009213693952 ∧ pre.length + x ≤ a ∧ R = (grd gk x y).map (pre ++ ·) ∧ Row w.heap.size s6 (nats pre) wr ∧ Below w.heap.size w wr)
  case atStart => exact ⟨a, b, [], rfl, rfl, Nat.le_refl _, hb0, Nat.le_trans hb (by decide), by simp, by rw [HRR.out]; cases R <;> simp, Row.nil _ _, Below.refl _ _⟩
  case round =>
    obtain ⟨x, y, pre, rfl, rfl, hle, hy0, hy1, hlen, hL, hr0, hb⟩ := hrel
    have HR0 := Lib.hid hr0
    have HB := Lib.hid hb
    have HL := Lib.hid hL
    have HLE := Lib.hid hle
    have HLEN := Lib.hid hlen
    have HY := Lib.hid (And.intro hy0 hy1)
    clear hr0 hb hL
    by_cases h0 : x = 0
    · subst h0
      have hgt : ¬ (0 : Int) < ((0 : Nat) : Int) := by omega
      have hL2 : R = some pre := by rw [HL.out, grd_zero]; simp
      have HL2 := Lib.hid hL2
      clear hle hlen hL2 hy0 hy1
      go_wp2
      go_ret2
      refine ⟨?_, HB.out⟩
      rw [HL2.out]
      exact ⟨_, rfl, HR0.out⟩
    · have hpos : 0 < x := by omega
      have hx60 : x ≤ 60 := by omega
      have hgt : (0 : Int) < (x : Int) := by omega
      obtain ⟨k, rfl⟩ : ∃ k, gk = k + 1 := ⟨gk - 1, by omega⟩
      have hC := ceil_cast (den := y) hpos
      have hbig := fun h => grd_big (k := k + 1) (num := x) (den := y) hpos h
      have hst := fun h => grd_step (k := k) (num := x) (den := y) hpos h
      have hcl := ceil_left (den := y) hpos hy0
      have hok := ceil_ok (den := y) hpos
      have hcp := ceil_pos (den := y) hpos hy0
      have hcy := le_ceil (y := y) hpos
      have hlb := fun d h1 h2 h3 => grd_less_big (k := k) (d := d) hpos hx60 hy0 hy1 h1 h2 h3
      obtain ⟨U, hU⟩ : ∃ U, ceilD x y = U := ⟨_, rfl⟩
      rw [hU] at hC hbig hst hcl hok hcp hcy
      have hlb := hlb U hU
      have u1 : (x : Int) ≤ 60 := by omega
      have u2 : (y : Int) ≤ 2305843009213693952 := by omega
      have u3 : (U : Int) ≤ 2305843009213693952 := by omega
      have hne : ¬ (x : Int) = 0 := by omega
      by_cases hU2 : 1000000000000 < U
      · have hU3 : (1000000000000 : Int) < (U : Int) := by omega
        have hn : R = none := by rw [HL.out, hbig hU2]; rfl
        have HN := Lib.hid hn
        clear hle hlen hbig hst hcl hok hcp hcy hlb hU hn hU2 hy0 hy1
        go_wp2
        go_ret2
        refine ⟨?_, HB.out⟩
        rw [HN.out]
        rfl
      · have hU3 : ¬ (1000000000000 : Int) < (U : Int) := by omega
        have hU4 : U ≤ 1000000000000 := by omega
        have hU5 : U ≤ 2305843009213693952 := Nat.le_trans hU4 (by decide)
        have hst := hst hU4
        obtain ⟨i0, hi, hz0, hz1, hz2⟩ := info_parts info3
        have hll : pre.length ≤ 60 := by omega
        have hr := HR0.out
        unfold Row at hr
        rw [nats_len] at hr
        have hB1 := HB.out
        have hsz := hB1.size
        have HROW := Lib.hid (show ∀ v' w3, w3.ownsRow w.heap.size 3 1 v' (pre.length + 1) ((nats pre).map (Value.int .i64) ++ [.int .i64 (U : Int)]) → Row w.heap.size v' (nats (pre ++ [U])) w3 from fun v' w3 hown' => by
          unfold Row
          rw [nats_app, List.length_append, nats_len, List.map_append]
          exact hown')
        by_cases hq : y * (U / Nat.gcd y U) ≤ 2305843009213693952
        · have hxk : x * (U / Nat.gcd y U) ≤ 2305843009213693952 := Nat.le_trans (Nat.mul_le_mul hx60 (Nat.le_trans (Nat.div_le_self _ _) hU4)) (by decide)
          have hLS := fun w => less_any x y U hy0 hcp hok hy1 hU5 hxk hq w
          have hnx : ∀ X Y, IsLess x y U X Y → grd (k + 1) x y = (grd k X Y).map (U :: ·) := by
            intro X Y h
            rw [hst, grd_scale k (Nat.mul_pos hy0 hcp) h.1 h.2.1.symm]
          have HLS := Lib.hid hLS
          have HNX := Lib.hid hnx
          have HCL := Lib.hid hcl
          clear hle hlen hbig hst hcl hok hcp hcy hlb hU hq hxk hLS hnx hU2 hU4 hU5 hy0 hy1
          go_wp2_with (at_builtin; refine wpList_append_own _ rfl _ _ 22 rfl (w.heap.size) 3 i0 (.int .i64 0) 1 8 Try.underlying22 hi hz0 hz1 hz2 rfl (by decide) _ _ _ rfl (hr.alloc _) ⟨wr.heap.size, 0, none⟩ 1 1 [.int .i64 ((U : Int))] rfl rfl (cell_one_new _ _ _) (by simp [Value.oneCell']) (by unfold maxLen; omega) (by omega) (by simp; omega) ?_; intro v' w3 hown' hgrow _; have hb3 : Below w.heap.size w w3 := (hB1.alloc hsz _).grown hgrow (by simp; omega) (fun j e => (hr.lt j e).1))
          have HF := Lib.hid (And.intro (HROW.out _ _ hown') hb3)
          clear hown' hgrow hr hb3 hB1 hsz
          refine (HLS.out _).mono ?_
          rintro e w4 ⟨⟨X, Y, hl, rfl⟩, q, rfl⟩
          have HLX := Lib.hid hl
          have HF2 := Lib.hid (And.intro (own_same HF.out.1 (fun _ _ _ => rfl) : Row w.heap.size v' (nats (pre ++ [U])) (w3.drewN q)) (below_drewN HF.out.2 q))
          clear hl
          go_wp2
          go_roundg k
          case rel =>
            refine ⟨X, Y, pre ++ [U], rfl, rfl, ?_, HLX.out.1, HLX.out.2.2.2.2, ?_, ?_, HF2.out.1, HF2.out.2⟩
            · have := HLX.out.2.2.2.1; have := HCL.out; have := HLE.out; omega
            · have := HLX.out.2.2.2.1; have := HCL.out; have := HLEN.out; simp; omega
            · rw [HL.out, HNX.out X Y HLX.out]; cases grd k X Y <;> simp
          case measure => omega
        · have hLS := fun w => less_no x y U hy0 hcp hy1 hU5 (by omega) w
          have hn : R = none := by rw [HL.out, hlb hU4 (by omega)]; rfl
          have HLS := Lib.hid hLS
          have HN := Lib.hid hn
          clear hle hlen hbig hst hcl hok hcp hcy hlb hU hq hLS hn hU2 hU4 hU5 hy0 hy1
          go_wp2_with (at_builtin; refine wpList_append_own _ rfl _ _ 22 rfl (w.heap.size) 3 i0 (.int .i64 0) 1 8 Try.underlying22 hi hz0 hz1 hz2 rfl (by decide) _ _ _ rfl (hr.alloc _) ⟨wr.heap.size, 0, none⟩ 1 1 [.int .i64 ((U : Int))] rfl rfl (cell_one_new _ _ _) (by simp [Value.oneCell']) (by unfold maxLen; omega) (by omega) (by simp; omega) ?_; intro v' w3 hown' hgrow _; have hb3 : Below w.heap.size w w3 := (hB1.alloc hsz _).grown hgrow (by simp; omega) (fun j e => (hr.lt j e).1))
          have HF := Lib.hid hb3
          clear hown' hgrow hr hb3 hB1 hsz
          refine (HLS.out _).mono ?_
          rintro e w4 ⟨rfl, q, rfl⟩
          go_wp2
          go_ret2
          refine ⟨?_, below_drewN HF.out q⟩
          rw [HN.out]
          rfl
end Go.Proofs.Ytbdiknlbmjdpeaa
