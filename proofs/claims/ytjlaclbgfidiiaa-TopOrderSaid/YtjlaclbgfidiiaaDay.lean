/- The day of a prime: the walks of validFactor, isPrime, dayOf, gcd. Conditions: the numbers are in range. -/
import Derived.Test.YtjlaclbgfidiiaaCalls
import Derived.Test.YtjlaclbgfidiiaaDig3
namespace Go.Proofs.Ytjlaclbgfidiiaa
open Go.RowKit
attribute [local go_sem] Oper.semAt_some

def ordF (p : Nat) : Nat := ((List.range 300).find? fun e => decide (1 ≤ e) && decide (2 ^ e % p = 1)).getD 0
theorem ord_ok : ((List.range 300).all fun p => decide (p < 3) || decide (p % 2 = 0) || (decide (1 ≤ ordF p) && decide (ordF p < 300) && decide (2 ^ ordF p % p = 1) && (List.range (ordF p)).all fun t => decide (t = 0) || !decide (2 ^ t % p = 1))) = true := by decide +kernel
theorem ord_spec {p : Nat} (h3 : 3 ≤ p) (h300 : p < 300) (h2 : p % 2 = 1) : 1 ≤ ordF p ∧ ordF p < 300 ∧ 2 ^ ordF p % p = 1 ∧ ∀ t, 1 ≤ t → t < ordF p → 2 ^ t % p ≠ 1 := by
  have h := List.all_eq_true.1 ord_ok p (List.mem_range.2 h300)
  simp only [Bool.or_eq_true, Bool.and_eq_true, decide_eq_true_eq, List.all_eq_true, List.mem_range, Bool.not_eq_true', decide_eq_false_iff_not] at h
  rcases h with (h | h) | ⟨⟨⟨a, b⟩, c⟩, d⟩
  · omega
  · omega
  · refine ⟨a, b, c, fun t h1 h2 => ?_⟩
    rcases d t h2 with h | h
    · omega
    · exact h
def prB (p : Nat) : Bool := (List.range p).all fun d => decide (d < 2) || !decide (p % d = 0)
theorem pr_ok : ((List.range 300).all fun p => prB p || decide (p < 3) || (List.range 18).any fun t => decide (2 ≤ t) && decide (t * t ≤ p) && decide (p % t = 0)) = true := by decide +kernel
theorem pr_root {p : Nat} (h3 : 3 ≤ p) (h300 : p < 300) (h : ∀ t, 2 ≤ t → t * t ≤ p → p % t ≠ 0) : prB p = true := by
  have h' := List.all_eq_true.1 pr_ok p (List.mem_range.2 h300)
  simp only [Bool.or_eq_true, List.any_eq_true, Bool.and_eq_true, decide_eq_true_eq] at h'
  rcases h' with (h' | h') | ⟨t, -, ⟨a, b⟩, c⟩
  · exact h'
  · omega
  · exact absurd c (h t a b)
theorem pr_spec {p : Nat} : prB p = true ↔ ∀ t, 2 ≤ t → t < p → p % t ≠ 0 := by
  unfold prB
  simp only [List.all_eq_true, List.mem_range, Bool.or_eq_true, decide_eq_true_eq, Bool.not_eq_true', decide_eq_false_iff_not]
  constructor
  · intro h t h1 h2
    rcases h t h2 with h | h
    · omega
    · exact h
  · intro h t h2
    by_cases h1 : t < 2
    · exact .inl h1
    · exact .inr (h t (by omega) h2)
theorem pr_odd {p : Nat} (h3 : 3 ≤ p) (h : prB p = true) : p % 2 = 1 := by
  have := pr_spec.1 h 2 (by omega) (by omega)
  omega

theorem pow_mod_succ (p t : Nat) : 2 ^ (t + 1) % p = (2 ^ t % p * 2) % p := by rw [Nat.pow_succ, Nat.mul_mod, Nat.mul_mod (2 ^ t % p) 2, Nat.mod_mod]
/-- Is k 2^t + 1 divisible by p? -/
def hit (k p t : Nat) : Bool := decide ((k * 2 ^ t + 1) % p = 0)
theorem hit_pw (k p t : Nat) : hit k p t = decide ((k * (2 ^ t % p) + 1) % p = 0) := by
  unfold hit
  rw [decide_eq_decide]
  have : (k * 2 ^ t + 1) % p = (k * (2 ^ t % p) + 1) % p := by
    rw [Nat.add_mod, Nat.mul_mod, Nat.add_mod (k * (2 ^ t % p)), Nat.mul_mod k (2 ^ t % p), Nat.mod_mod]
  rw [this]
theorem hit_kx (k p t : Nat) : hit k p t = decide ((k * 2 ^ t % p + 1) % p = 0) := by
  unfold hit
  rw [decide_eq_decide, Nat.mod_add_mod]
theorem kx_succ (k p t : Nat) : k * 2 ^ (t + 1) % p = 2 * (k * 2 ^ t % p) % p := by
  rw [Nat.pow_succ, ← Nat.mul_assoc, Nat.mul_comm _ 2, Nat.mul_mod, Nat.mul_mod 2 (k * 2 ^ t % p), Nat.mod_mod]
/-- The last of the first e numbers from 1 on that is a hit; 0: there is none. -/
def lastH (k p : Nat) : Nat → Nat
  | 0 => 0
  | e + 1 => if hit k p (e + 1) = true then e + 1 else lastH k p e
theorem lastH_le (k p : Nat) : ∀ e, lastH k p e ≤ e
  | 0 => Nat.le_refl _
  | e + 1 => by have := lastH_le k p e; unfold lastH; split <;> omega
theorem lastH_hit {k p : Nat} : ∀ {e}, 1 ≤ lastH k p e → hit k p (lastH k p e) = true
  | 0, h => absurd h (by simp [lastH])
  | e + 1, h => by
    unfold lastH at h ⊢
    split
    · assumption
    · rename_i h1
      rw [if_neg h1] at h
      exact lastH_hit h
theorem lastH_none {k p : Nat} : ∀ {e}, lastH k p e = 0 → ∀ t, 1 ≤ t → t ≤ e → hit k p t = false
  | 0, _, t, h1, h2 => by omega
  | e + 1, h, t, h1, h2 => by
    unfold lastH at h
    split at h
    · omega
    · rename_i hn
      by_cases e1 : t = e + 1
      · subst e1; cases hh : hit k p (e + 1) with
        | false => rfl
        | true => exact absurd hh hn
      · exact lastH_none h t h1 (by omega)
/-- The day of a prime, if it has one. -/
def dayF (k p : Nat) : Option (Int × Int) := if lastH k p (ordF p) = 0 then none else some (((lastH k p (ordF p) % ordF p : Nat) : Int), ((ordF p : Nat) : Int))

def isK (k : Int) : Bool := decide (1 ≤ k) && decide (k ≤ 1000000) && decide (k % 2 = 1)
set_option maxRecDepth 100000 in
set_option maxHeartbeats 4000000 in
theorem validFactor_any (k : Int) (w : World) : Calls Try.prog 75 #[.int .i64 k] w fun e w' => e = .returned (.bool (isK k)) ∧ w' = w := by
  by_cases h1 : 1 ≤ k
  · have h1d : decide (1 ≤ k) = true := by simpa using h1
    by_cases h2 : k ≤ 1000000
    · have h2d : decide (k ≤ 1000000) = true := by simpa using h2
      have e : isK k = (k % 2 == 1) := by unfold isK; rw [h1d, h2d]; rw [Bool.eq_iff_iff]; simp
      rw [e]
      clear e
      go_enter Try.func75, Try.ntmps75
      go_wp2
      go_ret
      exact ⟨rfl, rfl⟩
    · have h2d : decide (k ≤ 1000000) = false := by simpa using h2
      have e : isK k = false := by unfold isK; rw [h1d, h2d]; rfl
      rw [e]
      clear e
      go_enter Try.func75, Try.ntmps75
      go_wp2
      go_ret
      exact ⟨rfl, rfl⟩
  · have h1d : decide (1 ≤ k) = false := by simpa using h1
    have e : isK k = false := by unfold isK; rw [h1d]; rfl
    rw [e]
    clear e
    go_enter Try.func75, Try.ntmps75
    go_wp2
    go_ret
    exact ⟨rfl, rfl⟩

set_option maxRecDepth 100000 in
set_option maxHeartbeats 4000000 in
theorem isPrime_any (p : Nat) (h3 : 3 ≤ p) (h300 : p < 300) (w : World) : Calls Try.prog 86 #[.int .i64 (p : Int)] w fun e w' => e = .returned (.bool (prB p)) ∧ w' = w := by
  obtain ⟨B, hB⟩ : ∃ B, prB p = B := ⟨_, rfl⟩
  rw [hB]
  have HB := Lib.hid hB
  have HR := Lib.hid (pr_root h3 h300)
  have HS := Lib.hid (pr_spec (p := p))
  have p300 : (p : Int) < 300 := by omega
  clear hB
  go_enter Try.func86, Try.ntmps86
  go_wp2
  go_loopg [3] 20 (fun gk s3 wr => ∃ d : Nat, d + gk = 22 ∧ 2 ≤ d ∧ s3 = .int .i64 (d : Int) ∧ (∀ t, 2 ≤ t → t < d → p % t ≠ 0) ∧ wr = w)
  case atStart => exact ⟨2, rfl, by omega, rfl, fun t h1 h2 => by omega, rfl⟩
  case round =>
    obtain ⟨d, hd, hd2, rfl, hall, rfl⟩ := hrel
    have HALL := Lib.hid hall
    have HD := Lib.hid hd
    have d22 : (d : Int) ≤ 22 := by omega
    have d2 : (2 : Int) ≤ (d : Int) := by omega
    clear hall
    have hsq : (d : Int) * (d : Int) = ((d * d : Nat) : Int) := by rw [Int.natCast_mul]
    have hsq2 : d * d ≤ 22 * 22 := Nat.mul_le_mul (by omega) (by omega)
    have q0 : 0 ≤ (d : Int) * (d : Int) := by omega
    have q1 : (d : Int) * (d : Int) ≤ 484 := by omega
    by_cases hle : d * d ≤ p
    · have hlei : (d : Int) * (d : Int) ≤ (p : Int) := by omega
      have hd18 : d < 18 := by
        rcases Nat.lt_or_ge d 18 with h | h
        · exact h
        · have := Nat.mul_le_mul h h; omega
      have d0 : ¬ (d : Int) = 0 := by omega
      have hlt : d < p := by
        have : 2 * d ≤ d * d := Nat.mul_le_mul_right d hd2
        omega
      by_cases hm : p % d = 0
      · have hmi : ((p : Int) % (d : Int) == 0) = true := by
          rw [← Int.natCast_emod, hm]; rfl
        obtain rfl : B = false := by
          rw [← HB.out]
          cases e : prB p with
          | false => rfl
          | true => exact absurd hm (HS.out.1 e d hd2 hlt)
        clear hm hd hsq hsq2 hle
        go_wp2
        go_ret
        exact ⟨rfl, rfl⟩
      · have hmi : ((p : Int) % (d : Int) == 0) = false := by
          rw [← Int.natCast_emod]; simp; omega
        have HM := Lib.hid hm
        clear hm hd hsq hsq2 hle
        go_wp2
        go_roundg (21 - d)
        case rel =>
          refine ⟨d + 1, by omega, by omega, by go_num, fun t h1 h2 => ?_, rfl⟩
          by_cases e : t = d
          · subst e; exact HM.out
          · exact HALL.out t h1 (by omega)
        case measure => have := HD.out; omega
    · have hlei : ¬ (d : Int) * (d : Int) ≤ (p : Int) := by omega
      obtain rfl : B = true := by
        rw [← HB.out]
        refine HR.out fun t h1 h2 => HALL.out t h1 ?_
        rcases Nat.lt_or_ge t d with h | h
        · exact h
        · have := Nat.mul_le_mul h h; omega
      clear hd hsq hsq2 hle
      go_wp2
      go_ret
      exact ⟨rfl, rfl⟩


set_option maxHeartbeats 1000000 in
theorem gcd_any (a b : Nat) (ha : a ≤ 1000000000000000000) (hb : b ≤ 1000000000000000000) (w : World) :
    Calls Try.prog 91 #[.int .i64 (a : Int), .int .i64 (b : Int)] w fun e w' => e = .returned (.int .i64 ((Nat.gcd a b : Nat) : Int)) ∧ ∃ q, w' = w.drewN q := by
  obtain ⟨g, hg⟩ : ∃ g, Nat.gcd a b = g := ⟨_, rfl⟩
  rw [hg]
  have HG := Lib.hid hg
  clear hg
  go_enter Try.func91, Try.ntmps91
  go_wp2
  go_loopg [0, 1] b (fun gk s0 s1 wr => ∃ (x y q : Nat), x ≤ 1000000000000000000 ∧ y ≤ 1000000000000000000 ∧ y = gk ∧ Nat.gcd x y = g ∧ s0 = .int .i64 (x : Int) ∧ s1 = .int .i64 (y : Int) ∧ wr = w.drewN q)
  case atStart => exact ⟨a, b, 0, ha, hb, rfl, HG.out, rfl, rfl, rfl⟩
  case round =>
    obtain ⟨x, y, q, hx, hy, hyk, hxy, rfl, rfl, rfl⟩ := hrel
    have HXY := Lib.hid hxy
    have HYK := Lib.hid hyk
    clear hxy hyk
    by_cases h : y = 0
    · subst h
      have hle : ¬ (0 : Int) < ((0 : Nat) : Int) := by omega
      have e : x = g := by rw [← HXY.out, Nat.gcd_zero_right]
      subst e
      go_wp2
      go_ret
      exact ⟨rfl, q, rfl⟩
    · have hlt : (0 : Int) < (y : Int) := by omega
      have hne : ¬ (y : Int) = 0 := by omega
      have x0 : (0 : Int) ≤ (x : Int) := by omega
      clear h
      go_wp2
      go_quiet (fail)
      go_wp2
      go_roundg (x % y)
      case rel => exact ⟨y, x % y, q + nq, hy, by have := Nat.mod_lt x (show 0 < y by omega); omega, rfl, by rw [← HXY.out, Nat.gcd_comm x y, Nat.gcd_rec y x, Nat.gcd_comm], rfl, by go_num, by rw [World.drewN_drewN]⟩
      case measure => have := Nat.mod_lt x (show 0 < y by omega); have := HYK.out; omega

/-- What dayOf returns. -/
def dayP (k p : Nat) : Int × Int := (dayF k p).getD (0, 0)
def dayB (k p : Nat) : Bool := (dayF k p).isSome
theorem day_last {k p : Nat} (h : lastH k p (ordF p) = 0) : dayP k p = (0, 0) ∧ dayB k p = false := by
  unfold dayP dayB dayF
  rw [if_pos h]; exact ⟨rfl, rfl⟩
theorem day_last' {k p : Nat} (h : lastH k p (ordF p) ≠ 0) : dayP k p = (((lastH k p (ordF p) % ordF p : Nat) : Int), ((ordF p : Nat) : Int)) ∧ dayB k p = true := by
  unfold dayP dayB dayF
  rw [if_neg h]; exact ⟨rfl, rfl⟩

set_option maxRecDepth 100000 in
set_option maxHeartbeats 8000000 in
theorem dayOf_any (k p : Nat) (hk : k ≤ 1000000) (h3 : 3 ≤ p) (h300 : p < 300) (h2 : p % 2 = 1) (w : World) :
    Calls Try.prog 87 #[.int .i64 (k : Int), .int .i64 (p : Int)] w fun e w' => e = .returned (.tuple #[.agg #[.int .i64 (dayP k p).1, .int .i64 (dayP k p).2], .bool (dayB k p)]) ∧ Below w.heap.size w w' := by
  obtain ⟨o1, o2, o3, o4⟩ := ord_spec h3 h300 h2
  have HO3 := Lib.hid o3
  have HO4 := Lib.hid o4
  have HD0 := Lib.hid (fun h => day_last (k := k) (p := p) h)
  have HD1 := Lib.hid (fun h => day_last' (k := k) (p := p) h)
  obtain ⟨⟨d1, d2⟩, hd⟩ : ∃ q, dayP k p = q := ⟨_, rfl⟩
  obtain ⟨B, hB⟩ : ∃ B, dayB k p = B := ⟨_, rfl⟩
  rw [hd, hB] at HD0 HD1 ⊢
  obtain ⟨o, ho⟩ : ∃ o, ordF p = o := ⟨_, rfl⟩
  rw [ho] at HD0 HD1 HO3 HO4 o1 o2
  have HPS := Lib.hid (fun t => pow_mod_succ p t)
  have HHP := Lib.hid (fun t => hit_pw k p t)
  have hb0 : Below w.heap.size w (w.alloc (.cells #[.int .i64 0, .int .i64 0] 82)) := (Below.refl _ _).alloc (Nat.le_refl _) _
  obtain ⟨c0, c1⟩ := cell_pair w (.int .i64 0) (.int .i64 0) 82
  have f0 : (w.alloc (.cells #[.int .i64 0, .int .i64 0] 82)).frozen? ⟨w.heap.size, 0, none⟩ = false := by
    unfold World.frozen?; rw [heap_alloc_last]; simp
  have f1 : (w.alloc (.cells #[.int .i64 0, .int .i64 0] 82)).frozen? ⟨w.heap.size, 1, none⟩ = false := by
    unfold World.frozen?; rw [heap_alloc_last]; simp
  have HB := Lib.hid hb0
  have p0 : ¬ (p : Int) = 0 := by omega
  have p300 : (p : Int) < 300 := by omega
  have pp0 : (0 : Int) < (p : Int) := by omega
  have kk : (k : Int) ≤ 1000000 := by omega
  clear o3 o4 hd hB ho hb0 h2
  go_enter Try.func87, Try.ntmps87
  go_wp2
  obtain ⟨W0, hW0⟩ : ∃ W0, w.alloc (.cells #[.int .i64 0, .int .i64 0] 82) = W0 := ⟨_, rfl⟩
  rw [hW0] at c0 c1 f0 f1 HB ⊢
  clear hW0
  go_loopg [5, 6, 7, 8] o (fun gk s5 s6 s7 s8 wr => ∃ t : Nat, t + gk = o ∧ s7 = .int .i64 (t : Int) ∧ s8 = .int .i64 ((2 ^ t % p : Nat) : Int) ∧ s6 = .int .i64 ((lastH k p t : Nat) : Int) ∧ s5 = .bool (decide (lastH k p t ≠ 0)) ∧ wr = W0)
  case atStart => exact ⟨0, by omega, rfl, by rw [Nat.pow_zero, Nat.mod_eq_of_lt (by omega)]; rfl, rfl, rfl, rfl⟩
  case round =>
    obtain ⟨t, ht, rfl, rfl, rfl, rfl, hww⟩ := hrel
    have hww2 := hww.symm
    subst hww2
    clear hww
    have HT := Lib.hid ht
    have hle := lastH_le k p t
    have HLH := Lib.hid (show lastH k p (t + 1) = if hit k p (t + 1) = true then t + 1 else lastH k p t from rfl)
    obtain ⟨L, hL⟩ : ∃ L, lastH k p t = L := ⟨_, rfl⟩
    rw [hL] at hle HLH ⊢
    have HL := Lib.hid hL
    have hplt : 2 ^ t % p < p := Nat.mod_lt _ (by omega)
    obtain ⟨q, hq⟩ : ∃ q, 2 ^ t % p = q := ⟨_, rfl⟩
    rw [hq] at hplt ⊢
    have HQ := Lib.hid hq
    have q300 : (q : Int) < 300 := by omega
    have L300 : (L : Int) < 300 := by omega
    have t300 : (t : Int) < 300 := by omega
    clear hL hq
    by_cases hto : t = o
    · have hq1 : q = 1 := by rw [← HQ.out, hto]; exact HO3.out
      have ht0 : ((t : Int) == 0) = false := by simp; omega
      subst hq1
      have hqb : (((1 : Nat) : Int) != 1) = false := rfl
      have HLO := Lib.hid (show lastH k p o = L by rw [← HL.out, hto])
      have t0 : ¬ (t : Int) = 0 := by omega
      have hto' : (t : Int) = (o : Int) := by omega
      have HTO := Lib.hid hto
      clear hto ht hplt
      by_cases hL0 : L = 0
      · obtain ⟨e1, e2⟩ := HD0.out (by rw [HLO.out]; exact hL0)
        obtain ⟨rfl, rfl⟩ : d1 = 0 ∧ d2 = 0 := by simpa using e1
        subst e2
        have hdb : decide (L ≠ 0) = false := by simpa using hL0
        rw [hdb]
        clear e1 hdb hto'
        go_wp2
        exact bodyPost_ret (v := .tuple #[.agg #[.int .i64 0, .int .i64 0], .bool false]) (by simp [results, Try.results87, go_sem, c0, c1]) rfl ⟨rfl, (HB.out.setCell (p := ⟨w.heap.size, 0, none⟩) (Nat.le_refl _) _).setCell (p := ⟨w.heap.size, 1, none⟩) (Nat.le_refl _) _⟩
      · obtain ⟨e1, e2⟩ := HD1.out (by rw [HLO.out]; exact hL0)
        rw [HLO.out, ← HTO.out] at e1
        obtain ⟨rfl, rfl⟩ : ((L % t : Nat) : Int) = d1 ∧ (t : Int) = d2 := by
          have := Prod.mk.inj e1
          exact ⟨this.1.symm, this.2.symm⟩
        subst e2
        have hdb : decide (L ≠ 0) = true := by simpa using hL0
        rw [hdb]
        clear e1 hdb hto'
        go_wp2
        exact bodyPost_ret (v := .tuple #[.agg #[.int .i64 ((L : Int) % (t : Int)), .int .i64 (t : Int)], .bool true]) (by simp [results, Try.results87, go_sem, c0, c1]) rfl ⟨rfl, (HB.out.setCell (p := ⟨w.heap.size, 0, none⟩) (Nat.le_refl _) _).setCell (p := ⟨w.heap.size, 1, none⟩) (Nat.le_refl _) _⟩
    · have hps := HPS.out t
      rw [HQ.out] at hps
      have hhp := HHP.out (t + 1)
      have hplt2 : 2 ^ (t + 1) % p < p := Nat.mod_lt _ (by omega)
      rw [hps] at hhp hplt2
      have e1 : (q : Int) * 2 % (p : Int) = ((q * 2 % p : Nat) : Int) := by rw [Int.natCast_emod, Int.natCast_mul]; rfl
      obtain ⟨Q, hQ⟩ : ∃ Q, q * 2 % p = Q := ⟨_, rfl⟩
      rw [hQ] at hps hhp e1 hplt2
      have e2 : ((k : Int) * (Q : Int) + 1) % (p : Int) = (((k * Q + 1) % p : Nat) : Int) := by rw [Int.natCast_emod, Int.natCast_add, Int.natCast_mul]; rfl
      have kq0 : 0 ≤ (k : Int) * (Q : Int) := Int.mul_nonneg (by omega) (by omega)
      have kq1 : (k : Int) * (Q : Int) ≤ 300000000 := by
        have h1 : k * Q ≤ 1000000 * 300 := Nat.mul_le_mul hk (by omega)
        have h2 : ((k * Q : Nat) : Int) ≤ 300000000 := by omega
        rw [Int.natCast_mul] at h2; exact h2
      have HPS2 := Lib.hid hps
      have HHH := Lib.hid hhp
      have Q300 : (Q : Int) < 300 := by omega
      clear hQ hplt hplt2 hps hhp
      have htlt : t < o := by omega
      have hgo : (t = 0) ∨ ¬ (q = 1) := by
        by_cases h0 : t = 0
        · exact .inl h0
        · exact .inr (by rw [← HQ.out]; exact HO4.out t (by omega) (by omega))
      have HGO := Lib.hid hgo
      clear hto ht hgo
      have hhe : ((((k * Q + 1) % p : Nat) : Int) == 0) = hit k p (t + 1) := by
        rw [HHH.out, Bool.eq_iff_iff]
        simp only [beq_iff_eq, decide_eq_true_eq]
        omega
      have hhe2 : (((k : Int) * (Q : Int) + 1) % (p : Int) == 0) = hit k p (t + 1) := by rw [e2]; exact hhe
      obtain ⟨H, hH⟩ : ∃ H, hit k p (t + 1) = H := ⟨_, rfl⟩
      rw [hH] at hhe2 HLH
      have HE := Lib.hid hhe2
      clear hhe hhe2 hH e2
      by_cases ht0 : t = 0
      · subst ht0
        have hz : (((0 : Nat) : Int) == 0) = true := rfl
        cases H with
        | true =>
          have hx := HE.out
          have HN := Lib.hid (show lastH k p (0 + 1) = 0 + 1 by rw [HLH.out, if_pos rfl])
          have HND := Lib.hid (show decide (lastH k p (0 + 1) ≠ 0) = true by rw [HN.out]; simp)
          go_wp2
          go_roundg (o - 0 - 1)
          case rel => exact ⟨0 + 1, by have := HT.out; omega, by go_num, by rw [HPS2.out, ← e1], by rw [HN.out]; go_num, by rw [HND.out], rfl⟩
          case measure => have := HT.out; omega
        | false =>
          have hx := HE.out
          have HN := Lib.hid (show lastH k p (0 + 1) = L by rw [HLH.out, if_neg (by decide)])
          have HND := Lib.hid (show decide (lastH k p (0 + 1) ≠ 0) = decide (L ≠ 0) by rw [HN.out])
          go_wp2
          go_roundg (o - 0 - 1)
          case rel => exact ⟨0 + 1, by have := HT.out; omega, by go_num, by rw [HPS2.out, ← e1], by rw [HN.out], by rw [HND.out]; try simp, rfl⟩
          case measure => have := HT.out; omega
      · have htb : ((t : Int) == 0) = false := by simp; omega
        have hqn : ¬ q = 1 := HGO.out.resolve_left ht0
        have hqb : ((q : Int) != 1) = true := by simp; omega
        have hti : ¬ (t : Int) = 0 := by omega
        clear hqn ht0
        cases H with
        | true =>
          have hx := HE.out
          have HN := Lib.hid (show lastH k p (t + 1) = t + 1 by rw [HLH.out, if_pos rfl])
          have HND := Lib.hid (show decide (lastH k p (t + 1) ≠ 0) = true by rw [HN.out]; simp)
          go_wp2
          go_roundg (o - t - 1)
          case rel => exact ⟨t + 1, by have := HT.out; omega, by go_num, by rw [HPS2.out, ← e1], by rw [HN.out]; go_num, by rw [HND.out], rfl⟩
          case measure => have := HT.out; omega
        | false =>
          have hx := HE.out
          have HN := Lib.hid (show lastH k p (t + 1) = L by rw [HLH.out, if_neg (by decide)])
          have HND := Lib.hid (show decide (lastH k p (t + 1) ≠ 0) = decide (L ≠ 0) by rw [HN.out])
          go_wp2
          go_roundg (o - t - 1)
          case rel => exact ⟨t + 1, by have := HT.out; omega, by go_num, by rw [HPS2.out, ← e1], by rw [HN.out], by rw [HND.out]; try simp, rfl⟩
          case measure => have := HT.out; omega

end Go.Proofs.Ytjlaclbgfidiiaa
