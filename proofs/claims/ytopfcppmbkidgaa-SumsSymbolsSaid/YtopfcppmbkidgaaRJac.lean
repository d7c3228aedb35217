/- The walk of the reference's Jacobi: prime by prime it is the symbol. Condition: both numbers are in range. -/
import Derived.Test.YtopfcppmbkidgaaLeg
import Derived.Test.YtopfcppmbkidgaaSym
namespace Go.Proofs.Ytopfcppmbkidgaa
open Go.RowKit
attribute [local go_sem] Oper.semAt_some

def NoDiv (p n : Nat) : Prop := ∀ d, 2 ≤ d → d < p → ¬ d ∣ n
theorem NoDiv.prm {p n : Nat} (h : NoDiv p n) (hd : p ∣ n) (h3 : 3 ≤ p) : Prm p :=
  ⟨h3, fun d d1 d2 e => by
    have hlt : d < p := by
      have : 2 * d ≤ d * d := Nat.mul_le_mul_right d d1
      omega
    exact h d d1 hlt (Nat.dvd_trans (Nat.dvd_of_mod_eq_zero e) hd)⟩
theorem NoDiv.last {p n : Nat} (h : NoDiv p n) (hn : n < p * p) (h3 : 3 ≤ n) : Prm n :=
  ⟨h3, fun d d1 d2 e => by
    have hlt : d < p := Nat.not_le.1 fun hle => by
      have := Nat.mul_le_mul hle hle
      omega
    exact h d d1 hlt (Nat.dvd_of_mod_eq_zero e)⟩
theorem NoDiv.next {p n : Nat} (h : NoDiv p n) (hp : ¬ p ∣ n) (ho : n % 2 = 1) (op : p % 2 = 1) : NoDiv (p + 2) n := fun d d1 d2 hd => by
  rcases (by omega : d < p ∨ d = p ∨ d = p + 1) with e | e | e
  · exact h d d1 e hd
  · subst e; exact hp hd
  · have : 2 ∣ n := Nat.dvd_trans (by rw [e]; exact ⟨(p + 1) / 2, by omega⟩) hd
    have := Nat.mod_eq_zero_of_dvd this
    omega
theorem NoDiv.quot {p n q : Nat} (h : NoDiv p n) (hq : n = p * q) : NoDiv p q := fun d d1 d2 hd => h d d1 d2 (by rw [hq]; exact Nat.dvd_trans hd (Nat.dvd_mul_left q p))
theorem NoDiv.three {n : Nat} (ho : n % 2 = 1) : NoDiv 3 n := fun d d1 d2 hd => by
  obtain rfl : d = 2 := by omega
  have := Nat.mod_eq_zero_of_dvd hd
  omega
theorem odd_factor {p q : Nat} (h : (p * q) % 2 = 1) : p % 2 = 1 ∧ q % 2 = 1 := by
  have := Nat.mul_mod p q 2
  rcases (by omega : p % 2 = 0 ∨ p % 2 = 1) with e | e <;> rcases (by omega : q % 2 = 0 ∨ q % 2 = 1) with k | k <;> rw [e, k] at this <;> simp at this <;> omega

set_option maxRecDepth 100000 in
set_option maxHeartbeats 8000000 in
theorem jacobiR_any (a : Int) (n0 : Nat) (h : isSym a (n0 : Int)) (w : World) :
    Calls Try.prog 42 #[.int .i64 a, .int .i64 (n0 : Int)] w fun e w' => e = .returned (.int .i64 (Jv a n0)) ∧ Below w.heap.size w w' := by
  obtain ⟨a0, a1, b0, b1, b2⟩ := h
  obtain ⟨R, hR⟩ : ∃ R, Jv a (n0 : Int) = R := ⟨_, rfl⟩
  rw [hR]
  have HB := Lib.hid (Below.refl w.heap.size w)
  have HL : RowKit.Hid (∀ (p : Nat) (W : World), Prm p → p ≤ 1000000000 → Calls Try.prog 64 #[.int .i64 a, .int .i64 (p : Int)] W fun e w' => e = .returned (.int .i64 (Jv a p)) ∧ Below W.heap.size W w') := Lib.hid (fun p W hp hp2 => legendre_any a p hp hp2 a0 a1 W)
  have H0 := Lib.hid (show (1 : Int) * Jv a (n0 : Int) = R ∧ NoDiv 3 n0 by rw [Int.one_mul, hR]; exact ⟨rfl, NoDiv.three (by omega)⟩)
  have HN0 := Lib.hid (show 1 ≤ n0 ∧ n0 ≤ 1000000000 ∧ n0 % 2 = 1 by omega)
  clear hR
  go_enter Try.func42, Try.ntmps42
  go_wp2
  go_loopg [1, 5, 6] 60000 (fun gk s1 s5 s6 wr => ∃ (n p : Nat) (o : Int), (n = 1 ∨ (p ≤ 40000 ∧ p + gk = 60003)) ∧ 1 ≤ n ∧ n ≤ 1000000000 ∧ n % 2 = 1 ∧ 3 ≤ p ∧ p ≤ 1000000002 ∧ p % 2 = 1 ∧ -1 ≤ o ∧ o ≤ 1 ∧ RowKit.Hid (o * Jv a n = R ∧ NoDiv p n) ∧ s1 = .int .i64 (n : Int) ∧ s5 = .int .i64 o ∧ s6 = .int .i64 (p : Int) ∧ Below w.heap.size w wr)
  case atStart => exact ⟨n0, 3, 1, .inr ⟨by omega, by omega⟩, HN0.out.1, HN0.out.2.1, HN0.out.2.2, by omega, by omega, by omega, by omega, by omega, H0, rfl, rfl, rfl, HB.out⟩
  case round =>
    obtain ⟨n, p, o, hg, n1, n2, no, p3, p4, po, o0, o1, HI, rfl, rfl, rfl, hb⟩ := hrel
    have KP := Lib.hid hb
    clear hb
    by_cases hn1 : n = 1
    · have l1 : ¬ (1 : Int) < (n : Int) := by omega
      have HF := Lib.hid (show o = R by
        have := HI.out.1
        rw [hn1] at this
        have h1 : Jv a ((1 : Nat) : Int) = 1 := by unfold Jv; rw [if_pos (by simp)]; rfl
        rwa [h1, Int.mul_one] at this)
      clear hg
      go_wp2
      go_ret
      exact ⟨ret_int HF.out, KP.out⟩
    · have l1 : (1 : Int) < (n : Int) := by omega
      have hp4 : p ≤ 40000 ∧ p + gk = 60003 := hg.resolve_left hn1
      have HGK := Lib.hid hp4
      have hpp : p ≤ 40000 := hp4.1
      have n3 : 3 ≤ n := by omega
      have s0 : 0 ≤ (p : Int) * p := Int.mul_nonneg (by omega) (by omega)
      have s1 : (p : Int) * p ≤ 1600000000 := by have := Int.mul_le_mul (show (p : Int) ≤ 40000 by omega) (show (p : Int) ≤ 40000 by omega) (by omega) (by decide); omega
      have sw : wrap64 ((p : Int) * p) = (p : Int) * p := IntWalk.wrap64_in _ (by omega)
      have spp : (p : Int) * p = ((p * p : Nat) : Int) := by rw [Int.natCast_mul]
      clear hg hp4
      by_cases hbig : n < p * p
      · -- what is left is a prime
        have l2 : (n : Int) < (p : Int) * p := by rw [spp]; omega
        have hprm := HI.out.2.last hbig n3
        have HC := Lib.hid (fun W => HL.out n W hprm n2)
        have HO := Lib.hid HI.out.1
        obtain ⟨z, hz⟩ : ∃ z, Jv a (n : Int) = z := ⟨_, rfl⟩
        have hzc := Jv_cases a (n : Int)
        rw [hz] at HC HO hzc
        have ne : ¬ (n : Int) = 0 := by omega
        have nn : (n : Int) % (n : Int) = 0 := Int.emod_self
        have dn : (n : Int) / (n : Int) = 1 := Int.ediv_self ne
        have ob : -1 ≤ o * z ∧ o * z ≤ 1 := by
          rcases (by omega : o = -1 ∨ o = 0 ∨ o = 1) with e | e | e <;> rcases hzc with k | k | k <;> rw [e, k] <;> simp
        have ow : wrap64 (o * z) = o * z := IntWalk.wrap64_in _ (by omega)
        obtain ⟨ob0, ob1⟩ := ob
        clear hz hzc hbig hprm spp
        go_wp2
        go_loopg [1, 5] 2 (fun gk2 s1 s5 wq => (s1 = .int .i64 (n : Int) ∧ s5 = .int .i64 o ∧ gk2 = 2 ∧ Below w.heap.size w wq) ∨ (s1 = .int .i64 1 ∧ s5 = .int .i64 (o * z) ∧ gk2 = 1 ∧ Below w.heap.size w wq))
        case atStart => exact .inl ⟨rfl, rfl, rfl, KP.out⟩
        case round =>
          rcases hrel with ⟨rfl, rfl, hgk2, hb⟩ | ⟨rfl, rfl, hgk2, hb⟩
          · have KQ := Lib.hid hb
            clear hb KP
            go_wp2_with fail
            refine (HC.out _).mono ?_
            rintro e v1 ⟨rfl, hb⟩
            have KP := Lib.hid (KQ.out.trans (hb.mono KQ.out.size))
            clear hb KQ
            go_wp2
            go_roundg 1
            case rel => exact .inr ⟨rfl, rfl, rfl, KP.out⟩
            case measure => omega
          · have KQ := Lib.hid hb
            clear hb KP
            have hm1 : (1 : Int) % (n : Int) = 1 := Int.emod_eq_of_lt (by omega) (by omega)
            have hw2 : wrap64 ((n : Int) + 2) = (n : Int) + 2 := IntWalk.wrap64_in _ (by omega)
            go_wp2
            go_roundg (60003 - p - 2)
            case rel => exact ⟨1, n + 2, o * z, .inl rfl, by omega, by omega, by omega, by omega, by omega, by omega, ob0, ob1, Lib.hid ⟨by
                have h1 : Jv a ((1 : Nat) : Int) = 1 := by unfold Jv; rw [if_pos (by simp)]; rfl
                rw [h1, Int.mul_one]; exact HO.out, fun d d1 d2 hd => by have := Nat.le_of_dvd (by omega) hd; omega⟩, rfl, rfl, by go_num, KQ.out⟩
            case measure => have := HGK.out; omega
      · have l2 : ¬ (n : Int) < (p : Int) * p := by rw [spp]; omega
        have HPS := Lib.hid (show p ≤ 31623 from Nat.le_of_lt_succ (Nat.not_le.1 fun hle => by have := Nat.mul_le_mul hle hle; omega))
        clear hbig spp
        have pne : ¬ (p : Int) = 0 := by omega
        go_wp2
        go_loopg [1, 5] n (fun gk2 s1 s5 wq => ∃ (m : Nat) (u : Int), m ≤ gk2 ∧ 1 ≤ m ∧ m ≤ 1000000000 ∧ m % 2 = 1 ∧ -1 ≤ u ∧ u ≤ 1 ∧ RowKit.Hid (u * Jv a m = R ∧ NoDiv p m) ∧ s1 = .int .i64 (m : Int) ∧ s5 = .int .i64 u ∧ Below w.heap.size w wq)
        case atStart => exact ⟨n, o, Nat.le_refl _, n1, n2, no, o0, o1, HI, rfl, rfl, KP.out⟩
        case round =>
          obtain ⟨m, u, hmg, m1, m2, mo, u0, u1, HU, rfl, rfl, hb⟩ := hrel
          have KQ := Lib.hid hb
          clear hb KP HI
          by_cases hdm : m % p = 0
          · have hd0 : (m : Int) % (p : Int) = 0 := by rw [← Int.natCast_emod, hdm]; rfl
            obtain ⟨q, hq⟩ := Nat.dvd_of_mod_eq_zero hdm
            have hprm := HU.out.2.prm (Nat.dvd_of_mod_eq_zero hdm) p3
            have HC := Lib.hid (fun W => HL.out p W hprm (by omega))
            have hof := odd_factor (p := p) (q := q) (by rw [← hq]; exact mo)
            have hq1 : 1 ≤ q := by
              rcases Nat.eq_zero_or_pos q with e | e
              · subst e; omega
              · exact e
            have hql : q < m := by
              have : 3 * q ≤ p * q := Nat.mul_le_mul_right q p3
              omega
            have hquo : (m : Int) / (p : Int) = (q : Int) := by
              rw [← Int.natCast_ediv, hq, Nat.mul_div_cancel_left _ (by omega)]
            have hzc := Jv_cases a (p : Int)
            have hstep : u * Jv a (p : Int) * Jv a (q : Int) = R := by
              have := HU.out.1
              rw [hq, Int.natCast_mul, J_den (by omega) (by omega) (by omega) (by omega)] at this
              rw [Int.mul_assoc]; exact this
            have HND := Lib.hid (HU.out.2.quot hq)
            obtain ⟨z, hz⟩ : ∃ z, Jv a (p : Int) = z := ⟨_, rfl⟩
            rw [hz] at HC hzc hstep
            have ob : -1 ≤ u * z ∧ u * z ≤ 1 := by
              rcases (by omega : u = -1 ∨ u = 0 ∨ u = 1) with e | e | e <;> rcases hzc with k | k | k <;> rw [e, k] <;> simp
            have ow : wrap64 (u * z) = u * z := IntWalk.wrap64_in _ (by omega)
            obtain ⟨ob0, ob1⟩ := ob
            have HST := Lib.hid hstep
            clear hz hzc hdm hq hprm hstep HU
            go_wp2_with fail
            refine (HC.out _).mono ?_
            rintro e v1 ⟨rfl, hb⟩
            have KP := Lib.hid (KQ.out.trans (hb.mono KQ.out.size))
            clear hb KQ
            go_wp2
            go_roundg (gk - 1)
            case rel => exact ⟨q, u * z, by omega, hq1, by omega, hof.2, ob0, ob1, Lib.hid ⟨HST.out, HND.out⟩, rfl, rfl, KP.out⟩
            case measure => omega
          · have hd0 : ((m : Int) % (p : Int) == 0) = false := beq_eq_false_iff_ne.2 (by rw [← Int.natCast_emod]; omega)
            have HND := Lib.hid (HU.out.2.next (fun hd => hdm (Nat.mod_eq_zero_of_dvd hd)) mo po)
            have HUO := Lib.hid HU.out.1
            clear hdm HU
            go_wp2
            go_roundg (60003 - p - 2)
            case rel => exact ⟨m, p + 2, u, .inr ⟨by have := HPS.out; omega, by have := HGK.out; have := HPS.out; omega⟩, m1, m2, mo, by omega, by omega, by omega, u0, u1, Lib.hid ⟨HUO.out, HND.out⟩, rfl, rfl, by go_num, KQ.out⟩
            case measure => have := HGK.out; omega
end Go.Proofs.Ytopfcppmbkidgaa
