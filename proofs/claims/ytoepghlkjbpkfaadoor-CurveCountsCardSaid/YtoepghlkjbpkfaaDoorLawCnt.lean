/- The law CurveCounts: it returns true, whatever its argument is. Condition: the far point lies in memory. -/
import Derived.Test.YtoepghlkjbpkfaaDoorCntA
import Derived.Test.YtoepghlkjbpkfaaDoorCntR
import Derived.Test.YtoepghlkjbpkfaaDoorAsk
namespace Go.Proofs.YtoepghlkjbpkfaaDoor
open Go.RowKit
attribute [local go_sem] Oper.semAt_some

theorem elem78 : (Tryd.prog.info? 3).isSome = true := by kernel_rfl
theorem part0 (x y : Int) (w : World) : (part 3 #[.int .i64 x, .int .i64 y] (0 * 1)).run Tryd.prog w = .ok (.int .i64 x) w := by kernel_rfl
theorem part1 (x y : Int) (w : World) : (part 3 #[.int .i64 x, .int .i64 y] (1 * 1)).run Tryd.prog w = .ok (.int .i64 y) w := by kernel_rfl
theorem equal78 (x y u v : Int) (w : World) : (Op.equalIn 10000 78 (.agg #[.int .i64 x, .int .i64 y]) (.agg #[.int .i64 u, .int .i64 v])).run Tryd.prog w = .ok (x == u && y == v) w := by
  obtain ⟨i, hi⟩ := Option.isSome_iff_exists.1 elem78
  rw [run_equalIn_array w 9999 _ _ Tryd.underlying78 hi, cells3']
  have e3 : ∀ (a b : Int) (w : World), (Op.equalIn 9999 3 (.int .i64 a) (.int .i64 b)).run Tryd.prog w = .ok (a == b) w := fun a b w => run_equalIn_int w 9998 3 .i64 .i64 a b Tryd.underlying3
  rw [show List.range 2 = [0, 1] from rfl]
  simp only [Op.eqItems, Sem.run_bind, part0, part1, e3, Result.andThen_ok, Sem.run_ite, Sem.run_pure]
  cases h1 : (x == u) <;> cases h2 : (y == v) <;> simp
theorem neq78 (w : World) (p q : Int × Int) : (binOp .neq 78 (.agg #[.int .i64 p.1, .int .i64 p.2]) (.agg #[.int .i64 q.1, .int .i64 q.2])).run Tryd.prog w = .ok (.bool (!(p.1 == q.1 && p.2 == q.2))) w := by
  rw [run_neq_struct, equal78]; rfl

set_option maxHeartbeats 8000000 in
set_option maxRecDepth 100000 in
theorem equalQ_same (a1 a2 : Option Addr) (n c1 c2 : Nat) (S : List (Int × Int)) (w : World) (h1 : AgQ w a1 n S) (h2 : AgQ w a2 n S) (hl1 : n ≤ 1000) :
    Calls Tryd.prog 50 #[.slice a1 n c1, .slice a2 n c2] w fun e w' => e = .returned (.bool true) ∧ Below w.heap.size w w' := by
  have HB := Lib.hid (Below.refl w.heap.size w)
  have H1 := Lib.hid h1
  have H2 := Lib.hid h2
  clear h1 h2
  go_enter Tryd.func50, Tryd.ntmps50
  go_wp2
  go_loopg [5, 13] n (fun gk s5 s13 wr => ∃ k q : Nat, k + gk = n ∧ s13 = .int .i64 (k : Int) ∧ wr = w.drewN q)
  case atStart => exact ⟨0, 0, by omega, rfl, rfl⟩
  case round =>
    obtain ⟨k, q, hk, rfl, rfl⟩ := hrel
    have HK := Lib.hid hk
    by_cases hlt : k < n
    · have l1 : (k : Int) < (n : Int) := by omega
      have l0 : (0 : Int) ≤ (k : Int) := by omega
      obtain ⟨b1, o1, rfl, -, hc1⟩ := H1.out.2.resolve_left (by omega)
      obtain ⟨b2, o2, rfl, -, hc2⟩ := H2.out.2.resolve_left (by omega)
      obtain ⟨t0, t1⟩ := hc1 k hlt
      obtain ⟨s0, s1⟩ := hc2 k hlt
      obtain ⟨⟨x0, x1⟩, hx⟩ : ∃ x, S.getD k (0, 0) = x := ⟨_, rfl⟩
      rw [hx] at t0 t1 s0 s1
      simp only at t0 t1 s0 s1
      have hne := fun w => neq78 w (x0, x1) (x0, x1)
      simp only [beq_self_eq_true, Bool.and_self, Bool.not_true] at hne
      clear hx hk hc1 hc2
      go_wp2
      go_quiet (fail)
      go_wp2
      go_roundg (gk - 1)
      case rel => exact ⟨k + 1, _, by have := HK.out; omega, by go_num, by first | rfl | rw [World.drewN_drewN]⟩
      case measure => have := HK.out; omega
    · have l1 : decide ((k : Int) < (n : Int)) = false := decide_eq_false (by omega)
      clear hk
      go_wp2
      go_ret
      exact ⟨ret_bool rfl, below_drewN HB.out _⟩

set_option maxHeartbeats 4000000 in
theorem Counts_yes (N : Nat) (hm : isM (N : Int) = true) (hP : 5 ≤ N ∧ N ≤ 31) (w : World) (hF : Far w) :
    Calls Tryd.prog 48 #[.int .i64 (N : Int)] w fun e w' => (∃ v', e = .returned (.tuple #[v', .int .i64 0]) ∧ RowQ w.heap.size v' (cntL N) w') ∧ Below w.heap.size w w' := by
  have HX := Lib.hid (fun W => isModulus_any (N : Int) W)
  rw [hm] at HX
  have HC := Lib.hid (fun W hF => counts_any N hP W hF)
  have HF := Lib.hid hF
  clear hm hP hF
  go_enter Tryd.func48, Tryd.ntmps48
  go_wp2_with fail
  refine (HX.out _).mono ?_
  rintro e w1 ⟨rfl, hw⟩
  rw [hw]
  clear hw w1
  go_wp2_with fail
  refine (HC.out _ HF.out).mono ?_
  rintro e w2 ⟨⟨v', rfl, hr⟩, hb⟩
  have HB2 := Lib.hid hb
  have HR := Lib.hid hr
  clear hb hr
  go_wp2
  go_ret2
  exact ⟨⟨_, rfl, HR.out⟩, HB2.out⟩

set_option maxHeartbeats 4000000 in
theorem Counts_no (p : Int) (hm : isM p = false) (w : World) :
    Calls Tryd.prog 48 #[.int .i64 p] w fun e w' => e = .returned (.tuple #[.slice none 0 0, .int .i64 2]) ∧ Below w.heap.size w w' := by
  have HX := Lib.hid (fun W => isModulus_any p W)
  rw [hm] at HX
  have HB := Lib.hid (Below.refl w.heap.size w)
  clear hm
  go_enter Tryd.func48, Tryd.ntmps48
  go_wp2_with fail
  refine (HX.out _).mono ?_
  rintro e w1 ⟨rfl, hw⟩
  rw [hw]
  clear hw w1
  go_wp2
  go_ret2
  exact ⟨rfl, HB.out⟩

set_option maxHeartbeats 8000000 in
set_option maxRecDepth 100000 in
theorem lawCounts_no (p : Int) (hm : isM p = false) (w : World) (hF : Far w) :
    Calls Tryd.prog 8 #[.int .i64 p] w fun e w' => e = .returned (.bool true) ∧ Below w.heap.size w w' := by
  have HAw := Lib.hid (fun W hF => awake_any W hF)
  have HC := Lib.hid (fun W => Counts_no p hm W)
  have HX := Lib.hid (fun W => primeR_any p W)
  rw [hm] at HX
  have HF := Lib.hid hF
  clear hm hF
  go_enter Tryd.func8, Tryd.ntmps8
  go_wp2_with fail
  refine (HC.out _).mono ?_
  rintro e w1 ⟨rfl, hb⟩
  have HB1 := Lib.hid hb
  have HF1 := Lib.hid (HF.out.below hb)
  clear hb
  go_wp2_with fail
  refine (HX.out _).mono ?_
  rintro e w2 ⟨rfl, hw⟩
  rw [hw]
  clear hw w2
  go_wp2_with fail
  refine (HAw.out _ HF1.out).mono ?_
  rintro e w3 ⟨rfl, hb⟩
  have HB3 := Lib.hid (HB1.out.trans (hb.mono HB1.out.size))
  clear hb
  go_wp2
  go_ret
  exact ⟨ret_bool (by simp), HB3.out⟩

set_option maxHeartbeats 8000000 in
set_option maxRecDepth 100000 in
theorem lawCounts_yes (N : Nat) (hm : isM (N : Int) = true) (w : World) (hF : Far w) :
    Calls Tryd.prog 8 #[.int .i64 (N : Int)] w fun e w' => e = .returned (.bool true) ∧ Below w.heap.size w w' := by
  have hP : 5 ≤ N ∧ N ≤ 31 := by have := isM_le hm; omega
  have HAw := Lib.hid (fun W hF => awake_any W hF)
  have HC := Lib.hid (fun W hF => Counts_yes N hm hP W hF)
  have HCR := Lib.hid (fun W => countsR_any N hP W)
  have HX := Lib.hid (fun W => primeR_any (N : Int) W)
  rw [hm] at HX
  have HF := Lib.hid hF
  have hlen := cntL_len hP.2
  clear hm hF hP
  obtain ⟨L, hL⟩ : ∃ L, cntL N = L := ⟨_, rfl⟩
  rw [hL] at HC HCR hlen
  have HEQ := Lib.hid (fun a1 a2 c1 c2 W (h1 : AgQ W a1 L.length L) (h2 : AgQ W a2 L.length L) => equalQ_same a1 a2 L.length c1 c2 L W h1 h2 (by omega))
  obtain ⟨n, hn⟩ : ∃ n, L.length = n := ⟨_, rfl⟩
  have HN := Lib.hid hn
  rw [hn] at HEQ hlen
  clear hL
  go_enter Tryd.func8, Tryd.ntmps8
  go_wp2_with fail
  refine (HC.out _ HF.out).mono ?_
  rintro e w1 ⟨⟨v1, rfl, hr⟩, hb⟩
  have HB1 := Lib.hid hb
  have HF1 := Lib.hid (HF.out.below hb)
  obtain ⟨a1, c1, rfl, -, -, hag⟩ := AgQ.of hr
  rw [hn] at hag ⊢
  have HA1 := Lib.hid hag
  clear hb hr hag
  go_wp2_with fail
  refine (HX.out _).mono ?_
  rintro e w2 ⟨rfl, hw⟩
  rw [hw]
  clear hw w2
  go_wp2_with fail
  refine (HCR.out _).mono ?_
  rintro e w3 ⟨⟨v2, rfl, hr⟩, hb⟩
  have HB3 := Lib.hid (HB1.out.trans (hb.mono HB1.out.size))
  have HF3 := Lib.hid (HF1.out.below hb)
  have HA3 := Lib.hid (HA1.out.later hb)
  obtain ⟨a2, c2, rfl, -, -, hag⟩ := AgQ.of hr
  rw [hn] at hag ⊢
  have HA2 := Lib.hid hag
  clear hb hr hag hn
  go_wp2_with fail
  refine (HEQ.out a1 a2 c1 c2 _ HA3.out HA2.out).mono ?_
  rintro e w4 ⟨rfl, hb⟩
  have HB4 := Lib.hid (HB3.out.trans (hb.mono HB3.out.size))
  have HF4 := Lib.hid (HF3.out.below hb)
  clear hb
  go_wp2_with fail
  refine (HAw.out _ HF4.out).mono ?_
  rintro e w5 ⟨rfl, hb⟩
  have HB5 := Lib.hid (HB4.out.trans (hb.mono HB4.out.size))
  clear hb
  go_wp2
  go_ret
  exact ⟨ret_bool (by simp), HB5.out⟩

theorem lawCounts_any (p : Int) (w : World) (hF : Far w) :
    Calls Tryd.prog 8 #[.int .i64 p] w fun e w' => e = .returned (.bool true) ∧ Below w.heap.size w w' := by
  cases hm : isM p with
  | false => exact lawCounts_no p hm w hF
  | true =>
    have := isM_le hm
    obtain ⟨N, rfl⟩ : ∃ N : Nat, p = N := ⟨p.toNat, by omega⟩
    exact lawCounts_yes N hm w hF
end Go.Proofs.YtoepghlkjbpkfaaDoor
