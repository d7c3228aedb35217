/- Slices of whole numbers as they lie in memory; the walks of slices.Clone at them, of list, of validFactor, isPrime, slices.Contains, validPrimes, and the reference's Seed and Primes. Condition: the slices lie in memory. -/
import Derived.Test.YtanhjgneaaenpaaEqI
import Derived.Test.YtanhjgneaaenpaaDayMath
namespace Go.Proofs.Ytanhjgneaaenpaa
open Go.RowKit
attribute [local go_sem] Oper.semAt_some
/-- A slice of whole numbers as it lies. -/
def Ints (w : World) (a : Option Addr) (n : Nat) (xs : List Int) : Prop :=
  xs.length = n ∧ (n = 0 ∨ ∃ b off, a = some ⟨b, off, none⟩ ∧ b < w.heap.size ∧ ∀ j, j < n → w.cell? ⟨b, off + j, none⟩ = some (.int .i64 (xs.getD j 0)))

theorem Ints.below {w w' : World} {a : Option Addr} {n : Nat} {xs : List Int} (h : Ints w a n xs) (hb : Below w.heap.size w w') : Ints w' a n xs := by
  refine ⟨h.1, h.2.imp id ?_⟩
  rintro ⟨b, off, h1, h2, h3⟩
  exact ⟨b, off, h1, Nat.lt_of_lt_of_le h2 hb.size, fun j hj => (hb.cell (p := ⟨b, off + j, none⟩) h2).trans (h3 j hj)⟩
theorem Ints.at {w : World} {a : Option Addr} {n : Nat} {xs : List Int} (h : Ints w a n xs) (hn : 0 < n) : ∃ b off, a = some ⟨b, off, none⟩ ∧ b < w.heap.size ∧ ∀ j, j < n → w.cell? ⟨b, off + j, none⟩ = some (.int .i64 (xs.getD j 0)) :=
  h.2.resolve_left (by omega)
theorem Ints.nil (w : World) (a : Option Addr) : Ints w a 0 [] := ⟨rfl, .inl rfl⟩
/-- A copy of the beginning, in memory of the call's own. -/
theorem clone_any (a : Option Addr) (n c : Nat) (xs : List Int) (w : World) (h : Ints w a n xs) (hbig : n ≤ 1000000) :
    Calls Try.prog 44 #[.slice a n c] w fun e w' => ∃ ao co, e = .returned (.slice ao n co) ∧ w'.ownsRow w.heap.size 3 1 (.slice ao n co) n (xs.map (Value.int .i64)) ∧ n ≤ co ∧ co ≤ maxLen ∧ Below w.heap.size w w' := by
  have fin : ∀ (w' : World) v', w'.ownsRow w.heap.size 3 1 v' n (xs.map (Value.int .i64)) → ∃ ao co, v' = .slice ao n co ∧ w'.ownsRow w.heap.size 3 1 (.slice ao n co) n (xs.map (Value.int .i64)) ∧ n ≤ co ∧ co ≤ maxLen := by
    intro w' v' ho
    rcases ho.2 with ⟨h1, h2⟩ | ⟨g, cap, cur, h1, h2, h3, h4, h5, h6, h7⟩
    · subst h1 h2
      exact ⟨none, 0, rfl, ho, Nat.le_refl _, by unfold maxLen; omega⟩
    · subst h1
      exact ⟨_, cap, rfl, ho, h4, h5⟩
  match a, h with
  | none, h =>
    have hn : n = 0 := by
      rcases h.2 with h | ⟨b, off, h, _⟩
      · exact h
      · cases h
    subst hn
    have hx : xs = [] := List.length_eq_zero_iff.1 h.1
    subst hx
    refine (Try.slices_Clone_int_nil 0 c w).mono ?_
    rintro e w' ⟨rfl, rfl⟩
    exact ⟨none, 0, rfl, World.ownsRow_nil _ _ _ _, Nat.le_refl _, by unfold maxLen; omega, Below.refl _ _⟩
  | some ad, h =>
    by_cases hn : n = 0
    · subst hn
      have hx : xs = [] := List.length_eq_zero_iff.1 h.1
      subst hx
      refine (Try.slices_Clone_int_zero ad c w).mono ?_
      rintro e w' ⟨v', rfl, ho, -, hb⟩
      obtain ⟨ao, co, rfl, h1, h2, h3⟩ := fin w' v' ho
      exact ⟨ao, co, rfl, h1, h2, h3, hb⟩
    · obtain ⟨b, off, had, hb, hc⟩ := h.at (by omega)
      cases had
      refine (Try.slices_Clone_int b off n c xs w (by rw [h.1]; exact Nat.le_refl _) (by omega) (fun j hj => hc j (by rw [← h.1]; exact hj))).mono ?_
      rintro e w' ⟨v', rfl, ho, -, hb⟩
      rw [List.take_of_length_le (by rw [h.1]; exact Nat.le_refl _)] at ho
      obtain ⟨ao, co, rfl, h1, h2, h3⟩ := fin w' v' ho
      exact ⟨ao, co, rfl, h1, h2, h3, hb⟩

theorem Ints.front {w : World} {a : Option Addr} {n : Nat} {xs : List Int} (h : Ints w a n xs) (k : Nat) (hk : k ≤ n) : Ints w a k (xs.take k) := by
  refine ⟨by rw [List.length_take, h.1]; omega, ?_⟩
  by_cases h0 : k = 0
  · exact .inl h0
  · obtain ⟨b, off, h1, h2, h3⟩ := h.at (by omega)
    refine .inr ⟨b, off, h1, h2, fun j hj => ?_⟩
    rw [h3 j (by omega)]
    simp [List.getD, hj]

set_option maxHeartbeats 1000000 in
theorem list_any (a : Option Addr) (n c : Nat) (xs : List Int) (w : World) (h : Ints w a n xs) (hc : n ≤ c) (hn : n ≤ 4611686018427387904) (hcm : c ≤ maxLen) :
    Calls Try.prog 27 #[.slice a n c] w fun e w' => ∃ ao co m, e = .returned (.slice ao m co) ∧ m ≤ 12 ∧ w'.ownsRow w.heap.size 3 1 (.slice ao m co) m ((xs.take 12).map (Value.int .i64)) ∧ m ≤ co ∧ co ≤ maxLen ∧ Below w.heap.size w w' := by
  have H := Lib.hid h
  clear h
  have e : (min (n : Int) 12).toNat = min n 12 := by omega
  have hf := H.out.front (min n 12) (by omega)
  have e2 : xs.take (min n 12) = xs.take 12 := by
    rw [List.take_eq_take_iff, H.out.1]; omega
  rw [e2] at hf
  have HF := Lib.hid hf
  have HE := Lib.hid e
  clear e e2 hf
  go_enter Try.func27, Try.ntmps27
  go_wp2_with fail
  rw [HE.out]
  refine (clone_any a (min n 12) c (xs.take 12) w HF.out (by omega)).mono ?_
  rintro e w1 ⟨ao, co, rfl, ho, h1, h2, hb⟩
  have HO := Lib.hid (And.intro ho (And.intro h1 (And.intro h2 hb)))
  clear ho h1 h2 hb
  go_wp2
  go_ret
  exact ⟨ao, co, min n 12, rfl, by omega, HO.out.1, HO.out.2.1, HO.out.2.2.1, HO.out.2.2.2⟩


/-- Is a number a k? -/
def isK (k : Int) : Bool := decide (1 ≤ k) && decide (k ≤ 1000000) && decide (k % 2 = 1)
set_option maxRecDepth 100000 in
set_option maxHeartbeats 4000000 in
theorem validFactor_any (k : Int) (w : World) : Calls Try.prog 63 #[.int .i64 k] w fun e w' => e = .returned (.bool (isK k)) ∧ w' = w := by
  by_cases h1 : 1 ≤ k
  · have h1d : decide (1 ≤ k) = true := by simpa using h1
    by_cases h2 : k ≤ 1000000
    · have h2d : decide (k ≤ 1000000) = true := by simpa using h2
      have e : isK k = (k % 2 == 1) := by unfold isK; rw [h1d, h2d]; rw [Bool.eq_iff_iff]; simp
      rw [e]
      clear e
      go_enter Try.func63, Try.ntmps63
      go_wp2
      go_ret
      exact ⟨rfl, rfl⟩
    · have h2d : decide (k ≤ 1000000) = false := by simpa using h2
      have e : isK k = false := by unfold isK; rw [h1d, h2d]; rfl
      rw [e]
      clear e
      go_enter Try.func63, Try.ntmps63
      go_wp2
      go_ret
      exact ⟨rfl, rfl⟩
  · have h1d : decide (1 ≤ k) = false := by simpa using h1
    have e : isK k = false := by unfold isK; rw [h1d]; rfl
    rw [e]
    clear e
    go_enter Try.func63, Try.ntmps63
    go_wp2
    go_ret
    exact ⟨rfl, rfl⟩
set_option maxRecDepth 100000 in
set_option maxHeartbeats 4000000 in
theorem seed_any (k : Int) (w : World) : Calls Try.prog 35 #[.int .i64 k] w fun e w' => e = .returned (.bool (isK k)) ∧ w' = w := by
  by_cases h1 : 1 ≤ k
  · have h1d : decide (1 ≤ k) = true := by simpa using h1
    by_cases h2 : k ≤ 1000000
    · have h2d : decide (k ≤ 1000000) = true := by simpa using h2
      have e : isK k = (k % 2 == 1) := by unfold isK; rw [h1d, h2d]; rw [Bool.eq_iff_iff]; simp
      rw [e]
      clear e
      go_enter Try.func35, Try.ntmps35
      go_wp2
      go_ret
      exact ⟨rfl, rfl⟩
    · have h2d : decide (k ≤ 1000000) = false := by simpa using h2
      have e : isK k = false := by unfold isK; rw [h1d, h2d]; rfl
      rw [e]
      clear e
      go_enter Try.func35, Try.ntmps35
      go_wp2
      go_ret
      exact ⟨rfl, rfl⟩
  · have h1d : decide (1 ≤ k) = false := by simpa using h1
    have e : isK k = false := by unfold isK; rw [h1d]; rfl
    rw [e]
    clear e
    go_enter Try.func35, Try.ntmps35
    go_wp2
    go_ret
    exact ⟨rfl, rfl⟩
set_option maxRecDepth 100000 in
set_option maxHeartbeats 4000000 in
theorem isPrime_any (p : Nat) (h3 : 3 ≤ p) (h300 : p < 300) (w : World) : Calls Try.prog 72 #[.int .i64 (p : Int)] w fun e w' => e = .returned (.bool (prB p)) ∧ w' = w := by
  obtain ⟨B, hB⟩ : ∃ B, prB p = B := ⟨_, rfl⟩
  rw [hB]
  have HB := Lib.hid hB
  have HR := Lib.hid (pr_root h3 h300)
  have HS := Lib.hid (pr_spec (p := p))
  have p300 : (p : Int) < 300 := by omega
  clear hB
  go_enter Try.func72, Try.ntmps72
  go_wp2
  go_loopg [3] 20 (fun gk s3 wr => ∃ d : Nat, d + gk = 22 ∧ 2 ≤ d ∧ s3 = .int .i64 (d : Int) ∧ (∀ t, 2 ≤ t → t < d → p % t ≠ 0) ∧ wr = w)
  case atStart => exact ⟨2, rfl, by omega, rfl, fun t h1 h2 => by omega, rfl⟩
  case round =>
    obtain ⟨d, hd, hd2, rfl, hall, rfl⟩ := hrel
    have HALL := Lib.hid hall
    have HD := Lib.hid hd
    have d22 : (d : Int) ≤ 22 := by omega
    have d2 : (2 : Int) ≤ (d : Int) := by omega
    clear hall
    have hsq : (d : Int) * (d : Int) = ((d * d : Nat) : Int) := by rw [Int.natCast_mul]
    have hsq2 : d * d ≤ 22 * 22 := Nat.mul_le_mul (by omega) (by omega)
    have q0 : 0 ≤ (d : Int) * (d : Int) := by omega
    have q1 : (d : Int) * (d : Int) ≤ 484 := by omega
    by_cases hle : d * d ≤ p
    · have hlei : (d : Int) * (d : Int) ≤ (p : Int) := by omega
      have hd18 : d < 18 := by
        rcases Nat.lt_or_ge d 18 with h | h
        · exact h
        · have := Nat.mul_le_mul h h; omega
      have d0 : ¬ (d : Int) = 0 := by omega
      have hlt : d < p := by
        have : 2 * d ≤ d * d := Nat.mul_le_mul_right d hd2
        omega
      by_cases hm : p % d = 0
      · have hmi : ((p : Int) % (d : Int) == 0) = true := by
          rw [← Int.natCast_emod, hm]; rfl
        obtain rfl : B = false := by
          rw [← HB.out]
          cases e : prB p with
          | false => rfl
          | true => exact absurd hm (HS.out.1 e d hd2 hlt)
        clear hm hd hsq hsq2 hle
        go_wp2
        go_ret
        exact ⟨rfl, rfl⟩
      · have hmi : ((p : Int) % (d : Int) == 0) = false := by
          rw [← Int.natCast_emod]; simp; omega
        have HM := Lib.hid hm
        clear hm hd hsq hsq2 hle
        go_wp2
        go_roundg (21 - d)
        case rel =>
          refine ⟨d + 1, by omega, by omega, by go_num, fun t h1 h2 => ?_, rfl⟩
          by_cases e : t = d
          · subst e; exact HM.out
          · exact HALL.out t h1 (by omega)
        case measure => have := HD.out; omega
    · have hlei : ¬ (d : Int) * (d : Int) ≤ (p : Int) := by omega
      obtain rfl : B = true := by
        rw [← HB.out]
        refine HR.out fun t h1 h2 => HALL.out t h1 ?_
        rcases Nat.lt_or_ge t d with h | h
        · exact h
        · have := Nat.mul_le_mul h h; omega
      clear hd hsq hsq2 hle
      go_wp2
      go_ret
      exact ⟨rfl, rfl⟩

/-- Does x stand among the first n numbers? -/
def hasB (xs : List Int) (n : Nat) (x : Int) : Bool := (List.range n).any fun i => xs.getD i 0 == x
theorem hasB_succ (xs : List Int) (n : Nat) (x : Int) : hasB xs (n + 1) x = (hasB xs n x || (xs.getD n 0 == x)) := by
  unfold hasB
  rw [List.range_succ, List.any_append]; simp
theorem index_any (a : Option Addr) (n c : Nat) (xs : List Int) (x : Int) (w : World) (h : Ints w a n xs) (hn : n ≤ 1000000) :
    Calls Try.prog 75 #[.slice a n c, .int .i64 x] w fun e w' => ∃ r : Int, e = .returned (.int .i64 r) ∧ decide (0 ≤ r) = hasB xs n x ∧ w' = w := by
  have H := Lib.hid h
  clear h
  go_enter Try.func75, Try.ntmps75
  go_wp2
  go_loopg [5, 8] n (fun gk s5 s8 wr => ∃ j : Nat, j + gk = n ∧ s8 = .int .i64 (j : Int) ∧ hasB xs j x = false ∧ wr = w)
  case atStart => exact ⟨0, by omega, rfl, rfl, rfl⟩
  case round =>
    obtain ⟨j, hj, rfl, hh, rfl⟩ := hrel
    have HJ := Lib.hid hj
    have HH := Lib.hid hh
    clear hh
    by_cases hjn : j = n
    · have hge : ¬ (j : Int) < (n : Int) := by omega
      have hge2 : ¬ j < n := by omega
      have hf := HH.out
      rw [hjn] at hf
      have HF := Lib.hid hf
      clear hjn hj hf
      go_wp2
      go_ret
      exact ⟨-1, rfl, by rw [HF.out]; rfl, rfl⟩
    · have hlt : (j : Int) < (n : Int) := by omega
      have hlt2 : j < n := by omega
      have j0 : (0 : Int) ≤ (j : Int) := by omega
      obtain ⟨b, off, rfl, hbl, hc⟩ := H.out.at (by omega)
      have hcj := hc j hlt2
      obtain ⟨y, hy⟩ : ∃ y, xs.getD j 0 = y := ⟨_, rfl⟩
      rw [hy] at hcj
      have HY := Lib.hid hy
      clear hjn hj hc hy
      by_cases he : x = y
      · have heb : (x == y) = true := by simpa using he
        have HE := Lib.hid (show decide (0 ≤ (j : Int)) = hasB xs n x by
          have e1 : hasB xs n x = true := by
            unfold hasB
            rw [List.any_eq_true]
            exact ⟨j, List.mem_range.2 hlt2, by rw [HY.out, he]; simp⟩
          rw [e1]; simp)
        clear he
        go_wp2
        go_ret
        exact ⟨(j : Int), rfl, HE.out, rfl⟩
      · have heb : (x == y) = false := by simpa using he
        have HE := Lib.hid (show hasB xs (j + 1) x = false by
          rw [hasB_succ, HH.out, HY.out]; simp; exact fun e => he e.symm)
        clear he
        go_wp2
        go_roundg (n - j - 1)
        case rel => exact ⟨j + 1, by omega, by go_num, HE.out, rfl⟩
        case measure => have := HJ.out; omega
theorem contains_any (a : Option Addr) (n c : Nat) (xs : List Int) (x : Int) (w : World) (h : Ints w a n xs) (hn : n ≤ 1000000) :
    Calls Try.prog 73 #[.slice a n c, .int .i64 x] w fun e w' => e = .returned (.bool (hasB xs n x)) ∧ w' = w := by
  have HI := Lib.hid (index_any a n c xs x w h hn)
  clear h
  go_enter Try.func73, Try.ntmps73
  go_wp2_with fail
  refine HI.out.mono ?_
  rintro e w1 ⟨r, rfl, hr, rfl⟩
  have HR := Lib.hid hr
  clear hr
  go_wp2
  go_ret
  exact ⟨ret_bool HR.out, rfl⟩

theorem hasB_take (xs : List Int) (i : Nat) (x : Int) : hasB (xs.take i) i x = hasB xs i x := by
  unfold hasB
  rw [Bool.eq_iff_iff, List.any_eq_true, List.any_eq_true]
  constructor
  · rintro ⟨j, hj, h⟩
    exact ⟨j, hj, by have hji := List.mem_range.1 hj; simpa [List.getD, hji] using h⟩
  · rintro ⟨j, hj, h⟩
    exact ⟨j, hj, by have hji := List.mem_range.1 hj; simpa [List.getD, hji] using h⟩
/-- Is a number one of the primes? -/
def pOk (p : Int) : Bool := decide (3 ≤ p) && decide (p < 300) && prB p.toNat
/-- Are numbers primes, as the chapter says? -/
def psB (xs : List Int) (k : Nat) : Bool := (List.range k).all fun i => pOk (xs.getD i 0) && !hasB xs i (xs.getD i 0)
def isPs (xs : List Int) : Bool := decide (1 ≤ xs.length) && decide (xs.length ≤ 8) && psB xs xs.length
theorem psB_succ (xs : List Int) (k : Nat) : psB xs (k + 1) = (psB xs k && (pOk (xs.getD k 0) && !hasB xs k (xs.getD k 0))) := by
  unfold psB
  rw [List.range_succ, List.all_append]; simp
theorem psB_bad {xs : List Int} {k m : Nat} (hk : k < m) (h : (pOk (xs.getD k 0) && !hasB xs k (xs.getD k 0)) = false) : psB xs m = false := by
  cases e : psB xs m with
  | false => rfl
  | true =>
    unfold psB at e
    rw [List.all_eq_true] at e
    rw [e k (List.mem_range.2 hk)] at h; cases h
theorem pOk_spec {p : Int} : pOk p = true ↔ 3 ≤ p ∧ p < 300 ∧ prB p.toNat = true := by simp [pOk, and_assoc]
theorem isPs_at {xs : List Int} (h : isPs xs = true) {i : Nat} (hi : i < xs.length) : 3 ≤ xs.getD i 0 ∧ xs.getD i 0 < 300 ∧ prB (xs.getD i 0).toNat = true := by
  unfold isPs psB at h
  simp only [Bool.and_eq_true, decide_eq_true_eq, List.all_eq_true, List.mem_range] at h
  exact pOk_spec.1 (h.2 i hi).1
theorem isPs_len {xs : List Int} (h : isPs xs = true) : 1 ≤ xs.length ∧ xs.length ≤ 8 := by
  unfold isPs at h
  simp only [Bool.and_eq_true, decide_eq_true_eq] at h
  exact h.1

set_option maxHeartbeats 8000000 in
theorem validPrimes_any (a : Option Addr) (n c : Nat) (xs : List Int) (w : World) (h : Ints w a n xs) (hc : n ≤ c) (hn : n ≤ 4611686018427387904) :
    Calls Try.prog 64 #[.slice a n c] w fun e w' => e = .returned (.bool (isPs xs)) ∧ w' = w := by
  have H := Lib.hid h
  have HL := Lib.hid h.1
  clear h
  obtain ⟨B, hB⟩ : ∃ B, isPs xs = B := ⟨_, rfl⟩
  rw [hB]
  have HB := Lib.hid hB
  clear hB
  by_cases h1 : n < 1
  · have h1d : decide ((n : Int) < 1) = true := by simp; omega
    have h1i : (n : Int) < 1 := by omega
    obtain rfl : B = false := by rw [← HB.out]; unfold isPs; rw [decide_eq_false (show ¬ 1 ≤ xs.length by have := HL.out; omega)]; rfl
    go_enter Try.func64, Try.ntmps64
    go_wp2
    go_ret
    exact ⟨rfl, rfl⟩
  · have h1d : decide ((n : Int) < 1) = false := by simp; omega
    have h1i : ¬ (n : Int) < 1 := by omega
    by_cases h2 : 8 < n
    · have h2d : decide ((8 : Int) < (n : Int)) = true := by simp; omega
      have h2i : (8 : Int) < (n : Int) := by omega
      obtain rfl : B = false := by rw [← HB.out]; unfold isPs; rw [decide_eq_false (show ¬ xs.length ≤ 8 by have := HL.out; omega), Bool.and_false]; rfl
      go_enter Try.func64, Try.ntmps64
      go_wp2
      go_ret
      exact ⟨rfl, rfl⟩
    · have h2d : decide ((8 : Int) < (n : Int)) = false := by simp; omega
      have h2i : ¬ (8 : Int) < (n : Int) := by omega
      have hps : isPs xs = psB xs n := by
        unfold isPs
        rw [decide_eq_true (show 1 ≤ xs.length by have := HL.out; omega), decide_eq_true (show xs.length ≤ 8 by have := HL.out; omega), HL.out]; rfl
      have HPS := Lib.hid (HB.out.symm.trans hps)
      clear hps
      go_enter Try.func64, Try.ntmps64
      go_wp2
      go_loopg [15] n (fun gk s15 wr => ∃ i : Nat, i + gk = n ∧ s15 = .int .i64 (i : Int) ∧ psB xs i = true ∧ wr = w)
      case atStart => exact ⟨0, by omega, rfl, rfl, rfl⟩
      case round =>
        obtain ⟨i, hi, rfl, hh, rfl⟩ := hrel
        have HI := Lib.hid hi
        have HH := Lib.hid hh
        clear hh
        by_cases hin : i = n
        · have hge : ¬ (i : Int) < (n : Int) := by omega
          have hge2 : ¬ i < n := by omega
          obtain rfl : B = true := by rw [HPS.out, ← hin]; exact HH.out
          clear hin hi
          go_wp2
          go_ret
          exact ⟨rfl, rfl⟩
        · have hlt : (i : Int) < (n : Int) := by omega
          have hlt2 : i < n := by omega
          have j0 : (0 : Int) ≤ (i : Int) := by omega
          obtain ⟨b, off, rfl, hbl, hcc⟩ := H.out.at (by omega)
          have hci := hcc i hlt2
          have hs := psB_succ xs i
          have hbad := fun hh => psB_bad (xs := xs) (k := i) (m := n) hlt2 hh
          have hfr := H.out.front i (by omega)
          have hCT := contains_any (some ⟨b, off, none⟩) i c (xs.take i) (xs.getD i 0) wr hfr (by omega)
          rw [hasB_take] at hCT
          obtain ⟨p, hp⟩ : ∃ p, xs.getD i 0 = p := ⟨_, rfl⟩
          rw [hp] at hci hs hbad hCT
          obtain ⟨T, hT⟩ : ∃ T, hasB xs i p = T := ⟨_, rfl⟩
          rw [hT] at hs hbad hCT
          rw [HH.out, Bool.true_and] at hs
          have HS := Lib.hid hs
          have HBAD := Lib.hid (fun hh => HPS.out.trans (hbad hh))
          have HCT := Lib.hid hCT
          have i1 : (i : Int) ≤ (n : Int) := by omega
          have i2 : (i : Int) ≤ (c : Int) := by omega
          have i3 : i ≤ c := by omega
          clear hin hi hcc hs hbad hfr hCT hp hT
          by_cases g1 : p < 3
          · have g1d : decide (p < 3) = true := by simpa using g1
            obtain rfl : B = false := HBAD.out (by simp [pOk]; omega)
            go_wp2
            go_ret
            exact ⟨rfl, rfl⟩
          · have g1d : decide (p < 3) = false := by simpa using g1
            by_cases g2 : 300 ≤ p
            · have g2d : decide (300 ≤ p) = true := by simpa using g2
              obtain rfl : B = false := HBAD.out (by simp [pOk]; omega)
              go_wp2
              go_ret
              exact ⟨rfl, rfl⟩
            · have g2d : decide (300 ≤ p) = false := by simpa using g2
              obtain ⟨P, rfl⟩ := Int.eq_ofNat_of_zero_le (show 0 ≤ p by omega)
              have HPR := Lib.hid (isPrime_any P (by omega) (by omega) wr)
              have hpk : pOk (P : Int) = prB P := by
                unfold pOk
                rw [decide_eq_true (show (3 : Int) ≤ (P : Int) by omega), decide_eq_true (show (P : Int) < 300 by omega), Int.toNat_natCast]; rfl
              rw [hpk] at HS HBAD
              obtain ⟨R, hR⟩ : ∃ R, prB P = R := ⟨_, rfl⟩
              rw [hR] at HS HBAD HPR
              clear hpk hR
              cases R with
              | false =>
                obtain rfl : B = false := HBAD.out rfl
                go_wp2_with fail
                refine HPR.out.mono ?_
                rintro e w1 ⟨rfl, rfl⟩
                go_wp2
                go_ret
                exact ⟨rfl, rfl⟩
              | true =>
                go_wp2_with fail
                refine HPR.out.mono ?_
                rintro e w1 ⟨rfl, rfl⟩
                go_wp2_with fail
                refine HCT.out.mono ?_
                rintro e w2 ⟨rfl, rfl⟩
                cases T with
                | true =>
                  obtain rfl : B = false := HBAD.out rfl
                  go_wp2
                  go_ret
                  exact ⟨rfl, rfl⟩
                | false =>
                  have HS2 := Lib.hid (show psB xs (i + 1) = true from HS.out)
                  go_wp2
                  go_roundg (n - i - 1)
                  case rel => exact ⟨i + 1, by omega, by go_num, HS2.out, rfl⟩
                  case measure => have := HI.out; omega

set_option maxHeartbeats 8000000 in
theorem primesR_any (a : Option Addr) (n c : Nat) (xs : List Int) (w : World) (h : Ints w a n xs) (hc : n ≤ c) (hn : n ≤ 4611686018427387904) :
    Calls Try.prog 36 #[.slice a n c] w fun e w' => e = .returned (.bool (isPs xs)) ∧ w' = w := by
  have H := Lib.hid h
  have HL := Lib.hid h.1
  clear h
  obtain ⟨B, hB⟩ : ∃ B, isPs xs = B := ⟨_, rfl⟩
  rw [hB]
  have HB := Lib.hid hB
  clear hB
  have hps : isPs xs = (decide (1 ≤ n) && decide (n ≤ 8) && psB xs n) := by unfold isPs; rw [HL.out]
  have HPS := Lib.hid (HB.out.symm.trans hps)
  clear hps
  go_enter Try.func36, Try.ntmps36
  go_wp2
  go_loopg [10] n (fun gk s10 wr => ∃ i : Nat, i + gk = n ∧ s10 = .int .i64 (i : Int) ∧ psB xs i = true ∧ wr = w)
  case atStart => exact ⟨0, by omega, rfl, rfl, rfl⟩
  case round =>
    obtain ⟨i, hi, rfl, hh, hww⟩ := hrel
    have hww2 := hww.symm
    subst hww2
    clear hww
    have HI := Lib.hid hi
    have HH := Lib.hid hh
    clear hh
    by_cases hin : i = n
    · have hge : ¬ (i : Int) < (n : Int) := by omega
      have hge2 : ¬ i < n := by omega
      have hpn := HH.out
      rw [hin] at hpn
      have hBB : B = (decide (1 ≤ n) && decide (n ≤ 8)) := by rw [HPS.out, hpn, Bool.and_true]
      clear hin hi hpn
      by_cases h1 : 1 ≤ n
      · have h1d : decide ((1 : Int) ≤ (n : Int)) = true := by simp; omega
        by_cases h8 : n ≤ 8
        · have h8d : decide ((n : Int) ≤ 8) = true := by simp; omega
          have h8i : (n : Int) ≤ 8 := by omega
          obtain rfl : B = true := by rw [hBB, decide_eq_true h1, decide_eq_true h8]; rfl
          clear hBB
          go_wp2
          go_ret
          exact ⟨rfl, rfl⟩
        · have h8d : decide ((n : Int) ≤ 8) = false := by simp; omega
          have h8i : ¬ (n : Int) ≤ 8 := by omega
          obtain rfl : B = false := by rw [hBB, decide_eq_false h8, Bool.and_false]
          clear hBB
          go_wp2
          go_ret
          exact ⟨rfl, rfl⟩
      · have h1d : decide ((1 : Int) ≤ (n : Int)) = false := by simp; omega
        have h1i : ¬ (1 : Int) ≤ (n : Int) := by omega
        obtain rfl : B = false := by rw [hBB, decide_eq_false h1]; rfl
        clear hBB
        go_wp2
        go_ret
        exact ⟨rfl, rfl⟩
    · have hlt : (i : Int) < (n : Int) := by omega
      have hlt2 : i < n := by omega
      have j0 : (0 : Int) ≤ (i : Int) := by omega
      obtain ⟨b, off, rfl, hbl, hcc⟩ := H.out.at (by omega)
      have hci := hcc i hlt2
      have HCC := Lib.hid hcc
      have hs := psB_succ xs i
      have hbad := fun hh => psB_bad (xs := xs) (k := i) (m := n) hlt2 hh
      obtain ⟨p, hp⟩ : ∃ p, xs.getD i 0 = p := ⟨_, rfl⟩
      rw [hp] at hci hs hbad
      rw [HH.out, Bool.true_and] at hs
      have HS := Lib.hid hs
      have HBAD := Lib.hid (fun hh => show B = false by rw [HPS.out, hbad hh, Bool.and_false])
      have i1 : (i : Int) ≤ (n : Int) := by omega
      have i2 : (i : Int) ≤ (c : Int) := by omega
      have i3 : i ≤ c := by omega
      clear hin hi hcc hs hbad hp
      by_cases g1 : p < 3
      · have g1d : decide (p < 3) = true := by simpa using g1
        obtain rfl : B = false := HBAD.out (by simp [pOk]; omega)
        go_wp2
        go_ret
        exact ⟨rfl, rfl⟩
      · have g1d : decide (p < 3) = false := by simpa using g1
        by_cases g2 : 300 ≤ p
        · have g2d : decide (300 ≤ p) = true := by simpa using g2
          obtain rfl : B = false := HBAD.out (by simp [pOk]; omega)
          go_wp2
          go_ret
          exact ⟨rfl, rfl⟩
        · have g2d : decide (300 ≤ p) = false := by simpa using g2
          obtain ⟨P, rfl⟩ := Int.eq_ofNat_of_zero_le (show 0 ≤ p by omega)
          have hpk : pOk (P : Int) = prB P := by
            unfold pOk
            rw [decide_eq_true (show (3 : Int) ≤ (P : Int) by omega), decide_eq_true (show (P : Int) < 300 by omega), Int.toNat_natCast]; rfl
          rw [hpk] at HS HBAD
          have HSP := Lib.hid (pr_spec (p := P))
          have P300 : (P : Int) < 300 := by omega
          have P3 : (3 : Int) ≤ (P : Int) := by omega
          clear hpk
          go_wp2
          go_loopg [5] 300 (fun gk s5 wr => ∃ d : Nat, d + gk = 302 ∧ 2 ≤ d ∧ s5 = .int .i64 (d : Int) ∧ (∀ t, 2 ≤ t → t < d → P % t ≠ 0) ∧ wr = w)
          case atStart => exact ⟨2, rfl, by omega, rfl, fun t h1 h2 => by omega, rfl⟩
          case round =>
            obtain ⟨d, hd, hd2, rfl, hall, hww⟩ := hrel
            have hww2 := hww.symm
            subst hww2
            clear hww
            have HALL := Lib.hid hall
            have HD := Lib.hid hd
            clear hall
            by_cases hdP : d < P
            · have hdPi : (d : Int) < (P : Int) := by omega
              have d0 : ¬ (d : Int) = 0 := by omega
              by_cases hm : P % d = 0
              · have hmi : ((P : Int) % (d : Int) == 0) = true := by
                  rw [← Int.natCast_emod, hm]; rfl
                obtain rfl : B = false := HBAD.out (by
                  cases e : prB P with
                  | false => rfl
                  | true => exact absurd hm (HSP.out.1 e d hd2 hdP))
                clear hm hd
                go_wp2
                go_ret
                exact ⟨rfl, rfl⟩
              · have hmi : ((P : Int) % (d : Int) == 0) = false := by
                  rw [← Int.natCast_emod]; simp; omega
                have HM := Lib.hid hm
                clear hm hd
                go_wp2
                go_roundg (301 - d)
                case rel =>
                  refine ⟨d + 1, by have := HD.out; omega, by omega, by go_num, fun t h1 h2 => ?_, rfl⟩
                  by_cases e : t = d
                  · subst e; exact HM.out
                  · exact HALL.out t h1 (by omega)
                case measure => have := HD.out; omega
            · have hdPi : ¬ (d : Int) < (P : Int) := by omega
              have hpr : prB P = true := HSP.out.2 fun t h1 h2 => HALL.out t h1 (by omega)
              rw [hpr] at HS HBAD
              clear hd hdP hpr
              go_wp2
              go_loopg [34] i (fun gk s34 wr => ∃ j : Nat, j + gk = i ∧ s34 = .int .i64 (j : Int) ∧ hasB xs j (P : Int) = false ∧ wr = w)
              case atStart => exact ⟨0, by omega, rfl, rfl, rfl⟩
              case round =>
                obtain ⟨j, hj, rfl, hhj, hww⟩ := hrel
                have hww2 := hww.symm
                subst hww2
                clear hww
                have HJ := Lib.hid hj
                have HHJ := Lib.hid hhj
                clear hhj
                by_cases hji : j = i
                · have hge : ¬ (j : Int) < (i : Int) := by omega
                  have hge2 : ¬ j < i := by omega
                  have hf := HHJ.out
                  rw [hji] at hf
                  have HS2 := Lib.hid (show psB xs (i + 1) = true by rw [HS.out, hf]; rfl)
                  clear hji hj hf
                  go_wp2
                  go_roundg (n - i - 1)
                  case rel => exact ⟨i + 1, by have := HI.out; omega, by go_num, HS2.out, rfl⟩
                  case measure => have := HI.out; omega
                · have hjlt : (j : Int) < (i : Int) := by omega
                  have hjlt2 : j < i := by omega
                  have jj0 : (0 : Int) ≤ (j : Int) := by omega
                  have hcj := HCC.out j (by omega)
                  obtain ⟨q, hq⟩ : ∃ q, xs.getD j 0 = q := ⟨_, rfl⟩
                  rw [hq] at hcj
                  have HQ := Lib.hid hq
                  clear hji hj hq
                  by_cases he : (P : Int) = q
                  · have heb : ((P : Int) == q) = true := by simpa using he
                    obtain rfl : B = false := HBAD.out (by
                      have : hasB xs i (P : Int) = true := by
                        unfold hasB
                        rw [List.any_eq_true]
                        exact ⟨j, List.mem_range.2 hjlt2, by rw [HQ.out, he]; simp⟩
                      rw [this]; rfl)
                    clear he
                    go_wp2
                    go_ret
                    exact ⟨rfl, rfl⟩
                  · have heb : ((P : Int) == q) = false := by simpa using he
                    have HE := Lib.hid (show hasB xs (j + 1) (P : Int) = false by
                      rw [hasB_succ, HHJ.out, HQ.out]; simp; exact fun e => he e.symm)
                    clear he
                    go_wp2
                    go_roundg (i - j - 1)
                    case rel => exact ⟨j + 1, by have := HJ.out; omega, by go_num, HE.out, rfl⟩
                    case measure => have := HJ.out; omega
end Go.Proofs.Ytanhjgneaaenpaa
