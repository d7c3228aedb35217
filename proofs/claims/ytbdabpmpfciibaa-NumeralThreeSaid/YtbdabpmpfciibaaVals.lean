/- The walks of numeral.validNumeral, total and Value, and of the reference's Valid, Value, sized and Told. Condition: the slices lie in memory. -/
import Derived.Test.YtbdabpmpfciibaaCode
namespace Go.Proofs.Ytbdabpmpfciibaa
open Go.RowKit
attribute [local go_sem] Oper.semAt_some

theorem ret_two {k l : IntKind} {a b c d : Int} (h : a = b) (h2 : c = d) : Ending.returned (.tuple #[.int k a, .int l c]) = .returned (.tuple #[.int k b, .int l d]) := by rw [h, h2]
theorem ret_one_two {k : IntKind} {a b : Int} {v : Value} (h : a = b) : Ending.returned (.tuple #[v, .int k a]) = .returned (.tuple #[v, .int k b]) := by rw [h]
set_option maxHeartbeats 1000000 in
theorem validNumeral_any (a : Option Addr) (n c : Nat) (xs : List Int) (w : World) (h : Ints w a n xs) (hn : n ≤ 4611686018427387904) :
    Calls Try.prog 66 #[.slice a n c] w fun e w' => e = .returned (.bool (isN xs)) ∧ w' = w := by
  have H := Lib.hid h
  have HL := Lib.hid h.1
  clear h
  go_enter Try.func66, Try.ntmps66
  go_wp2
  go_loopg [3, 8] n (fun gk hi i wr => ∃ (k : Nat) (f : Int), k + gk = n ∧ i = .int .i64 (k : Int) ∧ hi = .int .i64 f ∧ 0 ≤ f ∧ f ≤ 60 ∧ isN xs = okN f (xs.drop k) ∧ wr = w)
  case atStart => exact ⟨0, 60, by omega, rfl, rfl, by omega, by omega, rfl, rfl⟩
  case round =>
    obtain ⟨k, f, hk, rfl, rfl, hf0, hf1, hp, rfl⟩ := hrel
    have HP := Lib.hid hp
    clear hp
    by_cases hkn : k = n
    · have hge : ¬ (k : Int) < (n : Int) := by omega
      have hge2 : ¬ k < n := by omega
      have hP : isN xs = true := by
        rw [HP.out, List.drop_of_length_le (by have := HL.out; omega)]
        rfl
      have HPf := Lib.hid hP
      clear hkn hP
      go_wp2
      go_ret
      exact ⟨ret_bool HPf.out.symm, rfl⟩
    · have hlt : (k : Int) < (n : Int) := by omega
      have hlt2 : k < n := by omega
      obtain ⟨b, off, rfl, hb, hc⟩ := H.out.at (by omega)
      have hck := hc k hlt2
      have hdr := drop_cons (l := xs) (j := k) (by have := HL.out; omega)
      have hp := HP.out
      rw [hdr] at hp
      obtain ⟨x, hx⟩ : ∃ x, xs.getD k 0 = x := ⟨_, rfl⟩
      rw [hx] at hck hp
      have HPP := Lib.hid hp
      have k0 : (0 : Int) ≤ (k : Int) := by omega
      by_cases h1 : x < 2
      · have hP : isN xs = false := by rw [HPP.out]; exact okN_no (by omega)
        have HPf := Lib.hid hP
        clear hP hp hdr hc hkn hx
        go_wp2
        go_ret
        exact ⟨ret_bool HPf.out.symm, rfl⟩
      · by_cases h2 : f < x
        · have hP : isN xs = false := by rw [HPP.out]; exact okN_no (by omega)
          have HPf := Lib.hid hP
          clear hP hp hdr hc hkn hx
          go_wp2
          go_ret
          exact ⟨ret_bool HPf.out.symm, rfl⟩
        · have hP : isN xs = okN (x - 2) (xs.drop (k + 1)) := by rw [HPP.out, okN_yes (by omega) (by omega)]
          have HPn := Lib.hid hP
          clear hP hp hdr hc hkn hx
          go_wp2
          go_roundg (gk - 1)
          case rel => exact ⟨k + 1, x - 2, by omega, by go_num, rfl, by omega, by omega, HPn.out, rfl⟩
          case measure => omega

set_option maxHeartbeats 1000000 in
theorem refValid_any (a : Option Addr) (n c : Nat) (xs : List Int) (w : World) (h : Ints w a n xs) (hn : n ≤ 4611686018427387904) :
    Calls Try.prog 26 #[.slice a n c] w fun e w' => e = .returned (.bool (isN xs)) ∧ w' = w := by
  have H := Lib.hid h
  have HL := Lib.hid h.1
  clear h
  go_enter Try.func26, Try.ntmps26
  go_wp2
  go_loopg [7] n (fun gk i wr => ∃ (k : Nat), k + gk = n ∧ i = .int .i64 (k : Int) ∧ isN xs = okN (if k = 0 then 60 else xs.getD (k - 1) 0 - 2) (xs.drop k) ∧ (k ≠ 0 → 2 ≤ xs.getD (k - 1) 0 ∧ xs.getD (k - 1) 0 ≤ 60) ∧ wr = w)
  case atStart => exact ⟨0, by omega, rfl, rfl, fun h => absurd rfl h, rfl⟩
  case round =>
    obtain ⟨k, hk, rfl, hp, hbd, rfl⟩ := hrel
    have HP := Lib.hid hp
    have HBD := Lib.hid hbd
    clear hp hbd
    by_cases hkn : k = n
    · have hge : ¬ (k : Int) < (n : Int) := by omega
      have hge2 : ¬ k < n := by omega
      have hP : isN xs = true := by
        rw [HP.out, List.drop_of_length_le (by have := HL.out; omega)]
        rfl
      have HPf := Lib.hid hP
      clear hkn hP
      go_wp2
      go_ret
      exact ⟨ret_bool HPf.out.symm, rfl⟩
    · have hlt : (k : Int) < (n : Int) := by omega
      have hlt2 : k < n := by omega
      obtain ⟨b, off, rfl, hb, hc⟩ := H.out.at (by omega)
      have hck := hc k hlt2
      have hdr := drop_cons (l := xs) (j := k) (by have := HL.out; omega)
      have hp := HP.out
      rw [hdr] at hp
      obtain ⟨x, hx⟩ : ∃ x, xs.getD k 0 = x := ⟨_, rfl⟩
      rw [hx] at hck hp
      have HPP := Lib.hid hp
      have HX := Lib.hid hx
      have k0 : (0 : Int) ≤ (k : Int) := by omega
      by_cases hk0 : k = 0
      · have g0 : ¬ (0 : Int) < (k : Int) := by omega
        have hp2 := HPP.out
        rw [if_pos hk0] at hp2
        have HQ := Lib.hid hp2
        clear hp2 hp hdr hc hkn hx hk0
        by_cases h1 : x < 2
        · have hP : isN xs = false := by rw [HQ.out]; exact okN_no (by omega)
          have HPf := Lib.hid hP
          clear hP
          go_wp2
          go_ret
          exact ⟨ret_bool HPf.out.symm, rfl⟩
        · by_cases h2 : 60 < x
          · have hP : isN xs = false := by rw [HQ.out]; exact okN_no (by omega)
            have HPf := Lib.hid hP
            clear hP
            go_wp2
            go_ret
            exact ⟨ret_bool HPf.out.symm, rfl⟩
          · have hP : isN xs = okN (x - 2) (xs.drop (k + 1)) := by rw [HQ.out, okN_yes (by omega) (by omega)]
            have HPn := Lib.hid hP
            clear hP
            go_wp2
            go_roundg (gk - 1)
            case rel =>
              refine ⟨k + 1, by omega, by go_num, ?_, fun _ => ?_, rfl⟩
              · rw [if_neg (by omega), Nat.add_sub_cancel, HX.out]
                exact HPn.out
              · rw [Nat.add_sub_cancel, HX.out]; omega
            case measure => omega
      · have g0 : (0 : Int) < (k : Int) := by omega
        obtain ⟨j, hj⟩ : ∃ j, k = j + 1 := ⟨k - 1, by omega⟩
        have hidx : (k : Int) - 1 = (j : Int) := by omega
        have hcj := hc j (by omega)
        have hj2 : j < n := by omega
        have hj3 : (j : Int) < (n : Int) := by omega
        have hj0 : (0 : Int) ≤ (j : Int) := by omega
        obtain ⟨y, hy⟩ : ∃ y, xs.getD j 0 = y := ⟨_, rfl⟩
        rw [hy] at hcj
        have hpy : xs.getD (k - 1) 0 = y := by rw [hj, Nat.add_sub_cancel]; exact hy
        have hp2 := HPP.out
        have hbd2 := HBD.out hk0
        rw [if_neg hk0, hpy] at hp2
        rw [hpy] at hbd2
        have HQ := Lib.hid hp2
        obtain ⟨hy2, hy60⟩ := hbd2
        clear hp2 hp hdr hc hkn hx hk0 hj hy hpy
        by_cases h1 : x < 2
        · have hP : isN xs = false := by rw [HQ.out]; exact okN_no (by omega)
          have HPf := Lib.hid hP
          clear hP
          go_wp2
          go_ret
          exact ⟨ret_bool HPf.out.symm, rfl⟩
        · by_cases h2 : 60 < x
          · have hP : isN xs = false := by rw [HQ.out]; exact okN_no (by omega)
            have HPf := Lib.hid hP
            clear hP
            go_wp2
            go_ret
            exact ⟨ret_bool HPf.out.symm, rfl⟩
          · by_cases h3 : y < x + 2
            · have hP : isN xs = false := by rw [HQ.out]; exact okN_no (by omega)
              have HPf := Lib.hid hP
              clear hP
              go_wp2
              go_ret
              exact ⟨ret_bool HPf.out.symm, rfl⟩
            · have hP : isN xs = okN (x - 2) (xs.drop (k + 1)) := by rw [HQ.out, okN_yes (by omega) (by omega)]
              have HPn := Lib.hid hP
              clear hP
              go_wp2
              go_roundg (gk - 1)
              case rel =>
                refine ⟨k + 1, by omega, by go_num, ?_, fun _ => ?_, rfl⟩
                · rw [if_neg (by omega), Nat.add_sub_cancel, HX.out]
                  exact HPn.out
                · rw [Nat.add_sub_cancel, HX.out]; omega
              case measure => omega

/-- Indices that total takes: from 2 on. -/
def allTwo (xs : List Int) : Prop := ∀ j, j < xs.length → 2 ≤ xs.getD j 0
theorem isN_two {xs : List Int} (h : isN xs = true) : allTwo xs := fun j hj => (okN_mem xs 60 h _ (getD_mem hj)).1
theorem min_60 (x : Int) (h : 2 ≤ x) : ∃ k : Nat, min x 60 = (k : Int) ∧ 2 ≤ k ∧ k < 61 ∧ fibI (min x 60) = fibN k := by
  obtain ⟨k, hk⟩ : ∃ k : Nat, min x 60 = (k : Int) := ⟨(min x 60).toNat, by omega⟩
  exact ⟨k, hk, by omega, by omega, by rw [hk, fibI_nat]⟩

set_option maxHeartbeats 4000000 in
set_option maxRecDepth 100000 in
theorem total_any (a : Option Addr) (n c : Nat) (xs : List Int) (w : World) (h : Ints w a n xs) (hn : n ≤ 4611686018427387904) (h2 : allTwo xs) :
    Calls Try.prog 67 #[.slice a n c] w fun e w' => e = .returned (.tuple #[.int .i64 (totV xs), .int .i64 (totE xs)]) ∧ Below w.heap.size w w' := by
  have H := Lib.hid h
  have HL := Lib.hid h.1
  have H2 := Lib.hid h2
  clear h h2
  go_enter Try.func67, Try.ntmps67
  go_wp2_with fail
  refine (fibonacci_any _).mono ?_
  rintro e w1 ⟨rfl, hb⟩
  have HB := Lib.hid hb
  have sl := fibArr_size
  have hi : (Try.prog.info? 88).map (·.size) = some fibArr.size := by rw [size88, sl]
  have HI := Lib.hid hi
  clear hb sl hi
  go_wp2_with (refine wpList_store_row rfl 88 (.tmp 4) (.tmp 8) rfl w1.heap.size fibArr _ rfl rfl (heap_alloc_last w1 _) HI.out (by rw [fibArr_size]; rfl) fibArr_one ?_)
  rw [World.setRow_alloc_new]
  obtain ⟨W1, hW1⟩ : ∃ W1, w1.alloc (.cells fibArr 88) = W1 := ⟨_, rfl⟩
  obtain ⟨g, hg⟩ : ∃ g, w1.heap.size = g := ⟨_, rfl⟩
  have hF : W1.heap[g]? = some (.cells fibArr 88 (0, 0)) := by
    rw [← hW1, ← hg]
    exact heap_alloc_last w1 _
  have hBB : Below w.heap.size w W1 := hW1 ▸ HB.out.alloc HB.out.size _
  have HF := Lib.hid hF
  have HBB := Lib.hid hBB
  rw [hW1, hg]
  clear hW1 hg hF hBB HB HI
  go_loopg [5, 11] n (fun gk s i wr => ∃ (k : Nat), k + gk = n ∧ i = .int .i64 (k : Int) ∧ s = .int .i64 (capF (xs.take k)) ∧ capF (xs.take k) ≤ 1000000000000 ∧ wr = W1)
  case atStart => exact ⟨0, by omega, rfl, rfl, by rw [List.take_zero, capF]; omega, rfl⟩
  case round =>
    obtain ⟨k, hk, rfl, rfl, hs, rfl⟩ := hrel
    have hs0 := capF_nonneg (xs.take k)
    by_cases hkn : k = n
    · have hge : ¬ (k : Int) < (n : Int) := by omega
      have hge2 : ¬ k < n := by omega
      have hlen : xs.take k = xs := List.take_of_length_le (by have := HL.out; omega)
      rw [hlen] at hs hs0 ⊢
      obtain ⟨e1, e2⟩ := tot_small hs
      have HE := Lib.hid (And.intro e1 e2)
      clear hkn e1 e2 hlen
      obtain ⟨S, hS⟩ : ∃ S, capF xs = S := ⟨_, rfl⟩
      rw [hS] at hs hs0 ⊢
      have HS := Lib.hid hS
      clear hS
      go_wp2
      go_ret2
      exact ⟨ret_two (HS.out.symm.trans HE.out.1.symm) HE.out.2.symm, HBB.out⟩
    · have hlt : (k : Int) < (n : Int) := by omega
      have hlt2 : k < n := by omega
      obtain ⟨b, off, rfl, hb, hc⟩ := H.out.at (by omega)
      have hck := (HBB.out.cell (p := ⟨b, off + k, none⟩) hb).trans (hc k hlt2)
      have hx2 := H2.out k (by have := HL.out; omega)
      have hst := capF_take (l := xs) (k := k) (by have := HL.out; omega)
      obtain ⟨x, hx⟩ : ∃ x, xs.getD k 0 = x := ⟨_, rfl⟩
      rw [hx] at hck hx2 hst
      obtain ⟨q, hq, q2, q61, hfq⟩ := min_60 x hx2
      have hcq := fib_cell HF.out q2 q61
      rw [hfq] at hst
      have hqb := fibN_mono (a := q) (b := 60) (by omega)
      have hq0 := fibN_nonneg q
      rw [fibN_60] at hqb
      obtain ⟨F, hFq⟩ : ∃ F, fibN q = F := ⟨_, rfl⟩
      rw [hFq] at hcq hst hqb hq0
      obtain ⟨S, hS⟩ : ∃ S, capF (xs.take k) = S := ⟨_, rfl⟩
      rw [hS] at hs hs0 hst ⊢
      have HST := Lib.hid hst
      have HK := Lib.hid hk
      have k0 : (0 : Int) ≤ (k : Int) := by omega
      have q0 : (0 : Int) ≤ (q : Int) := by omega
      have q60 : (q : Int) < 61 := by omega
      clear hst hc hkn hx hfq hFq hS hk
      by_cases hbig : 1000000000000 < S + F
      · have hT : 1000000000000 < capF xs := by
          have := capF_le_take xs (k + 1)
          rw [HST.out] at this
          omega
        obtain ⟨e1, e2⟩ := tot_big hT
        have HE := Lib.hid (And.intro e1 e2)
        clear hT e1 e2
        go_wp2
        go_ret2
        exact ⟨ret_two HE.out.1.symm HE.out.2.symm, HBB.out⟩
      · go_wp2
        go_roundg (n - k - 1)
        case rel => exact ⟨k + 1, by have := HK.out; omega, by go_num, by rw [HST.out], by rw [HST.out]; omega, rfl⟩
        case measure => have := HK.out; omega

set_option maxHeartbeats 1000000 in
theorem Value_yes (a : Option Addr) (n c : Nat) (xs : List Int) (w : World) (h : Ints w a n xs) (hn : n ≤ 4611686018427387904) (hP : isN xs = true) :
    Calls Try.prog 20 #[.slice a n c] w fun e w' => e = .returned (.tuple #[.int .i64 (totV xs), .int .i64 (totE xs)]) ∧ Below w.heap.size w w' := by
  have H := Lib.hid h
  have HP := Lib.hid hP
  have H2 := Lib.hid (isN_two hP)
  obtain ⟨V, hV⟩ : ∃ V, totV xs = V := ⟨_, rfl⟩
  obtain ⟨E, hE⟩ : ∃ E, totE xs = E := ⟨_, rfl⟩
  rw [hV, hE]
  have HV := Lib.hid (And.intro hV hE)
  clear h hP hV hE
  go_enter Try.func20, Try.ntmps20
  go_wp2_with fail
  refine (validNumeral_any a n c xs w H.out hn).mono ?_
  rintro e w' ⟨rfl, rfl⟩
  rw [HP.out]
  go_wp2_with fail
  refine (total_any a n c xs w' H.out hn H2.out).mono ?_
  rintro e w2 ⟨rfl, hb⟩
  rw [HV.out.1, HV.out.2]
  have HB := Lib.hid hb
  clear hb
  go_wp2
  go_ret2
  exact ⟨rfl, HB.out⟩
set_option maxHeartbeats 1000000 in
theorem Value_no (a : Option Addr) (n c : Nat) (xs : List Int) (w : World) (h : Ints w a n xs) (hn : n ≤ 4611686018427387904) (hP : isN xs = false) :
    Calls Try.prog 20 #[.slice a n c] w fun e w' => e = .returned (.tuple #[.int .i64 0, .int .i64 2]) ∧ w' = w := by
  have H := Lib.hid h
  have HP := Lib.hid hP
  clear h hP
  go_enter Try.func20, Try.ntmps20
  go_wp2_with fail
  refine (validNumeral_any a n c xs w H.out hn).mono ?_
  rintro e w' ⟨rfl, rfl⟩
  rw [HP.out]
  go_wp2
  go_ret2
  exact ⟨rfl, rfl⟩

set_option maxHeartbeats 1000000 in
theorem refValue_any (a : Option Addr) (n c : Nat) (xs : List Int) (w : World) (h : Ints w a n xs) (hP : isN xs = true) :
    Calls Try.prog 31 #[.slice a n c] w fun e w' => e = .returned (.int .i64 (valL xs)) ∧ w' = w := by
  have hl := isN_len hP
  rw [h.1] at hl
  have hv : ∀ k, 0 ≤ valL (xs.take k) ∧ valL (xs.take k) < 2504730781961 := fun k => isN_val (okN_take xs 60 k hP)
  have HVB := Lib.hid hv
  have hm : ∀ j, j < xs.length → 2 ≤ xs.getD j 0 ∧ xs.getD j 0 ≤ 60 := fun j hj => okN_mem xs 60 hP _ (getD_mem hj)
  have HM := Lib.hid hm
  have H := Lib.hid h
  have HL := Lib.hid h.1
  clear h hv hm hP
  go_enter Try.func31, Try.ntmps31
  go_wp2
  go_loopg [3, 8] n (fun gk s i wr => ∃ (k : Nat), k + gk = n ∧ i = .int .i64 (k : Int) ∧ s = .int .i64 (valL (xs.take k)) ∧ wr = w)
  case atStart => exact ⟨0, by omega, rfl, rfl, rfl⟩
  case round =>
    obtain ⟨k, hk, rfl, rfl, rfl⟩ := hrel
    obtain ⟨hs0, hs⟩ := HVB.out k
    by_cases hkn : k = n
    · have hge : ¬ (k : Int) < (n : Int) := by omega
      have hge2 : ¬ k < n := by omega
      have hlen : xs.take k = xs := List.take_of_length_le (by have := HL.out; omega)
      rw [hlen] at hs hs0 ⊢
      obtain ⟨S, hS⟩ : ∃ S, valL xs = S := ⟨_, rfl⟩
      rw [hS] at hs hs0 ⊢
      have HS := Lib.hid hS
      clear hkn hlen hS
      go_wp2
      go_ret
      exact ⟨ret_int HS.out.symm, rfl⟩
    · have hlt : (k : Int) < (n : Int) := by omega
      have hlt2 : k < n := by omega
      obtain ⟨b, off, rfl, hb, hc⟩ := H.out.at (by omega)
      have hck := hc k hlt2
      have hx2 := HM.out k (by have := HL.out; omega)
      have hst := valL_take (l := xs) (k := k) (by have := HL.out; omega)
      obtain ⟨hs0', hs'⟩ := HVB.out (k + 1)
      obtain ⟨x, hx⟩ : ∃ x, xs.getD k 0 = x := ⟨_, rfl⟩
      rw [hx] at hck hx2 hst
      obtain ⟨q, rfl⟩ : ∃ q : Nat, x = (q : Int) := ⟨x.toNat, by omega⟩
      rw [fibI_nat] at hst
      have hF := refF_any q (by omega) wr
      have hq0 := fibN_nonneg q
      obtain ⟨F, hFq⟩ : ∃ F, fibN q = F := ⟨_, rfl⟩
      rw [hFq] at hst hq0 hF
      obtain ⟨S, hS⟩ : ∃ S, valL (xs.take k) = S := ⟨_, rfl⟩
      rw [hS] at hs hs0 hst ⊢
      rw [hst] at hs0' hs'
      have HST := Lib.hid hst
      have HK := Lib.hid hk
      have HF := Lib.hid hF
      have k0 : (0 : Int) ≤ (k : Int) := by omega
      clear hst hc hkn hx hFq hS hk hF
      go_wp2_with (go_at_call 68; refine HF.out.mono ?_; rintro e w' ⟨rfl, rfl⟩)
      go_roundg (n - k - 1)
      case rel => exact ⟨k + 1, by have := HK.out; omega, by go_num, by rw [HST.out], rfl⟩
      case measure => have := HK.out; omega

def szV (n : Int) : Int := if 1000000000000 < n then 0 else n
def szE (n : Int) : Int := if 1000000000000 < n then 6 else 0
theorem sized_any (n : Int) (w : World) : Calls Try.prog 69 #[.int .i64 n] w fun e w' => e = .returned (.tuple #[.int .i64 (szV n), .int .i64 (szE n)]) ∧ w' = w := by
  unfold szV szE
  by_cases h : 1000000000000 < n
  · rw [if_pos h, if_pos h]
    go_enter Try.func69, Try.ntmps69
    go_wp2
    go_ret2
    exact ⟨rfl, rfl⟩
  · rw [if_neg h, if_neg h]
    go_enter Try.func69, Try.ntmps69
    go_wp2
    go_ret2
    exact ⟨rfl, rfl⟩
theorem totV_sz (xs : List Int) : totV xs = szV (valL xs) := rfl
theorem totE_sz (xs : List Int) : totE xs = szE (valL xs) := rfl
theorem refTold_any (a : Option Addr) (n c : Nat) (xs : List Int) (w : World) (h : Ints w a n xs) (hP : isN xs = true) :
    Calls Try.prog 27 #[.slice a n c] w fun e w' => e = .returned (.tuple #[.int .i64 (totV xs), .int .i64 (totE xs)]) ∧ w' = w := by
  rw [totV_sz, totE_sz]
  have HV := Lib.hid (refValue_any a n c xs w h hP)
  obtain ⟨V, hV⟩ : ∃ V, valL xs = V := ⟨_, rfl⟩
  rw [hV] at HV ⊢
  have HS := Lib.hid (sized_any V w)
  obtain ⟨A, hA⟩ : ∃ A, szV V = A := ⟨_, rfl⟩
  obtain ⟨B, hB⟩ : ∃ B, szE V = B := ⟨_, rfl⟩
  rw [hA, hB] at HS ⊢
  clear h hP hV hA hB
  go_enter Try.func27, Try.ntmps27
  go_wp2_with fail
  refine HV.out.mono ?_
  rintro e w' ⟨rfl, rfl⟩
  go_wp2_with fail
  refine HS.out.mono ?_
  rintro e w' ⟨rfl, rfl⟩
  go_wp2
  go_ret2
  exact ⟨rfl, rfl⟩
end Go.Proofs.Ytbdabpmpfciibaa
