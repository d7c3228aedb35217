/- The walks of numeral.moved, shifted and Shift, and of the reference's Shift: indices raised by a number, and their sum. Condition: the slice lies in memory, its elements are small. -/
import Derived.Test.YtbdabpmpfciibaaAdds
namespace Go.Proofs.Ytbdabpmpfciibaa
open Go.RowKit
attribute [local go_sem] Oper.semAt_some

/-- Indices raised by a number. -/
def upL (by' : Int) (xs : List Int) : List Int := xs.map fun x => x + by'
theorem upL_len (b : Int) (xs : List Int) : (upL b xs).length = xs.length := by simp [upL]
theorem upL_at {b : Int} {xs : List Int} {j : Nat} (h : j < xs.length) : (upL b xs).getD j 0 = xs.getD j 0 + b := by
  simp [upL, List.getD, h]
theorem upL_val (b : Int) (xs : List Int) : valL (upL b xs) = sumF b xs := by
  unfold valL upL
  rw [sumF_map, Int.add_zero]
theorem upL_cells (b : Int) (xs : List Int) (n : Nat) (h : xs.length = n) (f : Nat → Int) (hf : ∀ j, j < n → f j = xs.getD j 0 + b) : ((List.range n).map fun j : Nat => Value.int .i64 (f j)) = (upL b xs).map (Value.int .i64) := by
  subst h
  apply List.ext_getElem
  · simp [upL]
  · intro j h1 h2
    have hj : j < xs.length := by simpa using h1
    have := hf j hj
    simp [List.getD, hj] at this
    simp [upL, this]

set_option maxHeartbeats 4000000 in
theorem moved_any (a : Option Addr) (n c : Nat) (xs : List Int) (b' : Int) (w : World) (h : Ints w a n xs) (hn : n ≤ 1000) (hx : ∀ j, j < n → 0 ≤ xs.getD j 0 ∧ xs.getD j 0 ≤ 1000) (hb0 : -1000 ≤ b') (hb1 : b' ≤ 1000) :
    Calls Try.prog 72 #[.slice a n c, .int .i64 b'] w fun e w' => ∃ g, e = .returned (.slice (some ⟨g, 0, none⟩) n n) ∧ Row w.heap.size (.slice (some ⟨g, 0, none⟩) n n) (upL b' xs) w' ∧ Below w.heap.size w w' := by
  obtain ⟨i0, hi, hz0, hz1, hz2⟩ := info_parts info3
  have H := Lib.hid h
  have HL := Lib.hid h.1
  have HX := Lib.hid hx
  clear h hx
  have n0 : (0 : Int) ≤ (n : Int) := by omega
  go_enter Try.func72, Try.ntmps72
  go_wp2_with (at_make; refine wpList_make_full _ rfl _ _ 22 rfl w.heap.size 3 i0 (.int .i64 0) 1 Try.underlying22 hi hz0 hz1 _ _ _ _ n rfl rfl (by omega) (by omega) (by rw [hz2]; omega) (by unfold maxLen; omega) (Nat.le_refl _) ?_; intro w1 hown hgrow)
  clear hi hz0 hz1 hz2
  have S0 := Lib.hid (CoState.made hown ((Below.refl w.heap.size w).grown hgrow (Nat.le_refl _) (fun k e => by cases e)))
  clear hown hgrow
  obtain ⟨g, hg⟩ : ∃ g, w.heap.size = g := ⟨_, rfl⟩
  rw [hg] at S0 ⊢
  have HG := Lib.hid hg
  clear hg
  go_loopg [13] n (fun gk i wr => ∃ (k : Nat), k + gk = n ∧ i = .int .i64 (k : Int) ∧ CoState g n (fun j => if j < k then xs.getD j 0 + b' else 0) w wr)
  case atStart => exact ⟨0, by omega, rfl, S0.out.congr fun j _ => by rw [if_neg (by omega)]⟩
  case round =>
    obtain ⟨k, hk, rfl, hs⟩ := hrel
    have HS := Lib.hid hs
    clear hs S0
    by_cases hkn : k = n
    · have hge : ¬ (k : Int) < (n : Int) := by omega
      have hge2 : ¬ k < n := by omega
      have ho := HS.out.own
      rw [upL_cells b' xs n HL.out _ (fun j hj => by rw [if_pos (by omega)])] at ho
      have HR := Lib.hid (Row.of ho).1
      clear hkn ho
      go_wp2
      go_ret
      exact ⟨g, rfl, HR.out, HS.out.b⟩
    · have hlt : (k : Int) < (n : Int) := by omega
      have hlt2 : k < n := by omega
      obtain ⟨b, off, rfl, hb, hc⟩ := H.out.at (by omega)
      have hck := (HS.out.b.cell (p := ⟨b, off + k, none⟩) hb).trans (hc k hlt2)
      obtain ⟨hx0, hx1⟩ := HX.out k hlt2
      obtain ⟨x, hx⟩ : ∃ x, xs.getD k 0 = x := ⟨_, rfl⟩
      rw [hx] at hck hx0 hx1
      have HXX := Lib.hid hx
      have hcg := HS.out.cell (j := k) hlt2
      have hfg := HS.out.frozen k
      obtain ⟨u, hu⟩ : ∃ u : Int, (if k < k then xs.getD k 0 + b' else 0) = u := ⟨_, rfl⟩
      rw [hu] at hcg
      have HK := Lib.hid hk
      have k0 : (0 : Int) ≤ (k : Int) := by omega
      clear hc hx hu hkn hk
      go_wp2
      have HS2 := Lib.hid (show CoState g n (fun j => if j < k + 1 then xs.getD j 0 + b' else 0) w (wr.setCell ⟨g, k, none⟩ (.int .i64 (x + b'))) from
        (HS.out.put k (x + b')).congr fun j _ => by
          by_cases hj : j = k
          · subst hj
            rw [if_pos rfl, if_pos (by omega), HXX.out]
          · rw [if_neg hj]
            by_cases hj2 : j < k
            · rw [if_pos hj2, if_pos (by omega)]
            · rw [if_neg hj2, if_neg (by omega)])
      go_roundg (n - k - 1)
      case rel => exact ⟨k + 1, by have := HK.out; omega, by go_num, HS2.out⟩
      case measure => have := HK.out; omega

/-- The shift, as a sum. -/
def shN (n : Int) : Int := sumF 1 (enc n)
theorem enc_mem {x : Int} (h : isNum x = true) (j : Nat) (hj : j < (enc x).length) : 2 ≤ (enc x).getD j 0 ∧ (enc x).getD j 0 ≤ 59 := by
  have hb := isNum_yes h
  exact okN_mem _ _ (enc_ok hb.1 (by omega)).1 _ (getD_mem hj)
theorem tot_up (b : Int) (xs : List Int) : totV (upL b xs) = szV (sumF b xs) ∧ totE (upL b xs) = szE (sumF b xs) := by
  rw [totV_sz, totE_sz, upL_val]
  exact ⟨rfl, rfl⟩

set_option maxHeartbeats 4000000 in
theorem shifted_any (x b' : Int) (w : World) (hx : isNum x = true) (hb0 : -1 ≤ b') (hb1 : b' ≤ 1000) (h2 : allTwo (upL b' (enc x))) :
    Calls Try.prog 71 #[.int .i64 x, .int .i64 b'] w fun e w' => e = .returned (.tuple #[.int .i64 (szV (sumF b' (enc x))), .int .i64 (szE (sumF b' (enc x)))]) ∧ Below w.heap.size w w' := by
  have hE := encode_any x (isNum_yes hx).1 (by have := (isNum_yes hx).2; omega) w
  have hlen := enc_len hx
  have hmem := enc_mem hx
  have htu := tot_up b' (enc x)
  obtain ⟨L, hL⟩ : ∃ L, enc x = L := ⟨_, rfl⟩
  rw [hL] at hE hlen hmem h2 htu ⊢
  obtain ⟨N, hN⟩ : ∃ N, L.length = N := ⟨_, rfl⟩
  rw [hN] at hE hlen hmem
  obtain ⟨V, hV⟩ : ∃ V, szV (sumF b' L) = V := ⟨_, rfl⟩
  obtain ⟨E, hEE⟩ : ∃ E, szE (sumF b' L) = E := ⟨_, rfl⟩
  rw [hV, hEE] at htu ⊢
  have HE := Lib.hid hE
  have HM := Lib.hid hmem
  have H2 := Lib.hid h2
  have HT := Lib.hid htu
  have HN := Lib.hid hN
  clear hE hmem h2 hL hx htu hV hEE hN
  go_enter Try.func71, Try.ntmps71
  go_wp2_with fail
  refine HE.out.mono ?_
  rintro e w1 ⟨a, c, rfl, hr, hb⟩
  obtain ⟨a5, c5, hv5, hi5, h51, h52⟩ := hr.form
  rw [HN.out] at hv5 hi5
  cases hv5
  have HI := Lib.hid hi5
  have HB := Lib.hid hb
  clear hr hi5 h51 h52 hb
  go_wp2_with fail
  refine (moved_any a N c L b' w1 HI.out (by omega) (fun j hj => by have := HM.out j hj; omega) (by omega) hb1).mono ?_
  rintro e w2 ⟨g, rfl, hr2, hb2⟩
  have HB2 := Lib.hid (HB.out.trans (hb2.mono HB.out.size))
  obtain ⟨a6, c6, hv6, hi6, -, -⟩ := hr2.form
  rw [upL_len, HN.out] at hv6 hi6
  cases hv6
  have HI2 := Lib.hid hi6
  clear hr2 hi6 hb2 HB HI
  go_wp2_with fail
  refine (total_any _ N N (upL b' L) w2 HI2.out (by omega) H2.out).mono ?_
  rintro e w3 ⟨rfl, hb3⟩
  rw [HT.out.1, HT.out.2]
  have HB3 := Lib.hid (HB2.out.trans (hb3.mono HB2.out.size))
  clear hb3
  go_wp2
  go_ret2
  exact ⟨rfl, HB3.out⟩

def shV (n : Int) : Int := if isNum n = true then szV (shN n) else 0
def shE (n : Int) : Int := if isNum n = true then szE (shN n) else 2
theorem two_up {x b' : Int} (hx : isNum x = true) (hb : 0 ≤ b') : allTwo (upL b' (enc x)) := by
  intro j hj
  rw [upL_len] at hj
  rw [upL_at hj]
  have := enc_mem hx j hj
  omega
set_option maxHeartbeats 1000000 in
theorem Shift_any (x : Int) (w : World) :
    Calls Try.prog 32 #[.int .i64 x] w fun e w' => e = .returned (.tuple #[.int .i64 (shV x), .int .i64 (shE x)]) ∧ Below w.heap.size w w' := by
  by_cases hx : isNum x = true
  · have hE := shifted_any x 1 w hx (by omega) (by omega) (two_up hx (by omega))
    have h1 : shV x = szV (sumF 1 (enc x)) := by unfold shV; rw [if_pos hx]; rfl
    have h2 : shE x = szE (sumF 1 (enc x)) := by unfold shE; rw [if_pos hx]; rfl
    rw [h1, h2]
    obtain ⟨V, hV⟩ : ∃ V, szV (sumF 1 (enc x)) = V := ⟨_, rfl⟩
    obtain ⟨E, hEE⟩ : ∃ E, szE (sumF 1 (enc x)) = E := ⟨_, rfl⟩
    rw [hV, hEE] at hE ⊢
    have HE := Lib.hid hE
    have HX := Lib.hid hx
    clear hE hx h1 h2 hV hEE
    go_enter Try.func32, Try.ntmps32
    go_wp2_with fail
    refine (validNumber_any _ _).mono ?_
    rintro e w' ⟨rfl, rfl⟩
    rw [HX.out]
    go_wp2_with fail
    refine HE.out.mono ?_
    rintro e w2 ⟨rfl, hb⟩
    have HB := Lib.hid hb
    clear hb
    go_wp2
    go_ret2
    exact ⟨rfl, HB.out⟩
  · have hx' : isNum x = false := by simpa using hx
    have h1 : shV x = 0 := by unfold shV; rw [if_neg hx]
    have h2 : shE x = 2 := by unfold shE; rw [if_neg hx]
    rw [h1, h2]
    have HX := Lib.hid hx'
    clear hx hx' h1 h2
    go_enter Try.func32, Try.ntmps32
    go_wp2_with fail
    refine (validNumber_any _ _).mono ?_
    rintro e w' ⟨rfl, rfl⟩
    rw [HX.out]
    go_wp2
    go_ret2
    exact ⟨rfl, Below.refl _ _⟩

theorem sumF_le_val (i : Nat) (l : List Int) (h : Int) (hh : 0 ≤ h) (o : okN h l = true) : sumF (i : Int) l < fibI (h + i + 1) := by
  induction l generalizing h with
  | nil =>
    have := fibI_pos (k := h + i + 1) (by omega)
    simp only [sumF]; omega
  | cons k r ih =>
    obtain ⟨h1, h2, h3⟩ := okN_cons o
    have ih' := ih (k - 2) (by omega) h3
    have e := fibI_rec' (k := k + i + 1) (by omega)
    have m := fibI_mono (a := k + i + 1) (b := h + i + 1) (by omega)
    rw [show k + (i : Int) + 1 - 1 = k + i by omega, show k + (i : Int) + 1 - 2 = k + i - 1 by omega] at e
    rw [show k - 2 + (i : Int) + 1 = k + i - 1 by omega] at ih'
    simp only [sumF]; omega
theorem fibI_le {a : Int} {b : Nat} {x : Int} (h : a ≤ b) (hx : fibN b = x) : fibI a ≤ x := by
  rw [← hx, ← fibI_nat]; exact fibI_mono h
theorem shN_bd {x : Int} (h : isNum x = true) : 0 ≤ shN x ∧ shN x < 2504730781961 := by
  have hb := isNum_yes h
  have := sumF_le_val 1 (enc x) 59 (by omega) (enc_ok hb.1 (by omega)).1
  have e : fibI (59 + ((1 : Nat) : Int) + 1) ≤ 2504730781961 := fibI_le (b := 61) (by omega) fibN_61
  refine ⟨sumF_nonneg _ _, ?_⟩
  unfold shN
  rw [show (1 : Int) = ((1 : Nat) : Int) by omega]
  omega

set_option maxHeartbeats 4000000 in
theorem refShift_any (x : Int) (w : World) (hx : isNum x = true) :
    Calls Try.prog 34 #[.int .i64 x] w fun e w' => e = .returned (.tuple #[.int .i64 (szV (shN x)), .int .i64 (szE (shN x))]) ∧ Below w.heap.size w w' := by
  have hE := refEncodeI x hx w
  have hmem := enc_mem hx
  have hsh : sumF 1 (enc x) = shN x := rfl
  have hbd := shN_bd hx
  have hpre : ∀ k, 0 ≤ sumF 1 ((enc x).take k) ∧ sumF 1 ((enc x).take k) < 2504730781961 := by
    intro k
    have o := okN_take _ _ k (enc_ok (isNum_yes hx).1 (by have := isNum_yes hx; omega)).1
    have := sumF_le_val 1 _ 59 (by omega) o
    have e : fibI (59 + ((1 : Nat) : Int) + 1) ≤ 2504730781961 := fibI_le (b := 61) (by omega) fibN_61
    refine ⟨sumF_nonneg _ _, ?_⟩
    rw [show (1 : Int) = ((1 : Nat) : Int) by omega]
    omega
  obtain ⟨S, hS⟩ : ∃ S, shN x = S := ⟨_, rfl⟩
  rw [hS] at hsh hbd ⊢
  obtain ⟨L, hL⟩ : ∃ L, enc x = L := ⟨_, rfl⟩
  rw [hL] at hE hmem hpre hsh
  have HZ := Lib.hid (sized_any S)
  obtain ⟨V, hV⟩ : ∃ V, szV S = V := ⟨_, rfl⟩
  obtain ⟨E, hEE⟩ : ∃ E, szE S = E := ⟨_, rfl⟩
  rw [hV, hEE] at HZ ⊢
  have HE := Lib.hid hE
  have HM := Lib.hid hmem
  have HP := Lib.hid hpre
  have HS := Lib.hid hsh
  clear hE hmem hpre hsh hL hS hV hEE hx
  go_enter Try.func34, Try.ntmps34
  go_wp2_with fail
  refine HE.out.mono ?_
  rintro e w1 ⟨a, n, c, rfl, hi, hn, -, -, hb⟩
  have H := Lib.hid hi
  have HL := Lib.hid hi.1
  have HB := Lib.hid hb
  clear hi hb HE
  go_wp2
  go_loopg [4, 10] n (fun gk s i wr => ∃ (k : Nat), k + gk = n ∧ i = .int .i64 (k : Int) ∧ s = .int .i64 (sumF 1 (L.take k)) ∧ wr = w1)
  case atStart => exact ⟨0, by omega, rfl, rfl, rfl⟩
  case round =>
    obtain ⟨k, hk, rfl, rfl, rfl⟩ := hrel
    obtain ⟨hs0, hs⟩ := HP.out k
    by_cases hkn : k = n
    · have hge : ¬ (k : Int) < (n : Int) := by omega
      have hge2 : ¬ k < n := by omega
      have hlen : L.take k = L := List.take_of_length_le (by have := HL.out; omega)
      rw [hlen, HS.out]
      clear hkn hlen hs hs0
      go_wp2_with fail
      refine (HZ.out _).mono ?_
      rintro e w3 ⟨rfl, rfl⟩
      go_wp2
      go_ret2
      exact ⟨rfl, HB.out⟩
    · have hlt : (k : Int) < (n : Int) := by omega
      have hlt2 : k < n := by omega
      obtain ⟨b, off, rfl, hb, hc⟩ := H.out.at (by omega)
      have hck := hc k hlt2
      have hx2 := HM.out k (by have := HL.out; omega)
      have hst := sumF_take (l := L) (k := k) (by have := HL.out; omega) 1
      obtain ⟨hs0', hs'⟩ := HP.out (k + 1)
      obtain ⟨y, hy⟩ : ∃ y, L.getD k 0 = y := ⟨_, rfl⟩
      rw [hy] at hck hx2 hst
      obtain ⟨q, hq⟩ : ∃ q : Nat, y + 1 = (q : Int) := ⟨(y + 1).toNat, by omega⟩
      have hq90 : q ≤ 90 := by omega
      rw [hq, fibI_nat] at hst
      have hF := refF_any q hq90 wr
      have hq0 := fibN_nonneg q
      obtain ⟨F, hFq⟩ : ∃ F, fibN q = F := ⟨_, rfl⟩
      rw [hFq] at hst hq0 hF
      obtain ⟨T, hT⟩ : ∃ T, sumF 1 (L.take k) = T := ⟨_, rfl⟩
      rw [hT] at hs hs0 hst ⊢
      rw [hst] at hs0' hs'
      have HST := Lib.hid hst
      have HK := Lib.hid hk
      have HF := Lib.hid hF
      have k0 : (0 : Int) ≤ (k : Int) := by omega
      clear hst hc hkn hy hFq hT hk hF
      go_wp2_with (go_at_call 68; refine HF.out.mono ?_; rintro e w' ⟨rfl, rfl⟩)
      go_roundg (n - k - 1)
      case rel => exact ⟨k + 1, by have := HK.out; omega, by go_num, by rw [HST.out], rfl⟩
      case measure => have := HK.out; omega
end Go.Proofs.Ytbdabpmpfciibaa
