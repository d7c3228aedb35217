/- The walks of numeral.Circle and of the reference's Circle: the sum over all pairs of indices. No condition. -/
import Derived.Test.YtbdabpmpfciibaaShift
namespace Go.Proofs.Ytbdabpmpfciibaa
open Go.RowKit
attribute [local go_sem] Oper.semAt_some

/-- The sum over all pairs of indices. -/
def cirS (xs : List Int) : List Int → Int
  | [] => 0
  | k :: r => sumF k xs + cirS xs r
def flatU (xs : List Int) : List Int → List Int
  | [] => []
  | k :: r => upL k xs ++ flatU xs r
theorem flatU_val (xs : List Int) : ∀ ys, valL (flatU xs ys) = cirS xs ys
  | [] => rfl
  | k :: r => by rw [flatU, cirS, valL_append, upL_val, flatU_val xs r]
theorem flatU_append (xs : List Int) : ∀ a b, flatU xs (a ++ b) = flatU xs a ++ flatU xs b
  | [], b => by simp [flatU]
  | k :: r, b => by simp [flatU, flatU_append xs r b]
theorem flatU_take {xs ys : List Int} {k : Nat} (h : k < ys.length) : flatU xs (ys.take (k + 1)) = flatU xs (ys.take k) ++ upL (ys.getD k 0) xs := by
  rw [take_succ_getD h, flatU_append]
  simp [flatU]
theorem flatU_len (xs : List Int) : ∀ ys, (flatU xs ys).length = ys.length * xs.length
  | [] => by simp [flatU]
  | k :: r => by rw [flatU, List.length_append, upL_len, flatU_len xs r, List.length_cons, Nat.add_mul, Nat.one_mul, Nat.add_comm]
theorem flatU_two {xs ys : List Int} (h1 : ∀ x ∈ xs, 2 ≤ x) (h2 : ∀ y ∈ ys, 2 ≤ y) : ∀ z ∈ flatU xs ys, 2 ≤ z := by
  induction ys with
  | nil => intro z hz; cases hz
  | cons k r ih =>
    intro z hz
    rw [flatU, List.mem_append] at hz
    rcases hz with hz | hz
    · simp only [upL, List.mem_map] at hz
      obtain ⟨x, hx, rfl⟩ := hz
      have := h1 x hx
      have := h2 k (by simp)
      omega
    · exact ih (fun y hy => h2 y (by simp [hy])) z hz
theorem allTwo_of {l : List Int} (h : ∀ x ∈ l, 2 ≤ x) : allTwo l := fun _ hj => h _ (getD_mem hj)
theorem cirS_cons (x : Int) (r : List Int) : ∀ ys, cirS (x :: r) ys = sumF x ys + cirS r ys
  | [] => by simp [cirS, sumF]
  | k :: s => by
    simp only [cirS, sumF, cirS_cons x r s]
    rw [Int.add_comm x k]
    omega
theorem cirS_nil : ∀ ys, cirS [] ys = 0
  | [] => rfl
  | k :: s => by simp only [cirS, sumF, cirS_nil s]; omega
theorem cirS_comm : ∀ xs ys, cirS xs ys = cirS ys xs
  | [], ys => by rw [cirS_nil, cirS]
  | x :: r, ys => by rw [cirS_cons, cirS, cirS_comm r ys]
theorem cirS_nonneg (xs : List Int) : ∀ ys, 0 ≤ cirS xs ys
  | [] => by simp [cirS]
  | k :: r => by
    have := cirS_nonneg xs r
    have := sumF_nonneg k xs
    simp only [cirS]; omega
theorem cirS_append (xs : List Int) : ∀ a b, cirS xs (a ++ b) = cirS xs a + cirS xs b
  | [], b => by simp [cirS]
  | k :: r, b => by simp only [List.cons_append, cirS, cirS_append xs r b]; omega
theorem cirS_take {xs ys : List Int} {k : Nat} (h : k < ys.length) : cirS xs (ys.take (k + 1)) = cirS xs (ys.take k) + sumF (ys.getD k 0) xs := by
  rw [take_succ_getD h, cirS_append]
  simp [cirS]
theorem sumF_mem_le (i : Int) : ∀ (l : List Int) (x : Int), x ∈ l → fibI (x + i) ≤ sumF i l
  | [], x, h => by cases h
  | k :: r, x, h => by
    have h0 := sumF_nonneg i r
    have h1 := fibI_nonneg (k + i)
    simp only [sumF]
    rcases List.mem_cons.1 h with rfl | h
    · omega
    · have := sumF_mem_le i r x h; omega
theorem cirS_mem_le (xs : List Int) : ∀ (ys : List Int) (y : Int), y ∈ ys → sumF y xs ≤ cirS xs ys
  | [], y, h => by cases h
  | k :: r, y, h => by
    have h0 := cirS_nonneg xs r
    have h1 := sumF_nonneg k xs
    simp only [cirS]
    rcases List.mem_cons.1 h with rfl | h
    · omega
    · have := cirS_mem_le xs r y h; omega

/-- The circle product, as a sum. -/
def ciN (a b : Int) : Int := cirS (enc a) (enc b)
def ciV (a b : Int) : Int := if isNum a = true ∧ isNum b = true then szV (ciN a b) else 0
def ciE (a b : Int) : Int := if isNum a = true ∧ isNum b = true then szE (ciN a b) else 2
theorem enc_two {x : Int} (h : isNum x = true) : ∀ y ∈ enc x, 2 ≤ y := fun y hy => by
  have hb := isNum_yes h
  exact (okN_mem _ _ (enc_ok hb.1 (by omega)).1 y hy).1

set_option maxHeartbeats 4000000 in
set_option maxRecDepth 100000 in
theorem Circle_yes (a b : Int) (w : World) (ha : isNum a = true) (hb : isNum b = true) :
    Calls Try.prog 33 #[.int .i64 a, .int .i64 b] w fun e w' => e = .returned (.tuple #[.int .i64 (szV (ciN a b)), .int .i64 (szE (ciN a b))]) ∧ Below w.heap.size w w' := by
  have hE := encode_any a (isNum_yes ha).1 (by have := (isNum_yes ha).2; omega)
  have hE2 := encode_any b (isNum_yes hb).1 (by have := (isNum_yes hb).2; omega)
  have hla := enc_len ha
  have hlb := enc_len hb
  have hma := enc_mem ha
  have hmb := enc_mem hb
  have h2 := flatU_two (enc_two ha) (enc_two hb)
  have hv := flatU_val (enc a) (enc b)
  have hci : ciN a b = cirS (enc a) (enc b) := rfl
  rw [hci]
  obtain ⟨A, hA⟩ : ∃ A, enc a = A := ⟨_, rfl⟩
  obtain ⟨B, hB⟩ : ∃ B, enc b = B := ⟨_, rfl⟩
  rw [hA] at hE hla hma h2 hv ⊢
  rw [hB] at hE2 hlb hmb h2 hv ⊢
  have htv : totV (flatU A B) = szV (cirS A B) := by rw [totV_sz, hv]
  have hte : totE (flatU A B) = szE (cirS A B) := by rw [totE_sz, hv]
  obtain ⟨V, hV⟩ : ∃ V, szV (cirS A B) = V := ⟨_, rfl⟩
  obtain ⟨E, hEE⟩ : ∃ E, szE (cirS A B) = E := ⟨_, rfl⟩
  rw [hV] at htv ⊢
  rw [hEE] at hte ⊢
  obtain ⟨N, hN⟩ : ∃ N, A.length = N := ⟨_, rfl⟩
  obtain ⟨M, hM⟩ : ∃ M, B.length = M := ⟨_, rfl⟩
  rw [hN] at hE hla hma
  rw [hM] at hE2 hlb hmb
  have HX := Lib.hid ha
  have HY := Lib.hid hb
  have HE := Lib.hid hE
  have HE2 := Lib.hid hE2
  have HMA := Lib.hid hma
  have HMB := Lib.hid hmb
  have H2 := Lib.hid (allTwo_of h2)
  have HT := Lib.hid (And.intro htv hte)
  have HN := Lib.hid hN
  have HM := Lib.hid hM
  clear ha hb hE hE2 hma hmb h2 hv hci hA hB htv hte hV hEE hN hM
  go_enter Try.func33, Try.ntmps33
  go_wp2_with fail
  refine (validNumber_any _ _).mono ?_
  rintro e w' ⟨rfl, rfl⟩
  rw [HX.out]
  go_wp2_with fail
  refine (validNumber_any _ _).mono ?_
  rintro e w'' ⟨rfl, rfl⟩
  rw [HY.out]
  go_wp2_with fail
  refine (HE.out _).mono ?_
  rintro e w1 ⟨a1, c1, rfl, hr1, hb1⟩
  obtain ⟨a2, c2, hv2, hi2, -, -⟩ := hr1.form
  rw [HN.out] at hv2 hi2
  cases hv2
  have HI1 := Lib.hid hi2
  have HB1 := Lib.hid hb1
  clear hr1 hi2 hb1
  go_wp2_with fail
  refine (HE2.out _).mono ?_
  rintro e w2 ⟨a3, c3, rfl, hr3, hb3⟩
  obtain ⟨a4, c4, hv4, hi4, -, -⟩ := hr3.form
  rw [HM.out] at hv4 hi4
  cases hv4
  have HI2 := Lib.hid hi4
  have HA2 := Lib.hid (HI1.out.below hb3)
  have HB2 := Lib.hid (HB1.out.trans (hb3.mono HB1.out.size))
  clear hr3 hi4 hb3 HI1 HB1
  have hwz := HB2.out.size
  obtain ⟨W0, hW0⟩ : ∃ W0, w''.heap.size = W0 := ⟨_, rfl⟩
  go_wp2
  go_loopg [7, 23] M (fun gk v i wr => ∃ (k : Nat), k + gk = M ∧ i = .int .i64 (k : Int) ∧ Row w2.heap.size v (flatU A (B.take k)) wr ∧ Below w2.heap.size w2 wr)
  case atStart => exact ⟨0, by omega, rfl, Row.nil _ _, Below.refl _ _⟩
  case round =>
    obtain ⟨k, hk, rfl, hr, hbw⟩ := hrel
    have HR := Lib.hid hr
    have HBW := Lib.hid hbw
    clear hr hbw
    by_cases hkn : k = M
    · have hge : ¬ (k : Int) < (M : Int) := by omega
      have hge2 : ¬ k < M := by omega
      have hr := HR.out
      rw [List.take_of_length_le (by have := HM.out; omega)] at hr
      obtain ⟨a6, c6, rfl, hi6, -, -⟩ := hr.form
      have hfl := flatU_len A B
      rw [HN.out, HM.out] at hfl
      have hfb : (flatU A B).length ≤ 900 := by
        rw [hfl]
        exact Nat.le_trans (Nat.mul_le_mul hlb hla) (by omega)
      obtain ⟨L, hL⟩ : ∃ L, (flatU A B).length = L := ⟨_, rfl⟩
      rw [hL] at hi6 hfb ⊢
      have HI6 := Lib.hid hi6
      clear hkn hr hi6 hfl hL
      go_wp2_with fail
      refine (total_any a6 L c6 (flatU A B) _ HI6.out (by omega) H2.out).mono ?_
      rintro e w3 ⟨rfl, hb3⟩
      rw [HT.out.1, HT.out.2]
      have HB3 := Lib.hid (HB2.out.trans ((HBW.out.trans (hb3.mono HBW.out.size)).mono HB2.out.size))
      clear hb3
      go_wp2
      go_ret2
      exact ⟨rfl, HB3.out⟩
    · have hlt : (k : Int) < (M : Int) := by omega
      have hlt2 : k < M := by omega
      obtain ⟨b', off, rfl, hb', hc⟩ := HI2.out.at (by omega)
      have hck := (HBW.out.cell (p := ⟨b', off + k, none⟩) hb').trans (hc k hlt2)
      have hx2 := HMB.out k (by omega)
      have hst := flatU_take (xs := A) (ys := B) (k := k) (by have := HM.out; omega)
      obtain ⟨y, hy⟩ : ∃ y, B.getD k 0 = y := ⟨_, rfl⟩
      rw [hy] at hck hx2 hst
      have HST := Lib.hid hst
      have HK := Lib.hid hk
      have k0 : (0 : Int) ≤ (k : Int) := by omega
      have hwr := HBW.out.size
      have HAW := Lib.hid (HA2.out.below HBW.out)
      obtain ⟨wr0, hwr0⟩ : ∃ wr0, wr = wr0 := ⟨_, rfl⟩
      have hfl := flatU_len A (B.take k)
      rw [HN.out] at hfl
      have hfb : (flatU A (B.take k)).length ≤ 900 := by
        rw [hfl, List.length_take, HM.out]
        exact Nat.le_trans (Nat.mul_le_mul (show min k M ≤ 30 by omega) hla) (by omega)
      have HFB := Lib.hid hfb
      clear hc hst hy hkn hk hwr0 hfl hfb
      go_wp2_with fail
      refine (moved_any a1 N c1 A y _ HAW.out (by omega) (fun j hj => by have := HMA.out j hj; omega) (by omega) (by omega)).mono ?_
      rintro e w5 ⟨g5, rfl, hr5, hb5⟩
      obtain ⟨a6, c6, hv6, hi6, -, -⟩ := hr5.form
      rw [upL_len, HN.out] at hv6 hi6
      cases hv6
      have HI5 := Lib.hid hi6
      have HR5 := Lib.hid (HR.out.later hb5)
      have HBW5 := Lib.hid (HBW.out.trans (hb5.mono HBW.out.size))
      have hz5 := HBW5.out.size
      clear hr5 hi6 hb5
      go_wp2_with (at_builtin; refine wpList_app rfl _ _ rfl w2.heap.size _ (flatU A (B.take k)) rfl HR5.out (some ⟨g5, 0, none⟩) N N (upL y A) rfl HI5.out (by rw [upL_len, HN.out]; have := HFB.out; omega) hz5 ?_; intro v' w6 hr6 hg6)
      have hb6 : Below w2.heap.size w2 w6 := HBW5.out.grown hg6 hz5 (fun j e => (World.ownsRow.lt (h := HR5.out) j e).1)
      have H6 := Lib.hid (And.intro hb6 hr6)
      clear hb6 hr6 hg6
      go_roundg (M - k - 1)
      case rel => exact ⟨k + 1, by have := HK.out; omega, by go_num, by rw [HST.out]; exact H6.out.2, H6.out.1⟩
      case measure => have := HK.out; omega
end Go.Proofs.Ytbdabpmpfciibaa
