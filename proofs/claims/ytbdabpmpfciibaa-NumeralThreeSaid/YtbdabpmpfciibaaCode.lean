/- The walks of numeral.Encode, of the reference's F, Number and Encode, and of awake. No condition beyond those stated. -/
import Derived.Test.YtbdabpmpfciibaaEnc
namespace Go.Proofs.Ytbdabpmpfciibaa
open Go.RowKit
attribute [local go_sem] Oper.semAt_some

theorem validNumber_any (n : Int) (w : World) : Calls Try.prog 64 #[.int .i64 n] w fun e w' => e = .returned (.bool (isNum n)) ∧ w' = w := by
  by_cases h0 : 0 ≤ n
  · by_cases h1 : n ≤ 1000000000000
    · have hb : isNum n = true := isNum_mk h0 h1
      rw [hb]
      clear hb
      go_enter Try.func64, Try.ntmps64
      go_wp2
      go_ret
      exact ⟨rfl, rfl⟩
    · have hb : isNum n = false := by unfold isNum; simp [h1]
      rw [hb]
      clear hb
      go_enter Try.func64, Try.ntmps64
      go_wp2
      go_ret
      exact ⟨rfl, rfl⟩
  · have hb : isNum n = false := by unfold isNum; simp [h0]
    rw [hb]
    clear hb
    go_enter Try.func64, Try.ntmps64
    go_wp2
    go_ret
    exact ⟨rfl, rfl⟩
theorem refNumber_any (n : Int) (w : World) : Calls Try.prog 22 #[.int .i64 n] w fun e w' => e = .returned (.bool (isNum n)) ∧ w' = w := by
  by_cases h0 : 0 ≤ n
  · by_cases h1 : n ≤ 1000000000000
    · have hb : isNum n = true := isNum_mk h0 h1
      rw [hb]
      clear hb
      go_enter Try.func22, Try.ntmps22
      go_wp2
      go_ret
      exact ⟨rfl, rfl⟩
    · have hb : isNum n = false := by unfold isNum; simp [h1]
      rw [hb]
      clear hb
      go_enter Try.func22, Try.ntmps22
      go_wp2
      go_ret
      exact ⟨rfl, rfl⟩
  · have hb : isNum n = false := by unfold isNum; simp [h0]
    rw [hb]
    clear hb
    go_enter Try.func22, Try.ntmps22
    go_wp2
    go_ret
    exact ⟨rfl, rfl⟩

theorem Encode_yes (n : Int) (h : isNum n = true) (w : World) :
    Calls Try.prog 19 #[.int .i64 n] w fun e w' => ∃ a c, e = .returned (.tuple #[.slice a (enc n).length c, .int .i64 0]) ∧ Row w.heap.size (.slice a (enc n).length c) (enc n) w' ∧ Below w.heap.size w w' := by
  have hE := encode_any n (isNum_yes h).1 (by have := (isNum_yes h).2; omega) w
  obtain ⟨L, hL⟩ : ∃ L, enc n = L := ⟨_, rfl⟩
  rw [hL] at hE ⊢
  obtain ⟨N, hN⟩ : ∃ N, L.length = N := ⟨_, rfl⟩
  rw [hN] at hE ⊢
  have HE := Lib.hid hE
  have HH := Lib.hid h
  clear hE hL hN h
  go_enter Try.func19, Try.ntmps19
  go_wp2_with fail
  refine (validNumber_any _ _).mono ?_
  rintro e w' ⟨rfl, rfl⟩
  rw [HH.out]
  go_wp2_with fail
  refine HE.out.mono ?_
  rintro e w' ⟨a, c, rfl, hr, hb⟩
  have HR := Lib.hid hr
  have HB := Lib.hid hb
  clear hr hb
  go_wp2
  go_ret2
  exact ⟨a, c, rfl, HR.out, HB.out⟩
theorem Encode_no (n : Int) (h : isNum n = false) (w : World) :
    Calls Try.prog 19 #[.int .i64 n] w fun e w' => e = .returned (.tuple #[.slice none 0 0, .int .i64 2]) ∧ w' = w := by
  have HH := Lib.hid h
  clear h
  go_enter Try.func19, Try.ntmps19
  go_wp2_with fail
  refine (validNumber_any _ _).mono ?_
  rintro e w' ⟨rfl, rfl⟩
  rw [HH.out]
  go_wp2
  go_ret2
  exact ⟨rfl, rfl⟩

set_option maxHeartbeats 1000000 in
theorem refF_any (k : Nat) (hk : k ≤ 90) (w : World) : Calls Try.prog 68 #[.int .i64 (k : Int)] w fun e w' => e = .returned (.int .i64 (fibN k)) ∧ w' = w := by
  obtain ⟨V, hV⟩ : ∃ V, fibN k = V := ⟨_, rfl⟩
  rw [hV]
  have HV := Lib.hid hV
  clear hV
  go_enter Try.func68, Try.ntmps68
  go_wp2
  go_loopg [3, 4, 6] k (fun gk a b i wr => ∃ (j : Nat), j + gk = k ∧ i = .int .i64 (j : Int) ∧ a = .int .i64 (fibN j) ∧ b = .int .i64 (fibN (j + 1)) ∧ wr = w)
  case atStart => exact ⟨0, by omega, rfl, rfl, rfl, rfl⟩
  case round =>
    obtain ⟨j, hj, rfl, rfl, rfl, rfl⟩ := hrel
    by_cases hjk : j = k
    · have hge : ¬ (j : Int) < (k : Int) := by omega
      rw [hjk, HV.out]
      obtain ⟨U, hU⟩ : ∃ U, fibN (k + 1) = U := ⟨_, rfl⟩
      rw [hU]
      clear hU hjk hge hj
      have hge : ¬ (k : Int) < (k : Int) := by omega
      go_wp2
      go_ret
      exact ⟨rfl, rfl⟩
    · have hlt : (j : Int) < (k : Int) := by omega
      have r := fibN_rec j
      have m1 := fibN_le (a := j) (by omega) fibN_91
      have m2 := fibN_le (a := j + 1) (by omega) fibN_91
      have m3 := fibN_le (a := j + 2) (by omega) fibN_91
      have n1 := fibN_nonneg j
      have n2 := fibN_nonneg (j + 1)
      have j0 : (0 : Int) ≤ (j : Int) := by omega
      have HA := Lib.hid hj
      obtain ⟨X, hX⟩ : ∃ X, fibN j = X := ⟨_, rfl⟩
      obtain ⟨Y, hY⟩ : ∃ Y, fibN (j + 1) = Y := ⟨_, rfl⟩
      obtain ⟨Z, hZ⟩ : ∃ Z, fibN (j + 2) = Z := ⟨_, rfl⟩
      rw [hX, hY, hZ] at r
      rw [hX] at m1 n1 ⊢
      rw [hY] at m2 n2 ⊢
      rw [hZ] at m3
      have HY := Lib.hid hY
      have HZ := Lib.hid (hZ.trans (r.trans (Int.add_comm Y X)))
      have hsum : X + Y ≤ 4660046610375530309 := by omega
      clear hX hY hZ r hj hjk m3
      go_wp2
      go_roundg (k - j - 1)
      case rel => exact ⟨j + 1, by have := HA.out; omega, by go_num, by rw [HY.out], by rw [show j + 1 + 1 = j + 2 by omega, HZ.out], rfl⟩
      case measure => have := HA.out; omega

structure RS (w : World) (v : Value) (xs : List Int) (W : World) : Prop where
  b : Below w.heap.size w W
  r : Row w.heap.size v xs W

set_option maxHeartbeats 4000000 in
set_option maxRecDepth 100000 in
theorem refEncode_any (n : Int) (h0 : 0 ≤ n) (h1 : n < 2504730781961) (w : World) :
    Calls Try.prog 24 #[.int .i64 n] w fun e w' => ∃ a c, e = .returned (.slice a (enc n).length c) ∧ Row w.heap.size (.slice a (enc n).length c) (enc n) w' ∧ Below w.heap.size w w' := by
  have hm := enc_more h1
  obtain ⟨L, hL⟩ : ∃ L, enc n = L := ⟨_, rfl⟩
  rw [hL] at hm ⊢
  have HL := Lib.hid hm
  clear hm hL
  go_enter Try.func24, Try.ntmps24
  go_wp2
  go_loopg [0, 3, 4] 69 (fun gk m v i wr => ∃ (x : Int) (xs : List Int), i = .int .i64 ((gk : Int) + 1) ∧ gk ≤ 69 ∧ m = .int .i64 x ∧ 0 ≤ x ∧ x ≤ n ∧ xs ++ encL gk x = L ∧ xs.length + gk ≤ 69 ∧ RS w v xs wr)
  case atStart => exact ⟨n, [], rfl, by omega, rfl, h0, by omega, HL.out, by simp, ⟨Below.refl _ _, Row.nil _ _⟩⟩
  case round =>
    obtain ⟨x, xs, rfl, hgk, rfl, hx0, hxn, hxs, hlen, hes⟩ := hrel
    have HX := Lib.hid hxs
    have HES := Lib.hid hes
    clear hxs hes HL
    match gk, hgk, HX, hlen with
    | 0, hgk, HX, hlen =>
      have hlt : ¬ (((0 : Nat) : Int) + 1 ≥ 2) := by omega
      have hx2 : xs = L := by have := HX.out; rw [encL, List.append_nil] at this; exact this
      have hr := HES.out.r
      rw [hx2] at hr
      obtain ⟨a, c, rfl, hi, hc1, hc2⟩ := hr.form
      have HR := Lib.hid hr
      clear hr hi hx2 HX
      go_wp2
      go_ret
      exact ⟨a, c, rfl, HR.out, HES.out.b⟩
    | j + 1, hgk, HX, hlen =>
      have hk : (((j + 1 : Nat) : Int) + 1) = ((j + 2 : Nat) : Int) := by omega
      rw [hk]
      obtain ⟨k, hkk⟩ : ∃ k, j + 2 = k := ⟨_, rfl⟩
      have hge : (2 : Int) ≤ (k : Int) := by omega
      have hge2 : 2 ≤ k := by omega
      have hk60 : k < 71 := by omega
      have hk61 : (k : Int) < 71 := by omega
      have hF := refF_any k (by omega) wr
      obtain ⟨X, hX⟩ : ∃ X, fibN k = X := ⟨_, rfl⟩
      have hX0 : 0 ≤ X := hX ▸ fibN_nonneg k
      rw [hX] at hF
      rw [hkk]
      have HF := Lib.hid hF
      have HK := Lib.hid hkk
      have HXX := Lib.hid hX
      clear hk hkk hX hF
      by_cases hle : X ≤ x
      · have hst := encL_yes (k := j) (n := x) (by rw [HK.out, HXX.out]; exact hle)
        rw [HK.out, HXX.out] at hst
        have hx2 := HX.out
        rw [hst] at hx2
        have HX2 := Lib.hid (show (xs ++ [(k : Int)]) ++ encL j (x - X) = L by simpa using hx2)
        obtain ⟨i0, hi, hz0, hz1, hz2⟩ := info_parts info3
        have hr := HES.out.r
        have hsz := HES.out.b.size
        have HJ := Lib.hid hgk
        have HLEN := Lib.hid hlen
        have hll : xs.length ≤ 69 := by omega
        clear hst hx2 HX hgk hlen
        go_wp2_with (first
          | (go_at_call 68; refine HF.out.mono ?_; rintro e w' ⟨rfl, rfl⟩)
          | (at_builtin; refine wpList_append_own _ rfl _ _ 22 rfl w.heap.size 3 i0 (.int .i64 0) 1 8 Try.underlying22 hi hz0 hz1 hz2 rfl (by decide) _ _ _ rfl (World.ownsRow.alloc (h := hr) _) ⟨w'.heap.size, 0, none⟩ 1 1 [.int .i64 (k : Int)] rfl rfl (cell_one_new _ _ _) (by simp [Value.oneCell']) (by unfold maxLen; omega) (by omega) (by simp; omega) ?_; intro v' w3 hown' hgrow _))
        have HES3 : RS w v' (xs ++ [(k : Int)]) w3 := by
          refine ⟨(HES.out.b.alloc (by omega) _).grown hgrow (by simp; omega) (fun j e => (hr.lt j e).1), ?_⟩
          unfold Row
          rw [List.length_append, List.map_append]
          exact hown'
        have H3 := Lib.hid HES3
        clear HES3 hown' hgrow hr
        go_roundg j
        case rel => exact ⟨x - X, xs ++ [(k : Int)], by have := HK.out; congr 1; omega, by have := HJ.out; omega, rfl, by omega, by omega, HX2.out, by have := HLEN.out; simp; omega, H3.out⟩
        case measure => omega
      · have hst := encL_no (k := j) (n := x) (by rw [HK.out, HXX.out]; omega)
        have hx2 := HX.out
        rw [hst] at hx2
        have HX2 := Lib.hid hx2
        have HJ := Lib.hid hgk
        have HLEN := Lib.hid hlen
        clear hst hx2 HX hgk hlen
        go_wp2_with (go_at_call 68; refine HF.out.mono ?_; rintro e w' ⟨rfl, rfl⟩)
        go_roundg j
        case rel => exact ⟨x, xs, by have := HK.out; congr 1; omega, by have := HJ.out; omega, rfl, hx0, hxn, HX2.out, by have := HLEN.out; omega, HES.out⟩
        case measure => omega

theorem enc_4 : enc 4 = [4, 2] := by decide +kernel
set_option maxHeartbeats 1000000 in
theorem awake_any (w : World) :
    Calls Try.prog 25 #[] w fun e w' => e = .returned (.bool true) ∧ Below w.heap.size w w' := by
  have hL := Encode_yes 4 rfl w
  rw [enc_4] at hL
  have HL := Lib.hid hL
  clear hL
  go_enter Try.func25, Try.ntmps25
  go_wp2_with fail
  refine HL.out.mono ?_
  rintro e w1 ⟨a, c, rfl, hr, hb⟩
  have HR := Lib.hid hr
  have HB := Lib.hid hb
  clear hr hb
  go_wp2_with fail
  have hlit := World.ownsRow_lit (base := w1.heap.size) (e := 3) (size := 1) w1 #[.int .i64 4, .int .i64 2] 2 (Nat.le_refl _) (by unfold maxLen; omega) rfl
  refine (equal_any _ _ 2 2 _ _ [4, 2] [4, 2] _ ((Ints.own HR.out).1.below ((Below.refl _ _).alloc (Nat.le_refl _) _)) (Ints.own (xs := [4, 2]) hlit).1 (by omega) (by omega)).mono ?_
  rintro e w2 ⟨rfl, q, rfl⟩
  clear hlit
  go_wp2
  go_ret
  exact ⟨rfl, below_drewN (HB.out.alloc HB.out.size _) q⟩
end Go.Proofs.Ytbdabpmpfciibaa
