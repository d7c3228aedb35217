/- The walks of covers.Days and Always. Condition: the slice lies in memory. -/
import Derived.Test.YtanhjgneaaenpaaDayOf
namespace Go.Proofs.Ytanhjgneaaenpaa
open Go.RowKit
attribute [local go_sem] Oper.semAt_some
set_option maxRecDepth 100000 in
set_option maxHeartbeats 4000000 in
theorem Days_badK (k : Int) (a : Option Addr) (n c : Nat) (xs : List Int) (w : World) (h : Ints w a n xs) (hc : n ≤ c) (hn : n ≤ 4611686018427387904) (hs : isK k = false) :
    Calls Try.prog 33 #[.int .i64 k, .slice a n c] w fun e w' => e = .returned (.tuple #[.slice none 0 0, .int .i64 2]) ∧ Below w.heap.size w w' := by
  have H := Lib.hid h
  have HK := Lib.hid (fun w => validFactor_any k w)
  have HP := Lib.hid (fun w h => validPrimes_any a n c xs w h hc hn)
  rw [hs] at HK
  clear h hs
  go_enter Try.func33, Try.ntmps33
  go_wp2_with fail
  refine (HK.out _).mono ?_
  rintro e w1 ⟨rfl, rfl⟩
  go_wp2
  go_ret2
  exact ⟨rfl, Below.refl _ _⟩
set_option maxRecDepth 100000 in
set_option maxHeartbeats 4000000 in
theorem Days_badP (k : Int) (a : Option Addr) (n c : Nat) (xs : List Int) (w : World) (h : Ints w a n xs) (hc : n ≤ c) (hn : n ≤ 4611686018427387904) (hs : isK k = true) (hp : isPs xs = false) :
    Calls Try.prog 33 #[.int .i64 k, .slice a n c] w fun e w' => e = .returned (.tuple #[.slice none 0 0, .int .i64 2]) ∧ Below w.heap.size w w' := by
  have H := Lib.hid h
  have HK := Lib.hid (fun w => validFactor_any k w)
  have HP := Lib.hid (fun w h => validPrimes_any a n c xs w h hc hn)
  rw [hs] at HK
  rw [hp] at HP
  clear h hs hp
  go_enter Try.func33, Try.ntmps33
  go_wp2_with fail
  refine (HK.out _).mono ?_
  rintro e w1 ⟨rfl, rfl⟩
  go_wp2_with fail
  refine (HP.out _ H.out).mono ?_
  rintro e w1 ⟨rfl, rfl⟩
  go_wp2
  go_ret2
  exact ⟨rfl, Below.refl _ _⟩
set_option maxRecDepth 100000 in
set_option maxHeartbeats 4000000 in
theorem Days_size (k : Int) (a : Option Addr) (n c : Nat) (xs : List Int) (w : World) (h : Ints w a n xs) (hc : n ≤ c) (hn : n ≤ 4611686018427387904) (hs : isK k = true) (hp : isPs xs = true) (hd : daysB k.toNat xs = true) :
    Calls Try.prog 33 #[.int .i64 k, .slice a n c] w fun e w' => e = .returned (.tuple #[.slice none 0 0, .int .i64 6]) ∧ Below w.heap.size w w' := by
  have H := Lib.hid h
  have HK := Lib.hid (fun w => validFactor_any k w)
  have HP := Lib.hid (fun w h => validPrimes_any a n c xs w h hc hn)
  rw [hs] at HK
  rw [hp] at HP
  obtain ⟨K, rfl⟩ : ∃ K : Nat, k = (K : Int) := by
    have : 1 ≤ k := by simp [isK] at hs; omega
    exact ⟨k.toNat, by omega⟩
  have hk6 : K ≤ 1000000 := by simp [isK] at hs; omega
  have HD := Lib.hid (fun w h => daysOf_no K a n c xs w hk6 h hp (by rw [Int.toNat_natCast] at hd; exact hd))
  clear h hs hp hd
  go_enter Try.func33, Try.ntmps33
  go_wp2_with fail
  refine (HK.out _).mono ?_
  rintro e w1 ⟨rfl, rfl⟩
  go_wp2_with fail
  refine (HP.out _ H.out).mono ?_
  rintro e w1 ⟨rfl, rfl⟩
  go_wp2_with fail
  refine (HD.out _ H.out).mono ?_
  rintro e w1 ⟨rfl, hb⟩
  have HB := Lib.hid hb
  clear hb
  go_wp2
  go_ret2
  exact ⟨rfl, HB.out⟩
set_option maxRecDepth 100000 in
set_option maxHeartbeats 4000000 in
theorem Always_badK (k : Int) (a : Option Addr) (n c : Nat) (xs : List Int) (w : World) (h : Ints w a n xs) (hc : n ≤ c) (hn : n ≤ 4611686018427387904) (hs : isK k = false) :
    Calls Try.prog 34 #[.int .i64 k, .slice a n c] w fun e w' => e = .returned (.tuple #[.int .i64 0, .int .i64 2]) ∧ Below w.heap.size w w' := by
  have H := Lib.hid h
  have HK := Lib.hid (fun w => validFactor_any k w)
  have HP := Lib.hid (fun w h => validPrimes_any a n c xs w h hc hn)
  rw [hs] at HK
  clear h hs
  go_enter Try.func34, Try.ntmps34
  go_wp2_with fail
  refine (HK.out _).mono ?_
  rintro e w1 ⟨rfl, rfl⟩
  go_wp2
  go_ret2
  exact ⟨rfl, Below.refl _ _⟩
set_option maxRecDepth 100000 in
set_option maxHeartbeats 4000000 in
theorem Always_badP (k : Int) (a : Option Addr) (n c : Nat) (xs : List Int) (w : World) (h : Ints w a n xs) (hc : n ≤ c) (hn : n ≤ 4611686018427387904) (hs : isK k = true) (hp : isPs xs = false) :
    Calls Try.prog 34 #[.int .i64 k, .slice a n c] w fun e w' => e = .returned (.tuple #[.int .i64 0, .int .i64 2]) ∧ Below w.heap.size w w' := by
  have H := Lib.hid h
  have HK := Lib.hid (fun w => validFactor_any k w)
  have HP := Lib.hid (fun w h => validPrimes_any a n c xs w h hc hn)
  rw [hs] at HK
  rw [hp] at HP
  clear h hs hp
  go_enter Try.func34, Try.ntmps34
  go_wp2_with fail
  refine (HK.out _).mono ?_
  rintro e w1 ⟨rfl, rfl⟩
  go_wp2_with fail
  refine (HP.out _ H.out).mono ?_
  rintro e w1 ⟨rfl, rfl⟩
  go_wp2
  go_ret2
  exact ⟨rfl, Below.refl _ _⟩
set_option maxRecDepth 100000 in
set_option maxHeartbeats 4000000 in
theorem Always_size (k : Int) (a : Option Addr) (n c : Nat) (xs : List Int) (w : World) (h : Ints w a n xs) (hc : n ≤ c) (hn : n ≤ 4611686018427387904) (hs : isK k = true) (hp : isPs xs = true) (hd : daysB k.toNat xs = true) :
    Calls Try.prog 34 #[.int .i64 k, .slice a n c] w fun e w' => e = .returned (.tuple #[.int .i64 0, .int .i64 6]) ∧ Below w.heap.size w w' := by
  have H := Lib.hid h
  have HK := Lib.hid (fun w => validFactor_any k w)
  have HP := Lib.hid (fun w h => validPrimes_any a n c xs w h hc hn)
  rw [hs] at HK
  rw [hp] at HP
  obtain ⟨K, rfl⟩ : ∃ K : Nat, k = (K : Int) := by
    have : 1 ≤ k := by simp [isK] at hs; omega
    exact ⟨k.toNat, by omega⟩
  have hk6 : K ≤ 1000000 := by simp [isK] at hs; omega
  have HD := Lib.hid (fun w h => daysOf_no K a n c xs w hk6 h hp (by rw [Int.toNat_natCast] at hd; exact hd))
  clear h hs hp hd
  go_enter Try.func34, Try.ntmps34
  go_wp2_with fail
  refine (HK.out _).mono ?_
  rintro e w1 ⟨rfl, rfl⟩
  go_wp2_with fail
  refine (HP.out _ H.out).mono ?_
  rintro e w1 ⟨rfl, rfl⟩
  go_wp2_with fail
  refine (HD.out _ H.out).mono ?_
  rintro e w1 ⟨rfl, hb⟩
  have HB := Lib.hid (hb.alloc hb.size (.cells #[.slice none 0 0] 58))
  clear hb
  go_wp2
  go_ret2
  exact ⟨rfl, HB.out⟩
set_option maxRecDepth 100000 in
set_option maxHeartbeats 4000000 in
theorem Days_yes (k : Int) (a : Option Addr) (n c : Nat) (xs : List Int) (w : World) (h : Ints w a n xs) (hc : n ≤ c) (hn : n ≤ 4611686018427387904) (hs : isK k = true) (hp : isPs xs = true) (hd : daysB k.toNat xs = false) :
    Calls Try.prog 33 #[.int .i64 k, .slice a n c] w fun e w' => ∃ v, e = .returned (.tuple #[v, .int .i64 0]) ∧ Row2 w.heap.size v (dyL k.toNat xs) w' ∧ Below w.heap.size w w' := by
  have H := Lib.hid h
  have HK := Lib.hid (fun w => validFactor_any k w)
  have HP := Lib.hid (fun w h => validPrimes_any a n c xs w h hc hn)
  rw [hs] at HK
  rw [hp] at HP
  obtain ⟨K, rfl⟩ : ∃ K : Nat, k = (K : Int) := by
    have : 1 ≤ k := by simp [isK] at hs; omega
    exact ⟨k.toNat, by omega⟩
  rw [Int.toNat_natCast] at hd ⊢
  have hk6 : K ≤ 1000000 := by simp [isK] at hs; omega
  have HD := Lib.hid (fun w h => daysOf_yes K a n c xs w hk6 h hp hd)
  clear h hs hp hd
  go_enter Try.func33, Try.ntmps33
  go_wp2_with fail
  refine (HK.out _).mono ?_
  rintro e w1 ⟨rfl, rfl⟩
  go_wp2_with fail
  refine (HP.out _ H.out).mono ?_
  rintro e w1 ⟨rfl, rfl⟩
  go_wp2_with fail
  refine (HD.out _ H.out).mono ?_
  rintro e w1 ⟨v, rfl, ho, hb⟩
  have HO := Lib.hid ho
  have HB := Lib.hid hb
  clear ho hb
  go_wp2
  go_ret2
  exact ⟨_, rfl, HO.out, HB.out⟩

theorem closure66_any (a : Option Addr) (n c : Nat) (xs : List (Int × Int)) (d g : Nat) (w : World) (h : Prs w a n xs) (hok : Ok xs) (hn : n ≤ 10) (hd : d ≤ 1000000) (hc : w.cell? ⟨g, 0, none⟩ = some (.slice a n c)) :
    Calls Try.prog 66 #[.int .i64 (d : Int), .pointer (some ⟨g, 0, none⟩)] w fun e w' => e = .returned (.bool (decide (tm d xs = 0))) ∧ Below w.heap.size w w' := by
  have hT := times_any a n c xs d w h hok (by omega) hd
  obtain ⟨T, ht⟩ : ∃ T, tm d xs = T := ⟨_, rfl⟩
  rw [ht] at hT
  have e : decide (tm d xs = 0) = ((T : Int) == 0) := by rw [ht, Bool.eq_iff_iff]; simp
  rw [e]
  have HT := Lib.hid hT
  clear h hok hT ht e
  go_enter Try.func66, Try.ntmps66
  go_wp2_with fail
  refine HT.out.mono ?_
  rintro e w1 ⟨rfl, hb⟩
  have HB := Lib.hid hb
  clear hb
  go_wp2
  go_ret
  exact ⟨rfl, HB.out⟩
/-- What Always answers where it answers. -/
def alwF (k : Nat) (xs : List Int) : Int × Int := lst (fun d => decide (tm (d : Int) (dyL k xs) = 0)) 1 (wl (dyL k xs))
theorem dyL_all {k : Nat} {xs : List Int} (hp : isPs xs = true) (hd : daysB k xs = false) : Ok (dyL k xs) ∧ wl (dyL k xs) ≤ 10080 ∧ (dyL k xs).length ≤ 8 := by
  unfold daysB at hd
  rw [Bool.or_eq_false_iff] at hd
  have h1 := dyL_ok hp (Nat.le_refl _) hd.1
  rw [List.take_length] at h1
  have h2 := of_decide_eq_false hd.2
  have h3 := dyL_len k xs
  have h4 := (isPs_len hp).2
  exact ⟨h1, by omega, by omega⟩
set_option maxRecDepth 100000 in
set_option maxHeartbeats 4000000 in
theorem Always_yes (k : Int) (a : Option Addr) (n c : Nat) (xs : List Int) (w : World) (h : Ints w a n xs) (hc : n ≤ c) (hn : n ≤ 4611686018427387904) (hs : isK k = true) (hp : isPs xs = true) (hd : daysB k.toNat xs = false) (r1 r2 : Int) (hr : alwF k.toNat xs = (r1, r2)) :
    Calls Try.prog 34 #[.int .i64 k, .slice a n c] w fun e w' => e = .returned (.tuple #[.int .i64 r1, .int .i64 r2]) ∧ Below w.heap.size w w' := by
  have H := Lib.hid h
  have HK := Lib.hid (fun w => validFactor_any k w)
  have HP := Lib.hid (fun w h => validPrimes_any a n c xs w h hc hn)
  rw [hs] at HK
  rw [hp] at HP
  obtain ⟨K, rfl⟩ : ∃ K : Nat, k = (K : Int) := by
    have : 1 ≤ k := by simp [isK] at hs; omega
    exact ⟨k.toNat, by omega⟩
  rw [Int.toNat_natCast] at hd hr
  have hk6 : K ≤ 1000000 := by simp [isK] at hs; omega
  have HD := Lib.hid (fun w h => daysOf_yes K a n c xs w hk6 h hp hd)
  have HDA := Lib.hid (dyL_all hp hd)
  unfold alwF at hr
  have HR := Lib.hid hr
  clear h hs hp hd hr
  go_enter Try.func34, Try.ntmps34
  go_wp2_with fail
  refine (HK.out _).mono ?_
  rintro e w1 ⟨rfl, rfl⟩
  go_wp2_with fail
  refine (HP.out _ H.out).mono ?_
  rintro e w1 ⟨rfl, rfl⟩
  go_wp2_with fail
  refine (HD.out _ H.out).mono ?_
  rintro e w2 ⟨v, rfl, ho, hb⟩
  obtain ⟨al, cl, rfl, h1, h2, h3⟩ := ho.prs
  obtain ⟨N, hN⟩ : ∃ N, (dyL K xs).length = N := ⟨_, rfl⟩
  have hN8 : N ≤ 8 := by have := HDA.out.2.2; omega
  rw [hN] at h1 h3 ⊢
  have hbx : Below w2.heap.size w2 (w2.alloc (.cells #[.slice al N cl] 58)) := (Below.refl _ _).alloc (Nat.le_refl _) _
  have h4 := h3.below hbx
  have hcb := cell_box w2 (.slice al N cl) 58
  have HB := Lib.hid (hb.alloc hb.size (.cells #[.slice al N cl] 58))
  obtain ⟨g, hg⟩ : ∃ g, w2.heap.size = g := ⟨_, rfl⟩
  obtain ⟨W2, hW2⟩ : ∃ W2, w2.alloc (.cells #[.slice al N cl] 58) = W2 := ⟨_, rfl⟩
  rw [hW2] at h4 hcb HB
  rw [hg] at hcb
  have hLD := leastDay66 al N cl (dyL K xs) 1 (fun d => decide (tm (d : Int) (dyL K xs) = 0)) g W2 h4 HDA.out.1 (by omega) HDA.out.2.1 (by omega) (fun d W hd hbW => closure66_any al N cl (dyL K xs) d g W (h4.below hbW) HDA.out.1 (by omega) (by omega) (cell_later hcb hbW))
  rw [HR.out] at hLD
  have HLD := Lib.hid hLD
  have HCB := Lib.hid hcb
  have HG := Lib.hid hg
  have HW2 := Lib.hid hW2
  clear ho hb h1 h3 h4 hbx hLD hN hg hW2
  have hcb2 : (w2.alloc (.cells #[.slice al N cl] 58)).cell? ⟨w2.heap.size, 0, none⟩ = some (.slice al N cl) := by rw [HG.out, HW2.out]; exact HCB.out
  clear hcb
  go_wp2_with fail
  rw [HG.out, HW2.out]
  refine HLD.out.mono ?_
  rintro e w4 ⟨rfl, hb4⟩
  have HB4 := Lib.hid (HB.out.trans (hb4.mono HB.out.size))
  clear hb4 HLD hcb2
  go_wp2
  go_ret2
  exact ⟨rfl, HB4.out⟩
end Go.Proofs.Ytanhjgneaaenpaa
