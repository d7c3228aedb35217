/- The walk of system.leastDay with each of the four closures that the program hands to it. Condition: the slice of pairs lies in memory and its whole is at most 10080. -/
import Derived.Test.YtanhjgneaaenpaaTimes
namespace Go.Proofs.Ytanhjgneaaenpaa
open Go.RowKit
attribute [local go_sem] Oper.semAt_some

set_option maxHeartbeats 4000000 in
theorem leastDay47 (a : Option Addr) (n c : Nat) (xs : List (Int × Int)) (f : Nat) (P : Nat → Bool) (g : Nat) (w : World) (h : Prs w a n xs) (hok : Ok xs) (hn : n ≤ 10) (hw : wl xs ≤ 10080) (hf : f ≤ 1)
    (hP : ∀ (d : Nat) (W : World), d ≤ 20200 → Below w.heap.size w W → Calls Try.prog 47 #[.int .i64 (d : Int), .pointer (some ⟨g, 0, none⟩)] W fun e w' => e = .returned (.bool (P d)) ∧ Below W.heap.size W w') :
    Calls Try.prog 46 #[.slice a n c, .int .i64 (f : Int), .func (.func 47) #[] #[.pointer (some ⟨g, 0, none⟩)]] w fun e w' => e = .returned (.tuple #[.int .i64 (lst P f (wl xs)).1, .int .i64 (lst P f (wl xs)).2]) ∧ Below w.heap.size w w' := by
  have hW := whole_any a n c xs w h hok hn
  obtain ⟨U, hU⟩ : ∃ U, wl xs = U := ⟨_, rfl⟩
  rw [hU] at hW hw ⊢
  obtain ⟨r, hr⟩ : ∃ r, lst P f U = r := ⟨_, rfl⟩
  obtain ⟨r1, r2⟩ := r
  rw [hr]
  have HR := Lib.hid hr
  have HP := Lib.hid hP
  have HW := Lib.hid hW
  clear hr hP h hok hU hW
  go_enter Try.func46, Try.ntmps46
  go_wp2_with fail
  refine HW.out.mono ?_
  rintro e w1 ⟨rfl, hb1⟩
  have HB1 := Lib.hid hb1
  clear hb1 HW
  go_wp2
  go_loopg [9] U (fun gk s9 wr => ∃ (d : Nat), d + gk = f + U ∧ s9 = .int .i64 (d : Int) ∧ lst P d gk = (r1, r2) ∧ Below w.heap.size w wr)
  case atStart => exact ⟨f, rfl, rfl, HR.out, HB1.out⟩
  case round =>
    obtain ⟨d, hd, rfl, hl, hb⟩ := hrel
    have HB := Lib.hid hb
    have HD := Lib.hid hd
    have HL := Lib.hid hl
    clear hb hl
    cases gk with
    | zero =>
      have hge : ¬ (d : Int) < (f : Int) + (U : Int) := by omega
      have e := HL.out
      rw [lst_end] at e
      obtain ⟨rfl, rfl⟩ : r1 = 0 ∧ r2 = 4 := by simp at e; omega
      clear e hd
      go_wp2
      go_ret2
      exact ⟨rfl, HB.out⟩
    | succ k =>
      have hlt : (d : Int) < (f : Int) + (U : Int) := by omega
      have HC := Lib.hid (HP.out d wr (by omega) HB.out)
      obtain ⟨t, ht⟩ : ∃ t, P d = t := ⟨_, rfl⟩
      have HT := Lib.hid ht
      rw [ht] at HC
      have d0 : (d : Int) ≤ 20200 := by omega
      clear hd ht
      go_wp2_with fail
      refine HC.out.mono ?_
      rintro e w2 ⟨rfl, hb2⟩
      have HB2 := Lib.hid (HB.out.trans (hb2.mono HB.out.size))
      clear hb2 HC
      cases t with
      | true =>
        have e := HL.out
        rw [lst_yes k HT.out] at e
        obtain ⟨rfl, rfl⟩ : (d : Int) = r1 ∧ (0 : Int) = r2 := by simpa using e
        clear e
        go_wp2
        go_ret2
        exact ⟨rfl, HB2.out⟩
      | false =>
        have e := HL.out
        rw [lst_no k HT.out] at e
        have HE := Lib.hid e
        clear e
        go_wp2
        go_roundg k
        case rel => exact ⟨d + 1, by have := HD.out; omega, by go_num, HE.out, HB2.out⟩
        case measure => omega

set_option maxHeartbeats 4000000 in
theorem leastDay49 (a : Option Addr) (n c : Nat) (xs : List (Int × Int)) (f : Nat) (P : Nat → Bool) (g : Nat) (w : World) (h : Prs w a n xs) (hok : Ok xs) (hn : n ≤ 10) (hw : wl xs ≤ 10080) (hf : f ≤ 1)
    (hP : ∀ (d : Nat) (W : World), d ≤ 20200 → Below w.heap.size w W → Calls Try.prog 49 #[.int .i64 (d : Int), .pointer (some ⟨g, 0, none⟩)] W fun e w' => e = .returned (.bool (P d)) ∧ Below W.heap.size W w') :
    Calls Try.prog 46 #[.slice a n c, .int .i64 (f : Int), .func (.func 49) #[] #[.pointer (some ⟨g, 0, none⟩)]] w fun e w' => e = .returned (.tuple #[.int .i64 (lst P f (wl xs)).1, .int .i64 (lst P f (wl xs)).2]) ∧ Below w.heap.size w w' := by
  have hW := whole_any a n c xs w h hok hn
  obtain ⟨U, hU⟩ : ∃ U, wl xs = U := ⟨_, rfl⟩
  rw [hU] at hW hw ⊢
  obtain ⟨r, hr⟩ : ∃ r, lst P f U = r := ⟨_, rfl⟩
  obtain ⟨r1, r2⟩ := r
  rw [hr]
  have HR := Lib.hid hr
  have HP := Lib.hid hP
  have HW := Lib.hid hW
  clear hr hP h hok hU hW
  go_enter Try.func46, Try.ntmps46
  go_wp2_with fail
  refine HW.out.mono ?_
  rintro e w1 ⟨rfl, hb1⟩
  have HB1 := Lib.hid hb1
  clear hb1 HW
  go_wp2
  go_loopg [9] U (fun gk s9 wr => ∃ (d : Nat), d + gk = f + U ∧ s9 = .int .i64 (d : Int) ∧ lst P d gk = (r1, r2) ∧ Below w.heap.size w wr)
  case atStart => exact ⟨f, rfl, rfl, HR.out, HB1.out⟩
  case round =>
    obtain ⟨d, hd, rfl, hl, hb⟩ := hrel
    have HB := Lib.hid hb
    have HD := Lib.hid hd
    have HL := Lib.hid hl
    clear hb hl
    cases gk with
    | zero =>
      have hge : ¬ (d : Int) < (f : Int) + (U : Int) := by omega
      have e := HL.out
      rw [lst_end] at e
      obtain ⟨rfl, rfl⟩ : r1 = 0 ∧ r2 = 4 := by simp at e; omega
      clear e hd
      go_wp2
      go_ret2
      exact ⟨rfl, HB.out⟩
    | succ k =>
      have hlt : (d : Int) < (f : Int) + (U : Int) := by omega
      have HC := Lib.hid (HP.out d wr (by omega) HB.out)
      obtain ⟨t, ht⟩ : ∃ t, P d = t := ⟨_, rfl⟩
      have HT := Lib.hid ht
      rw [ht] at HC
      have d0 : (d : Int) ≤ 20200 := by omega
      clear hd ht
      go_wp2_with fail
      refine HC.out.mono ?_
      rintro e w2 ⟨rfl, hb2⟩
      have HB2 := Lib.hid (HB.out.trans (hb2.mono HB.out.size))
      clear hb2 HC
      cases t with
      | true =>
        have e := HL.out
        rw [lst_yes k HT.out] at e
        obtain ⟨rfl, rfl⟩ : (d : Int) = r1 ∧ (0 : Int) = r2 := by simpa using e
        clear e
        go_wp2
        go_ret2
        exact ⟨rfl, HB2.out⟩
      | false =>
        have e := HL.out
        rw [lst_no k HT.out] at e
        have HE := Lib.hid e
        clear e
        go_wp2
        go_roundg k
        case rel => exact ⟨d + 1, by have := HD.out; omega, by go_num, HE.out, HB2.out⟩
        case measure => omega

set_option maxHeartbeats 4000000 in
theorem leastDay54 (a : Option Addr) (n c : Nat) (xs : List (Int × Int)) (f : Nat) (P : Nat → Bool) (g g' : Nat) (w : World) (h : Prs w a n xs) (hok : Ok xs) (hn : n ≤ 10) (hw : wl xs ≤ 10080) (hf : f ≤ 1)
    (hP : ∀ (d : Nat) (W : World), d ≤ 20200 → Below w.heap.size w W → Calls Try.prog 54 #[.int .i64 (d : Int), .pointer (some ⟨g, 0, none⟩), .pointer (some ⟨g', 0, none⟩)] W fun e w' => e = .returned (.bool (P d)) ∧ Below W.heap.size W w') :
    Calls Try.prog 46 #[.slice a n c, .int .i64 (f : Int), .func (.func 54) #[] #[.pointer (some ⟨g, 0, none⟩), .pointer (some ⟨g', 0, none⟩)]] w fun e w' => e = .returned (.tuple #[.int .i64 (lst P f (wl xs)).1, .int .i64 (lst P f (wl xs)).2]) ∧ Below w.heap.size w w' := by
  have hW := whole_any a n c xs w h hok hn
  obtain ⟨U, hU⟩ : ∃ U, wl xs = U := ⟨_, rfl⟩
  rw [hU] at hW hw ⊢
  obtain ⟨r, hr⟩ : ∃ r, lst P f U = r := ⟨_, rfl⟩
  obtain ⟨r1, r2⟩ := r
  rw [hr]
  have HR := Lib.hid hr
  have HP := Lib.hid hP
  have HW := Lib.hid hW
  clear hr hP h hok hU hW
  go_enter Try.func46, Try.ntmps46
  go_wp2_with fail
  refine HW.out.mono ?_
  rintro e w1 ⟨rfl, hb1⟩
  have HB1 := Lib.hid hb1
  clear hb1 HW
  go_wp2
  go_loopg [9] U (fun gk s9 wr => ∃ (d : Nat), d + gk = f + U ∧ s9 = .int .i64 (d : Int) ∧ lst P d gk = (r1, r2) ∧ Below w.heap.size w wr)
  case atStart => exact ⟨f, rfl, rfl, HR.out, HB1.out⟩
  case round =>
    obtain ⟨d, hd, rfl, hl, hb⟩ := hrel
    have HB := Lib.hid hb
    have HD := Lib.hid hd
    have HL := Lib.hid hl
    clear hb hl
    cases gk with
    | zero =>
      have hge : ¬ (d : Int) < (f : Int) + (U : Int) := by omega
      have e := HL.out
      rw [lst_end] at e
      obtain ⟨rfl, rfl⟩ : r1 = 0 ∧ r2 = 4 := by simp at e; omega
      clear e hd
      go_wp2
      go_ret2
      exact ⟨rfl, HB.out⟩
    | succ k =>
      have hlt : (d : Int) < (f : Int) + (U : Int) := by omega
      have HC := Lib.hid (HP.out d wr (by omega) HB.out)
      obtain ⟨t, ht⟩ : ∃ t, P d = t := ⟨_, rfl⟩
      have HT := Lib.hid ht
      rw [ht] at HC
      have d0 : (d : Int) ≤ 20200 := by omega
      clear hd ht
      go_wp2_with fail
      refine HC.out.mono ?_
      rintro e w2 ⟨rfl, hb2⟩
      have HB2 := Lib.hid (HB.out.trans (hb2.mono HB.out.size))
      clear hb2 HC
      cases t with
      | true =>
        have e := HL.out
        rw [lst_yes k HT.out] at e
        obtain ⟨rfl, rfl⟩ : (d : Int) = r1 ∧ (0 : Int) = r2 := by simpa using e
        clear e
        go_wp2
        go_ret2
        exact ⟨rfl, HB2.out⟩
      | false =>
        have e := HL.out
        rw [lst_no k HT.out] at e
        have HE := Lib.hid e
        clear e
        go_wp2
        go_roundg k
        case rel => exact ⟨d + 1, by have := HD.out; omega, by go_num, HE.out, HB2.out⟩
        case measure => omega

set_option maxHeartbeats 4000000 in
theorem leastDay66 (a : Option Addr) (n c : Nat) (xs : List (Int × Int)) (f : Nat) (P : Nat → Bool) (g : Nat) (w : World) (h : Prs w a n xs) (hok : Ok xs) (hn : n ≤ 10) (hw : wl xs ≤ 10080) (hf : f ≤ 1)
    (hP : ∀ (d : Nat) (W : World), d ≤ 20200 → Below w.heap.size w W → Calls Try.prog 66 #[.int .i64 (d : Int), .pointer (some ⟨g, 0, none⟩)] W fun e w' => e = .returned (.bool (P d)) ∧ Below W.heap.size W w') :
    Calls Try.prog 46 #[.slice a n c, .int .i64 (f : Int), .func (.func 66) #[] #[.pointer (some ⟨g, 0, none⟩)]] w fun e w' => e = .returned (.tuple #[.int .i64 (lst P f (wl xs)).1, .int .i64 (lst P f (wl xs)).2]) ∧ Below w.heap.size w w' := by
  have hW := whole_any a n c xs w h hok hn
  obtain ⟨U, hU⟩ : ∃ U, wl xs = U := ⟨_, rfl⟩
  rw [hU] at hW hw ⊢
  obtain ⟨r, hr⟩ : ∃ r, lst P f U = r := ⟨_, rfl⟩
  obtain ⟨r1, r2⟩ := r
  rw [hr]
  have HR := Lib.hid hr
  have HP := Lib.hid hP
  have HW := Lib.hid hW
  clear hr hP h hok hU hW
  go_enter Try.func46, Try.ntmps46
  go_wp2_with fail
  refine HW.out.mono ?_
  rintro e w1 ⟨rfl, hb1⟩
  have HB1 := Lib.hid hb1
  clear hb1 HW
  go_wp2
  go_loopg [9] U (fun gk s9 wr => ∃ (d : Nat), d + gk = f + U ∧ s9 = .int .i64 (d : Int) ∧ lst P d gk = (r1, r2) ∧ Below w.heap.size w wr)
  case atStart => exact ⟨f, rfl, rfl, HR.out, HB1.out⟩
  case round =>
    obtain ⟨d, hd, rfl, hl, hb⟩ := hrel
    have HB := Lib.hid hb
    have HD := Lib.hid hd
    have HL := Lib.hid hl
    clear hb hl
    cases gk with
    | zero =>
      have hge : ¬ (d : Int) < (f : Int) + (U : Int) := by omega
      have e := HL.out
      rw [lst_end] at e
      obtain ⟨rfl, rfl⟩ : r1 = 0 ∧ r2 = 4 := by simp at e; omega
      clear e hd
      go_wp2
      go_ret2
      exact ⟨rfl, HB.out⟩
    | succ k =>
      have hlt : (d : Int) < (f : Int) + (U : Int) := by omega
      have HC := Lib.hid (HP.out d wr (by omega) HB.out)
      obtain ⟨t, ht⟩ : ∃ t, P d = t := ⟨_, rfl⟩
      have HT := Lib.hid ht
      rw [ht] at HC
      have d0 : (d : Int) ≤ 20200 := by omega
      clear hd ht
      go_wp2_with fail
      refine HC.out.mono ?_
      rintro e w2 ⟨rfl, hb2⟩
      have HB2 := Lib.hid (HB.out.trans (hb2.mono HB.out.size))
      clear hb2 HC
      cases t with
      | true =>
        have e := HL.out
        rw [lst_yes k HT.out] at e
        obtain ⟨rfl, rfl⟩ : (d : Int) = r1 ∧ (0 : Int) = r2 := by simpa using e
        clear e
        go_wp2
        go_ret2
        exact ⟨rfl, HB2.out⟩
      | false =>
        have e := HL.out
        rw [lst_no k HT.out] at e
        have HE := Lib.hid e
        clear e
        go_wp2
        go_roundg k
        case rel => exact ⟨d + 1, by have := HD.out; omega, by go_num, HE.out, HB2.out⟩
        case measure => omega
end Go.Proofs.Ytanhjgneaaenpaa
