/- The law PellObstructs: its walk in every case. No condition on its arguments. -/
import Derived.Test.YtbdadckedhcibaaOb
import Derived.Test.YtbdadckedhcibaaRefOb
import Derived.Test.YtbdadckedhcibaaRefBest
import Derived.Test.YtbdadckedhcibaaBestAll
namespace Go.Proofs.Ytbdadckedhcibaa
open Go.RowKit Go.Shelf
attribute [local go_sem] Oper.semAt_some

set_option maxHeartbeats 1000000 in
theorem Best_not (d m : Int) (h : isD d = false ∨ m < 1 ∨ 1000 < m) (w : World) :
    Calls Try.prog 35 #[.int .i64 d, .int .i64 m] w fun e w' => e = .returned (.tuple #[.int .i64 0, .int .i64 0, .int .i64 2]) ∧ Below w.heap.size w w' := by
  have hB := (((Below.refl w.heap.size w).alloc (Nat.le_refl _) (.cells #[.int .i64 m] 3)).alloc (by simp) (.cells #[.int .i64 0] 3)).alloc (by simp; omega) (.cells #[.int .i64 0] 3)
  have HB := Lib.hid hB
  clear hB
  by_cases hd : isD d = true
  · have h' : m < 1 ∨ 1000 < m := by simpa [hd] using h
    have HD := Lib.hid hd
    clear hd h
    rcases h' with h' | h'
    · have h1 : decide (m < 1) = true := by simpa using h'
      go_enter Try.func35, Try.ntmps35
      go_wp2_with (first | (go_at_call 41; refine (validD_any _ _).mono ?_; rintro e w' ⟨rfl, rfl⟩; rw [HD.out]))
      refine bodyPost_ret (v := .tuple #[.int .i64 0, .int .i64 0, .int .i64 2]) (by simp [results, Try.results35, go_sem]) rfl ⟨rfl, HB.out⟩
    · have h1 : decide (1000 < m) = true := by simpa using h'
      have h2 : decide (m < 1) = false := by simp; omega
      go_enter Try.func35, Try.ntmps35
      go_wp2_with (first | (go_at_call 41; refine (validD_any _ _).mono ?_; rintro e w' ⟨rfl, rfl⟩; rw [HD.out]))
      refine bodyPost_ret (v := .tuple #[.int .i64 0, .int .i64 0, .int .i64 2]) (by simp [results, Try.results35, go_sem]) rfl ⟨rfl, HB.out⟩
  · have hd' : isD d = false := by simpa using hd
    have HD := Lib.hid hd'
    clear hd hd' h
    go_enter Try.func35, Try.ntmps35
    go_wp2_with (first | (go_at_call 41; refine (validD_any _ _).mono ?_; rintro e w' ⟨rfl, rfl⟩; rw [HD.out]))
    refine bodyPost_ret (v := .tuple #[.int .i64 0, .int .i64 0, .int .i64 2]) (by simp [results, Try.results35, go_sem]) rfl ⟨rfl, HB.out⟩

set_option maxHeartbeats 4000000 in
set_option maxRecDepth 100000 in
theorem lawObs_no (d n m : Int) (hd : isD d = false) (w : World) :
    Calls Try.prog 8 #[.int .i64 d, .int .i64 n, .int .i64 m] w fun e w' => e = .returned (.bool true) ∧ Below w.heap.size w w' := by
  have HO := Lib.hid (fun w => Obstruct_no d n (.inl hd) w)
  have HP := Lib.hid (fun w => Best_not d m (.inl hd) w)
  have HD := Lib.hid hd
  clear hd
  go_enter Try.func8, Try.ntmps8
  go_wp2_with fail
  refine (HO.out _).mono ?_
  rintro e w1 ⟨rfl, hb1⟩
  have H1 := Lib.hid hb1
  clear hb1 HO
  go_wp2_with fail
  refine (HP.out _).mono ?_
  rintro e w2 ⟨rfl, hb2⟩
  have H2 := Lib.hid (H1.out.trans (hb2.mono H1.out.size))
  clear hb2 HP H1
  go_wp2_with fail
  refine (Valid_any _ _).mono ?_
  rintro e w' ⟨rfl, rfl⟩
  rw [HD.out]
  go_wp2_with fail
  have H4 := Lib.hid H2.out
  clear H2
  refine (awake_any _).mono ?_
  rintro e w5 ⟨rfl, hb5⟩
  have H5 := Lib.hid (H4.out.trans (hb5.mono H4.out.size))
  clear hb5
  go_wp2
  go_ret
  exact ⟨rfl, H5.out⟩

set_option maxHeartbeats 4000000 in
set_option maxRecDepth 100000 in
theorem lawObs_nbad (d n m : Int) (hd : isD d = true) (hn : isN n = false) (hm : m < 1 ∨ 1000 < m) (w : World) :
    Calls Try.prog 8 #[.int .i64 d, .int .i64 n, .int .i64 m] w fun e w' => e = .returned (.bool true) ∧ Below w.heap.size w w' := by
  have hd2 := isD_bd hd
  have HO := Lib.hid (fun w => Obstruct_no d n (.inr hn) w)
  have HP := Lib.hid (fun w => Best_not d m (.inr hm) w)
  clear hd2
  have HD := Lib.hid hd
  have HN := Lib.hid hn
  clear hd hn
  rcases hm with hm | hm
  · go_enter Try.func8, Try.ntmps8
    go_wp2_with fail
    refine (HO.out _).mono ?_
    rintro e w1 ⟨rfl, hb1⟩
    have H1 := Lib.hid hb1
    clear hb1 HO
    go_wp2_with fail
    refine (HP.out _).mono ?_
    rintro e w2 ⟨rfl, hb2⟩
    have H2 := Lib.hid (H1.out.trans (hb2.mono H1.out.size))
    clear hb2 HP H1
    go_wp2_with fail
    refine (Valid_any _ _).mono ?_
    rintro e w' ⟨rfl, rfl⟩
    rw [HD.out]
    go_wp2_with fail
    refine (Number_any _ _).mono ?_
    rintro e w' ⟨rfl, rfl⟩
    rw [HN.out]
    go_wp2_with fail
    have H3 := Lib.hid H2.out
    clear H2
    have H4 := Lib.hid H3.out
    clear H3
    refine (awake_any _).mono ?_
    rintro e w5 ⟨rfl, hb5⟩
    have H5 := Lib.hid (H4.out.trans (hb5.mono H4.out.size))
    clear hb5
    go_wp2
    go_ret
    exact ⟨rfl, H5.out⟩
  · go_enter Try.func8, Try.ntmps8
    go_wp2_with fail
    refine (HO.out _).mono ?_
    rintro e w1 ⟨rfl, hb1⟩
    have H1 := Lib.hid hb1
    clear hb1 HO
    go_wp2_with fail
    refine (HP.out _).mono ?_
    rintro e w2 ⟨rfl, hb2⟩
    have H2 := Lib.hid (H1.out.trans (hb2.mono H1.out.size))
    clear hb2 HP H1
    go_wp2_with fail
    refine (Valid_any _ _).mono ?_
    rintro e w' ⟨rfl, rfl⟩
    rw [HD.out]
    go_wp2_with fail
    refine (Number_any _ _).mono ?_
    rintro e w' ⟨rfl, rfl⟩
    rw [HN.out]
    go_wp2_with fail
    have H3 := Lib.hid H2.out
    clear H2
    have H4 := Lib.hid H3.out
    clear H3
    refine (awake_any _).mono ?_
    rintro e w5 ⟨rfl, hb5⟩
    have H5 := Lib.hid (H4.out.trans (hb5.mono H4.out.size))
    clear hb5
    go_wp2
    go_ret
    exact ⟨rfl, H5.out⟩

set_option maxHeartbeats 4000000 in
set_option maxRecDepth 100000 in
theorem lawObs_ngood (d n m : Int) (hd : isD d = true) (hn : isN n = false) (hm : 1 ≤ m ∧ m ≤ 1000) (w : World) :
    Calls Try.prog 8 #[.int .i64 d, .int .i64 n, .int .i64 m] w fun e w' => e = .returned (.bool true) ∧ Below w.heap.size w w' := by
  have hd2 := isD_bd hd
  have HO := Lib.hid (fun w => Obstruct_no d n (.inr hn) w)
  have HP := Lib.hid (fun w => Best_yes d m hd hm.1 hm.2 w)
  have HQ := Lib.hid (fun w => refBest_yes d m.toNat (by omega) hd2.2 (by omega) w)
  have hba := best_all hd (m := m.toNat) (by omega) (by omega)
  rw [show ((m.toNat : Nat) : Int) = m by omega] at HQ hba
  rw [hba] at HQ
  dsimp only at HQ
  obtain ⟨P, hP⟩ : ∃ P, cvP d (bK d m) = P := ⟨_, rfl⟩
  obtain ⟨Q, hQ⟩ : ∃ Q, cvQ d (bK d m) = Q := ⟨_, rfl⟩
  rw [hP, hQ] at HP HQ
  obtain ⟨m1, m2⟩ := hm
  clear hP hQ hba
  clear hd2
  have HD := Lib.hid hd
  have HN := Lib.hid hn
  clear hd hn
  go_enter Try.func8, Try.ntmps8
  go_wp2_with fail
  refine (HO.out _).mono ?_
  rintro e w1 ⟨rfl, hb1⟩
  have H1 := Lib.hid hb1
  clear hb1 HO
  go_wp2_with fail
  refine (HP.out _).mono ?_
  rintro e w2 ⟨rfl, hb2⟩
  have H2 := Lib.hid (H1.out.trans (hb2.mono H1.out.size))
  clear hb2 HP H1
  go_wp2_with fail
  refine (Valid_any _ _).mono ?_
  rintro e w' ⟨rfl, rfl⟩
  rw [HD.out]
  go_wp2_with fail
  refine (Number_any _ _).mono ?_
  rintro e w' ⟨rfl, rfl⟩
  rw [HN.out]
  go_wp2_with fail
  have H3 := Lib.hid H2.out
  clear H2
  refine (HQ.out _).mono ?_
  rintro e w4 ⟨rfl, hb4⟩
  have H4 := Lib.hid (H3.out.trans (hb4.mono H3.out.size))
  clear hb4 HQ H3
  go_wp2_with fail
  refine (awake_any _).mono ?_
  rintro e w5 ⟨rfl, hb5⟩
  have H5 := Lib.hid (H4.out.trans (hb5.mono H4.out.size))
  clear hb5
  go_wp2
  go_ret
  exact ⟨rfl, H5.out⟩

set_option maxHeartbeats 4000000 in
set_option maxRecDepth 100000 in
theorem lawObs_ybad (d n m : Int) (hd : isD d = true) (hn : isN n = true) (hm : m < 1 ∨ 1000 < m) (w : World) :
    Calls Try.prog 8 #[.int .i64 d, .int .i64 n, .int .i64 m] w fun e w' => e = .returned (.bool true) ∧ Below w.heap.size w w' := by
  have hd2 := isD_bd hd
  have HO := Lib.hid (fun w => Obstruct_yes d n hd hn w)
  have HR := Lib.hid (fun w => refObstruct_yes d n hd hn w)
  obtain ⟨X, hX⟩ : ∃ X, obs d n = X := ⟨_, rfl⟩
  rw [hX] at HO HR
  clear hX
  obtain ⟨x1, x2⟩ := X
  have HP := Lib.hid (fun w => Best_not d m (.inr hm) w)
  clear hd2
  have HD := Lib.hid hd
  have HN := Lib.hid hn
  clear hd hn
  rcases hm with hm | hm
  · go_enter Try.func8, Try.ntmps8
    go_wp2_with fail
    refine (HO.out _).mono ?_
    rintro e w1 ⟨rfl, hb1⟩
    have H1 := Lib.hid hb1
    clear hb1 HO
    go_wp2_with fail
    refine (HP.out _).mono ?_
    rintro e w2 ⟨rfl, hb2⟩
    have H2 := Lib.hid (H1.out.trans (hb2.mono H1.out.size))
    clear hb2 HP H1
    go_wp2_with fail
    refine (Valid_any _ _).mono ?_
    rintro e w' ⟨rfl, rfl⟩
    rw [HD.out]
    go_wp2_with fail
    refine (Number_any _ _).mono ?_
    rintro e w' ⟨rfl, rfl⟩
    rw [HN.out]
    go_wp2_with fail
    refine (HR.out _).mono ?_
    rintro e w3 ⟨rfl, hb3⟩
    have H3 := Lib.hid (H2.out.trans (hb3.mono H2.out.size))
    clear hb3 HR H2
    go_wp2_with fail
    have H4 := Lib.hid H3.out
    clear H3
    refine (awake_any _).mono ?_
    rintro e w5 ⟨rfl, hb5⟩
    have H5 := Lib.hid (H4.out.trans (hb5.mono H4.out.size))
    clear hb5
    go_wp2
    go_ret
    exact ⟨rfl, H5.out⟩
  · go_enter Try.func8, Try.ntmps8
    go_wp2_with fail
    refine (HO.out _).mono ?_
    rintro e w1 ⟨rfl, hb1⟩
    have H1 := Lib.hid hb1
    clear hb1 HO
    go_wp2_with fail
    refine (HP.out _).mono ?_
    rintro e w2 ⟨rfl, hb2⟩
    have H2 := Lib.hid (H1.out.trans (hb2.mono H1.out.size))
    clear hb2 HP H1
    go_wp2_with fail
    refine (Valid_any _ _).mono ?_
    rintro e w' ⟨rfl, rfl⟩
    rw [HD.out]
    go_wp2_with fail
    refine (Number_any _ _).mono ?_
    rintro e w' ⟨rfl, rfl⟩
    rw [HN.out]
    go_wp2_with fail
    refine (HR.out _).mono ?_
    rintro e w3 ⟨rfl, hb3⟩
    have H3 := Lib.hid (H2.out.trans (hb3.mono H2.out.size))
    clear hb3 HR H2
    go_wp2_with fail
    have H4 := Lib.hid H3.out
    clear H3
    refine (awake_any _).mono ?_
    rintro e w5 ⟨rfl, hb5⟩
    have H5 := Lib.hid (H4.out.trans (hb5.mono H4.out.size))
    clear hb5
    go_wp2
    go_ret
    exact ⟨rfl, H5.out⟩

set_option maxHeartbeats 4000000 in
set_option maxRecDepth 100000 in
theorem lawObs_ygood (d n m : Int) (hd : isD d = true) (hn : isN n = true) (hm : 1 ≤ m ∧ m ≤ 1000) (w : World) :
    Calls Try.prog 8 #[.int .i64 d, .int .i64 n, .int .i64 m] w fun e w' => e = .returned (.bool true) ∧ Below w.heap.size w w' := by
  have hd2 := isD_bd hd
  have HO := Lib.hid (fun w => Obstruct_yes d n hd hn w)
  have HR := Lib.hid (fun w => refObstruct_yes d n hd hn w)
  obtain ⟨X, hX⟩ : ∃ X, obs d n = X := ⟨_, rfl⟩
  rw [hX] at HO HR
  clear hX
  obtain ⟨x1, x2⟩ := X
  have HP := Lib.hid (fun w => Best_yes d m hd hm.1 hm.2 w)
  have HQ := Lib.hid (fun w => refBest_yes d m.toNat (by omega) hd2.2 (by omega) w)
  have hba := best_all hd (m := m.toNat) (by omega) (by omega)
  rw [show ((m.toNat : Nat) : Int) = m by omega] at HQ hba
  rw [hba] at HQ
  dsimp only at HQ
  obtain ⟨P, hP⟩ : ∃ P, cvP d (bK d m) = P := ⟨_, rfl⟩
  obtain ⟨Q, hQ⟩ : ∃ Q, cvQ d (bK d m) = Q := ⟨_, rfl⟩
  rw [hP, hQ] at HP HQ
  obtain ⟨m1, m2⟩ := hm
  clear hP hQ hba
  clear hd2
  have HD := Lib.hid hd
  have HN := Lib.hid hn
  clear hd hn
  go_enter Try.func8, Try.ntmps8
  go_wp2_with fail
  refine (HO.out _).mono ?_
  rintro e w1 ⟨rfl, hb1⟩
  have H1 := Lib.hid hb1
  clear hb1 HO
  go_wp2_with fail
  refine (HP.out _).mono ?_
  rintro e w2 ⟨rfl, hb2⟩
  have H2 := Lib.hid (H1.out.trans (hb2.mono H1.out.size))
  clear hb2 HP H1
  go_wp2_with fail
  refine (Valid_any _ _).mono ?_
  rintro e w' ⟨rfl, rfl⟩
  rw [HD.out]
  go_wp2_with fail
  refine (Number_any _ _).mono ?_
  rintro e w' ⟨rfl, rfl⟩
  rw [HN.out]
  go_wp2_with fail
  refine (HR.out _).mono ?_
  rintro e w3 ⟨rfl, hb3⟩
  have H3 := Lib.hid (H2.out.trans (hb3.mono H2.out.size))
  clear hb3 HR H2
  go_wp2_with fail
  refine (HQ.out _).mono ?_
  rintro e w4 ⟨rfl, hb4⟩
  have H4 := Lib.hid (H3.out.trans (hb4.mono H3.out.size))
  clear hb4 HQ H3
  go_wp2_with fail
  refine (awake_any _).mono ?_
  rintro e w5 ⟨rfl, hb5⟩
  have H5 := Lib.hid (H4.out.trans (hb5.mono H4.out.size))
  clear hb5
  go_wp2
  go_ret
  exact ⟨rfl, H5.out⟩

theorem lawObs_any (d n m : Int) (w : World) :
    Calls Try.prog 8 #[.int .i64 d, .int .i64 n, .int .i64 m] w fun e w' => e = .returned (.bool true) ∧ Below w.heap.size w w' := by
  by_cases hd : isD d = true
  · by_cases hm : m < 1 ∨ 1000 < m <;> by_cases hn : isN n = true
    · exact lawObs_ybad d n m hd hn hm w
    · exact lawObs_nbad d n m hd (by simpa using hn) hm w
    · exact lawObs_ygood d n m hd hn (by omega) w
    · exact lawObs_ngood d n m hd (by simpa using hn) (by omega) w
  · exact lawObs_no d n m (by simpa using hd) w
end Go.Proofs.Ytbdadckedhcibaa
