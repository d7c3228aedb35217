/- The law NumeralGame: its walk in every case. No condition. -/
import Derived.Test.YtbdabpmpfciibaaGame6
import Derived.Test.YtbdabpmpfciibaaPairsLaw
namespace Go.Proofs.Ytbdabpmpfciibaa
open Go.RowKit
attribute [local go_sem] Oper.semAt_some

theorem best_move {a b : Int} (h : isHp a b = true) (hw : isCold a b = false) :
    0 ≤ (bestF a b).1 ∧ (bestF a b).1 ≤ a ∧ 0 ≤ (bestF a b).2 ∧ (bestF a b).2 ≤ b ∧ isCold (bestF a b).1 (bestF a b).2 = true ∧ 0 < (a - (bestF a b).1) + (b - (bestF a b).2) ∧
      (a - (bestF a b).1 = 0 ∨ b - (bestF a b).2 = 0 ∨ a - (bestF a b).1 = b - (bestF a b).2) := by
  have hm := best_mem h hw
  obtain ⟨X, hX⟩ : ∃ X, bestF a b = X := ⟨_, rfl⟩
  rw [hX] at hm ⊢
  obtain ⟨hc, h1, h2⟩ := reach_mem hm
  obtain ⟨-, g1, g2, g3⟩ := cands_small h hc
  obtain ⟨a0, a1, b0, b1⟩ := isHp_yes h
  have hpos : 0 < (a - X.1) + (b - X.2) := by
    rcases Int.lt_or_le 0 ((a - X.1) + (b - X.2)) with hp | hp
    · exact hp
    · have e1 : X.1 = a := by omega
      have e2 : X.2 = b := by omega
      rw [e1, e2, hw] at g3
      exact absurd g3 (by simp)
  refine ⟨g1, h1, g2, h2, g3, hpos, ?_⟩
  unfold cands at hc
  simp only [List.mem_cons, List.not_mem_nil, or_false] at hc
  rcases hc with rfl | rfl | rfl
  · have := (cp_cold (d := b - a) (by omega) (by omega)).2.1
    right; right
    show a - cpA (b - a) = b - cpB (b - a)
    omega
  · right; left
    show b - b = 0
    omega
  · left
    show a - a = 0
    omega

/-- The pairs that the law looks at. -/
def lookL (a b n : Int) : List (Int × Int) := [(a - n, b), (a, b - n), (a - n, b - n)]
theorem look_warm {a b n : Int} (h : isHp a b = true) (hc : isCold a b = true) (hn : 1 ≤ n) {p : Int × Int} (hp : p ∈ lookL a b n) (h1 : 0 ≤ p.1) (h2 : 0 ≤ p.2) : coldV p.1 p.2 = false ∧ coldE p.1 p.2 = 0 := by
  obtain ⟨a0, a1, b0, b1⟩ := isHp_yes h
  have key : p.1 ≤ a ∧ p.2 ≤ b ∧ isCold p.1 p.2 = false := by
    unfold lookL at hp
    simp only [List.mem_cons, List.not_mem_nil, or_false] at hp
    rcases hp with rfl | rfl | rfl
    · refine ⟨by show a - n ≤ a; omega, Int.le_refl _, ?_⟩
      have h1' : 0 ≤ a - n := h1
      show isCold (a - n) b = false
      rw [← Bool.not_eq_true]
      intro hcc
      have := cold_uniq b0 (by omega) a0 (by omega) h1' (by omega) (isCold_sym hc) (isCold_sym hcc)
      omega
    · refine ⟨Int.le_refl _, by show b - n ≤ b; omega, ?_⟩
      have h2' : 0 ≤ b - n := h2
      show isCold a (b - n) = false
      rw [← Bool.not_eq_true]
      intro hcc
      have := cold_uniq a0 (by omega) b0 (by omega) h2' (by omega) hc hcc
      omega
    · refine ⟨by show a - n ≤ a; omega, by show b - n ≤ b; omega, ?_⟩
      show isCold (a - n) (b - n) = false
      rw [← Bool.not_eq_true]
      intro hcc
      have := cold_diag hc hcc
      omega
  have hh : isHp p.1 p.2 = true := isHp_mk ⟨h1, by omega, h2, by omega⟩
  unfold coldV coldE
  rw [hh, key.2.2, if_pos rfl]
  exact ⟨rfl, rfl⟩

set_option maxHeartbeats 8000000 in
set_option maxRecDepth 100000 in
theorem lawGame_no (a b x : Int) (w : World) (h : isHp a b = false) :
    Calls Try.prog 13 #[.int .i64 a, .int .i64 b, .int .i64 x] w fun e w' => e = .returned (.bool true) ∧ Below w.heap.size w w' := by
  have h1 : coldV a b = false := by unfold coldV; rw [h, Bool.false_and]
  have h2 : coldE a b = 2 := by unfold coldE; rw [h]; rfl
  have h3 : moveV a b = (0, 0) := by unfold moveV; rw [h]; rfl
  have h4 : moveE a b = 2 := by unfold moveE; rw [h]; rfl
  have HC := Lib.hid (Cold_any a b w)
  have HM := Lib.hid (fun w => Move_any a b w)
  rw [h1, h2] at HC
  rw [h3, h4] at HM
  clear h h1 h2 h3 h4
  go_enter Try.func13, Try.ntmps13
  go_wp2_with fail
  refine HC.out.mono ?_
  rintro e w1 ⟨rfl, hb1⟩
  have HB1 := Lib.hid hb1
  clear hb1
  go_wp2_with fail
  refine (HM.out _).mono ?_
  rintro e w2 ⟨rfl, hb2⟩
  have HB2 := Lib.hid (HB1.out.trans (hb2.mono HB1.out.size))
  clear hb2
  go_wp2_with fail
  refine (awake_any _).mono ?_
  rintro e w3 ⟨rfl, hb3⟩
  have HB3 := Lib.hid ((HB2.out.alloc HB2.out.size _).trans (hb3.mono (by have := HB2.out.size; simp; omega)))
  clear hb3
  go_wp2
  go_ret
  exact ⟨rfl, HB3.out⟩

set_option maxHeartbeats 8000000 in
set_option maxRecDepth 100000 in
theorem lawGame_warm (a b x : Int) (w : World) (h : isHp a b = true) (hw : isCold a b = false) :
    Calls Try.prog 13 #[.int .i64 a, .int .i64 b, .int .i64 x] w fun e w' => e = .returned (.bool true) ∧ Below w.heap.size w w' := by
  have h1 : coldV a b = false := by unfold coldV; rw [h, hw]; rfl
  have h2 : coldE a b = 0 := by unfold coldE; rw [h]; rfl
  have h3 : moveV a b = bestF a b := by unfold moveV; rw [h, hw]; rfl
  have h4 : moveE a b = 0 := by unfold moveE; rw [h, hw]; rfl
  obtain ⟨a0, a1, b0, b1⟩ := isHp_yes h
  obtain ⟨m0, m1, m2, m3, m4, m5, m6⟩ := best_move h hw
  have HC := Lib.hid (Cold_any a b w)
  have HM := Lib.hid (fun w => Move_any a b w)
  rw [h1, h2] at HC
  rw [h3, h4] at HM
  obtain ⟨X, hX⟩ : ∃ X, (bestF a b).1 = X := ⟨_, rfl⟩
  obtain ⟨Y, hY⟩ : ∃ Y, (bestF a b).2 = Y := ⟨_, rfl⟩
  rw [hX, hY] at HM m4 m5 m6
  rw [hX] at m0 m1
  rw [hY] at m2 m3
  have hh2 : isHp X Y = true := isHp_mk ⟨m0, by omega, m2, by omega⟩
  have g1 : coldV X Y = true := by unfold coldV; rw [hh2, m4]; rfl
  have g2 : coldE X Y = 0 := by unfold coldE; rw [hh2]; rfl
  have HC2 := Lib.hid (fun w => Cold_any X Y w)
  rw [g1, g2] at HC2
  obtain ⟨U, hU⟩ : ∃ U, a - X = U := ⟨_, rfl⟩
  obtain ⟨V, hV⟩ : ∃ V, b - Y = V := ⟨_, rfl⟩
  rw [hU, hV] at m5 m6
  have u0 : 0 ≤ U := by omega
  have v0 : 0 ≤ V := by omega
  have u1 : U ≤ 1000000 := by omega
  have v1 : V ≤ 1000000 := by omega
  clear h hw h1 h2 h3 h4 hX hY hh2 g1 g2 m4
  go_enter Try.func13, Try.ntmps13
  go_wp2_with fail
  refine HC.out.mono ?_
  rintro e w1 ⟨rfl, hb1⟩
  have HB1 := Lib.hid hb1
  clear hb1
  go_wp2_with fail
  refine (HM.out _).mono ?_
  rintro e w2 ⟨rfl, hb2⟩
  have HB2 := Lib.hid (HB1.out.trans (hb2.mono HB1.out.size))
  clear hb2
  go_wp2_with fail
  refine (HC2.out _).mono ?_
  rintro e w3 ⟨rfl, hb3⟩
  have d0 := (hb3.cell (p := ⟨w2.heap.size, 0, none⟩) (by simp)).trans (show (w2.alloc (.cells #[.int .i64 X, .int .i64 Y] 46)).cell? ⟨w2.heap.size, 0, none⟩ = some (.int .i64 X) by simp)
  have d1 := (hb3.cell (p := ⟨w2.heap.size, 1, none⟩) (by simp)).trans (show (w2.alloc (.cells #[.int .i64 X, .int .i64 Y] 46)).cell? ⟨w2.heap.size, 1, none⟩ = some (.int .i64 Y) by simp)
  have HB3 := Lib.hid ((HB2.out.alloc HB2.out.size _).trans (hb3.mono (by have := HB2.out.size; simp; omega)))
  obtain ⟨g, hg⟩ : ∃ g, w2.heap.size = g := ⟨_, rfl⟩
  rw [hg] at d0 d1 ⊢
  clear hb3 hg HC HM HC2
  have hUV : 0 < U + V := m5
  have hwU : IntKind.i64.wrap U = U := by simp [IntKind.wrap, IntKind.bits, IntKind.signed]; omega
  have hwV : IntKind.i64.wrap V = V := by simp [IntKind.wrap, IntKind.bits, IntKind.signed]; omega
  go_wp2_with fail
  go_quiet (fail)
  have HBd : ∀ q, Below w.heap.size w (w3.drewN q) := fun q => below_drewN HB3.out q
  by_cases hU0 : U = 0
  · have kb : (U == 0) = true := by simp [hU0]
    clear m6
    go_wp2_with fail
    refine (awake_any _).mono ?_
    rintro e w5 ⟨rfl, hb5⟩
    have HB5 := Lib.hid ((HBd _).trans (hb5.mono (HBd _).size))
    clear hb5
    go_wp2
    go_ret
    exact ⟨rfl, HB5.out⟩
  · have kb : (U == 0) = false := by simp [hU0]
    by_cases hV0 : V = 0
    · have kb2 : (V == 0) = true := by simp [hV0]
      clear m6
      go_wp2_with fail
      refine (awake_any _).mono ?_
      rintro e w5 ⟨rfl, hb5⟩
      have HB5 := Lib.hid ((HBd _).trans (hb5.mono (HBd _).size))
      clear hb5
      go_wp2
      go_ret
      exact ⟨rfl, HB5.out⟩
    · have kb2 : (V == 0) = false := by simp [hV0]
      have hEq : U = V := by rcases m6 with h | h | h; · exact absurd h hU0
                             · exact absurd h hV0
                             · exact h
      have kb3 : (U == V) = true := by simp [hEq]
      clear m6 hEq
      go_wp2_with fail
      refine (awake_any _).mono ?_
      rintro e w5 ⟨rfl, hb5⟩
      have HB5 := Lib.hid ((HBd _).trans (hb5.mono (HBd _).size))
      clear hb5
      go_wp2
      go_ret
      exact ⟨rfl, HB5.out⟩

theorem fl2_three (a b n : Int) : (#[.int .i64 (a - n), .int .i64 b, .int .i64 a, .int .i64 (b - n), .int .i64 (a - n), .int .i64 (b - n)] : Array Value).toList = fl2 (lookL a b n) := rfl

set_option maxHeartbeats 8000000 in
set_option maxRecDepth 100000 in
theorem lawGame_cold (a b x : Int) (w : World) (h : isHp a b = true) (hc : isCold a b = true) :
    Calls Try.prog 13 #[.int .i64 a, .int .i64 b, .int .i64 x] w fun e w' => e = .returned (.bool true) ∧ Below w.heap.size w w' := by
  have h1 : coldV a b = true := by unfold coldV; rw [h, hc]; rfl
  have h2 : coldE a b = 0 := by unfold coldE; rw [h]; rfl
  have h3 : moveV a b = (0, 0) := by unfold moveV; rw [h, hc]; rfl
  have h4 : moveE a b = 4 := by unfold moveE; rw [h, hc]; rfl
  obtain ⟨a0, a1, b0, b1⟩ := isHp_yes h
  obtain ⟨t, ht, t0, t1⟩ := uint_mod x 1000 (by omega)
  obtain ⟨n, hn⟩ : ∃ n, 1 + t = n := ⟨_, rfl⟩
  have n0 : 1 ≤ n := by omega
  have n1 : n ≤ 1000 := by omega
  have HC := Lib.hid (Cold_any a b w)
  have HM := Lib.hid (fun w => Move_any a b w)
  rw [h1, h2] at HC
  rw [h3, h4] at HM
  have HLW := Lib.hid (fun p (hp : p ∈ lookL a b n) => look_warm h hc n0 hp)
  have hwa : IntKind.i64.wrap (a - n) = a - n := by simp [IntKind.wrap, IntKind.bits, IntKind.signed]; omega
  have hwb : IntKind.i64.wrap (b - n) = b - n := by simp [IntKind.wrap, IntKind.bits, IntKind.signed]; omega
  have hwt : IntKind.i64.wrap t = t := by simp [IntKind.wrap, IntKind.bits, IntKind.signed]; omega
  clear h hc h1 h2 h3 h4
  go_enter Try.func13, Try.ntmps13
  go_wp2_with fail
  refine HC.out.mono ?_
  rintro e w1 ⟨rfl, hb1⟩
  have HB1 := Lib.hid hb1
  clear hb1
  go_wp2_with fail
  refine (HM.out _).mono ?_
  rintro e w2 ⟨rfl, hb2⟩
  have HB2 := Lib.hid (HB1.out.trans (hb2.mono HB1.out.size))
  clear hb2 HC HM
  go_wp2
  have hrow : Row2 (w2.heap.size + 1) (.slice (some ⟨w2.heap.size + 1, 0, none⟩) 3 3) (lookL a b n) ((w2.alloc (.cells #[.int .i64 0, .int .i64 0] 46)).alloc (.cells #[.int .i64 (a - n), .int .i64 b, .int .i64 a, .int .i64 (b - n), .int .i64 (a - n), .int .i64 (b - n)] 46)) := by
    have hl := World.ownsRow_lit (base := w2.heap.size + 1) (e := 46) (size := 2) (w2.alloc (.cells #[.int .i64 0, .int .i64 0] 46)) #[.int .i64 (a - n), .int .i64 b, .int .i64 a, .int .i64 (b - n), .int .i64 (a - n), .int .i64 (b - n)] 3 (by simp) (by unfold maxLen; omega) rfl
    rw [World.size_alloc] at hl
    exact hl
  have hbel := (HB2.out.alloc HB2.out.size (.cells #[.int .i64 0, .int .i64 0] 46)).alloc (by have := HB2.out.size; simp; omega) (.cells #[.int .i64 (a - n), .int .i64 b, .int .i64 a, .int .i64 (b - n), .int .i64 (a - n), .int .i64 (b - n)] 46)
  obtain ⟨W3, hW3⟩ : ∃ W3, ((w2.alloc (.cells #[.int .i64 0, .int .i64 0] 46)).alloc (.cells #[.int .i64 (a - n), .int .i64 b, .int .i64 a, .int .i64 (b - n), .int .i64 (a - n), .int .i64 (b - n)] 46)) = W3 := ⟨_, rfl⟩
  rw [hW3] at hrow hbel ⊢
  have HR := Lib.hid hrow
  have HBW := Lib.hid hbel
  obtain ⟨G, hG⟩ : ∃ G, w2.heap.size + 1 = G := ⟨_, rfl⟩
  rw [hG] at HR ⊢
  clear hrow hbel hW3 hG HB1 HB2
  go_loopg [16, 17, 18, 131] 3 (fun gk u16 u17 u18 i wr => ∃ (j : Nat), j + gk = 3 ∧ i = .int .i64 (j : Int) ∧ Below w.heap.size w wr ∧ Row2 G (.slice (some ⟨G, 0, none⟩) 3 3) (lookL a b n) wr)
  case atStart => exact ⟨0, by omega, rfl, HBW.out, HR.out⟩
  case round =>
    obtain ⟨j, hj, rfl, hb, hr⟩ := hrel
    clear HBW HR
    have HB := Lib.hid hb
    have HR := Lib.hid hr
    clear hb hr
    by_cases hj3 : j = 3
    · have hge : ¬ (j : Int) < 3 := by omega
      have hge2 : ¬ j < 3 := by omega
      clear hj
      go_wp2_with fail
      refine (awake_any _).mono ?_
      rintro e w5 ⟨rfl, hb5⟩
      have HB5 := Lib.hid (HB.out.trans (hb5.mono HB.out.size))
      clear hb5
      go_wp2
      go_ret
      exact ⟨rfl, HB5.out⟩
    · have hlt : (j : Int) < 3 := by omega
      have hlt2 : j < 3 := by omega
      have j0 : (0 : Int) ≤ (j : Int) := by omega
      have hjl : j < (lookL a b n).length := hlt2
      obtain ⟨c0, c1⟩ := HR.out.cell hjl
      have hL := HLW.out _ (nth2_mem hjl)
      obtain ⟨X, hX⟩ : ∃ X, (nth2 (lookL a b n) j).1 = X := ⟨_, rfl⟩
      obtain ⟨Y, hY⟩ : ∃ Y, (nth2 (lookL a b n) j).2 = Y := ⟨_, rfl⟩
      rw [hX] at c0 hL
      rw [hY] at c1 hL
      have HL := Lib.hid hL
      have HR1 := Lib.hid (show Row2 G (.slice (some ⟨G, 0, none⟩) 3 3) (lookL a b n) (wr.alloc (.cells #[.int .i64 X, .int .i64 Y] 46)) from World.ownsRow.alloc (h := HR.out) _)
      have HB1 := Lib.hid (HB.out.alloc HB.out.size (.cells #[.int .i64 X, .int .i64 Y] 46))
      have HJ := Lib.hid hj
      clear hL hX hY hj hj3 hjl
      by_cases hx : X < 0
      · go_wp2
        go_roundg (3 - j - 1)
        case rel => exact ⟨j + 1, by have := HJ.out; omega, by go_num, HB1.out, HR1.out⟩
        case measure => have := HJ.out; omega
      · by_cases hy : Y < 0
        · go_wp2
          go_roundg (3 - j - 1)
          case rel => exact ⟨j + 1, by have := HJ.out; omega, by go_num, HB1.out, HR1.out⟩
          case measure => have := HJ.out; omega
        · obtain ⟨e1, e2⟩ := HL.out (by omega) (by omega)
          have HC := Lib.hid (fun w => Cold_any X Y w)
          rw [e1, e2] at HC
          clear e1 e2 HL
          go_wp2_with fail
          refine (HC.out _).mono ?_
          rintro e w5 ⟨rfl, hb5⟩
          have HR5 := Lib.hid (own_later HR1.out hb5)
          have HB5 := Lib.hid (HB1.out.trans (hb5.mono HB1.out.size))
          clear hb5 HC
          go_wp2
          go_roundg (3 - j - 1)
          case rel => exact ⟨j + 1, by have := HJ.out; omega, by go_num, HB5.out, HR5.out⟩
          case measure => have := HJ.out; omega

theorem lawGame_any (a b x : Int) (w : World) :
    Calls Try.prog 13 #[.int .i64 a, .int .i64 b, .int .i64 x] w fun e w' => e = .returned (.bool true) ∧ Below w.heap.size w w' := by
  by_cases h : isHp a b = true
  · by_cases hc : isCold a b = true
    · exact lawGame_cold a b x w h hc
    · exact lawGame_warm a b x w h (by simpa using hc)
  · exact lawGame_no a b x w (by simpa using h)
end Go.Proofs.Ytbdabpmpfciibaa
