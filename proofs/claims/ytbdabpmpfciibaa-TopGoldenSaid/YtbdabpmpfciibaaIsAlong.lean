/- The walks that ask whether a slice is a numeral along a fraction, the program's and the reference's (written by tools/isalong.py). Condition: the slices lie in memory, the first is a fraction. -/
import Derived.Test.YtbdabpmpfciibaaFrac
namespace Go.Proofs.Ytbdabpmpfciibaa
open Go.RowKit
attribute [local go_sem] Oper.semAt_some

set_option maxHeartbeats 4000000 in
set_option maxRecDepth 100000 in
theorem validA_any (a1 a2 : Option Addr) (n c m d : Nat) (q cs : List Int) (w : World) (h : Ints w a1 n q) (h2 : Ints w a2 m cs) (hq : isQ q = true) (hm : m ≤ 4611686018427387904) :
    Calls Try.prog 81 #[.slice a1 n c, .slice a2 m d] w fun e w' => e = .returned (.bool (isA q cs)) ∧ w' = w := by
  have H := Lib.hid h
  have HL := Lib.hid h.1
  have H2 := Lib.hid h2
  have HL2 := Lib.hid h2.1
  have hn := isQ_yes hq
  rw [h.1] at hn
  have HQ := Lib.hid hn.2.2
  have hn10 : n ≤ 10 := hn.2.1
  have hn1 : 1 ≤ n := hn.1
  obtain ⟨B, hB⟩ : ∃ B, isA q cs = B := ⟨_, rfl⟩
  rw [hB]
  have HBB := Lib.hid hB
  clear h h2 hq hn hB
  by_cases hmn : m = n
  · have HMN := Lib.hid hmn
    have hb : ((m : Int) != (n : Int)) = false := by rw [hmn]; simp
    have hb2 : (m != n) = false := by rw [hmn]; simp
    have m10 : m ≤ 10 := by omega
    clear hmn
    go_enter Try.func81, Try.ntmps81
    go_wp2
    go_loopg [14] m (fun gk i wr => ∃ (k : Nat), k + gk = m ∧ i = .int .i64 (k : Int) ∧ (∀ j, j < k → okA q cs j = true) ∧ wr = w)
    case atStart => exact ⟨0, by omega, rfl, fun j hj => by omega, rfl⟩
    case round =>
      obtain ⟨k, hk, rfl, hall, hww⟩ := hrel
      have hww2 := hww.symm
      subst hww2
      have HALL := Lib.hid hall
      clear hall
      by_cases hkm : k = m
      · have hge : ¬ (k : Int) < (m : Int) := by omega
        have hge2 : ¬ k < m := by omega
        have hT : B = true := by
          rw [← HBB.out]
          exact isA_mk (by have := HL.out; have := HL2.out; have := HMN.out; omega) (fun j hj => HALL.out j (by have := HL.out; have := HMN.out; omega))
        subst hT
        clear hkm hk
        go_wp2
        go_ret
        exact ⟨rfl, rfl⟩
      · have hlt : (k : Int) < (m : Int) := by omega
        have hlt2 : k < m := by omega
        have hkn : k < n := by have := HMN.out; omega
        have hkn2 : (k : Int) < (n : Int) := by have := HMN.out; omega
        obtain ⟨b2, off2, rfl, hbl2, hc2⟩ := H2.out.at (by omega)
        have hck := hc2 k hlt2
        obtain ⟨b1, off1, rfl, hbl1, hc1⟩ := H.out.at (by omega)
        have hqk := hc1 k hkn
        have hq0 := hc1 0 (by omega)
        rw [Nat.add_zero] at hq0
        have hyb := HQ.out k (by have := HL.out; omega)
        have hno : ∀ {P : Prop}, okA q cs k = false → B = false := fun {_} hh => by rw [← HBB.out]; exact isA_no_at (k := k) (by have := HL.out; omega) hh
        have hno2 : ¬ (0 ≤ cs.getD k 0 ∧ cs.getD k 0 ≤ q.getD k 0 ∧ (cs.getD k 0 = q.getD k 0 → k ≠ 0 ∧ cs.getD (k - 1) 0 = 0)) → B = false := fun hh => hno (P := True) (okA_false hh)
        have hyes : (0 ≤ cs.getD k 0 ∧ cs.getD k 0 ≤ q.getD k 0 ∧ (cs.getD k 0 = q.getD k 0 → k ≠ 0 ∧ cs.getD (k - 1) 0 = 0)) → okA q cs k = true := okA_iff.2
        have HNO := Lib.hid hno2
        have HYES := Lib.hid hyes
        obtain ⟨x, hx⟩ : ∃ x, cs.getD k 0 = x := ⟨_, rfl⟩
        rw [hx] at hck HNO HYES
        obtain ⟨y, hy⟩ : ∃ y, q.getD k 0 = y := ⟨_, rfl⟩
        rw [hy] at hqk HNO HYES hyb
        obtain ⟨y0, y9⟩ := hyb
        have HY := Lib.hid hy
        have HK := Lib.hid hk
        have k0 : (0 : Int) ≤ (k : Int) := by omega
        have n0i : (0 : Int) < (n : Int) := by omega
        clear hno hno2 hyes hx hy hk hkm
        by_cases h1 : x < 0
        · have hF := HNO.out (fun hh => by omega)
          subst hF
          clear hc1 hc2 hq0
          go_wp2
          go_ret
          exact ⟨rfl, rfl⟩
        · by_cases h3 : y < x
          · have hF := HNO.out (fun hh => by omega)
            subst hF
            clear hc1 hc2 hq0
            go_wp2
            go_ret
            exact ⟨rfl, rfl⟩
          · by_cases hk0 : k = 0
            · have kb1 : ((k : Int) == 0) = true := by simp; omega
              have kb2 : decide ((k : Int) = 0) = true := by simp; omega
              have kb3 : ¬ (0 : Int) < (k : Int) := by omega
              have hq0y : q.getD 0 0 = y := by rw [← HY.out, hk0]
              rw [hq0y] at hq0
              by_cases h4 : x = y
              · have hF := HNO.out (fun hh => (hh.2.2 h4).1 hk0)
                have xb : (x == y) = true := by simp [h4]
                have xg : y - 1 < x := by omega
                subst hF
                clear hc1 hc2 hk0 h4 hq0y
                go_wp2
                go_ret
                exact ⟨rfl, rfl⟩
              · have xb : (x == y) = false := by simp [h4]
                have xg : ¬ y - 1 < x := by omega
                have hT := Lib.hid (HYES.out ⟨by omega, by omega, fun hh => absurd hh h4⟩)
                have HK0 := Lib.hid hk0
                clear hc1 hc2 hk0 h4 hq0y
                go_wp2
                go_roundg (m - k - 1)
                case rel =>
                  refine ⟨k + 1, by have := HK.out; omega, by go_num, fun j hj => ?_, rfl⟩
                  by_cases hjk : j = k
                  · subst hjk; exact hT.out
                  · exact HALL.out j (by omega)
                case measure => have := HK.out; omega
            · obtain ⟨j, hj⟩ : ∃ j, k = j + 1 := ⟨k - 1, by omega⟩
              have kb1 : ((k : Int) == 0) = false := by simp; omega
              have kb2 : decide ((k : Int) = 0) = false := by simp; omega
              have kb3 : (0 : Int) < (k : Int) := by omega
              have hidx : (k : Int) - 1 = (j : Int) := by omega
              have hcj := hc2 j (by omega)
              have hj2 : j < m := by omega
              have hj3 : (j : Int) < (m : Int) := by omega
              have hj0 : (0 : Int) ≤ (j : Int) := by omega
              obtain ⟨z, hz⟩ : ∃ z, cs.getD j 0 = z := ⟨_, rfl⟩
              rw [hz] at hcj
              have hpz : cs.getD (k - 1) 0 = z := by rw [hj, Nat.add_sub_cancel]; exact hz
              rw [hpz] at HNO HYES
              by_cases h4 : x = y
              · have xb : (x == y) = true := by simp [h4]
                by_cases h5 : z = 0
                · have zb : (z != 0) = false := by simp [h5]
                  have hT := Lib.hid (HYES.out ⟨by omega, by omega, fun _ => ⟨hk0, h5⟩⟩)
                  clear hc1 hc2 hk0 h4 hq0 hj hz hpz h5
                  go_wp2
                  go_roundg (m - k - 1)
                  case rel =>
                    refine ⟨k + 1, by have := HK.out; omega, by go_num, fun j hj => ?_, rfl⟩
                    by_cases hjk : j = k
                    · subst hjk; exact hT.out
                    · exact HALL.out j (by omega)
                  case measure => have := HK.out; omega
                · have hF := HNO.out (fun hh => h5 (hh.2.2 h4).2)
                  have zb : (z != 0) = true := by simp [h5]
                  subst hF
                  clear hc1 hc2 hk0 h4 hq0 hj hz hpz
                  go_wp2
                  go_ret
                  exact ⟨rfl, rfl⟩
              · have xb : (x == y) = false := by simp [h4]
                have hT := Lib.hid (HYES.out ⟨by omega, by omega, fun hh => absurd hh h4⟩)
                clear hc1 hc2 hk0 h4 hq0 hj hz hpz
                go_wp2
                go_roundg (m - k - 1)
                case rel =>
                  refine ⟨k + 1, by have := HK.out; omega, by go_num, fun j hj => ?_, rfl⟩
                  by_cases hjk : j = k
                  · subst hjk; exact hT.out
                  · exact HALL.out j (by omega)
                case measure => have := HK.out; omega
  · have hF : B = false := by rw [← HBB.out]; exact isA_no_len (by have := HL.out; have := HL2.out; omega)
    have hb : ((m : Int) != (n : Int)) = true := by simp; omega
    have hb2 : (m != n) = true := by simp; omega
    subst hF
    clear hmn
    go_enter Try.func81, Try.ntmps81
    go_wp2
    go_ret
    exact ⟨rfl, rfl⟩

set_option maxHeartbeats 4000000 in
set_option maxRecDepth 100000 in
theorem refIsAlong_any (a1 a2 : Option Addr) (n c m d : Nat) (q cs : List Int) (w : World) (h : Ints w a1 n q) (h2 : Ints w a2 m cs) (hq : isQ q = true) (hm : m ≤ 4611686018427387904) :
    Calls Try.prog 50 #[.slice a1 n c, .slice a2 m d] w fun e w' => e = .returned (.bool (isA q cs)) ∧ w' = w := by
  have H := Lib.hid h
  have HL := Lib.hid h.1
  have H2 := Lib.hid h2
  have HL2 := Lib.hid h2.1
  have hn := isQ_yes hq
  rw [h.1] at hn
  have HQ := Lib.hid hn.2.2
  have hn10 : n ≤ 10 := hn.2.1
  have hn1 : 1 ≤ n := hn.1
  obtain ⟨B, hB⟩ : ∃ B, isA q cs = B := ⟨_, rfl⟩
  rw [hB]
  have HBB := Lib.hid hB
  clear h h2 hq hn hB
  by_cases hmn : m = n
  · have HMN := Lib.hid hmn
    have hb : ((m : Int) != (n : Int)) = false := by rw [hmn]; simp
    have hb2 : (m != n) = false := by rw [hmn]; simp
    have m10 : m ≤ 10 := by omega
    clear hmn
    go_enter Try.func50, Try.ntmps50
    go_wp2
    go_loopg [14] m (fun gk i wr => ∃ (k : Nat), k + gk = m ∧ i = .int .i64 (k : Int) ∧ (∀ j, j < k → okA q cs j = true) ∧ wr = w)
    case atStart => exact ⟨0, by omega, rfl, fun j hj => by omega, rfl⟩
    case round =>
      obtain ⟨k, hk, rfl, hall, hww⟩ := hrel
      have hww2 := hww.symm
      subst hww2
      have HALL := Lib.hid hall
      clear hall
      by_cases hkm : k = m
      · have hge : ¬ (k : Int) < (m : Int) := by omega
        have hge2 : ¬ k < m := by omega
        have hT : B = true := by
          rw [← HBB.out]
          exact isA_mk (by have := HL.out; have := HL2.out; have := HMN.out; omega) (fun j hj => HALL.out j (by have := HL.out; have := HMN.out; omega))
        subst hT
        clear hkm hk
        go_wp2
        go_ret
        exact ⟨rfl, rfl⟩
      · have hlt : (k : Int) < (m : Int) := by omega
        have hlt2 : k < m := by omega
        have hkn : k < n := by have := HMN.out; omega
        have hkn2 : (k : Int) < (n : Int) := by have := HMN.out; omega
        obtain ⟨b2, off2, rfl, hbl2, hc2⟩ := H2.out.at (by omega)
        have hck := hc2 k hlt2
        obtain ⟨b1, off1, rfl, hbl1, hc1⟩ := H.out.at (by omega)
        have hqk := hc1 k hkn
        have hq0 := hc1 0 (by omega)
        rw [Nat.add_zero] at hq0
        have hyb := HQ.out k (by have := HL.out; omega)
        have hno : ∀ {P : Prop}, okA q cs k = false → B = false := fun {_} hh => by rw [← HBB.out]; exact isA_no_at (k := k) (by have := HL.out; omega) hh
        have hno2 : ¬ (0 ≤ cs.getD k 0 ∧ cs.getD k 0 ≤ q.getD k 0 ∧ (cs.getD k 0 = q.getD k 0 → k ≠ 0 ∧ cs.getD (k - 1) 0 = 0)) → B = false := fun hh => hno (P := True) (okA_false hh)
        have hyes : (0 ≤ cs.getD k 0 ∧ cs.getD k 0 ≤ q.getD k 0 ∧ (cs.getD k 0 = q.getD k 0 → k ≠ 0 ∧ cs.getD (k - 1) 0 = 0)) → okA q cs k = true := okA_iff.2
        have HNO := Lib.hid hno2
        have HYES := Lib.hid hyes
        obtain ⟨x, hx⟩ : ∃ x, cs.getD k 0 = x := ⟨_, rfl⟩
        rw [hx] at hck HNO HYES
        obtain ⟨y, hy⟩ : ∃ y, q.getD k 0 = y := ⟨_, rfl⟩
        rw [hy] at hqk HNO HYES hyb
        obtain ⟨y0, y9⟩ := hyb
        have HY := Lib.hid hy
        have HK := Lib.hid hk
        have k0 : (0 : Int) ≤ (k : Int) := by omega
        have n0i : (0 : Int) < (n : Int) := by omega
        clear hno hno2 hyes hx hy hk hkm
        by_cases h1 : x < 0
        · have hF := HNO.out (fun hh => by omega)
          subst hF
          clear hc1 hc2 hq0
          go_wp2
          go_ret
          exact ⟨rfl, rfl⟩
        · by_cases h3 : y < x
          · have hF := HNO.out (fun hh => by omega)
            subst hF
            clear hc1 hc2 hq0
            go_wp2
            go_ret
            exact ⟨rfl, rfl⟩
          · by_cases hk0 : k = 0
            · have kb1 : ((k : Int) == 0) = true := by simp; omega
              have kb2 : decide ((k : Int) = 0) = true := by simp; omega
              have kb3 : ¬ (0 : Int) < (k : Int) := by omega
              have hq0y : q.getD 0 0 = y := by rw [← HY.out, hk0]
              rw [hq0y] at hq0
              by_cases h4 : x = y
              · have hF := HNO.out (fun hh => (hh.2.2 h4).1 hk0)
                have xb : (x == y) = true := by simp [h4]
                have xg : y - 1 < x := by omega
                subst hF
                clear hc1 hc2 hk0 h4 hq0y
                go_wp2
                go_ret
                exact ⟨rfl, rfl⟩
              · have xb : (x == y) = false := by simp [h4]
                have xg : ¬ y - 1 < x := by omega
                have hT := Lib.hid (HYES.out ⟨by omega, by omega, fun hh => absurd hh h4⟩)
                have HK0 := Lib.hid hk0
                clear hc1 hc2 hk0 h4 hq0y
                go_wp2
                go_roundg (m - k - 1)
                case rel =>
                  refine ⟨k + 1, by have := HK.out; omega, by go_num, fun j hj => ?_, rfl⟩
                  by_cases hjk : j = k
                  · subst hjk; exact hT.out
                  · exact HALL.out j (by omega)
                case measure => have := HK.out; omega
            · obtain ⟨j, hj⟩ : ∃ j, k = j + 1 := ⟨k - 1, by omega⟩
              have kb1 : ((k : Int) == 0) = false := by simp; omega
              have kb2 : decide ((k : Int) = 0) = false := by simp; omega
              have kb3 : (0 : Int) < (k : Int) := by omega
              have hidx : (k : Int) - 1 = (j : Int) := by omega
              have hcj := hc2 j (by omega)
              have hj2 : j < m := by omega
              have hj3 : (j : Int) < (m : Int) := by omega
              have hj0 : (0 : Int) ≤ (j : Int) := by omega
              obtain ⟨z, hz⟩ : ∃ z, cs.getD j 0 = z := ⟨_, rfl⟩
              rw [hz] at hcj
              have hpz : cs.getD (k - 1) 0 = z := by rw [hj, Nat.add_sub_cancel]; exact hz
              rw [hpz] at HNO HYES
              by_cases h4 : x = y
              · have xb : (x == y) = true := by simp [h4]
                by_cases h5 : z = 0
                · have zb : (z != 0) = false := by simp [h5]
                  have hT := Lib.hid (HYES.out ⟨by omega, by omega, fun _ => ⟨hk0, h5⟩⟩)
                  clear hc1 hc2 hk0 h4 hq0 hj hz hpz h5
                  go_wp2
                  go_roundg (m - k - 1)
                  case rel =>
                    refine ⟨k + 1, by have := HK.out; omega, by go_num, fun j hj => ?_, rfl⟩
                    by_cases hjk : j = k
                    · subst hjk; exact hT.out
                    · exact HALL.out j (by omega)
                  case measure => have := HK.out; omega
                · have hF := HNO.out (fun hh => h5 (hh.2.2 h4).2)
                  have zb : (z != 0) = true := by simp [h5]
                  subst hF
                  clear hc1 hc2 hk0 h4 hq0 hj hz hpz
                  go_wp2
                  go_ret
                  exact ⟨rfl, rfl⟩
              · have xb : (x == y) = false := by simp [h4]
                have hT := Lib.hid (HYES.out ⟨by omega, by omega, fun hh => absurd hh h4⟩)
                clear hc1 hc2 hk0 h4 hq0 hj hz hpz
                go_wp2
                go_roundg (m - k - 1)
                case rel =>
                  refine ⟨k + 1, by have := HK.out; omega, by go_num, fun j hj => ?_, rfl⟩
                  by_cases hjk : j = k
                  · subst hjk; exact hT.out
                  · exact HALL.out j (by omega)
                case measure => have := HK.out; omega
  · have hF : B = false := by rw [← HBB.out]; exact isA_no_len (by have := HL.out; have := HL2.out; omega)
    have hb : ((m : Int) != (n : Int)) = true := by simp; omega
    have hb2 : (m != n) = true := by simp; omega
    subst hF
    clear hmn
    go_enter Try.func50, Try.ntmps50
    go_wp2
    go_ret
    exact ⟨rfl, rfl⟩
end Go.Proofs.Ytbdabpmpfciibaa
