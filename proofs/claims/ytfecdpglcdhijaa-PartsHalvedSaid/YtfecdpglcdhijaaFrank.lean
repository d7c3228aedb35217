/- Franklin's move, plainly; the walks of partition.different, movable and front, and of the reference's Different. Condition: the slice lies in memory. -/
import Derived.Test.YtfecdpglcdhijaaLawShapes
import Derived.BigQuiet
import Derived.Deep.QuietTactic
namespace Go.Proofs.Ytfecdpglcdhijaa
open Go.RowKit
attribute [local go_sem] Oper.semAt_some

def diffFrom : Int → List Int → Bool
  | _, [] => true
  | p, x :: r => !(x == p) && diffFrom x r
def diffL : List Int → Bool
  | [] => true
  | x :: r => diffFrom x r
theorem diff_start (xs : List Int) : diffL xs = diffFrom (xs.getD 0 0) (xs.drop 1) := by cases xs <;> rfl
theorem diff_step {xs : List Int} {k : Nat} (h : k < xs.length) (p : Int) : diffFrom p (xs.drop k) = (!(xs.getD k 0 == p) && diffFrom (xs.getD k 0) (xs.drop (k + 1))) := by
  rw [drop_cons h]; rfl
theorem diff_end {xs : List Int} {k : Nat} (h : xs.length ≤ k) (p : Int) : diffFrom p (xs.drop k) = true := by
  rw [List.drop_of_length_le h]; rfl

/-- How many at the front are each one less than the one before; t of them are known. -/
def frontFrom : Nat → Int → List Int → Nat
  | t, _, [] => t
  | t, p, x :: r => if x = p - 1 then frontFrom (t + 1) x r else t
def frontL (xs : List Int) : Nat := frontFrom 1 (xs.getD 0 0) (xs.drop 1)
theorem front_step {xs : List Int} {k : Nat} (h : k < xs.length) (t : Nat) (p : Int) : frontFrom t p (xs.drop k) = if xs.getD k 0 = p - 1 then frontFrom (t + 1) (xs.getD k 0) (xs.drop (k + 1)) else t := by
  rw [drop_cons h]; rfl
theorem front_end {xs : List Int} {k : Nat} (h : xs.length ≤ k) (t : Nat) (p : Int) : frontFrom t p (xs.drop k) = t := by
  rw [List.drop_of_length_le h]; rfl
theorem frontFrom_bd : ∀ (r : List Int) (t : Nat) (p : Int), t ≤ frontFrom t p r ∧ frontFrom t p r ≤ t + r.length
  | [], t, p => by simp [frontFrom]
  | x :: r, t, p => by
    have := frontFrom_bd r (t + 1) x
    simp only [frontFrom, List.length_cons]
    split <;> omega
theorem frontL_bd {xs : List Int} (h : 0 < xs.length) : 1 ≤ frontL xs ∧ frontL xs ≤ xs.length := by
  have := frontFrom_bd (xs.drop 1) 1 (xs.getD 0 0)
  rw [List.length_drop] at this
  unfold frontL
  omega

/-- The partition after the move, if it does not fail. -/
def lastL (xs : List Int) : Int := xs.getD (xs.length - 1) 0
def failL (xs : List Int) : Bool := frontL xs == xs.length && (lastL xs == frontL xs || lastL xs == frontL xs + 1)
def moveL (xs : List Int) : List Int :=
  if lastL xs ≤ frontL xs then (List.range (xs.length - 1)).map fun j => xs.getD j 0 + if (j : Int) < lastL xs then 1 else 0
  else (List.range (xs.length + 1)).map fun j => if j = xs.length then (frontL xs : Int) else xs.getD j 0 - if j < frontL xs then 1 else 0

set_option maxHeartbeats 1000000 in
theorem different_any (a : Option Addr) (n c : Nat) (xs : List Int) (w : World) (h : Ints w a n xs) (hn : n ≤ 4611686018427387904) :
    Calls Try.prog 72 #[.slice a n c] w fun e w' => e = .returned (.bool (diffL xs && isP xs)) ∧ ∃ q, w' = w.drewN q := by
  have H := Lib.hid h
  have HL := Lib.hid h.1
  clear h
  go_enter Try.func72, Try.ntmps72
  go_wp2
  go_loopg [3] (max n 1) (fun gk i wr => ∃ (k q : Nat), k + gk = max n 1 + 1 ∧ 1 ≤ k ∧ i = .int .i64 (k : Int) ∧ diffL xs = diffFrom (xs.getD (k - 1) 0) (xs.drop k) ∧ wr = w.drewN q)
  case atStart => exact ⟨1, 0, by omega, by omega, rfl, diff_start xs, rfl⟩
  case round =>
    obtain ⟨k, q, hk, hk1, rfl, hp, rfl⟩ := hrel
    have HP := Lib.hid hp
    clear hp
    by_cases hkn : n ≤ k
    · have hge : ¬ (k : Int) < (n : Int) := by omega
      have hge2 : ¬ k < n := by omega
      have hD : diffL xs = true := by rw [HP.out, diff_end (by have := HL.out; omega)]
      have HD := Lib.hid hD
      have HI := Lib.hid (H.out.below (below_drewN (Below.refl w.heap.size w) q))
      clear hkn hD
      go_wp2_with (go_at_call 62; refine (valid_any a n c xs _ HI.out hn).mono ?_; rintro e w' ⟨rfl, rfl⟩)
      go_ret
      exact ⟨ret_bool (by rw [HD.out, Bool.true_and]), q, rfl⟩
    · have hlt : (k : Int) < (n : Int) := by omega
      have hlt2 : k < n := by omega
      obtain ⟨b, off, rfl, hb, hc⟩ := H.out.at (by omega)
      obtain ⟨j, hj⟩ : ∃ j, k = j + 1 := ⟨k - 1, by omega⟩
      have hck := hc k hlt2
      have hcj := hc j (by omega)
      have hidx : (k : Int) - 1 = (j : Int) := by omega
      have hj2 : j < n := by omega
      have hj3 : (j : Int) < (n : Int) := by omega
      have hj0 : (0 : Int) ≤ (j : Int) := by omega
      have hst := diff_step (xs := xs) (k := k) (by have := HL.out; omega) (xs.getD (k - 1) 0)
      have hp := HP.out
      rw [hst, hj, Nat.add_sub_cancel, ← hj] at hp
      obtain ⟨x, hx⟩ : ∃ x, xs.getD k 0 = x := ⟨_, rfl⟩
      obtain ⟨y, hy⟩ : ∃ y, xs.getD j 0 = y := ⟨_, rfl⟩
      rw [hx] at hck hp
      rw [hy] at hcj hp
      have HX := Lib.hid hx
      have HP2 := Lib.hid hp
      have HJ := Lib.hid hj
      have k0 : (0 : Int) ≤ (k : Int) := by omega
      have HH := Lib.hid H.out
      clear hkn hst hc hx hy hp hj HP H
      by_cases hxy : (x == y) = true
      · have HXY := Lib.hid hxy
        go_wp2
        go_quiet (fail)
        go_wp2
        go_ret
        exact ⟨ret_bool (by rw [HP2.out, HXY.out]; rfl), q + nq, by first | rfl | exact World.drewN_drewN _ _ _⟩
      · have hxy' : (x == y) = false := by simpa using hxy
        have HXY := Lib.hid hxy'
        clear hxy
        go_wp2
        go_quiet (fail)
        go_wp2
        go_roundg (max n 1 - k)
        case rel =>
          refine ⟨k + 1, q + nq, by omega, by omega, by go_num, ?_, by first | rfl | exact World.drewN_drewN _ _ _⟩
          rw [HP2.out, HXY.out, Nat.add_sub_cancel, HX.out]
          rfl
        case measure => omega

set_option maxHeartbeats 1000000 in
theorem front_any (a : Option Addr) (n c : Nat) (xs : List Int) (w : World) (h : Ints w a n xs) (hP : isP xs = true) (hn1 : 1 ≤ n) :
    Calls Try.prog 90 #[.slice a n c] w fun e w' => e = .returned (.int .i64 (frontL xs)) ∧ ∃ q, w' = w.drewN q := by
  have HL := Lib.hid h.1
  have hn := isP_len hP
  rw [h.1] at hn
  have hbd : ∀ j, j < n → 1 ≤ xs.getD j 0 ∧ xs.getD j 0 ≤ 30 := fun j hj => isP_at hP (by rw [h.1]; exact hj)
  have HBD := Lib.hid hbd
  obtain ⟨b, off, rfl, hb, hc⟩ := h.at (by omega)
  have HC := Lib.hid hc
  clear h hP hbd hc
  go_enter Try.func90, Try.ntmps90
  go_wp2
  go_loopg [3] n (fun gk i wr => ∃ (k q : Nat), k + gk = n + 1 ∧ 1 ≤ k ∧ i = .int .i64 (k : Int) ∧ frontL xs = frontFrom k (xs.getD (k - 1) 0) (xs.drop k) ∧ wr = w.drewN q)
  case atStart => exact ⟨1, 0, by omega, by omega, rfl, rfl, rfl⟩
  case round =>
    obtain ⟨k, q, hk, hk1, rfl, hp, rfl⟩ := hrel
    have HP := Lib.hid hp
    clear hp
    by_cases hkn : n ≤ k
    · have hge : ¬ (k : Int) < (n : Int) := by omega
      have hge2 : ¬ k < n := by omega
      have hF : frontL xs = k := by rw [HP.out, front_end (by have := HL.out; omega)]
      have HF := Lib.hid hF
      clear hkn hF
      go_wp2
      go_quiet (fail)
      go_wp2
      go_ret
      exact ⟨ret_int (by rw [HF.out]), q + nq, by first | rfl | exact World.drewN_drewN _ _ _⟩
    · have hlt : (k : Int) < (n : Int) := by omega
      have hlt2 : k < n := by omega
      obtain ⟨j, hj⟩ : ∃ j, k = j + 1 := ⟨k - 1, by omega⟩
      have hck := HC.out k hlt2
      have hcj := HC.out j (by omega)
      obtain ⟨x1, x2⟩ := HBD.out k hlt2
      obtain ⟨y1, y2⟩ := HBD.out j (by omega)
      have hidx : (k : Int) - 1 = (j : Int) := by omega
      have hj2 : j < n := by omega
      have hj3 : (j : Int) < (n : Int) := by omega
      have hj0 : (0 : Int) ≤ (j : Int) := by omega
      have hp := HP.out
      rw [front_step (xs := xs) (k := k) (by have := HL.out; omega), hj, Nat.add_sub_cancel, ← hj] at hp
      obtain ⟨x, hx⟩ : ∃ x, xs.getD k 0 = x := ⟨_, rfl⟩
      obtain ⟨y, hy⟩ : ∃ y, xs.getD j 0 = y := ⟨_, rfl⟩
      rw [hx] at hck hp x1 x2
      rw [hy] at hcj hp y1 y2
      have HX := Lib.hid hx
      have k0 : (0 : Int) ≤ (k : Int) := by omega
      clear hkn hx hy hj HP
      by_cases hxy : x = y - 1
      · have hxy' : (x == y - 1) = true := by simp [hxy]
        rw [if_pos hxy] at hp
        have HP2 := Lib.hid hp
        clear hxy hp
        go_wp2
        go_quiet (fail)
        go_wp2
        go_roundg (n - k)
        case rel =>
          refine ⟨k + 1, q + nq, by omega, by omega, by go_num, ?_, by first | rfl | exact World.drewN_drewN _ _ _⟩
          rw [HP2.out, Nat.add_sub_cancel, HX.out]
        case measure => omega
      · have hxy' : (x == y - 1) = false := by simp [hxy]
        rw [if_neg hxy] at hp
        have HP2 := Lib.hid hp
        clear hxy hp
        go_wp2
        go_quiet (fail)
        go_wp2
        go_ret
        exact ⟨ret_int (by rw [HP2.out]), q + nq, by first | rfl | exact World.drewN_drewN _ _ _⟩
end Go.Proofs.Ytfecdpglcdhijaa
