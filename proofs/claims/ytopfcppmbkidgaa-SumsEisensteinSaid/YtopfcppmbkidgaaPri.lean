/- The walks of isOddPrime and of the reference's Prime. Conditions as stated in each theorem. -/
import Derived.Test.YtopfcppmbkidgaaBase
import Derived.Test.YtopfcppmbkidgaaEC
namespace Go.Proofs.Ytopfcppmbkidgaa
open Go.RowKit
attribute [local go_sem] Oper.semAt_some

/-- an odd prime, of whole numbers -/
def PrI (p : Int) : Prop := 3 ≤ p ∧ ∀ d : Int, 2 ≤ d → d * d ≤ p → p % d ≠ 0
theorem PrI.nat {p : Nat} : PrI (p : Int) ↔ Prm p := by
  constructor
  · rintro ⟨h1, h2⟩
    refine ⟨by omega, fun d d1 d2 e => ?_⟩
    refine h2 d (by omega) ?_ ?_
    · have : ((d * d : Nat) : Int) ≤ p := by omega
      rwa [Int.natCast_mul] at this
    · rw [← Int.natCast_emod, e]; rfl
  · rintro ⟨h1, h2⟩
    refine ⟨by omega, fun d d1 d2 e => ?_⟩
    obtain ⟨x, rfl⟩ := Int.eq_ofNat_of_zero_le (show 0 ≤ d by omega)
    rw [← Int.natCast_mul] at d2
    rw [← Int.natCast_emod] at e
    exact h2 x (by omega) (by omega) (by omega)
theorem sq_le {d p : Int} (h0 : 0 ≤ d) (hp : p ≤ 10000) (h : d * d ≤ p) : d ≤ 100 := by
  refine Int.not_lt.1 fun hl => ?_
  have := Int.mul_le_mul (show 101 ≤ d by omega) (show 101 ≤ d by omega) (by decide) h0
  omega
theorem sq_lt {d : Int} (h0 : 0 ≤ d) (h : d ≤ 101) : 0 ≤ d * d ∧ d * d ≤ 10201 := by
  have := Int.mul_le_mul h h h0 (by decide)
  exact ⟨Int.mul_nonneg h0 h0, by omega⟩

set_option maxHeartbeats 1000000 in
theorem isOddPrime_any (p : Int) (R : Bool) (hR : R = true ↔ PrI p) (hp : p ≤ 10000) (w : World) :
    Calls Try.prog 61 #[.int .i64 p] w fun e w' => e = .returned (.bool R) ∧ w' = w := by
  by_cases h3 : p < 3
  · have hf : R = false := Bool.eq_false_iff.2 fun e => by have := (hR.1 e).1; omega
    subst hf
    clear hR
    go_enter Try.func61, Try.ntmps61
    go_wp2
    go_ret
    exact ⟨rfl, rfl⟩
  · have HR := Lib.hid hR
    clear hR
    go_enter Try.func61, Try.ntmps61
    go_wp2
    go_loopg [3] 200 (fun gk s3 wr => ∃ d : Int, s3 = .int .i64 d ∧ 2 ≤ d ∧ d ≤ 101 ∧ d + gk = 202 ∧ RowKit.Hid (∀ e : Int, 2 ≤ e → e < d → e * e ≤ p → p % e ≠ 0) ∧ wr = w)
    case atStart => exact ⟨2, rfl, by omega, by omega, by omega, Lib.hid (fun e h1 h2 => by omega), rfl⟩
    case round =>
      obtain ⟨d, rfl, hd2, hd1, hdg, HP, rfl⟩ := hrel
      have HJ := Lib.hid hdg
      obtain ⟨q0, q1⟩ := sq_lt (show 0 ≤ d by omega) hd1
      have hw : wrap64 (d * d) = d * d := IntWalk.wrap64_in _ (by omega)
      by_cases hle : d * d ≤ p
      · have hd := sq_le (show 0 ≤ d by omega) hp hle
        have hne : ¬ d = 0 := by omega
        by_cases hz : p % d = 0
        · have hf : R = false := Bool.eq_false_iff.2 fun e => (HR.out.1 e).2 d hd2 hle hz
          subst hf
          clear HR hdg
          go_wp2
          go_ret
          exact ⟨rfl, rfl⟩
        · have hzb : (p % d == 0) = false := by simpa using hz
          have HP2 : RowKit.Hid (∀ e : Int, 2 ≤ e → e < d + 1 → e * e ≤ p → p % e ≠ 0) := Lib.hid (fun e h1 h2 h3 => by
            by_cases he : e = d
            · subst he; exact hz
            · exact HP.out e h1 (by omega) h3)
          clear hz hdg
          go_wp2
          go_roundg (gk - 1)
          case rel => exact ⟨d + 1, rfl, by omega, by omega, by have := HJ.out; omega, HP2, rfl⟩
          case measure => have := HJ.out; omega
      · have hf : R = true := HR.out.2 ⟨by omega, fun e h1 h2 => HP.out e h1 (by
            refine Int.not_le.1 fun hde => hle ?_
            exact Int.le_trans (Int.mul_le_mul hde hde (by omega) (by omega)) h2) h2⟩
        subst hf
        clear HR hdg
        go_wp2
        go_ret
        exact ⟨rfl, rfl⟩

set_option maxHeartbeats 1000000 in
theorem prime_any (p : Int) (R : Bool) (hR : R = true ↔ PrI p ∧ p ≤ 10000) (w : World) :
    Calls Try.prog 48 #[.int .i64 p] w fun e w' => e = .returned (.bool R) ∧ w' = w := by
  by_cases h4 : 10000 < p
  · have hf : R = false := Bool.eq_false_iff.2 fun e => by have := (hR.1 e).2; omega
    subst hf
    clear hR
    go_enter Try.func48, Try.ntmps48
    go_wp2
    go_loopg [3] 1 (fun gk s3 wr => s3 = .int .i64 2 ∧ wr = w)
    case atStart => exact ⟨rfl, rfl⟩
    case round =>
      obtain ⟨rfl, rfl⟩ := hrel
      have h5 : 3 ≤ p := by omega
      go_wp2
      go_ret
      exact ⟨rfl, rfl⟩
  · have hp : p ≤ 10000 := by omega
    have HR := Lib.hid hR
    clear hR
    go_enter Try.func48, Try.ntmps48
    go_wp2
    go_loopg [3] 200 (fun gk s3 wr => ∃ d : Int, s3 = .int .i64 d ∧ 2 ≤ d ∧ d ≤ 101 ∧ d + gk = 202 ∧ RowKit.Hid (∀ e : Int, 2 ≤ e → e < d → e * e ≤ p → p % e ≠ 0) ∧ wr = w)
    case atStart => exact ⟨2, rfl, by omega, by omega, by omega, Lib.hid (fun e h1 h2 => by omega), rfl⟩
    case round =>
      obtain ⟨d, rfl, hd2, hd1, hdg, HP, rfl⟩ := hrel
      have HJ := Lib.hid hdg
      obtain ⟨q0, q1⟩ := sq_lt (show 0 ≤ d by omega) hd1
      have hw : wrap64 (d * d) = d * d := IntWalk.wrap64_in _ (by omega)
      by_cases hle : d * d ≤ p
      · have hd := sq_le (show 0 ≤ d by omega) hp hle
        have hne : ¬ d = 0 := by omega
        have hp0 : 0 ≤ p := by omega
        by_cases hz : p % d = 0
        · have hf : R = false := Bool.eq_false_iff.2 fun e => (HR.out.1 e).1.2 d hd2 hle hz
          subst hf
          clear HR hdg
          go_wp2
          go_ret
          exact ⟨rfl, rfl⟩
        · have hzb : (p % d == 0) = false := by simpa using hz
          have HP2 : RowKit.Hid (∀ e : Int, 2 ≤ e → e < d + 1 → e * e ≤ p → p % e ≠ 0) := Lib.hid (fun e h1 h2 h3 => by
            by_cases he : e = d
            · subst he; exact hz
            · exact HP.out e h1 (by omega) h3)
          clear hz hdg
          go_wp2
          go_roundg (gk - 1)
          case rel => exact ⟨d + 1, rfl, by omega, by omega, by have := HJ.out; omega, HP2, rfl⟩
          case measure => have := HJ.out; omega
      · by_cases h3 : 3 ≤ p
        · have hf : R = true := HR.out.2 ⟨⟨by omega, fun e h1 h2 => HP.out e h1 (by
            refine Int.not_le.1 fun hde => hle ?_
            exact Int.le_trans (Int.mul_le_mul hde hde (by omega) (by omega)) h2) h2⟩, hp⟩
          subst hf
          clear HR hdg
          go_wp2
          go_ret
          exact ⟨rfl, rfl⟩
        · have hf : R = false := Bool.eq_false_iff.2 fun e => h3 (HR.out.1 e).1.1
          subst hf
          clear HR hdg
          go_wp2
          go_ret
          exact ⟨rfl, rfl⟩
end Go.Proofs.Ytopfcppmbkidgaa
