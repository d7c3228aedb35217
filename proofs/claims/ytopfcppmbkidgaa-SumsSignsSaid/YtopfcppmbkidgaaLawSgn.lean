/- The law SumsSigns: it returns true, whatever its arguments are. -/
import Derived.Test.YtopfcppmbkidgaaSgnY
import Derived.Test.YtopfcppmbkidgaaSgnA
import Derived.Test.YtopfcppmbkidgaaSgnB
import Derived.Test.YtopfcppmbkidgaaSgnC
import Derived.Test.YtopfcppmbkidgaaSgnD
import Derived.Test.YtopfcppmbkidgaaSgnE
namespace Go.Proofs.Ytopfcppmbkidgaa
open Go.RowKit

theorem tcases (a n : Int) : (∃ x m : Nat, a = x ∧ n = m ∧ okT (x : Int) (m : Int) ∧ 1 < m) ∨ (∃ x m : Nat, a = x ∧ n = m ∧ okT (x : Int) (m : Int) ∧ m = 1) ∨ (¬ 1 ≤ n) ∨ (1 ≤ n ∧ ¬ n ≤ 200) ∨ (1 ≤ n ∧ n ≤ 200 ∧ ¬ 0 ≤ a) ∨ (1 ≤ n ∧ n ≤ 200 ∧ 0 ≤ a ∧ ¬ a < n) ∨
    (∃ x m : Nat, a = x ∧ n = m ∧ 1 ≤ m ∧ m ≤ 200 ∧ x < m ∧ ¬ Nat.gcd x m = 1) := by
  by_cases h1 : 1 ≤ n
  · by_cases h2 : n ≤ 200
    · by_cases h3 : 0 ≤ a
      · by_cases h4 : a < n
        · obtain ⟨x, rfl⟩ := Int.eq_ofNat_of_zero_le h3
          obtain ⟨m, rfl⟩ := Int.eq_ofNat_of_zero_le (show 0 ≤ n by omega)
          by_cases h5 : Nat.gcd x m = 1
          · have ok : okT (x : Int) (m : Int) := ⟨h1, h2, h3, h4, by rw [Int.toNat_natCast, Int.toNat_natCast]; exact h5⟩
            by_cases h6 : m = 1
            · exact .inr (.inl ⟨x, m, rfl, rfl, ok, h6⟩)
            · exact .inl ⟨x, m, rfl, rfl, ok, by omega⟩
          · exact .inr (.inr (.inr (.inr (.inr (.inr ⟨x, m, rfl, rfl, by omega, by omega, by omega, h5⟩)))))
        · exact .inr (.inr (.inr (.inr (.inr (.inl ⟨h1, h2, h3, h4⟩)))))
      · exact .inr (.inr (.inr (.inr (.inl ⟨h1, h2, h3⟩))))
    · exact .inr (.inr (.inr (.inl ⟨h1, h2⟩)))
  · exact .inr (.inr (.inl h1))
theorem pcases (p q : Int) : (∃ x y : Nat, p = x ∧ q = y ∧ okP (x : Int) (y : Int)) ∨ (¬ p ≤ 200) ∨ (p ≤ 200 ∧ ¬ q ≤ 200) ∨ (p ≤ 200 ∧ q ≤ 200 ∧ p = q) ∨ (p ≤ 200 ∧ q ≤ 200 ∧ ¬ p = q ∧ ¬ PrI p) ∨ (p ≤ 200 ∧ q ≤ 200 ∧ ¬ p = q ∧ PrI p ∧ ¬ PrI q) := by
  by_cases h1 : p ≤ 200
  · by_cases h2 : q ≤ 200
    · by_cases h3 : p = q
      · exact .inr (.inr (.inr (.inl ⟨h1, h2, h3⟩)))
      · by_cases h4 : PrI p
        · by_cases h5 : PrI q
          · left
            obtain ⟨x, rfl⟩ := Int.eq_ofNat_of_zero_le (show 0 ≤ p by have := h4.1; omega)
            obtain ⟨y, rfl⟩ := Int.eq_ofNat_of_zero_le (show 0 ≤ q by have := h5.1; omega)
            exact ⟨x, y, rfl, rfl, h1, h2, h3, h4, h5⟩
          · exact .inr (.inr (.inr (.inr (.inr ⟨h1, h2, h3, h4, h5⟩))))
        · exact .inr (.inr (.inr (.inr (.inl ⟨h1, h2, h3, h4⟩))))
    · exact .inr (.inr (.inl ⟨h1, h2⟩))
  · exact .inr (.inl h1)

theorem signs_any (a n p q : Int) (w : World) : Calls Try.prog 7 #[.int .i64 a, .int .i64 n, .int .i64 p, .int .i64 q] w fun e w' => e = .returned (.bool true) ∧ Below w.heap.size w w' := by
  rcases tcases a n with ⟨x, m, rfl, rfl, ht, h1⟩ | ⟨x, m, rfl, rfl, ht, h1⟩ | h1 | ⟨h1, h2⟩ | ⟨h1, h2, h3⟩ | ⟨h1, h2, h3, h4⟩ | ⟨x, m, rfl, rfl, h1, h2, h4, h5⟩ <;>
  rcases pcases p q with ⟨u, v, rfl, rfl, hp⟩ | k1 | ⟨k1, k2⟩ | ⟨k1, k2, k3⟩ | ⟨k1, k2, k3, k4⟩ | ⟨k1, k2, k3, k4, k5⟩
  · exact signs_yy _ _ _ _ ht h1 hp w
  · exact signs_ay _ _ _ _ ht h1 k1 w
  · exact signs_by _ _ _ _ ht h1 k1 k2 w
  · exact signs_cy _ _ _ _ ht h1 k1 k2 k3 w
  · exact signs_dy _ _ _ _ ht h1 k1 k2 k3 k4 w
  · exact signs_ey _ _ _ _ ht h1 k1 k2 k3 k4 k5 w
  · exact signs_yz _ _ _ _ ht h1 hp w
  · exact signs_az _ _ _ _ ht h1 k1 w
  · exact signs_bz _ _ _ _ ht h1 k1 k2 w
  · exact signs_cz _ _ _ _ ht h1 k1 k2 k3 w
  · exact signs_dz _ _ _ _ ht h1 k1 k2 k3 k4 w
  · exact signs_ez _ _ _ _ ht h1 k1 k2 k3 k4 k5 w
  · exact signs_ya _ _ _ _ h1 hp w
  · exact signs_aa _ _ _ _ h1 k1 w
  · exact signs_ba _ _ _ _ h1 k1 k2 w
  · exact signs_ca _ _ _ _ h1 k1 k2 k3 w
  · exact signs_da _ _ _ _ h1 k1 k2 k3 k4 w
  · exact signs_ea _ _ _ _ h1 k1 k2 k3 k4 k5 w
  · exact signs_yb _ _ _ _ h1 h2 hp w
  · exact signs_ab _ _ _ _ h1 h2 k1 w
  · exact signs_bb _ _ _ _ h1 h2 k1 k2 w
  · exact signs_cb _ _ _ _ h1 h2 k1 k2 k3 w
  · exact signs_db _ _ _ _ h1 h2 k1 k2 k3 k4 w
  · exact signs_eb _ _ _ _ h1 h2 k1 k2 k3 k4 k5 w
  · exact signs_yc _ _ _ _ h1 h2 h3 hp w
  · exact signs_ac _ _ _ _ h1 h2 h3 k1 w
  · exact signs_bc _ _ _ _ h1 h2 h3 k1 k2 w
  · exact signs_cc _ _ _ _ h1 h2 h3 k1 k2 k3 w
  · exact signs_dc _ _ _ _ h1 h2 h3 k1 k2 k3 k4 w
  · exact signs_ec _ _ _ _ h1 h2 h3 k1 k2 k3 k4 k5 w
  · exact signs_yd _ _ _ _ h1 h2 h3 h4 hp w
  · exact signs_ad _ _ _ _ h1 h2 h3 h4 k1 w
  · exact signs_bd _ _ _ _ h1 h2 h3 h4 k1 k2 w
  · exact signs_cd _ _ _ _ h1 h2 h3 h4 k1 k2 k3 w
  · exact signs_dd _ _ _ _ h1 h2 h3 h4 k1 k2 k3 k4 w
  · exact signs_ed _ _ _ _ h1 h2 h3 h4 k1 k2 k3 k4 k5 w
  · exact signs_ye _ _ _ _ h1 h2 h4 h5 hp w
  · exact signs_ae _ _ _ _ h1 h2 h4 h5 k1 w
  · exact signs_be _ _ _ _ h1 h2 h4 h5 k1 k2 w
  · exact signs_ce _ _ _ _ h1 h2 h4 h5 k1 k2 k3 w
  · exact signs_de _ _ _ _ h1 h2 h4 h5 k1 k2 k3 k4 w
  · exact signs_ee _ _ _ _ h1 h2 h4 h5 k1 k2 k3 k4 k5 w
end Go.Proofs.Ytopfcppmbkidgaa
