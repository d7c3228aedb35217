/- The walks of mod, isSquare, leastNoSquare, scaled, Twist, the reference's Twist. Conditions as stated in each theorem. -/
import Derived.Test.YtoepghlkjbpkfaaDoorAsk
import Derived.Deep.RegionWith
namespace Go.Proofs.YtoepghlkjbpkfaaDoor
open Go.RowKit
attribute [local go_sem] Oper.semAt_some

theorem rest_eq (n p : Int) (hp : 0 < p) : (n.tmod p + p).tmod p = n % p := by
  have h1 := Int.lt_tmod_of_pos n hp
  rw [Int.tmod_eq_emod_of_nonneg (by omega), Int.add_emod_right]
  rw [Int.tmod_eq_emod]
  split
  · simp
  · rw [Int.sub_emod, show (p.natAbs : Int) = p by omega, Int.emod_self]; simp
theorem tmod_in (n p : Int) (hp : 0 < p) (hp1 : p ≤ 1000) : -1000 < n.tmod p ∧ n.tmod p < 1000 := by
  have h1 := Int.lt_tmod_of_pos n hp
  have h2 := Int.tmod_lt_of_pos n hp
  omega

set_option maxHeartbeats 1000000 in
theorem mod_any (n p : Int) (hp : 0 < p) (hp1 : p ≤ 1000) (w : World) : Calls Tryd.prog 65 #[.int .i64 n, .int .i64 p] w fun e w' => e = .returned (.int .i64 (n % p)) ∧ w' = w := by
  have h := rest_eq n p hp
  obtain ⟨h1, h2⟩ := tmod_in n p hp hp1
  obtain ⟨t, ht⟩ : ∃ t, n.tmod p = t := ⟨_, rfl⟩
  rw [ht] at h h1 h2
  have hne : ¬ p = 0 := by omega
  have HT := Lib.hid h
  clear h
  go_enter Tryd.func65, Tryd.ntmps65
  go_wp2
  go_ret
  exact ⟨ret_int HT.out, rfl⟩
set_option maxHeartbeats 1000000 in
theorem rest_any (n p : Int) (hp : 0 < p) (hp1 : p ≤ 1000) (w : World) : Calls Tryd.prog 84 #[.int .i64 n, .int .i64 p] w fun e w' => e = .returned (.int .i64 (n % p)) ∧ w' = w := by
  have h := rest_eq n p hp
  obtain ⟨h1, h2⟩ := tmod_in n p hp hp1
  obtain ⟨t, ht⟩ : ∃ t, n.tmod p = t := ⟨_, rfl⟩
  rw [ht] at h h1 h2
  have hne : ¬ p = 0 := by omega
  have HT := Lib.hid h
  clear h
  go_enter Tryd.func84, Tryd.ntmps84
  go_wp2
  go_ret
  exact ⟨ret_int HT.out, rfl⟩

/-- whether u is a square modulo P, looked for below k -/
def sqK (P u : Int) : Nat → Bool
  | 0 => false
  | k + 1 => sqK P u k || decide (((k : Int) * k - u) % P = 0)
def lnsF (P : Nat) : Nat := if P = 7 ∨ P = 17 ∨ P = 31 then 3 else if P = 23 then 5 else 2
theorem lns_all : ∀ P : Nat, P < 32 → isM (P : Int) = true → sqK P (lnsF P) P = false ∧ ∀ u, u < lnsF P → 2 ≤ u → sqK P (u : Int) P = true := by decide +kernel
theorem lns_in (P : Nat) : 2 ≤ lnsF P ∧ lnsF P ≤ 5 := by
  unfold lnsF
  split
  · omega
  · split <;> omega

set_option maxHeartbeats 2000000 in
theorem isSquare_any (u : Int) (P : Nat) (hP : 0 < P ∧ P ≤ 31) (hu : 0 ≤ u ∧ u ≤ 100) (w : World) : Calls Tryd.prog 89 #[.int .i64 u, .int .i64 (P : Int)] w fun e w' => e = .returned (.bool (sqK P u P)) ∧ w' = w := by
  obtain ⟨P0, P1⟩ := hP
  obtain ⟨u0, u1⟩ := hu
  go_enter Tryd.func89, Tryd.ntmps89
  go_wp2
  go_loopg [5, 7] P (fun gk s5 s7 wr => ∃ k : Nat, k + gk = P ∧ s7 = .int .i64 (k : Int) ∧ RowKit.Hid (sqK P u k = false) ∧ wr = w)
  case atStart => exact ⟨0, by omega, rfl, Lib.hid rfl, rfl⟩
  case round =>
    obtain ⟨k, hk, rfl, HP, rfl⟩ := hrel
    have HK := Lib.hid hk
    by_cases hlt : k < P
    · have l1 : (k : Int) < (P : Int) := by omega
      obtain ⟨a0, a1⟩ := mul_in (a := (k : Int)) (b := (k : Int)) 31 31 (by omega) (by omega) (by omega) (by omega)
      have hne : ¬ (P : Int) = 0 := by omega
      have ht := tmod_zero ((k : Int) * k - u) P
      have hs : sqK P u (k + 1) = (sqK P u k || decide (((k : Int) * k - u) % P = 0)) := rfl
      rw [HP.out] at hs
      obtain ⟨b, hb⟩ : ∃ b, decide (((k : Int) * k - u) % (P : Int) = 0) = b := ⟨_, rfl⟩
      rw [hb] at ht hs
      clear hb hk
      cases b
      · have HS := Lib.hid (show sqK P u (k + 1) = false from hs)
        clear hs
        go_wp2
        go_roundg (gk - 1)
        case rel => exact ⟨k + 1, by have := HK.out; omega, by go_num, HS, rfl⟩
        case measure => have := HK.out; omega
      · have HS := Lib.hid (show sqK P u P = true by
          have : ∀ m, k + 1 ≤ m → sqK P u m = true := by
            intro m hm
            induction m with
            | zero => omega
            | succ m ih =>
              by_cases he : m = k
              · rw [he]; exact hs
              · show (sqK P u m || _) = true
                rw [ih (by omega)]; rfl
          exact this P hlt)
        clear hs
        go_wp2
        go_ret
        exact ⟨ret_bool HS.out.symm, rfl⟩
    · have l1 : ¬ (k : Int) < (P : Int) := by omega
      have HS := Lib.hid (show sqK P u P = false by have := HP.out; rwa [show k = P by omega] at this)
      clear hk
      go_wp2
      go_ret
      exact ⟨ret_bool HS.out.symm, rfl⟩

set_option maxHeartbeats 2000000 in
theorem leastNoSquare_any (P : Nat) (hP : isM (P : Int) = true) (w : World) : Calls Tryd.prog 73 #[.int .i64 (P : Int)] w fun e w' => e = .returned (.int .i64 (lnsF P : Int)) ∧ w' = w := by
  have hP1 := isM_le hP
  have hL := lns_all P (by omega) hP
  have hI := lns_in P
  obtain ⟨L, hLe⟩ : ∃ L, lnsF P = L := ⟨_, rfl⟩
  rw [hLe] at hL hI ⊢
  have HL := Lib.hid hL
  have HQ := Lib.hid (fun u hu W => isSquare_any u P (by omega) hu W)
  clear hL hLe hP
  go_enter Tryd.func73, Tryd.ntmps73
  go_wp2
  go_loopg [3] L (fun gk s3 wr => ∃ u : Nat, u + gk = L + 2 ∧ u ≤ L ∧ 2 ≤ u ∧ s3 = .int .i64 (u : Int) ∧ wr = w)
  case atStart => exact ⟨2, by omega, by omega, by omega, rfl, rfl⟩
  case round =>
    obtain ⟨u, hk, huL, hu2, rfl, rfl⟩ := hrel
    have HK := Lib.hid hk
    have HX := Lib.hid (fun W => HQ.out (u : Int) (by omega) W)
    by_cases hlt : u < L
    · rw [HL.out.2 u hlt hu2] at HX
      clear hk
      go_wp2_with fail
      refine (HX.out _).mono ?_
      rintro e w1 ⟨rfl, rfl⟩
      go_wp2
      go_roundg (gk - 1)
      case rel => exact ⟨u + 1, by have := HK.out; omega, by omega, by omega, by go_num, rfl⟩
      case measure => have := HK.out; omega
    · obtain rfl : u = L := by omega
      rw [HL.out.1] at HX
      clear hk
      go_wp2_with fail
      refine (HX.out _).mono ?_
      rintro e w1 ⟨rfl, rfl⟩
      go_wp2
      go_ret
      exact ⟨rfl, rfl⟩

theorem scale_in {A v : Int} (hA : 0 ≤ A ∧ A ≤ 31) (hv : 0 ≤ v ∧ v ≤ 1000) : (0 ≤ A * v ∧ A * v ≤ 31000) ∧ (0 ≤ A * v * v ∧ A * v * v ≤ 31000000) ∧ (0 ≤ A * v * v * v ∧ A * v * v * v ≤ 31000000000) := by
  have a := mul_in (a := A) (b := v) 31 1000 hA.1 hA.2 hv.1 hv.2
  have b := mul_in (a := A * v) (b := v) 31000 1000 a.1 (by omega) hv.1 hv.2
  have c := mul_in (a := A * v * v) (b := v) 31000000 1000 b.1 (by omega) hv.1 hv.2
  omega

set_option maxHeartbeats 4000000 in
theorem scaled_any (P A B v : Int) (hP : 5 ≤ P ∧ P ≤ 31) (hA : 0 ≤ A ∧ A ≤ 31) (hB : 0 ≤ B ∧ B ≤ 31) (hv : 0 ≤ v ∧ v ≤ 1000) (w : World) :
    Calls Tryd.prog 72 #[.agg #[.int .i64 P, .int .i64 A, .int .i64 B], .int .i64 v] w fun e w' => e = .returned (.agg #[.int .i64 P, .int .i64 (A * v * v % P), .int .i64 (B * v * v * v % P)]) ∧ Below w.heap.size w w' := by
  obtain ⟨⟨a0, a1⟩, ⟨a2, a3⟩, -⟩ := scale_in hA hv
  obtain ⟨⟨b0, b1⟩, ⟨b2, b3⟩, ⟨b4, b5⟩⟩ := scale_in hB hv
  have hne : ¬ P = 0 := by omega
  have HB := Lib.hid (below2 w (.cells #[.int .i64 P, .int .i64 A, .int .i64 B] 30) (.cells #[.int .i64 0, .int .i64 0, .int .i64 0] 30))
  have m0 := Int.emod_nonneg (A * v * v) hne
  have m1 := Int.emod_lt_of_pos (A * v * v) (show 0 < P by omega)
  have m2 := Int.emod_nonneg (B * v * v * v) hne
  have m3 := Int.emod_lt_of_pos (B * v * v * v) (show 0 < P by omega)
  obtain ⟨P0, P1⟩ := hP
  go_enter Tryd.func72, Tryd.ntmps72
  go_wp2
  go_region
  all_goals
    go_wp2
    exact bodyPost_ret (v := .agg #[.int .i64 P, .int .i64 (A * v * v % P), .int .i64 (B * v * v * v % P)]) (by simp [results, Tryd.results72, go_sem]) rfl ⟨rfl, Below.drew (below2 w _ _)⟩

/-- the twist -/
def twA (P : Nat) (A : Int) : Int := A * (lnsF P : Int) * (lnsF P : Int) % (P : Int)
def twB (P : Nat) (B : Int) : Int := B * (lnsF P : Int) * (lnsF P : Int) * (lnsF P : Int) % (P : Int)
set_option maxHeartbeats 4000000 in
theorem Twist_no (P A B : Int) (hv : vB P A B = false) (w : World) (hF : Far w) :
    Calls Tryd.prog 44 #[.agg #[.int .i64 P, .int .i64 A, .int .i64 B]] w fun e w' => e = .returned (.tuple #[.agg #[.int .i64 0, .int .i64 0, .int .i64 0], .int .i64 2]) ∧ Below w.heap.size w w' := by
  have HB := Lib.hid (below2 w (.cells #[.int .i64 P, .int .i64 A, .int .i64 B] 30) (.cells #[.int .i64 0, .int .i64 0, .int .i64 0] 30))
  have hd := C3.new (w.alloc (.cells #[.int .i64 P, .int .i64 A, .int .i64 B] 30)) (.int .i64 0) (.int .i64 0) (.int .i64 0) 30
  rw [show (w.alloc (.cells #[.int .i64 P, .int .i64 A, .int .i64 B] 30)).heap.size = w.heap.size + 1 by simp] at hd
  have HD := Lib.hid hd
  have hf3 := F3.new (w.alloc (.cells #[.int .i64 P, .int .i64 A, .int .i64 B] 30)) (.int .i64 0) (.int .i64 0) (.int .i64 0) 30
  rw [show (w.alloc (.cells #[.int .i64 P, .int .i64 A, .int .i64 B] 30)).heap.size = w.heap.size + 1 by simp] at hf3
  have HFR := Lib.hid hf3
  have HV := Lib.hid (fun W hF => valid_any P A B none 0 0 [] W (AgP.nil _ _) (by omega) hF)
  rw [hv] at HV
  have HF1 := Lib.hid (hF.below HB.out)
  clear hv hF hd hf3
  go_enter Tryd.func44, Tryd.ntmps44
  go_wp2_with fail
  refine (HV.out _ HF1.out).mono ?_
  rintro e w1 ⟨rfl, hb⟩
  have HB1 := Lib.hid (HB.out.trans (hb.mono HB.out.size))
  obtain ⟨q0, q1, q2⟩ := HD.out.later hb
  obtain ⟨r0, r1, r2⟩ := HFR.out.below (by simp) hb
  clear hb
  go_wp2
  exact bodyPost_ret (v := .tuple #[.agg #[.int .i64 0, .int .i64 0, .int .i64 0], .int .i64 2]) (by simp [results, Tryd.results44, go_sem, q0, q1, q2]) rfl ⟨rfl, set3 HB1.out (Nat.le_succ _) _ _ _⟩

set_option maxHeartbeats 8000000 in
theorem Twist_yes (P : Nat) (A B : Int) (hv : vB P A B = true) (w : World) (hF : Far w) :
    Calls Tryd.prog 44 #[.agg #[.int .i64 (P : Int), .int .i64 A, .int .i64 B]] w fun e w' => e = .returned (.tuple #[.agg #[.int .i64 (P : Int), .int .i64 (twA P A), .int .i64 (twB P B)], .int .i64 0]) ∧ Below w.heap.size w w' := by
  have HB := Lib.hid (below2 w (.cells #[.int .i64 (P : Int), .int .i64 A, .int .i64 B] 30) (.cells #[.int .i64 0, .int .i64 0, .int .i64 0] 30))
  have hc := C3.new w (.int .i64 (P : Int)) (.int .i64 A) (.int .i64 B) 30
  have HC := Lib.hid (hc.later (below1 (w.alloc (.cells #[.int .i64 (P : Int), .int .i64 A, .int .i64 B] 30)) (.cells #[.int .i64 0, .int .i64 0, .int .i64 0] 30)))
  have hd := C3.new (w.alloc (.cells #[.int .i64 (P : Int), .int .i64 A, .int .i64 B] 30)) (.int .i64 0) (.int .i64 0) (.int .i64 0) 30
  have hf3 := F3.new (w.alloc (.cells #[.int .i64 (P : Int), .int .i64 A, .int .i64 B] 30)) (.int .i64 0) (.int .i64 0) (.int .i64 0) 30
  rw [show (w.alloc (.cells #[.int .i64 (P : Int), .int .i64 A, .int .i64 B] 30)).heap.size = w.heap.size + 1 by simp] at hd hf3
  have HD := Lib.hid hd
  have HFR := Lib.hid hf3
  have HV := Lib.hid (fun W hF => valid_any P A B none 0 0 [] W (AgP.nil _ _) (by omega) hF)
  rw [hv] at HV
  have HL := Lib.hid (fun W => leastNoSquare_any P (vB_iff.1 hv).1 W)
  obtain ⟨h1, h2, h3⟩ := vB_le hv
  have hln := lns_in P
  have HSC := Lib.hid (fun W => scaled_any P A B (lnsF P : Int) h1 h2 h3 (by omega) W)
  have HF1 := Lib.hid (hF.below HB.out)
  clear hv hF hd hc hf3
  unfold twA twB
  obtain ⟨LL, hLL⟩ : ∃ LL : Int, (lnsF P : Int) = LL := ⟨_, rfl⟩
  rw [hLL] at HL HSC ⊢
  obtain ⟨X, hX⟩ : ∃ X, A * LL * LL % (P : Int) = X := ⟨_, rfl⟩
  obtain ⟨Y, hY⟩ : ∃ Y, B * LL * LL * LL % (P : Int) = Y := ⟨_, rfl⟩
  rw [hX, hY] at HSC ⊢
  clear hX hY hLL hln
  go_enter Tryd.func44, Tryd.ntmps44
  go_wp2_with fail
  refine (HV.out _ HF1.out).mono ?_
  rintro e w1 ⟨rfl, hb⟩
  have HB1 := Lib.hid (HB.out.trans (hb.mono HB.out.size))
  have HC1 := Lib.hid (HC.out.later hb)
  have HD1 := Lib.hid (HD.out.later hb)
  have HR1 := Lib.hid (HFR.out.below (by simp) hb)
  clear hb
  obtain ⟨q0, q1, q2⟩ := HC1.out
  obtain ⟨r0, r1, r2⟩ := HD1.out
  obtain ⟨s0, s1, s2⟩ := HR1.out
  have hz := World.block_lt_of_cell? _ _ r0
  have HCL := Lib.hid (fun (W1 W2 : World) (hb : Below W1.heap.size W1 W2) (h : W1.heap.size = w1.heap.size ∧ C3 (w.heap.size + 1) (.int .i64 0) (.int .i64 0) (.int .i64 0) W1 ∧ F3 (w.heap.size + 1) W1) => And.intro (h.2.1.later hb) (h.2.2.below (by rw [h.1]; exact hz) hb))
  have HBD := Lib.hid (fun (W2 : World) (hb : Below w1.heap.size w1.drew W2) => HB1.out.trans ((Below.trans (drew_below w1) hb).mono HB1.out.size))
  have HQ1 := Lib.hid (show w1.drew.heap.size = w1.heap.size ∧ C3 (w.heap.size + 1) (.int .i64 0) (.int .i64 0) (.int .i64 0) w1.drew ∧ F3 (w.heap.size + 1) w1.drew from ⟨rfl, HD1.out, HR1.out⟩)
  go_wp2
  go_region_with (first
      | (go_at_call 73; refine (HL.out _).mono ?_; rintro e wx ⟨rfl, rfl⟩)
      | (go_at_call 72; refine (HSC.out _).mono ?_; rintro e wx ⟨rfl, hbs⟩; obtain ⟨⟨y0, y1, y2⟩, ⟨z0, z1, z2⟩⟩ := HCL.out _ _ hbs HQ1.out))
  all_goals
    go_wp2
    exact bodyPost_ret (v := .tuple #[.agg #[.int .i64 (P : Int), .int .i64 X, .int .i64 Y], .int .i64 0]) (by simp [results, Tryd.results44, go_sem, y0, y1, y2]) rfl ⟨rfl, set3 (HBD.out _ hbs) (Nat.le_succ _) _ _ _⟩
end Go.Proofs.YtoepghlkjbpkfaaDoor
