/- Rows of pairs; the walks of slices.Clone at pairs, of pairs, of the reference's gcd, Whole and Valid, of the law's gcd and of awake. Condition: the slices lie in memory. -/
import Derived.Test.YtanhjgneaaenpaaShare
import Derived.Test.YtanhjgneaaenpaaShelf
namespace Go.Proofs.Ytanhjgneaaenpaa
open Go.RowKit
attribute [local go_sem] Oper.semAt_some

def fl (S : List (Int × Int)) : List Value := S.flatMap fun p => [.int .i64 p.1, .int .i64 p.2]
theorem fl_len (S : List (Int × Int)) : (fl S).length = S.length * 2 := by
  induction S with
  | nil => rfl
  | cons a t ih => simp [fl] at ih ⊢; omega
theorem fl_app (S T : List (Int × Int)) : fl (S ++ T) = fl S ++ fl T := by simp [fl]
theorem fl_one (S : List (Int × Int)) : ∀ u ∈ fl S, u.oneCell' = true := by
  intro u hu
  unfold fl at hu
  rw [List.mem_flatMap] at hu
  obtain ⟨p, -, hp⟩ := hu
  simp at hp
  rcases hp with rfl | rfl <;> rfl
theorem fl_at : ∀ (S : List (Int × Int)) (j : Nat), j < S.length → (fl S)[j * 2]? = some (.int .i64 (nth S j).1) ∧ (fl S)[j * 2 + 1]? = some (.int .i64 (nth S j).2)
  | [], j, h => absurd h (by simp)
  | p :: t, 0, _ => by simp [fl, nth]
  | p :: t, j + 1, h => by
    have ih := fl_at t j (by simpa using h)
    have e : fl (p :: t) = .int .i64 p.1 :: .int .i64 p.2 :: fl t := by simp [fl]
    rw [e, show (j + 1) * 2 = j * 2 + 1 + 1 by omega]
    simpa [nth, List.getD] using ih
/-- A row of pairs of the call's own. -/
def Row2 (B : Nat) (v : Value) (S : List (Int × Int)) (W : World) : Prop := W.ownsRow B 44 2 v S.length (fl S)
theorem Row2.cell {B g n c : Nat} {S : List (Int × Int)} {W : World} (h : Row2 B (.slice (some ⟨g, 0, none⟩) n c) S W) {j : Nat} (hj : j < S.length) :
    W.cell? ⟨g, j * 2, none⟩ = some (.int .i64 (nth S j).1) ∧ W.cell? ⟨g, j * 2 + 1, none⟩ = some (.int .i64 (nth S j).2) := by
  have hl : n = S.length := by
    rcases h.2 with ⟨h1, -⟩ | ⟨g', cap, cur, h1, -⟩
    · cases h1
    · cases h1; rfl
  subst hl
  obtain ⟨a, b⟩ := fl_at S j hj
  constructor
  · rw [h.cellAt (j * 2) (by omega)]; exact a
  · rw [h.cellAt (j * 2 + 1) (by omega)]; exact b
theorem Row2.form {B : Nat} {v : Value} {S : List (Int × Int)} {W : World} (h : Row2 B v S W) : ∃ a c, v = .slice a S.length c ∧ S.length ≤ c ∧ c ≤ maxLen ∧ ((a = none ∧ S = [] ∧ c = 0) ∨ ∃ g, a = some ⟨g, 0, none⟩ ∧ B ≤ g ∧ g < W.heap.size) := by
  rcases h.2 with ⟨h1, h2⟩ | ⟨g, cap, cur, h1, h2, h3, h4, h5, h6, h7⟩
  · have : S = [] := List.length_eq_zero_iff.1 h2
    subst this
    exact ⟨none, 0, h1, Nat.le_refl _, by unfold maxLen; omega, .inl ⟨rfl, rfl, rfl⟩⟩
  · exact ⟨_, cap, h1, h4, h5, .inr ⟨g, rfl, h2, (Array.getElem?_eq_some_iff.1 h3).1⟩⟩
theorem Row2.prs {B : Nat} {v : Value} {S : List (Int × Int)} {W : World} (h : Row2 B v S W) : ∃ a c, v = .slice a S.length c ∧ S.length ≤ c ∧ c ≤ maxLen ∧ Prs W a S.length S := by
  obtain ⟨a, c, rfl, h1, h2, ⟨rfl, rfl, rfl⟩ | ⟨g, rfl, h3, h4⟩⟩ := h.form
  · exact ⟨_, _, rfl, h1, h2, Prs.nil _ _⟩
  · refine ⟨_, _, rfl, h1, h2, rfl, .inr ⟨g, 0, rfl, h4, fun j hj => ?_⟩⟩
    rw [Nat.zero_add]
    exact h.cell hj
theorem info44 : (Try.prog.info? 44).map (fun i => (i.zero, i.size, i.bytes)) = some (some (.agg #[.int .i64 0, .int .i64 0]), 2, 16) := by kernel_rfl
theorem size44 (w : World) : (Go.sizeOf 44).run Try.prog w = .ok 2 w := by kernel_rfl
theorem own_same {B n : Nat} {e : TypeId} {s : Nat} {v : Value} {xs : List Value} {W W' : World} (h : W.ownsRow B e s v n xs) (hk : ∀ k, B ≤ k → k < W.heap.size → W'.heap[k]? = W.heap[k]?) : W'.ownsRow B e s v n xs := by
  refine ⟨h.1, h.2.imp id ?_⟩
  rintro ⟨g, cap, cur, h1, h2, h3, h4⟩
  exact ⟨g, cap, cur, h1, h2, (hk g h2 (Array.getElem?_eq_some_iff.1 h3).1).trans h3, h4⟩
theorem own_later {B : Nat} {e : TypeId} {k : Nat} {v : Value} {n : Nat} {xs : List Value} {w w' : World} (h : w.ownsRow B e k v n xs) (hb : Below w.heap.size w w') : w'.ownsRow B e k v n xs :=
  own_same h fun k _ hk => hb.block k hk
theorem Prs.cells {w : World} {b off n : Nat} {xs : List (Int × Int)} (hl : xs.length = n) (h : ∀ j, j < n → w.cell? ⟨b, off + j * 2, none⟩ = some (.int .i64 (nth xs j).1) ∧ w.cell? ⟨b, off + j * 2 + 1, none⟩ = some (.int .i64 (nth xs j).2)) :
    ∀ j u, (fl xs)[j]? = some u → w.cell? ⟨b, off + j, none⟩ = some u := by
  intro j u hu
  have hj := (List.getElem?_eq_some_iff.1 hu).1
  rw [fl_len] at hj
  obtain ⟨f0, f1⟩ := fl_at xs (j / 2) (by omega)
  obtain ⟨g0, g1⟩ := h (j / 2) (by omega)
  rcases Nat.mod_two_eq_zero_or_one j with e | e
  · rw [show j / 2 * 2 = j by omega] at f0 g0
    rw [g0, ← f0, hu]
  · rw [show j / 2 * 2 + 1 = j by omega] at f1
    rw [show off + j / 2 * 2 + 1 = off + j by omega] at g1
    rw [g1, ← f1, hu]

set_option maxHeartbeats 2000000 in
theorem clone2_zero (ad : Addr) (c : Nat) (w : World) :
    Calls Try.prog 42 #[.slice (some ad) 0 c] w fun e w' => ∃ v', e = .returned v' ∧ Row2 w.heap.size v' [] w' ∧ Below w.heap.size w w' := by
  obtain ⟨i0, j1, j2, j3, j4⟩ := info_parts info44
  have q22 : ∀ (w : World) (a : Option Addr) (n c n' c' : Nat), (binOp .eql 22 (.slice a n c) (.slice none n' c')).run Try.prog w = .ok (.bool a.isNone) w := fun w a n c n' c' => Lib.run_eql_slice_nil w _ _ a n c n' c' Try.underlying22
  go_enter Try.func42, Try.ntmps42
  go_wp2_with (at_builtin; refine wpList_append_own _ rfl _ _ 22 rfl w.heap.size 44 i0 (.agg #[.int .i64 0, .int .i64 0]) 2 16 Try.underlying22 j1 j2 j3 j4 rfl (by decide) _ _ _ rfl (World.ownsRow_made w #[] 0 (Nat.le_refl _) (Nat.zero_le _) (by simp)) ad 0 c [] rfl ?qc1 ?qc2 ?qc3 ?qc4 ?qc5 ?qc6 ?_)
  case qc1 => rfl
  case qc2 =>
    intro j u hj
    simp at hj
  case qc3 => intro u hu; cases hu
  case qc4 => exact Nat.zero_le _
  case qc5 => exact Nat.zero_le _
  case qc6 => simp
  intro v' w1 hown hgrow hnil
  go_wp2
  go_ret
  refine ⟨v', rfl, by show w1.ownsRow w.heap.size 44 2 v' 0 []; simpa using hown, ?_⟩
  exact ((Below.refl _ w).alloc (Nat.le_refl _) _).grown hgrow (by simp) (by intro k hk; simp [Value.ownBlock] at hk; omega)

theorem clone2_any (a : Option Addr) (n c : Nat) (xs : List (Int × Int)) (w : World) (h : Prs w a n xs) (hbig : n ≤ 1000000) :
    Calls Try.prog 42 #[.slice a n c] w fun e w' => ∃ v', e = .returned v' ∧ Row2 w.heap.size v' xs w' ∧ Below w.heap.size w w' := by
  obtain ⟨i0, j1, j2, j3, j4⟩ := info_parts info44
  by_cases h0 : n = 0
  · subst h0
    have hx : xs = [] := List.length_eq_zero_iff.1 h.1
    subst hx
    cases a with
    | none =>
      refine (Try.slices_Clone_nil_f42 _ c w).mono ?_
      rintro e w' ⟨rfl, rfl⟩
      exact ⟨_, rfl, World.ownsRow_nil _ _ _ _, Below.refl _ _⟩
    | some ad => exact clone2_zero ad c w
  · obtain ⟨b, off, rfl, hb, hc⟩ := h.at (by omega)
    refine (Try.slices_Clone_f42 i0 (.agg #[.int .i64 0, .int .i64 0]) 2 16 j1 j2 j3 j4 rfl (by decide) size44 b off n c (fl xs) w (by rw [fl_len, h.1]) (by unfold maxLen; omega) (by omega) (Prs.cells h.1 hc) (fl_one xs)).mono ?_
    rintro e w' ⟨v', rfl, ho, -, hb⟩
    refine ⟨v', rfl, ?_, hb⟩
    unfold Row2
    rw [h.1]
    exact ho

theorem Prs.front {w : World} {a : Option Addr} {n : Nat} {xs : List (Int × Int)} (h : Prs w a n xs) (k : Nat) (hk : k ≤ n) : Prs w a k (xs.take k) := by
  refine ⟨by rw [List.length_take, h.1]; omega, ?_⟩
  by_cases h0 : k = 0
  · exact .inl h0
  · obtain ⟨b, off, h1, h2, h3⟩ := h.at (by omega)
    refine .inr ⟨b, off, h1, h2, fun j hj => ?_⟩
    have e : nth (xs.take k) j = nth xs j := by simp [nth, List.getD, hj]
    rw [e]
    exact h3 j (by omega)

set_option maxHeartbeats 1000000 in
theorem pairs_any (a : Option Addr) (n c : Nat) (xs : List (Int × Int)) (w : World) (h : Prs w a n xs) (hc : n ≤ c) (hn : n ≤ 4611686018427387904) (hcm : c ≤ maxLen) :
    Calls Try.prog 15 #[.slice a n c] w fun e w' => ∃ ao co m, e = .returned (.slice ao m co) ∧ m ≤ 12 ∧ Prs w' ao m (xs.take 12) ∧ m ≤ co ∧ co ≤ maxLen ∧ Below w.heap.size w w' := by
  have H := Lib.hid h
  clear h
  have e : (min (n : Int) 12).toNat = min n 12 := by omega
  have hf := H.out.front (min n 12) (by omega)
  have e2 : xs.take (min n 12) = xs.take 12 := by
    rw [List.take_eq_take_iff, H.out.1]; omega
  rw [e2] at hf
  have HF := Lib.hid hf
  have HE := Lib.hid e
  clear e e2 hf
  go_enter Try.func15, Try.ntmps15
  go_wp2_with fail
  rw [HE.out]
  refine (clone2_any a (min n 12) c (xs.take 12) w HF.out (by omega)).mono ?_
  rintro e w1 ⟨v', rfl, ho, hb⟩
  obtain ⟨ao, co, rfl, h1, h2, h3⟩ := ho.prs
  have hle : (xs.take 12).length ≤ 12 := by rw [List.length_take]; omega
  obtain ⟨m, hm⟩ : ∃ m, (xs.take 12).length = m := ⟨_, rfl⟩
  rw [hm] at h1 h3 hle ⊢
  have HO := Lib.hid (And.intro h1 (And.intro h2 (And.intro h3 hb)))
  have HLE := Lib.hid hle
  clear ho h1 h2 h3 hb hm hle
  go_wp2
  go_ret
  exact ⟨ao, co, m, rfl, HLE.out, HO.out.2.2.1, HO.out.1, HO.out.2.1, HO.out.2.2.2⟩

set_option maxHeartbeats 1000000 in
theorem gcdR_any (a b : Nat) (ha : a ≤ 1000000000000000000) (hb : b ≤ 1000000000000000000) (w : World) :
    Calls Try.prog 56 #[.int .i64 (a : Int), .int .i64 (b : Int)] w fun e w' => e = .returned (.int .i64 ((Nat.gcd a b : Nat) : Int)) ∧ ∃ q, w' = w.drewN q := by
  obtain ⟨g, hg⟩ : ∃ g, Nat.gcd a b = g := ⟨_, rfl⟩
  rw [hg]
  have HG := Lib.hid hg
  clear hg
  go_enter Try.func56, Try.ntmps56
  go_wp2
  go_loopg [0, 1] b (fun gk s0 s1 wr => ∃ (x y q : Nat), x ≤ 1000000000000000000 ∧ y ≤ 1000000000000000000 ∧ y = gk ∧ Nat.gcd x y = g ∧ s0 = .int .i64 (x : Int) ∧ s1 = .int .i64 (y : Int) ∧ wr = w.drewN q)
  case atStart => exact ⟨a, b, 0, ha, hb, rfl, HG.out, rfl, rfl, rfl⟩
  case round =>
    obtain ⟨x, y, q, hx, hy, hyk, hxy, rfl, rfl, rfl⟩ := hrel
    have HXY := Lib.hid hxy
    have HYK := Lib.hid hyk
    clear hxy hyk
    by_cases h : y = 0
    · subst h
      have hle : (((0 : Nat) : Int) != 0) = false := rfl
      have e : x = g := by rw [← HXY.out, Nat.gcd_zero_right]
      subst e
      go_wp2
      go_ret
      exact ⟨rfl, q, rfl⟩
    · have hlt : (0 : Int) < (y : Int) := by omega
      have hne : ¬ (y : Int) = 0 := by omega
      have hnb : ((y : Int) != 0) = true := by simpa using h
      have x0 : (0 : Int) ≤ (x : Int) := by omega
      clear h
      go_wp2
      go_quiet (fail)
      go_wp2
      go_roundg (x % y)
      case rel => exact ⟨y, x % y, q + nq, hy, by have := Nat.mod_lt x (show 0 < y by omega); omega, rfl, by rw [← HXY.out, Nat.gcd_comm x y, Nat.gcd_rec y x, Nat.gcd_comm], rfl, by go_num, by rw [World.drewN_drewN]⟩
      case measure => have := Nat.mod_lt x (show 0 < y by omega); have := HYK.out; omega

set_option maxHeartbeats 1000000 in
theorem gcdL_any (a b : Nat) (ha : a ≤ 1000000000000000000) (hb : b ≤ 1000000000000000000) (w : World) :
    Calls Try.prog 43 #[.int .i64 (a : Int), .int .i64 (b : Int)] w fun e w' => e = .returned (.int .i64 ((Nat.gcd a b : Nat) : Int)) ∧ ∃ q, w' = w.drewN q := by
  obtain ⟨g, hg⟩ : ∃ g, Nat.gcd a b = g := ⟨_, rfl⟩
  rw [hg]
  have HG := Lib.hid hg
  clear hg
  go_enter Try.func43, Try.ntmps43
  go_wp2
  go_loopg [0, 1] b (fun gk s0 s1 wr => ∃ (x y q : Nat), x ≤ 1000000000000000000 ∧ y ≤ 1000000000000000000 ∧ y = gk ∧ Nat.gcd x y = g ∧ s0 = .int .i64 (x : Int) ∧ s1 = .int .i64 (y : Int) ∧ wr = w.drewN q)
  case atStart => exact ⟨a, b, 0, ha, hb, rfl, HG.out, rfl, rfl, rfl⟩
  case round =>
    obtain ⟨x, y, q, hx, hy, hyk, hxy, rfl, rfl, rfl⟩ := hrel
    have HXY := Lib.hid hxy
    have HYK := Lib.hid hyk
    clear hxy hyk
    by_cases h : y = 0
    · subst h
      have hle : (((0 : Nat) : Int) != 0) = false := rfl
      have e : x = g := by rw [← HXY.out, Nat.gcd_zero_right]
      subst e
      go_wp2
      go_ret
      exact ⟨rfl, q, rfl⟩
    · have hlt : (0 : Int) < (y : Int) := by omega
      have hne : ¬ (y : Int) = 0 := by omega
      have hnb : ((y : Int) != 0) = true := by simpa using h
      have x0 : (0 : Int) ≤ (x : Int) := by omega
      clear h
      go_wp2
      go_quiet (fail)
      go_wp2
      go_roundg (x % y)
      case rel => exact ⟨y, x % y, q + nq, hy, by have := Nat.mod_lt x (show 0 < y by omega); omega, rfl, by rw [← HXY.out, Nat.gcd_comm x y, Nat.gcd_rec y x, Nat.gcd_comm], rfl, by go_num, by rw [World.drewN_drewN]⟩
      case measure => have := Nat.mod_lt x (show 0 < y by omega); have := HYK.out; omega

/-- What the reference's Whole returns. -/
def mOk (xs : List (Int × Int)) : Bool := xs.all fun p => decide (1 ≤ p.2) && decide (p.2 ≤ 60)
def wholeF (xs : List (Int × Int)) : Nat := if mOk xs = true ∧ wl xs ≤ 10080 then wl xs else 0
theorem mOk_spec {xs : List (Int × Int)} : mOk xs = true ↔ ∀ p ∈ xs, 1 ≤ p.2 ∧ p.2 ≤ 60 := by simp [mOk]
theorem wholeF_bad {xs : List (Int × Int)} {j : Nat} (hj : j < xs.length) (h : (nth xs j).2 < 1 ∨ 60 < (nth xs j).2) : wholeF xs = 0 := by
  unfold wholeF
  rw [if_neg]
  rintro ⟨h1, -⟩
  have := mOk_spec.1 h1 _ (nth_mem hj)
  omega
theorem wholeF_big {xs : List (Int × Int)} {j : Nat} (h : 10080 < wl (xs.take j)) : wholeF xs = 0 := by
  unfold wholeF
  rw [if_neg]
  rintro ⟨h1, h2⟩
  have hd : wl (xs.take j) ∣ wl xs := by
    have e := wl_app (xs.take j) (xs.drop j)
    rw [List.take_append_drop] at e
    rw [e]
    exact Nat.dvd_lcm_left _ _
  have := Nat.le_of_dvd (wl_pos fun p hp => (mOk_spec.1 h1 p hp).1) hd
  omega
theorem wholeF_good {xs : List (Int × Int)} (h1 : ∀ j, j < xs.length → 1 ≤ (nth xs j).2 ∧ (nth xs j).2 ≤ 60) (h2 : wl xs ≤ 10080) : wholeF xs = wl xs := by
  have h3 : mOk xs = true := mOk_spec.2 fun p hp => by
    obtain ⟨k, hk, rfl⟩ := mem_nth hp
    exact h1 k hk
  unfold wholeF
  rw [if_pos ⟨h3, h2⟩]

theorem lcm_div2 (w m : Nat) : ((w : Int) / ((Nat.gcd w m : Nat) : Int)) * (m : Int) = ((Nat.lcm w m : Nat) : Int) := by
  rw [← Int.natCast_ediv, ← Int.natCast_mul]
  congr 1
  rw [Nat.div_mul_right_comm (Nat.gcd_dvd_left w m)]
  unfold Nat.lcm
  rfl

set_option maxHeartbeats 4000000 in
theorem wholeR_any (a : Option Addr) (n c : Nat) (xs : List (Int × Int)) (w : World) (h : Prs w a n xs) (hn : n ≤ 4611686018427387904) :
    Calls Try.prog 41 #[.slice a n c] w fun e w' => e = .returned (.int .i64 ((wholeF xs : Nat) : Int)) ∧ Below w.heap.size w w' := by
  have H := Lib.hid h
  have HL := Lib.hid h.1
  clear h
  obtain ⟨R, hR⟩ : ∃ R, wholeF xs = R := ⟨_, rfl⟩
  rw [hR]
  have HR := Lib.hid hR
  clear hR
  go_enter Try.func41, Try.ntmps41
  go_wp2
  go_loopg [3, 8] n (fun gk s3 s8 wr => ∃ (j W : Nat), j + gk = n ∧ s8 = .int .i64 (j : Int) ∧ s3 = .int .i64 (W : Int) ∧ wl (xs.take j) = W ∧ W ≤ 10080 ∧ 1 ≤ W ∧ (∀ i, i < j → 1 ≤ (nth xs i).2 ∧ (nth xs i).2 ≤ 60) ∧ Below w.heap.size w wr)
  case atStart => exact ⟨0, 1, by omega, rfl, rfl, rfl, by omega, by omega, fun i hi => by omega, Below.refl _ _⟩
  case round =>
    obtain ⟨j, W, hj, rfl, rfl, hW, hW2, hW1, hall, hb⟩ := hrel
    have HB := Lib.hid hb
    have HJ := Lib.hid hj
    have HW := Lib.hid hW
    have HALL := Lib.hid hall
    clear hb hall
    by_cases hjn : j = n
    · have hge : ¬ (j : Int) < (n : Int) := by omega
      have hge2 : ¬ j < n := by omega
      have e : xs.take j = xs := by rw [List.take_of_length_le]; have := HL.out; omega
      rw [e] at hW
      have e2 : R = W := by
        rw [← HR.out, ← hW]
        exact wholeF_good (fun i hi => HALL.out i (by have := HL.out; omega)) (by omega)
      subst e2
      clear hjn hj e hW
      go_wp2
      go_ret
      exact ⟨rfl, HB.out⟩
    · have hlt : (j : Int) < (n : Int) := by omega
      have hlt2 : j < n := by omega
      have j0 : (0 : Int) ≤ (j : Int) := by omega
      obtain ⟨b, off, rfl, hbl, hc⟩ := (H.out.below HB.out).at (by omega)
      obtain ⟨c0, c1⟩ := hc j hlt2
      have hbad := fun hh => wholeF_bad (xs := xs) (j := j) (by have := HL.out; omega) hh
      have hbig := wholeF_big (xs := xs) (j := j + 1)
      have hs := wl_take (L := xs) (k := j) (by have := HL.out; omega)
      rw [hW] at hs
      obtain ⟨p, hp⟩ : ∃ p, nth xs j = p := ⟨_, rfl⟩
      obtain ⟨x, y⟩ := p
      rw [hp] at c0 c1 hbad hs
      have HP := Lib.hid hp
      have HBAD := Lib.hid hbad
      have HBIG := Lib.hid hbig
      have HS := Lib.hid hs
      have HB2 := Lib.hid (HB.out.alloc HB.out.size (.cells #[.int .i64 x, .int .i64 y] 44))
      clear hjn hj hc hp hbad hbig hs hW
      by_cases g1 : y < 1
      · have g1d : decide (y < 1) = true := by simpa using g1
        obtain rfl : R = 0 := by rw [← HR.out]; exact HBAD.out (.inl g1)
        go_wp2
        go_ret
        exact ⟨rfl, HB2.out⟩
      · have g1d : decide (y < 1) = false := by simpa using g1
        by_cases g2 : 60 < y
        · have g2d : decide (60 < y) = true := by simpa using g2
          obtain rfl : R = 0 := by rw [← HR.out]; exact HBAD.out (.inr g2)
          go_wp2
          go_ret
          exact ⟨rfl, HB2.out⟩
        · have g2d : decide (60 < y) = false := by simpa using g2
          obtain ⟨m, rfl⟩ := Int.eq_ofNat_of_zero_le (show 0 ≤ y by omega)
          have g1 : 1 ≤ (m : Int) := by omega
          have g2 : (m : Int) ≤ 60 := by omega
          have hq := lcm_div2 W m
          have hg := Nat.le_of_dvd (show 0 < m by omega) (Nat.gcd_dvd_right W m)
          have hg1 := Nat.gcd_pos_of_pos_right W (show 0 < m by omega)
          have hG := gcdR_any W m (by omega) (by omega)
          have hs := HS.out
          rw [Int.toNat_natCast] at hs
          have hl1 := lcm_le W m hW1 (by omega)
          have hl2 := Nat.lcm_pos (show 0 < W by omega) (show 0 < m by omega)
          obtain ⟨g, hgg⟩ : ∃ g, Nat.gcd W m = g := ⟨_, rfl⟩
          rw [hgg] at hq hg hg1 hG
          obtain ⟨l, hl⟩ : ∃ l, Nat.lcm W m = l := ⟨_, rfl⟩
          rw [hl] at hq hs hl1 hl2
          have hl3 : l ≤ 10080 * 60 := Nat.le_trans hl1 (Nat.mul_le_mul hW2 (by omega))
          have HLW := Lib.hid hs
          have g0 : ¬ (g : Int) = 0 := by omega
          have q1 : wrap64 ((W : Int) / (g : Int)) = (W : Int) / (g : Int) := IntWalk.wrap64_in _ (by
            rw [← Int.natCast_ediv]
            have := Nat.div_le_self W g
            generalize W / g = t at this ⊢
            omega)
          have q2 : wrap64 (wrap64 ((W : Int) / (g : Int)) * (m : Int)) = (l : Int) := by rw [q1, hq]; exact IntWalk.wrap64_in _ (by omega)
          have HQ := Lib.hid q2
          clear hs hl hgg hq hl1 q1 q2
          go_wp2
          go_quiet ((go_at_call 56; exact Calls.quiet_of (hG _)))
          by_cases hb : 10080 < l
          · have hbi : (10080 : Int) < (l : Int) := by omega
            obtain rfl : R = 0 := by rw [← HR.out]; exact HBIG.out (by rw [HLW.out]; exact hb)
            have q2 := HQ.out
            go_wp2
            go_ret
            exact ⟨rfl, below_drewN HB2.out _⟩
          · have hbi : ¬ (10080 : Int) < (l : Int) := by omega
            have q2 := HQ.out
            go_wp2
            go_roundg (gk - 1)
            case rel =>
              refine ⟨j + 1, l, by have := HJ.out; omega, by go_num, rfl, HLW.out, by omega, hl2, fun i hi => ?_, below_drewN HB2.out _⟩
              by_cases hij : i = j
              · subst hij; rw [HP.out]; exact ⟨g1, g2⟩
              · exact HALL.out i (by omega)
            case measure => have := HJ.out; omega

theorem isS_whole {xs : List (Int × Int)} (h1 : 1 ≤ xs.length) (h2 : xs.length ≤ 10) : isS xs = (decide (wholeF xs ≠ 0) && xs.all fun p => decide (0 ≤ p.1) && decide (p.1 < p.2)) := by
  rw [Bool.eq_iff_iff, isS_spec]
  simp only [Bool.and_eq_true, decide_eq_true_eq, List.all_eq_true]
  constructor
  · intro h
    refine ⟨?_, fun p hp => ⟨(h.ok p hp).2.2.1, (h.ok p hp).2.2.2⟩⟩
    have := h.wl1
    unfold wholeF
    rw [if_pos ⟨mOk_spec.2 fun p hp => ⟨(h.ok p hp).1, (h.ok p hp).2.1⟩, h.wl2⟩]
    omega
  · rintro ⟨h3, h4⟩
    have h5 : mOk xs = true ∧ wl xs ≤ 10080 := by
      cases e : decide (mOk xs = true ∧ wl xs ≤ 10080) with
      | true => exact of_decide_eq_true e
      | false => exact absurd (by unfold wholeF; rw [if_neg (of_decide_eq_false e)]) h3
    exact ⟨h1, h2, fun p hp => ⟨(mOk_spec.1 h5.1 p hp).1, (mOk_spec.1 h5.1 p hp).2, (h4 p hp).1, (h4 p hp).2⟩, h5.2⟩
theorem wholeF_le (xs : List (Int × Int)) : wholeF xs ≤ 10080 := by unfold wholeF; split <;> omega

set_option maxHeartbeats 4000000 in
theorem validR_any (a : Option Addr) (n c : Nat) (xs : List (Int × Int)) (w : World) (h : Prs w a n xs) (hn : n ≤ 4611686018427387904) :
    Calls Try.prog 19 #[.slice a n c] w fun e w' => e = .returned (.bool (isS xs)) ∧ Below w.heap.size w w' := by
  have H := Lib.hid h
  have HL := Lib.hid h.1
  have HW := Lib.hid (wholeR_any a n c xs w h hn)
  clear h
  by_cases h1 : n < 1
  · rw [isS_len (.inl (by have := HL.out; omega))]
    have h1i : decide ((n : Int) < 1) = true := by simp; omega
    have h1j : (n : Int) < 1 := by omega
    go_enter Try.func19, Try.ntmps19
    go_wp2
    go_ret
    exact ⟨rfl, Below.refl _ _⟩
  · have h1i : decide ((n : Int) < 1) = false := by simp; omega
    have h1j : ¬ (n : Int) < 1 := by omega
    by_cases h2 : 10 < n
    · rw [isS_len (.inr (by have := HL.out; omega))]
      have h2i : decide ((10 : Int) < (n : Int)) = true := by simp; omega
      have h2j : (10 : Int) < (n : Int) := by omega
      go_enter Try.func19, Try.ntmps19
      go_wp2
      go_ret
      exact ⟨rfl, Below.refl _ _⟩
    · have h2i : decide ((10 : Int) < (n : Int)) = false := by simp; omega
      have h2j : ¬ (10 : Int) < (n : Int) := by omega
      have hI := isS_whole (xs := xs) (by have := HL.out; omega) (by have := HL.out; omega)
      have hle := wholeF_le xs
      obtain ⟨B, hB⟩ : ∃ B, isS xs = B := ⟨_, rfl⟩
      obtain ⟨W, hW⟩ : ∃ W, wholeF xs = W := ⟨_, rfl⟩
      rw [hW] at HW hI hle
      rw [hB] at hI ⊢
      have HBB := Lib.hid hI
      clear hB hI hW
      by_cases hW0 : W = 0
      · subst hW0
        obtain rfl : B = false := by rw [HBB.out]; rfl
        have z0 : (((0 : Nat) : Int) == 0) = true := rfl
        go_enter Try.func19, Try.ntmps19
        go_wp2_with fail
        refine HW.out.mono ?_
        rintro e w1 ⟨rfl, hb1⟩
        have HB1 := Lib.hid hb1
        clear hb1
        go_wp2
        go_ret
        exact ⟨rfl, HB1.out⟩
      · have z0 : ((W : Int) == 0) = false := by simp; omega
        have hI := HBB.out
        rw [decide_eq_true (show W ≠ 0 from hW0), Bool.true_and] at hI
        have HA := Lib.hid hI
        clear hI HBB hW0
        go_enter Try.func19, Try.ntmps19
        go_wp2_with fail
        refine HW.out.mono ?_
        rintro e w1 ⟨rfl, hb1⟩
        have HB1 := Lib.hid hb1
        clear hb1
        go_wp2
        go_loopg [20] n (fun gk s20 wr => ∃ (j : Nat), j + gk = n ∧ s20 = .int .i64 (j : Int) ∧ (∀ i, i < j → 0 ≤ (nth xs i).1 ∧ (nth xs i).1 < (nth xs i).2) ∧ Below w.heap.size w wr)
        case atStart => exact ⟨0, by omega, rfl, fun i hi => by omega, HB1.out⟩
        case round =>
          obtain ⟨j, hj, rfl, hall, hb⟩ := hrel
          have HB := Lib.hid hb
          have HJ := Lib.hid hj
          have HALL := Lib.hid hall
          clear hb hall
          by_cases hjn : j = n
          · have hge : ¬ (j : Int) < (n : Int) := by omega
            have hge2 : ¬ j < n := by omega
            obtain rfl : B = true := by
              rw [HA.out, List.all_eq_true]
              intro p hp
              obtain ⟨k, hk, rfl⟩ := mem_nth hp
              have := HALL.out k (by have := HL.out; omega)
              simp [this.1, this.2]
            clear hjn hj
            go_wp2
            go_ret
            exact ⟨rfl, HB.out⟩
          · have hlt : (j : Int) < (n : Int) := by omega
            have hlt2 : j < n := by omega
            have j0 : (0 : Int) ≤ (j : Int) := by omega
            obtain ⟨b, off, rfl, hbl, hc⟩ := (H.out.below HB.out).at (by omega)
            obtain ⟨c0, c1⟩ := hc j hlt2
            have hm := nth_mem (L := xs) (k := j) (by have := HL.out; omega)
            obtain ⟨p, hp⟩ : ∃ p, nth xs j = p := ⟨_, rfl⟩
            obtain ⟨x, y⟩ := p
            rw [hp] at c0 c1 hm
            have hbad : ¬ (0 ≤ x ∧ x < y) → B = false := fun hh => by
              rw [HA.out]
              cases e : xs.all fun p => decide (0 ≤ p.1) && decide (p.1 < p.2) with
              | false => rfl
              | true =>
                have := List.all_eq_true.1 e _ hm
                simp at this
                exact absurd this hh
            have HBAD := Lib.hid hbad
            have HP := Lib.hid hp
            have HB2 := Lib.hid (HB.out.alloc HB.out.size (.cells #[.int .i64 x, .int .i64 y] 44))
            clear hjn hj hc hp hbad hm
            by_cases g1 : x < 0
            · have g1d : decide (x < 0) = true := by simpa using g1
              obtain rfl : B = false := HBAD.out (by omega)
              go_wp2
              go_ret
              exact ⟨rfl, HB2.out⟩
            · have g1d : decide (x < 0) = false := by simpa using g1
              by_cases g2 : y ≤ x
              · have g2d : decide (y ≤ x) = true := by simpa using g2
                obtain rfl : B = false := HBAD.out (by omega)
                go_wp2
                go_ret
                exact ⟨rfl, HB2.out⟩
              · have g2d : decide (y ≤ x) = false := by simpa using g2
                have g1' : 0 ≤ x := by omega
                have g2' : x < y := by omega
                go_wp2
                go_roundg (gk - 1)
                case rel =>
                  refine ⟨j + 1, by have := HJ.out; omega, by go_num, fun i hi => ?_, HB2.out⟩
                  by_cases hij : i = j
                  · subst hij; rw [HP.out]; exact ⟨g1', g2'⟩
                  · exact HALL.out i (by omega)
                case measure => have := HJ.out; omega

theorem prs_new (w : World) (L : List (Int × Int)) : Prs (w.alloc (.cells (fl L).toArray 44)) (some ⟨w.heap.size, 0, none⟩) L.length L := by
  refine ⟨rfl, .inr ⟨w.heap.size, 0, rfl, by simp, fun j hj => ?_⟩⟩
  obtain ⟨f0, f1⟩ := fl_at L j hj
  have h0 := heap_alloc_last w (.cells (fl L).toArray 44)
  constructor
  · unfold World.cell?; rw [h0]; simpa using f0
  · unfold World.cell?; rw [h0]; simpa using f1
theorem left_a : leftR [(0, 2), (1, 2)] = (0, 4) := by decide +kernel
theorem left_b : leftR [(0, 2)] = (1, 0) := by decide +kernel
set_option maxHeartbeats 2000000 in
theorem awake_any (w : World) : Calls Try.prog 20 #[] w fun e w' => e = .returned (.bool true) ∧ Below w.heap.size w w' := by
  go_enter Try.func20, Try.ntmps20
  go_wp2_with fail
  refine (Left_any (some ⟨w.heap.size, 0, none⟩) 2 2 [(0, 2), (1, 2)] _ (prs_new w [(0, 2), (1, 2)]) (by omega)).mono ?_
  rw [left_a]
  rintro e w1 ⟨rfl, hb1⟩
  have HB1 := Lib.hid (((Below.refl w.heap.size w).alloc (Nat.le_refl _) (.cells #[.int .i64 0, .int .i64 2, .int .i64 1, .int .i64 2] 44)).trans (hb1.mono (by simp)))
  clear hb1
  go_wp2_with fail
  refine (Left_any (some ⟨w1.heap.size, 0, none⟩) 1 1 [(0, 2)] _ (prs_new w1 [(0, 2)]) (by omega)).mono ?_
  rw [left_b]
  rintro e w2 ⟨rfl, hb2⟩
  have HB2 := Lib.hid (HB1.out.trans ((((Below.refl w1.heap.size w1).alloc (Nat.le_refl _) (.cells #[.int .i64 0, .int .i64 2] 44)).trans (hb2.mono (by simp))).mono HB1.out.size))
  clear hb2
  go_wp2
  go_ret
  exact ⟨rfl, HB2.out⟩
end Go.Proofs.Ytanhjgneaaenpaa
