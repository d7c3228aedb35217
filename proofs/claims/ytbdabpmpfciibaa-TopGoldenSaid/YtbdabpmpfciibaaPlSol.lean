/- The solutions of x^2 - D y^2 = n, plainly; the walks of pell.solutions and of the iterator that it makes: it yields x and y of all solutions, rising by y. Conditions as stated in each theorem (d is a D, n is an n, y at most 100,000). -/
import Derived.Test.YtbdabpmpfciibaaPlWithin
namespace Go.Proofs.Ytbdabpmpfciibaa.pl
open Go.RowKit Go.Shelf
attribute [local go_sem] Oper.semAt_some

def sqOf (d n : Int) (y : Nat) : Int := d * y * y + n
def isHit (d n : Int) (y : Nat) : Bool := rootF (sqOf d n y) * rootF (sqOf d n y) == sqOf d n y
/-- The solutions with y below the given number, rising. -/
def solL (d n : Int) : Nat → List (Int × Int)
  | 0 => []
  | y + 1 => if isHit d n y then solL d n y ++ [(rootF (sqOf d n y), (y : Int))] else solL d n y
theorem solL_hit {d n : Int} {y : Nat} (h : isHit d n y = true) : solL d n (y + 1) = solL d n y ++ [(rootF (sqOf d n y), (y : Int))] := by simp [solL, h]
theorem solL_miss {d n : Int} {y : Nat} (h : isHit d n y = false) : solL d n (y + 1) = solL d n y := by simp [solL, h]
theorem solL_len (d n : Int) : ∀ y, (solL d n y).length ≤ y
  | 0 => by simp [solL]
  | y + 1 => by
    have := solL_len d n y
    unfold solL
    split <;> simp <;> omega
theorem solL_prefix (d n : Int) (y : Nat) : ∀ z, y ≤ z → ∃ t, solL d n z = solL d n y ++ t
  | 0, h => ⟨[], by have : y = 0 := by omega
                    subst this; simp⟩
  | z + 1, h => by
    by_cases e : y = z + 1
    · subst e; exact ⟨[], by simp⟩
    · obtain ⟨t, ht⟩ := solL_prefix d n y z (by omega)
      by_cases hh : isHit d n z = true
      · exact ⟨t ++ [(rootF (sqOf d n z), (z : Int))], by rw [solL_hit hh, ht, List.append_assoc]⟩
      · exact ⟨t, by rw [solL_miss (by simpa using hh), ht]⟩
/-- The k-th solution of a list. -/
def nth (S : List (Int × Int)) (k : Nat) : Int × Int := S.getD k (0, 0)
theorem nth_hit {d n : Int} {y z : Nat} (h : isHit d n y = true) (hz : y < z) : nth (solL d n z) (solL d n y).length = (rootF (sqOf d n y), (y : Int)) ∧ (solL d n y).length < (solL d n z).length := by
  obtain ⟨t, ht⟩ := solL_prefix d n (y + 1) z hz
  rw [solL_hit h] at ht
  rw [ht]
  constructor
  · simp [nth, List.getD]
  · simp

theorem sq_bd {d n : Int} (hd : isD d = true) (hn : isN n = true) {y : Nat} (hy : y ≤ 100000) :
    0 ≤ d * (y : Int) ∧ d * (y : Int) ≤ 10000000 ∧ 0 ≤ d * (y : Int) * y ∧ d * (y : Int) * y ≤ 1000000000000 ∧ -100 ≤ sqOf d n y ∧ sqOf d n y ≤ 1000000000100 := by
  have hd2 := isD_bd hd
  obtain ⟨n1, n2, -⟩ := isN_bd hn
  obtain ⟨a1, a2, a3, a4⟩ := dyy_bd (d := d) (y := (y : Int)) (by omega) (by omega) (by omega) (by omega)
  have : 0 ≤ d * (y : Int) := Int.mul_nonneg (by omega) (by omega)
  unfold sqOf
  omega

set_option maxHeartbeats 400000 in
theorem root_zero (w : World) : Calls Try.prog 107 #[.int .i64 0] w fun e w' => e = .returned (.int .i64 0) ∧ w = w' := by
  go_enter Try.func107, Try.ntmps107
  go_wp2
  go_ret
  exact ⟨rfl, rfl⟩
theorem rootF_zero : rootF 0 = 0 := by decide +kernel
theorem root_nn (n : Int) (w : World) (h0 : 0 ≤ n) (h1 : n ≤ 1000000000000000000) :
    Calls Try.prog 107 #[.int .i64 n] w fun e w' => e = .returned (.int .i64 (rootF n)) ∧ w = w' := by
  by_cases e : n = 0
  · subst e; rw [rootF_zero]; exact root_zero w
  · exact root_any n w (by omega) h1

set_option maxHeartbeats 400000 in
theorem solutions_any (d n m : Int) (w : World) :
    Calls Try.prog 90 #[.int .i64 d, .int .i64 n, .int .i64 m] w fun e w' => e = .returned (.func (.func 109) #[] #[.pointer (some ⟨w.heap.size + 1 + 1, 0, none⟩), .pointer (some ⟨w.heap.size, 0, none⟩), .pointer (some ⟨w.heap.size + 1, 0, none⟩)]) ∧ ((w.alloc (.cells #[.int .i64 d] 3)).alloc (.cells #[.int .i64 n] 3)).alloc (.cells #[.int .i64 m] 3) = w' := by
  go_enter Try.func90, Try.ntmps90
  go_wp2
  go_ret
  exact ⟨rfl, rfl⟩

/-- The iterator's three captured boxes lie as they lay. -/
def keep3 (b : Nat) (_ : Nat) (A B : World) : Prop := B.heap[b]? = A.heap[b]? ∧ B.heap[b + 1]? = A.heap[b + 1]? ∧ B.heap[b + 1 + 1]? = A.heap[b + 1 + 1]?
structure Box3 (b : Nat) (d n m : Int) (W : World) : Prop where
  d : Boxed W b 3 (.int .i64 d)
  n : Boxed W (b + 1) 3 (.int .i64 n)
  m : Boxed W (b + 1 + 1) 3 (.int .i64 m)
theorem Box3.keep {b k : Nat} {d n m : Int} {A B : World} (h : Box3 b d n m A) (hk : keep3 b k A B) : Box3 b d n m B := ⟨hk.1.trans h.d, hk.2.1.trans h.n, hk.2.2.trans h.m⟩
theorem Box3.below {b k : Nat} {d n m : Int} {A B : World} (h : Box3 b d n m A) (hk : Below k A B) (hb : b + 1 + 1 < k) : Box3 b d n m B := ⟨boxed_below h.d hk (by omega), boxed_below h.n hk (by omega), boxed_below h.m hk hb⟩

set_option maxRecDepth 100000 in
set_option maxHeartbeats 2000000 in
theorem sol_iter (d n : Int) (hd : isD d = true) (hn : isN n = true) (M : Nat) (hM : M ≤ 100000) (b : Nat) (w : World) (hb : b + 1 + 1 < w.heap.size) (hbox : Box3 b d n (M : Int) w) :
    IterC Try.prog 109 #[.pointer (some ⟨b + 1 + 1, 0, none⟩), .pointer (some ⟨b, 0, none⟩), .pointer (some ⟨b + 1, 0, none⟩)]
      (fun k => #[.int .i64 (nth (solL d n (M + 1)) k).1, .int .i64 (nth (solL d n (M + 1)) k).2]) still (keep3 b) True (solL d n (M + 1)).length w := by
  intro l J Jx W hW hJ hJx hY hF h0
  have hd2 := isD_bd hd
  obtain ⟨n1, n2, -⟩ := isN_bd hn
  have hboxW : Box3 b d n (M : Int) W := hbox.below hW hb
  clear hbox hJ hJx
  have c1 := hboxW.m.cell
  refine (callsIn_wide (n := 5)).1 ?_
  refine callsIn_of_wp Try.func109 rfl trivial ?_ rfl
  simp only [Try.ntmps109, List.size_toArray, List.length_cons, List.length_nil, Nat.reduceAdd, Nat.reduceSub, Array.replicate_succ, Array.replicate_zero, List.push_toArray, List.append_toArray, List.nil_append, List.cons_append]
  have hi : J (solL d n 0).length W ∧ Box3 b d n (M : Int) W := ⟨h0, hboxW⟩
  gi_wp2
  clear h0 hboxW c1
  gi_loopg [10] (M + 1) (fun g i wr => ∃ y : Nat, y + g = M + 1 ∧ i = .int .i64 (y : Int) ∧ J (solL d n y).length wr ∧ Box3 b d n (M : Int) wr)
  case atStart => exact ⟨0, by omega, rfl, hi.1, hi.2⟩
  case round =>
    obtain ⟨y, hy, rfl, hj, hbx⟩ := hrel
    have cd := hbx.d.cell
    have cn := hbx.n.cell
    by_cases hyM : y = M + 1
    · have hge : (M : Int) + 1 ≤ (y : Int) := by omega
      have hfin : J (solL d n (M + 1)).length wr := by rw [← hyM]; exact hj
      clear hj hyM
      gi_wp2
      go_end0
      exact ⟨⟨_, rfl⟩, .inl ⟨trivial, hfin⟩⟩
    · have hlt : (y : Int) < (M : Int) + 1 := by omega
      obtain ⟨s1, s2, s3, s4, s5, s6⟩ := sq_bd hd hn (y := y) (by omega)
      have es : d * (y : Int) * (y : Int) + n = sqOf d n y := rfl
      by_cases hneg : sqOf d n y < 0
      · have hmiss : isHit d n y = false := by
          have := sq_nonneg (rootF (sqOf d n y))
          simp only [isHit, beq_eq_false_iff_ne]
          omega
        gi_wp2
        gi_roundg (gk - 1)
        case rel => exact ⟨y + 1, by omega, by go_num, by rw [solL_miss hmiss]; exact hj, hbx⟩
        case measure => omega
      · have hr := rootF_spec (sqOf d n y) (by omega) (by omega)
        obtain ⟨r0, r1, -⟩ := hr
        have r2 := sq_nonneg (rootF (sqOf d n y))
        by_cases hh : isHit d n y = true
        · have hq : (rootF (sqOf d n y) * rootF (sqOf d n y) == sqOf d n y) = true := hh
          obtain ⟨e1, e2⟩ := nth_hit hh (show y < M + 1 by omega)
          have hyy := hY _ wr hj e2
          rw [e1] at hyy
          obtain ⟨fn, tmps, assign, body, hyr, hR⟩ := hyy
          have HR := Lib.hid hR
          have HH := Lib.hid hh
          have HE := Lib.hid e2
          clear hR hh e1 e2 hY hi hF
          gi_wp2_with (refine ⟨trivial, ?_⟩; gi_at_call 107; refine (callsIn_wide.2 (root_nn _ _ (by omega) (by omega))).mono ?_; rintro e w' ⟨rfl, rfl⟩)
          refine (roundIn_wide HR.out).mono ?_
          rintro e W3 (⟨rfl, hJ3, hk3⟩ | ⟨rfl, hJx3, hk3⟩)
          · have hb3 := hbx.keep hk3
            clear hk3 hyr
            gi_wp2
            gi_roundg (gk - 1)
            case rel => exact ⟨y + 1, by omega, by go_num, by rw [solL_hit HH.out]; simpa using hJ3, hb3⟩
            case measure => omega
          · clear hk3 hyr
            gi_wp2
            refine bodyPost_ret (results_none rfl _ _ _) rfl ?_
            exact ⟨⟨_, rfl⟩, .inr ⟨_, HE.out, hJx3⟩⟩
        · have hh' : isHit d n y = false := by simpa using hh
          have hq : (rootF (sqOf d n y) * rootF (sqOf d n y) == sqOf d n y) = false := hh'
          have HH := Lib.hid hh'
          clear hh hh' hY hi hF
          gi_wp2_with (refine ⟨trivial, ?_⟩; gi_at_call 107; refine (callsIn_wide.2 (root_nn _ _ (by omega) (by omega))).mono ?_; rintro e w' ⟨rfl, rfl⟩)
          refine ⟨fun _ h => (by cases h), ?_⟩
          gi_wp2
          gi_roundg (gk - 1)
          case rel => exact ⟨y + 1, by omega, by go_num, by rw [solL_miss HH.out]; exact hj, hbx⟩
          case measure => omega
end Go.Proofs.Ytbdabpmpfciibaa.pl
