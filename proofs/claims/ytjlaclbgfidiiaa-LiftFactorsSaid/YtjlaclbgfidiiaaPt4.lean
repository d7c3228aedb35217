/- The points of a polynomial, rows of them; the walk of points. Conditions: the slice lies in memory, the numbers are in range. -/
import Derived.Test.YtjlaclbgfidiiaaPt3
namespace Go.Proofs.Ytjlaclbgfidiiaa
open Go.RowKit
attribute [local go_sem] Oper.semAt_some

def nth (L : List (Int × Int)) (j : Nat) : Int × Int := L.getD j (0, 0)
/-- A slice of pairs as it lies. -/
def Prs (w : World) (a : Option Addr) (n : Nat) (xs : List (Int × Int)) : Prop :=
  xs.length = n ∧ (n = 0 ∨ ∃ b off, a = some ⟨b, off, none⟩ ∧ b < w.heap.size ∧ ∀ j, j < n → w.cell? ⟨b, off + j * 2, none⟩ = some (.int .i64 (nth xs j).1) ∧ w.cell? ⟨b, off + j * 2 + 1, none⟩ = some (.int .i64 (nth xs j).2))
theorem Prs.below {w w' : World} {a : Option Addr} {n : Nat} {xs : List (Int × Int)} (h : Prs w a n xs) (hb : Below w.heap.size w w') : Prs w' a n xs := by
  refine ⟨h.1, h.2.imp id ?_⟩
  rintro ⟨b, off, h1, h2, h3⟩
  exact ⟨b, off, h1, Nat.lt_of_lt_of_le h2 hb.size, fun j hj => ⟨(hb.cell (p := ⟨b, off + j * 2, none⟩) h2).trans (h3 j hj).1, (hb.cell (p := ⟨b, off + j * 2 + 1, none⟩) h2).trans (h3 j hj).2⟩⟩
theorem Prs.at {w : World} {a : Option Addr} {n : Nat} {xs : List (Int × Int)} (h : Prs w a n xs) (hn : 0 < n) : ∃ b off, a = some ⟨b, off, none⟩ ∧ b < w.heap.size ∧ ∀ j, j < n → w.cell? ⟨b, off + j * 2, none⟩ = some (.int .i64 (nth xs j).1) ∧ w.cell? ⟨b, off + j * 2 + 1, none⟩ = some (.int .i64 (nth xs j).2) :=
  h.2.resolve_left (by omega)
theorem Prs.nil (w : World) (a : Option Addr) : Prs w a 0 [] := ⟨rfl, .inl rfl⟩
def fl (S : List (Int × Int)) : List Value := S.flatMap fun p => [.int .i64 p.1, .int .i64 p.2]
theorem fl_len (S : List (Int × Int)) : (fl S).length = S.length * 2 := by
  induction S with
  | nil => rfl
  | cons a t ih => simp [fl] at ih ⊢; omega
theorem fl_app (S T : List (Int × Int)) : fl (S ++ T) = fl S ++ fl T := by simp [fl]
theorem fl_at : ∀ (S : List (Int × Int)) (j : Nat), j < S.length → (fl S)[j * 2]? = some (.int .i64 (nth S j).1) ∧ (fl S)[j * 2 + 1]? = some (.int .i64 (nth S j).2)
  | [], j, h => absurd h (by simp)
  | p :: t, 0, _ => by simp [fl, nth]
  | p :: t, j + 1, h => by
    have ih := fl_at t j (by simpa using h)
    have e : fl (p :: t) = .int .i64 p.1 :: .int .i64 p.2 :: fl t := by simp [fl]
    rw [e, show (j + 1) * 2 = j * 2 + 1 + 1 by omega]
    simpa [nth, List.getD] using ih
/-- A row of pairs of the call's own. -/
def Row2 (B : Nat) (v : Value) (S : List (Int × Int)) (W : World) : Prop := W.ownsRow B 103 2 v S.length (fl S)
theorem Row2.cell {B g n c : Nat} {S : List (Int × Int)} {W : World} (h : Row2 B (.slice (some ⟨g, 0, none⟩) n c) S W) {j : Nat} (hj : j < S.length) :
    W.cell? ⟨g, j * 2, none⟩ = some (.int .i64 (nth S j).1) ∧ W.cell? ⟨g, j * 2 + 1, none⟩ = some (.int .i64 (nth S j).2) := by
  have hl : n = S.length := by
    rcases h.2 with ⟨h1, -⟩ | ⟨g', cap, cur, h1, -⟩
    · cases h1
    · cases h1; rfl
  subst hl
  obtain ⟨a, b⟩ := fl_at S j hj
  constructor
  · rw [h.cellAt (j * 2) (by omega)]; exact a
  · rw [h.cellAt (j * 2 + 1) (by omega)]; exact b
theorem Row2.form {B : Nat} {v : Value} {S : List (Int × Int)} {W : World} (h : Row2 B v S W) : ∃ a c, v = .slice a S.length c ∧ S.length ≤ c ∧ c ≤ maxLen ∧ ((a = none ∧ S = [] ∧ c = 0) ∨ ∃ g, a = some ⟨g, 0, none⟩ ∧ B ≤ g ∧ g < W.heap.size) := by
  rcases h.2 with ⟨h1, h2⟩ | ⟨g, cap, cur, h1, h2, h3, h4, h5, h6, h7⟩
  · have : S = [] := List.length_eq_zero_iff.1 h2
    subst this
    exact ⟨none, 0, h1, Nat.le_refl _, by unfold maxLen; omega, .inl ⟨rfl, rfl, rfl⟩⟩
  · exact ⟨_, cap, h1, h4, h5, .inr ⟨g, rfl, h2, (Array.getElem?_eq_some_iff.1 h3).1⟩⟩
theorem Row2.prs {B : Nat} {v : Value} {S : List (Int × Int)} {W : World} (h : Row2 B v S W) : ∃ a c, v = .slice a S.length c ∧ S.length ≤ c ∧ c ≤ maxLen ∧ Prs W a S.length S := by
  obtain ⟨a, c, rfl, h1, h2, ⟨rfl, rfl, rfl⟩ | ⟨g, rfl, h3, h4⟩⟩ := h.form
  · exact ⟨_, _, rfl, h1, h2, Prs.nil _ _⟩
  · refine ⟨_, _, rfl, h1, h2, rfl, .inr ⟨g, 0, rfl, h4, fun j hj => ?_⟩⟩
    rw [Nat.zero_add]
    exact h.cell hj
theorem info103 : (Try.prog.info? 103).map (fun i => (i.zero, i.size, i.bytes)) = some (some (.agg #[.int .i64 0, .int .i64 0]), 2, 16) := by kernel_rfl
theorem cell2_new (W : World) (x y : Value) (t : TypeId) : ∀ (j : Nat) (u : Value), [x, y][j]? = some u → (W.alloc (.cells #[x, y] t)).cell? ((⟨W.heap.size, 0, none⟩ : Addr).add j) = some u := by
  intro j u h
  have hn : (W.alloc (.cells #[x, y] t)).heap[W.heap.size]? = some (.cells #[x, y] t (0, 0)) := heap_alloc_last W _
  unfold World.cell?
  rw [show ((⟨W.heap.size, 0, none⟩ : Addr).add j).block = W.heap.size by unfold Addr.add; split <;> rfl, hn]
  match j, h with
  | 0, h => simpa [Addr.add] using h
  | 1, h => simpa [Addr.add] using h
  | j + 2, h => simp at h

/-- The points of the first k numbers. -/
def ptsP (f : List Int) (q : Nat) : Nat → List (Int × Int)
  | 0 => []
  | k + 1 => if f.getD k 0 = 0 then ptsP f q k else ptsP f q k ++ [((k : Int), (ordF q 40 (f.getD k 0) : Int))]
theorem ptsP_no {f : List Int} {q k : Nat} (h : f.getD k 0 = 0) : ptsP f q (k + 1) = ptsP f q k := if_pos h
theorem ptsP_yes {f : List Int} {q k : Nat} (h : ¬ f.getD k 0 = 0) : ptsP f q (k + 1) = ptsP f q k ++ [((k : Int), (ordF q 40 (f.getD k 0) : Int))] := if_neg h
theorem ptsP_len (f : List Int) (q : Nat) : ∀ k, (ptsP f q k).length ≤ k
  | 0 => Nat.le_refl _
  | k + 1 => by
    have := ptsP_len f q k
    simp only [ptsP]
    split
    · omega
    · simp; omega

set_option maxHeartbeats 4000000 in
set_option maxRecDepth 100000 in
theorem points_any (a : Option Addr) (n c : Nat) (f : List Int) (q : Nat) (w : World) (h : Ints w a n f) (hn : n ≤ 20) (hx : ∀ j, j < n → -1000000 ≤ f.getD j 0 ∧ f.getD j 0 ≤ 1000000) (hq : 2 ≤ q) (q13 : q ≤ 13) :
    Calls Try.prog 64 #[.slice a n c, .int .i64 (q : Int)] w fun e w' => (∃ v, e = .returned v ∧ Row2 w.heap.size v (ptsP f q n) w') ∧ Below w.heap.size w w' := by
  have HA := Lib.hid (fun (x : Int) h0 h1 h2 w => order_any q hq q13 x h0 h1 h2 w)
  have H := Lib.hid h
  have HX := Lib.hid hx
  clear h hx
  go_enter Try.func64, Try.ntmps64
  go_wp2
  go_loopg [5, 6, 7, 10] n (fun gk s5 s6 s7 s10 wr => ∃ k : Nat, k + gk = n ∧ s10 = .int .i64 (k : Int) ∧ Row2 w.heap.size s5 (ptsP f q k) wr ∧ Below w.heap.size w wr)
  case atStart => exact ⟨0, by omega, rfl, World.ownsRow_nil _ _ _ _, Below.refl _ _⟩
  case round =>
    obtain ⟨k, hk, rfl, hr0, hb⟩ := hrel
    have HR := Lib.hid hr0
    have HB := Lib.hid hb
    have HK := Lib.hid hk
    by_cases hkm : k < n
    · have l1 : (k : Int) < (n : Int) := by omega
      have k0 : (0 : Int) ≤ (k : Int) := by omega
      obtain ⟨b, off, hab, hbl, hcc⟩ := (H.out.below hb).at (by omega)
      subst hab
      have hck := hcc k hkm
      obtain ⟨x0, x1⟩ := HX.out k hkm
      have HN := Lib.hid (fun h => ptsP_no (f := f) (q := q) (k := k) h)
      have HY := Lib.hid (fun h => ptsP_yes (f := f) (q := q) (k := k) h)
      obtain ⟨x, hxx⟩ : ∃ x, f.getD k 0 = x := ⟨_, rfl⟩
      rw [hxx] at hck x0 x1 HN HY
      have hlen := ptsP_len f q k
      clear hcc hxx hr0 hb hk
      by_cases hz : x = 0
      · subst hz
        have HST := Lib.hid (HN.out rfl)
        go_wp2
        go_roundg (gk - 1)
        case rel => exact ⟨k + 1, by have := HK.out; omega, by go_num, by rw [HST.out]; exact HR.out, HB.out⟩
        case measure => have := HK.out; omega
      · have HST := Lib.hid (HY.out hz)
        have hne : (x != 0) = true := by simp; omega
        have HC := Lib.hid (fun w => HA.out x hz x0 x1 w)
        obtain ⟨t, ht⟩ : ∃ t, ordF q 40 x = t := ⟨_, rfl⟩
        rw [ht] at HC HST
        clear ht
        go_wp2_with fail
        refine (HC.out _).mono ?_
        rintro e w1 ⟨rfl, rfl⟩
        obtain ⟨i0, hi, hz0, hz1, hz2⟩ := info_parts info103
        have hr := HR.out
        unfold Row2 at hr
        have hsz := HB.out.size
        obtain ⟨L, hL⟩ : ∃ L, (ptsP f q k).length = L := ⟨_, rfl⟩
        rw [hL] at hr hlen
        have HL := Lib.hid hL
        clear hL
        go_wp2_with (at_builtin; refine wpList_append_own _ rfl _ _ 92 rfl (w.heap.size) 103 i0 (.agg #[.int .i64 0, .int .i64 0]) 2 16 Try.underlying92 hi hz0 hz1 hz2 rfl (by decide) _ _ _ rfl (hr.alloc _) ⟨wr.heap.size, 0, none⟩ 1 1 [.int .i64 (k : Int), .int .i64 (t : Int)] rfl rfl (cell2_new _ _ _ _) (by simp [Value.oneCell']) (by unfold maxLen; omega) (by omega) (by simp; omega) ?_; intro v' w3 hown' hgrow _)
        have hb3 : Below w.heap.size w w3 := (HB.out.alloc hsz _).grown hgrow (by simp; omega) (fun j e => (hr.lt j e).1)
        have hrow : Row2 w.heap.size v' (ptsP f q (k + 1)) w3 := by
          unfold Row2
          rw [HST.out, List.length_append, HL.out, fl_app]
          exact hown'
        have HF := Lib.hid (And.intro hrow hb3)
        clear hown' hgrow hr hrow hb3
        go_wp2
        go_roundg (gk - 1)
        case rel => exact ⟨k + 1, by have := HK.out; omega, by go_num, HF.out.1, HF.out.2⟩
        case measure => have := HK.out; omega
    · have l1 : ¬ (k : Int) < (n : Int) := by omega
      have hkm2 : k = n := by omega
      have HF := Lib.hid (show Row2 w.heap.size u5 (ptsP f q n) wr by rw [← hkm2]; exact hr0)
      clear hk hkm2 hr0 hb
      go_wp2
      go_ret
      exact ⟨⟨_, rfl, HF.out⟩, HB.out⟩
end Go.Proofs.Ytjlaclbgfidiiaa
