/- The walks of slices.Index at points, of logarithm, Log and the reference's Log. Conditions as stated in each theorem. -/
import Derived.Test.YtoepghlkjbpkfaaDoorExp
namespace Go.Proofs.YtoepghlkjbpkfaaDoor
open Go.RowKit
attribute [local go_sem] Oper.semAt_some

/-- the place of a point in a list, -1 if it is not in it -/
def IdxR (L : List Pt) (r : Pt) (v : Int) : Prop := (∃ i : Nat, v = i ∧ i < L.length ∧ nth3 L i = r ∧ ∀ j, j < i → nth3 L j ≠ r) ∨ (v = -1 ∧ ∀ j, j < L.length → nth3 L j ≠ r)
theorem idx_ex (L : List Pt) (r : Pt) : ∃ v, IdxR L r v := by
  by_cases h : ∃ i, i < L.length ∧ nth3 L i = r
  · obtain ⟨i, h1, h2⟩ := h
    obtain ⟨m, m1, m2, m3⟩ := least_from (R := fun i => nth3 L i = r) i h2
    exact ⟨m, .inl ⟨m, rfl, by omega, m2, m3⟩⟩
  · exact ⟨-1, .inr ⟨rfl, fun j h1 h2 => h ⟨j, h1, h2⟩⟩⟩

set_option maxHeartbeats 8000000 in
set_option maxRecDepth 100000 in
theorem index_any (a : Option Addr) (n c : Nat) (S : List Pt) (r : Pt) (v : Int) (hv : IdxR S r v) (w : World) (h : AgP w a n S) (hn : n ≤ 5000000000) :
    Calls Tryd.prog 88 #[.slice a n c, .agg #[.int .i64 r.x, .int .i64 r.y, .bool r.f]] w fun e w' => e = .returned (.int .i64 v) ∧ Below w.heap.size w w' := by
  have hbx := below1 w (.cells #[.int .i64 r.x, .int .i64 r.y, .bool r.f] 34)
  have HB := Lib.hid hbx
  have HV := Lib.hid hv
  have HSL := Lib.hid h.1
  have HA := Lib.hid (h.later hbx)
  have HE := Lib.hid (fun W p => eql34 W r p)
  obtain ⟨W0, hW0⟩ : ∃ W0, w.alloc (.cells #[.int .i64 r.x, .int .i64 r.y, .bool r.f] 34) = W0 := ⟨_, rfl⟩
  have hc := C3.new w (.int .i64 r.x) (.int .i64 r.y) (.bool r.f) 34
  rw [hW0] at HB HA hc
  obtain ⟨c0, c1, c2⟩ := hc
  clear hbx h hv
  go_enter Tryd.func88, Tryd.ntmps88
  go_wp2
  try rw [hW0]
  go_loopg [5, 8] n (fun gk s5 s8 wr => ∃ k q : Nat, k + gk = n ∧ s8 = .int .i64 (k : Int) ∧ RowKit.Hid (∀ j, j < k → nth3 S j ≠ r) ∧ wr = W0.drewN q)
  case atStart => exact ⟨0, 0, by omega, rfl, Lib.hid (fun j hj => by omega), rfl⟩
  case round =>
    obtain ⟨k, d, hk, rfl, HP, rfl⟩ := hrel
    have HK := Lib.hid hk
    by_cases hlt : k < n
    · have l1 : (k : Int) < (n : Int) := by omega
      have l0 : (0 : Int) ≤ (k : Int) := by omega
      obtain ⟨b, o, rfl, -, hcc⟩ := HA.out.pos (by omega)
      obtain ⟨t0, t1, t2⟩ := hcc k hlt
      obtain ⟨⟨x0, x1, x2⟩, hx⟩ : ∃ x, nth3 S k = x := ⟨_, rfl⟩
      rw [hx] at t0 t1 t2
      simp only at t0 t1 t2
      have heq := fun W => HE.out W ⟨x0, x1, x2⟩
      by_cases he : r = ⟨x0, x1, x2⟩
      · rw [decide_eq_true he] at heq
        simp only at heq
        have HVE := Lib.hid (show v = (k : Int) by
          rcases HV.out with ⟨i, rfl, i1, i2, i3⟩ | ⟨-, i1⟩
          · rcases Nat.lt_trichotomy i k with q | q | q
            · exact absurd i2 (HP.out i q)
            · rw [q]
            · exact absurd (by rw [hx, he]) (i3 k q)
          · exact absurd (by rw [hx, he]) (i1 k (by rw [HSL.out]; exact hlt)))
        clear hx hk he hcc
        go_wp2
        go_quiet (fail)
        go_wp2
        go_ret
        exact ⟨ret_int HVE.out.symm, below_drewN (below_drewN HB.out _) _⟩
      · rw [decide_eq_false he] at heq
        simp only at heq
        have HP2 := Lib.hid (show ∀ j, j < k + 1 → nth3 S j ≠ r from fun j hj => by
          by_cases hjk : j = k
          · subst hjk; rw [hx]; exact fun e => he e.symm
          · exact HP.out j (by omega))
        clear hx hk he hcc
        go_wp2
        go_quiet (fail)
        go_wp2
        go_roundg (gk - 1)
        case rel => exact ⟨k + 1, _, by have := HK.out; omega, by go_num, HP2, by first | rfl | rw [World.drewN_drewN]⟩
        case measure => have := HK.out; omega
    · have l1 : decide ((k : Int) < (n : Int)) = false := decide_eq_false (by omega)
      have HVE := Lib.hid (show v = -1 by
        rcases HV.out with ⟨i, rfl, i1, i2, i3⟩ | ⟨i0, -⟩
        · exact absurd i2 (HP.out i (by have := HSL.out; omega))
        · exact i0)
      clear hk
      go_wp2
      go_ret
      exact ⟨ret_int HVE.out.symm, below_drewN HB.out _⟩

/-- what Log says: the number and whether there is one -/
def LogV (P A : Int) (q r : Pt) (n : Nat) (v : Int) : Prop := IdxR (mulL P A q n) r v

set_option maxHeartbeats 8000000 in
set_option maxRecDepth 100000 in
theorem logarithm_any (P A B : Int) (q r : Pt) (n : Nat) (v : Int) (hv : vB P A B = true) (hq : onB P A B q = true) (ho : IsOrd P A q n) (hn : n ≤ 962) (hl : LogV P A q r n v) (m : Int) (b : Bool) (hm : (v = -1 ∧ m = 0 ∧ b = false) ∨ (0 ≤ v ∧ m = v ∧ b = true)) (w : World) (hF : Far w) :
    Calls Tryd.prog 70 #[.agg #[.int .i64 P, .int .i64 A, .int .i64 B], .agg #[.int .i64 q.x, .int .i64 q.y, .bool q.f], .agg #[.int .i64 r.x, .int .i64 r.y, .bool r.f]] w fun e w' => e = .returned (.tuple #[.int .i64 m, .bool b]) ∧ Below w.heap.size w w' := by
  have hb3 := below3 w (.cells #[.int .i64 P, .int .i64 A, .int .i64 B] 30) (.cells #[.int .i64 q.x, .int .i64 q.y, .bool q.f] 34) (.cells #[.int .i64 r.x, .int .i64 r.y, .bool r.f] 34)
  obtain ⟨W0, hW0⟩ : ∃ W0, ((w.alloc (.cells #[.int .i64 P, .int .i64 A, .int .i64 B] 30)).alloc (.cells #[.int .i64 q.x, .int .i64 q.y, .bool q.f] 34)).alloc (.cells #[.int .i64 r.x, .int .i64 r.y, .bool r.f] 34) = W0 := ⟨_, rfl⟩
  obtain ⟨hc, hd, he, -, hsz⟩ := blocks3 w _ _ _ _ _ _ _ _ _ _ _ _ W0 hW0.symm
  rw [hW0] at hb3
  have HB := Lib.hid hb3
  have HFa := Lib.hid (hF.below hb3)
  have HM := Lib.hid (fun W hF => multiples_any P A B q n hv hq ho hn W hF)
  have hvv : -1 ≤ v ∧ v ≤ 962 := by
    rcases hl with ⟨i, rfl, i1, -, -⟩ | ⟨rfl, -⟩
    · rw [mulL_len] at i1; omega
    · omega
  have HIX := Lib.hid (fun v' (B' : Nat) W (r1 : RowP 34 B' v' (mulL P A q n) W) => (show Calls Tryd.prog 88 #[v', .agg #[.int .i64 r.x, .int .i64 r.y, .bool r.f]] W fun e w' => e = .returned (.int .i64 v) ∧ Below W.heap.size W w' by
    obtain ⟨a1, c1, rfl, m1, m2, g1⟩ := AgP.of r1
    exact index_any _ _ _ _ r v hl W g1 (by rw [mulL_len]; omega)))
  have HN := Lib.hid (fun (W1 W2 : World) (hb : Below W1.heap.size W1 W2) (h : W1.cell? ⟨w.heap.size, 0, none⟩ = some (.int .i64 P) ∧ W1.cell? ⟨w.heap.size, 1, none⟩ = some (.int .i64 A) ∧ W1.cell? ⟨w.heap.size, 2, none⟩ = some (.int .i64 B) ∧ W1.cell? ⟨w.heap.size + 1, 0, none⟩ = some (.int .i64 q.x) ∧ W1.cell? ⟨w.heap.size + 1, 1, none⟩ = some (.int .i64 q.y) ∧ W1.cell? ⟨w.heap.size + 1, 2, none⟩ = some (.bool q.f) ∧ W1.cell? ⟨w.heap.size + 1 + 1, 0, none⟩ = some (.int .i64 r.x) ∧ W1.cell? ⟨w.heap.size + 1 + 1, 1, none⟩ = some (.int .i64 r.y) ∧ W1.cell? ⟨w.heap.size + 1 + 1, 2, none⟩ = some (.bool r.f) ∧ BelF W0.heap.size W0 W1) => (show W2.cell? ⟨w.heap.size, 0, none⟩ = some (.int .i64 P) ∧ W2.cell? ⟨w.heap.size, 1, none⟩ = some (.int .i64 A) ∧ W2.cell? ⟨w.heap.size, 2, none⟩ = some (.int .i64 B) ∧ W2.cell? ⟨w.heap.size + 1, 0, none⟩ = some (.int .i64 q.x) ∧ W2.cell? ⟨w.heap.size + 1, 1, none⟩ = some (.int .i64 q.y) ∧ W2.cell? ⟨w.heap.size + 1, 2, none⟩ = some (.bool q.f) ∧ W2.cell? ⟨w.heap.size + 1 + 1, 0, none⟩ = some (.int .i64 r.x) ∧ W2.cell? ⟨w.heap.size + 1 + 1, 1, none⟩ = some (.int .i64 r.y) ∧ W2.cell? ⟨w.heap.size + 1 + 1, 2, none⟩ = some (.bool r.f) ∧ BelF W0.heap.size W0 W2 from ⟨cell_later h.1 hb, cell_later h.2.1 hb, cell_later h.2.2.1 hb, cell_later h.2.2.2.1 hb, cell_later h.2.2.2.2.1 hb, cell_later h.2.2.2.2.2.1 hb, cell_later h.2.2.2.2.2.2.1 hb, cell_later h.2.2.2.2.2.2.2.1 hb, cell_later h.2.2.2.2.2.2.2.2.1 hb, h.2.2.2.2.2.2.2.2.2.next hb⟩))
  have HBS := Lib.hid (fun (W1 : World) (h : W1.cell? ⟨w.heap.size, 0, none⟩ = some (.int .i64 P) ∧ W1.cell? ⟨w.heap.size, 1, none⟩ = some (.int .i64 A) ∧ W1.cell? ⟨w.heap.size, 2, none⟩ = some (.int .i64 B) ∧ W1.cell? ⟨w.heap.size + 1, 0, none⟩ = some (.int .i64 q.x) ∧ W1.cell? ⟨w.heap.size + 1, 1, none⟩ = some (.int .i64 q.y) ∧ W1.cell? ⟨w.heap.size + 1, 2, none⟩ = some (.bool q.f) ∧ W1.cell? ⟨w.heap.size + 1 + 1, 0, none⟩ = some (.int .i64 r.x) ∧ W1.cell? ⟨w.heap.size + 1 + 1, 1, none⟩ = some (.int .i64 r.y) ∧ W1.cell? ⟨w.heap.size + 1 + 1, 2, none⟩ = some (.bool r.f) ∧ BelF W0.heap.size W0 W1) => (show Below W0.heap.size W0 W1 from h.2.2.2.2.2.2.2.2.2.to))
  have HS0 := Lib.hid (show W0.cell? ⟨w.heap.size, 0, none⟩ = some (.int .i64 P) ∧ W0.cell? ⟨w.heap.size, 1, none⟩ = some (.int .i64 A) ∧ W0.cell? ⟨w.heap.size, 2, none⟩ = some (.int .i64 B) ∧ W0.cell? ⟨w.heap.size + 1, 0, none⟩ = some (.int .i64 q.x) ∧ W0.cell? ⟨w.heap.size + 1, 1, none⟩ = some (.int .i64 q.y) ∧ W0.cell? ⟨w.heap.size + 1, 2, none⟩ = some (.bool q.f) ∧ W0.cell? ⟨w.heap.size + 1 + 1, 0, none⟩ = some (.int .i64 r.x) ∧ W0.cell? ⟨w.heap.size + 1 + 1, 1, none⟩ = some (.int .i64 r.y) ∧ W0.cell? ⟨w.heap.size + 1 + 1, 2, none⟩ = some (.bool r.f) ∧ BelF W0.heap.size W0 W0 from ⟨hc.1, hc.2.1, hc.2.2, hd.1, hd.2.1, hd.2.2, he.1, he.2.1, he.2.2, BelF.begin W0⟩)
  obtain ⟨c0, c1, c2⟩ := hc
  obtain ⟨d0, d1, d2⟩ := hd
  obtain ⟨e0, e1, e2⟩ := he
  clear hv hq ho hF hb3 hsz hl
  go_enter Tryd.func70, Tryd.ntmps70
  go_wp2
  go_region_held3 (fun W => W.cell? ⟨w.heap.size, 0, none⟩ = some (.int .i64 P) ∧ W.cell? ⟨w.heap.size, 1, none⟩ = some (.int .i64 A) ∧ W.cell? ⟨w.heap.size, 2, none⟩ = some (.int .i64 B) ∧ W.cell? ⟨w.heap.size + 1, 0, none⟩ = some (.int .i64 q.x) ∧ W.cell? ⟨w.heap.size + 1, 1, none⟩ = some (.int .i64 q.y) ∧ W.cell? ⟨w.heap.size + 1, 2, none⟩ = some (.bool q.f) ∧ W.cell? ⟨w.heap.size + 1 + 1, 0, none⟩ = some (.int .i64 r.x) ∧ W.cell? ⟨w.heap.size + 1 + 1, 1, none⟩ = some (.int .i64 r.y) ∧ W.cell? ⟨w.heap.size + 1 + 1, 2, none⟩ = some (.bool r.f) ∧ BelF W0.heap.size W0 W)
    (first | exact HS0.out | exact HN.out _ _ hbm (by assumption) | exact HN.out _ _ hbi (by assumption) | exact HN.out _ _ (drew_below _) (by assumption) | exact HN.out _ _ (drew_below _) HS0.out)
    ((first
      | (go_at_call 85; refine (HM.out _ (HFa.out.below (HBS.out _ (by assumption)))).mono ?_; rintro e wx ⟨⟨vl, rfl, hrl⟩, hbm⟩)
      | (go_at_call 88; refine (HIX.out vl _ _ hrl).mono ?_; rintro e wx ⟨rfl, hbi⟩)))
  all_goals
    refine at_world (S := fun W => W.cell? ⟨w.heap.size, 0, none⟩ = some (.int .i64 P) ∧ W.cell? ⟨w.heap.size, 1, none⟩ = some (.int .i64 A) ∧ W.cell? ⟨w.heap.size, 2, none⟩ = some (.int .i64 B) ∧ W.cell? ⟨w.heap.size + 1, 0, none⟩ = some (.int .i64 q.x) ∧ W.cell? ⟨w.heap.size + 1, 1, none⟩ = some (.int .i64 q.y) ∧ W.cell? ⟨w.heap.size + 1, 2, none⟩ = some (.bool q.f) ∧ W.cell? ⟨w.heap.size + 1 + 1, 0, none⟩ = some (.int .i64 r.x) ∧ W.cell? ⟨w.heap.size + 1 + 1, 1, none⟩ = some (.int .i64 r.y) ∧ W.cell? ⟨w.heap.size + 1 + 1, 2, none⟩ = some (.bool r.f) ∧ BelF W0.heap.size W0 W) (G := fun W => Exit.then _ _ _ _ W) (by assumption) ?_
    intro w3 hS
    have HB3 := Lib.hid (HB.out.trans ((HBS.out _ hS).mono HB.out.size))
    clear hS c0 c1 c2 d0 d1 d2 e0 e1 e2 hW0
    rcases hm with ⟨rfl, rfl, rfl⟩ | ⟨h0, rfl, rfl⟩
    · go_wp2
      go_ret2
      exact ⟨rfl, HB3.out⟩
    · have hmx : max m 0 = m := Int.max_eq_left h0
      have hge : decide (0 ≤ m) = true := decide_eq_true h0
      go_wp2
      go_ret2
      exact ⟨ret_ib (by simp) (by simp [h0]), HB3.out⟩

set_option maxHeartbeats 8000000 in
set_option maxRecDepth 100000 in
theorem Log_no (P A B : Int) (q r : Pt) (hv : (vB P A B && (onB P A B q && onB P A B r)) = false) (w : World) (hF : Far w) :
    Calls Tryd.prog 40 #[.agg #[.int .i64 P, .int .i64 A, .int .i64 B], .agg #[.int .i64 q.x, .int .i64 q.y, .bool q.f], .agg #[.int .i64 r.x, .int .i64 r.y, .bool r.f]] w fun e w' => e = .returned (.tuple #[.int .i64 0, .int .i64 2]) ∧ Below w.heap.size w w' := by
  have hb3 := below3 w (.cells #[.int .i64 P, .int .i64 A, .int .i64 B] 30) (.cells #[.int .i64 q.x, .int .i64 q.y, .bool q.f] 34) (.cells #[.int .i64 r.x, .int .i64 r.y, .bool r.f] 34)
  obtain ⟨W0, hW0⟩ : ∃ W0, ((w.alloc (.cells #[.int .i64 P, .int .i64 A, .int .i64 B] 30)).alloc (.cells #[.int .i64 q.x, .int .i64 q.y, .bool q.f] 34)).alloc (.cells #[.int .i64 r.x, .int .i64 r.y, .bool r.f] 34) = W0 := ⟨_, rfl⟩
  obtain ⟨hc, hd, he, -, hsz⟩ := blocks3 w _ _ _ _ _ _ _ _ _ _ _ _ W0 hW0.symm
  rw [hW0] at hb3
  have hag := agp_two W0 q r 34
  have hbx := below1 W0 (.cells #[.int .i64 q.x, .int .i64 q.y, .bool q.f, .int .i64 r.x, .int .i64 r.y, .bool r.f] 34)
  have hb5 := hb3.trans (hbx.mono hb3.size)
  have hV := valid_any P A B (some ⟨W0.heap.size, 0, none⟩) 2 2 [q, r] _ hag (by omega) (hF.below hb5)
  have hF5 := hF.below hb5
  have hc5 := hc.later hbx
  have hd5 := hd.later hbx
  have he5 := he.later hbx
  obtain ⟨W5, hW5⟩ : ∃ W5, W0.alloc (.cells #[.int .i64 q.x, .int .i64 q.y, .bool q.f, .int .i64 r.x, .int .i64 r.y, .bool r.f] 34) = W5 := ⟨_, rfl⟩
  rw [hW5] at hb5 hV hF5 hc5 hd5 he5
  rw [hsz] at hV
  rw [show (vB P A B && [q, r].all (onB P A B)) = false by simpa using hv] at hV
  have HB := Lib.hid hb5
  have HC := Lib.hid hc5
  have HD := Lib.hid hd5
  have HE := Lib.hid he5
  have HV := Lib.hid hV
  have HF1 := Lib.hid hF5
  clear hv hF hb3 hag hV hbx hF5 hc5 hd5 he5 hb5
  obtain ⟨c0, c1, c2⟩ := hc
  obtain ⟨d0, d1, d2⟩ := hd
  obtain ⟨e0, e1, e2⟩ := he
  go_enter Tryd.func40, Tryd.ntmps40
  go_wp2_with fail
  try rw [hW0]
  try rw [hW5]
  try simp only [hsz]
  refine (HV.out).mono ?_
  rintro e w1 ⟨rfl, hb⟩
  have HB1 := Lib.hid (HB.out.trans (hb.mono HB.out.size))
  clear hb c0 c1 c2 d0 d1 d2 e0 e1 e2
  go_wp2
  go_ret2
  exact ⟨rfl, HB1.out⟩

set_option maxHeartbeats 8000000 in
set_option maxRecDepth 100000 in
theorem Log_yes (P A B : Int) (q r : Pt) (n : Nat) (v m E : Int) (hv : vB P A B = true) (hq : onB P A B q = true) (hr : onB P A B r = true) (ho : IsOrd P A q n) (hn : n ≤ 962) (hl : LogV P A q r n v) (hm : (v = -1 ∧ m = 0 ∧ E = 4) ∨ (0 ≤ v ∧ m = v ∧ E = 0)) (w : World) (hF : Far w) :
    Calls Tryd.prog 40 #[.agg #[.int .i64 P, .int .i64 A, .int .i64 B], .agg #[.int .i64 q.x, .int .i64 q.y, .bool q.f], .agg #[.int .i64 r.x, .int .i64 r.y, .bool r.f]] w fun e w' => e = .returned (.tuple #[.int .i64 m, .int .i64 E]) ∧ Below w.heap.size w w' := by
  have hb3 := below3 w (.cells #[.int .i64 P, .int .i64 A, .int .i64 B] 30) (.cells #[.int .i64 q.x, .int .i64 q.y, .bool q.f] 34) (.cells #[.int .i64 r.x, .int .i64 r.y, .bool r.f] 34)
  obtain ⟨W0, hW0⟩ : ∃ W0, ((w.alloc (.cells #[.int .i64 P, .int .i64 A, .int .i64 B] 30)).alloc (.cells #[.int .i64 q.x, .int .i64 q.y, .bool q.f] 34)).alloc (.cells #[.int .i64 r.x, .int .i64 r.y, .bool r.f] 34) = W0 := ⟨_, rfl⟩
  obtain ⟨hc, hd, he, -, hsz⟩ := blocks3 w _ _ _ _ _ _ _ _ _ _ _ _ W0 hW0.symm
  rw [hW0] at hb3
  have hag := agp_two W0 q r 34
  have hbx := below1 W0 (.cells #[.int .i64 q.x, .int .i64 q.y, .bool q.f, .int .i64 r.x, .int .i64 r.y, .bool r.f] 34)
  have hb5 := hb3.trans (hbx.mono hb3.size)
  have hV := valid_any P A B (some ⟨W0.heap.size, 0, none⟩) 2 2 [q, r] _ hag (by omega) (hF.below hb5)
  have hF5 := hF.below hb5
  have hc5 := hc.later hbx
  have hd5 := hd.later hbx
  have he5 := he.later hbx
  obtain ⟨W5, hW5⟩ : ∃ W5, W0.alloc (.cells #[.int .i64 q.x, .int .i64 q.y, .bool q.f, .int .i64 r.x, .int .i64 r.y, .bool r.f] 34) = W5 := ⟨_, rfl⟩
  rw [hW5] at hb5 hV hF5 hc5 hd5 he5
  rw [hsz] at hV
  rw [show (vB P A B && [q, r].all (onB P A B)) = true by simp [hv, hq, hr]] at hV
  have HB := Lib.hid hb5
  have HC := Lib.hid hc5
  have HD := Lib.hid hd5
  have HE := Lib.hid he5
  have HV := Lib.hid hV
  have HF1 := Lib.hid hF5
  obtain ⟨b, hb⟩ : ∃ b : Bool, (v = -1 ∧ m = 0 ∧ b = false ∧ E = 4) ∨ (0 ≤ v ∧ m = v ∧ b = true ∧ E = 0) := by
    rcases hm with ⟨h1, h2, h3⟩ | ⟨h1, h2, h3⟩
    · exact ⟨false, .inl ⟨h1, h2, rfl, h3⟩⟩
    · exact ⟨true, .inr ⟨h1, h2, rfl, h3⟩⟩
  have HT := Lib.hid (fun W hF => logarithm_any P A B q r n v hv hq ho hn hl m b (by
    rcases hb with ⟨h1, h2, h3, -⟩ | ⟨h1, h2, h3, -⟩
    · exact .inl ⟨h1, h2, h3⟩
    · exact .inr ⟨h1, h2, h3⟩) W hF)
  have hbE : (b = false ∧ m = 0 ∧ E = 4) ∨ (b = true ∧ E = 0) := by
    rcases hb with ⟨h1, h2, h3, h4⟩ | ⟨h1, h2, h3, h4⟩
    · exact .inl ⟨h3, h2, h4⟩
    · exact .inr ⟨h3, h4⟩
  clear hv hq hr hF hb3 hag hV hbx hF5 hc5 hd5 he5 hb5 hm hb hl ho
  obtain ⟨c0, c1, c2⟩ := hc
  obtain ⟨d0, d1, d2⟩ := hd
  obtain ⟨e0, e1, e2⟩ := he
  go_enter Tryd.func40, Tryd.ntmps40
  go_wp2_with fail
  try rw [hW0]
  try rw [hW5]
  try simp only [hsz]
  refine (HV.out).mono ?_
  rintro e w1 ⟨rfl, hb⟩
  have HB1 := Lib.hid (HB.out.trans (hb.mono HB.out.size))
  have HF2 := Lib.hid (HF1.out.below hb)
  clear c0 c1 c2 d0 d1 d2 e0 e1 e2
  obtain ⟨c0, c1, c2⟩ := HC.out.later hb
  obtain ⟨d0, d1, d2⟩ := HD.out.later hb
  obtain ⟨e0, e1, e2⟩ := HE.out.later hb
  clear hb
  go_wp2_with fail
  refine (HT.out _ HF2.out).mono ?_
  rintro e w2 ⟨rfl, hb⟩
  have HB2 := Lib.hid (HB1.out.trans (hb.mono HB1.out.size))
  clear hb c0 c1 c2 d0 d1 d2 e0 e1 e2
  rcases hbE with ⟨rfl, rfl, rfl⟩ | ⟨rfl, rfl⟩
  · go_wp2
    go_ret2
    exact ⟨rfl, HB2.out⟩
  · go_wp2
    go_ret2
    exact ⟨rfl, HB2.out⟩

set_option maxHeartbeats 8000000 in
set_option maxRecDepth 100000 in
theorem logR_any (P A B : Int) (q r : Pt) (n : Nat) (v m E : Int) (hv : vB P A B = true) (hq : onB P A B q = true) (ho : IsOrd P A q n) (hn : n ≤ 962) (hl : LogV P A q r n v) (hm : (v = -1 ∧ m = 0 ∧ E = 4) ∨ (0 ≤ v ∧ m = v ∧ E = 0)) (w : World) :
    Calls Tryd.prog 43 #[.agg #[.int .i64 P, .int .i64 A, .int .i64 B], .agg #[.int .i64 q.x, .int .i64 q.y, .bool q.f], .agg #[.int .i64 r.x, .int .i64 r.y, .bool r.f]] w fun e w' => e = .returned (.tuple #[.int .i64 m, .int .i64 E]) ∧ Below w.heap.size w w' := by
  have h := (vB_iff.1 hv).1
  have HON := Lib.hid (fun k => mul_on h hq k)
  have HS := Lib.hid (fun r hr W => addR_any P A B r q hv hr hq W)
  have hb3 := below3 w (.cells #[.int .i64 P, .int .i64 A, .int .i64 B] 23) (.cells #[.int .i64 q.x, .int .i64 q.y, .bool q.f] 25) (.cells #[.int .i64 r.x, .int .i64 r.y, .bool r.f] 25)
  obtain ⟨W0, hW0⟩ : ∃ W0, ((w.alloc (.cells #[.int .i64 P, .int .i64 A, .int .i64 B] 23)).alloc (.cells #[.int .i64 q.x, .int .i64 q.y, .bool q.f] 25)).alloc (.cells #[.int .i64 r.x, .int .i64 r.y, .bool r.f] 25) = W0 := ⟨_, rfl⟩
  obtain ⟨hc, hd, he, -, hsz⟩ := blocks3 w _ _ _ _ _ _ _ _ _ _ _ _ W0 hW0.symm
  rw [hW0] at hb3
  have HB := Lib.hid hb3
  have HC := Lib.hid hc
  have HD := Lib.hid hd
  have HE := Lib.hid he
  have HZ := Lib.hid hsz
  have HOR := Lib.hid (fun W => orderR_any P A B q n hv hq ho hn W)
  have HEQ := Lib.hid (fun W p => eql25 W p r)
  have HL := Lib.hid hl
  have HMM := Lib.hid hm
  obtain ⟨c0, c1, c2⟩ := hc
  obtain ⟨d0, d1, d2⟩ := hd
  clear h hv hq ho hb3 he hsz hl hm
  go_enter Tryd.func43, Tryd.ntmps43
  go_wp2_with fail
  try rw [hW0]
  refine (farR_any _).mono ?_
  rintro e w1 ⟨rfl, hb⟩
  have hs1 : w.heap.size + 1 + 1 + 1 ≤ w1.heap.size := by have := hb.size; have := HZ.out; omega
  have hbx := below1 w1 (.cells #[.int .i64 0, .int .i64 0, .bool true] 25)
  have hbb := hb.trans (hbx.mono hb.size)
  have hz3 : W0.heap.size = w.heap.size + 1 + 1 + 1 := by have := HZ.out; omega
  rw [hz3] at hbb
  have HB1 := Lib.hid hbb
  have HG := Lib.hid (C3.new w1 (.int .i64 0) (.int .i64 0) (.bool true) 25)
  have HGF := Lib.hid (F3.new w1 (.int .i64 0) (.int .i64 0) (.bool true) 25)
  obtain ⟨W1, hW1⟩ : ∃ W1, w1.alloc (.cells #[.int .i64 0, .int .i64 0, .bool true] 25) = W1 := ⟨_, rfl⟩
  have HSW := Lib.hid (show W1.heap.size = w1.heap.size + 1 by rw [← hW1]; simp)
  clear c0 c1 c2 d0 d1 d2 hb hbx
  rw [hW1] at hbb HB1 HG HGF
  obtain ⟨c0, c1, c2⟩ := HC.out.below (show w.heap.size < w.heap.size + 1 + 1 + 1 by omega) hbb
  obtain ⟨d0, d1, d2⟩ := HD.out.below (show w.heap.size + 1 < w.heap.size + 1 + 1 + 1 by omega) hbb
  obtain ⟨g, hg⟩ : ∃ g, w1.heap.size = g := ⟨_, rfl⟩
  have HGE := Lib.hid (show w.heap.size + 1 + 1 + 1 ≤ g by rw [← hg]; exact hs1)
  rw [hg] at HG HGF HSW
  clear hbb hs1 hz3
  go_wp2_with fail
  try rw [hW1]
  try rw [hg]
  refine (HOR.out _).mono ?_
  rintro e w2 ⟨rfl, hb⟩
  have hs2 : w.heap.size + 1 + 1 + 1 ≤ W1.heap.size := by have := HSW.out; have := HGE.out; omega
  have HB2 := Lib.hid (HB1.out.trans (hb.mono hs2))
  have HG2 := Lib.hid (HG.out.later hb)
  have HGF2 := Lib.hid (HGF.out.below (by have := HSW.out; omega) hb)
  clear c0 c1 c2 d0 d1 d2 hb hs2 hW1 hg
  go_wp2
  go_loopg [9, 14] n (fun gk s9 s14 wr => ∃ j : Nat, j + gk = n ∧ s14 = .int .i64 (j : Int) ∧ RowKit.Hid (∀ i, i < j → mulP P A q i ≠ r) ∧ C3 g (.int .i64 (mulP P A q j).x) (.int .i64 (mulP P A q j).y) (.bool (mulP P A q j).f) wr ∧ F3 g wr ∧ Below (w.heap.size + 1 + 1 + 1) W0 wr)
  case atStart => exact ⟨0, by omega, rfl, Lib.hid (fun i hi => by omega), HG2.out, HGF2.out, HB2.out⟩
  case round =>
    obtain ⟨j, hj, rfl, HP, hC, hFj, hb⟩ := hrel
    have HJ := Lib.hid hj
    have HBB := Lib.hid hb
    have HOk := Lib.hid (HON.out j)
    obtain ⟨⟨x, y, f⟩, hx⟩ : ∃ m, mulP P A q j = m := ⟨_, rfl⟩
    rw [hx] at hC HOk
    simp only at hC
    have HX := Lib.hid hx
    have HCg := Lib.hid hC
    have HFg := Lib.hid hFj
    have HGLj := Lib.hid hC.lt
    obtain ⟨c0, c1, c2⟩ := HC.out.below (show w.heap.size < w.heap.size + 1 + 1 + 1 by omega) hb
    obtain ⟨d0, d1, d2⟩ := HD.out.below (show w.heap.size + 1 < w.heap.size + 1 + 1 + 1 by omega) hb
    obtain ⟨e0, e1, e2⟩ := HE.out.below (show w.heap.size + 1 + 1 < w.heap.size + 1 + 1 + 1 by omega) hb
    obtain ⟨y0, y1, y2⟩ := hC
    have heq := fun W => HEQ.out W ⟨x, y, f⟩
    by_cases hlt : j < n
    · have l1 : (j : Int) < (n : Int) := by omega
      have hkb : j ≤ 962 := by omega
      by_cases her : (⟨x, y, f⟩ : Pt) = r
      · rw [decide_eq_true her] at heq
        simp only at heq
        have HV := Lib.hid (show v = (j : Int) by
          rcases HL.out with ⟨i, rfl, i1, i2, i3⟩ | ⟨-, i1⟩
          · rw [mulL_len] at i1
            rw [nth_mulL i1] at i2
            rcases Nat.lt_trichotomy i j with k | k | k
            · exact absurd i2 (HP.out i k)
            · rw [k]
            · refine absurd ?_ (i3 j k)
              rw [nth_mulL hlt, hx, her]
          · refine absurd ?_ (i1 j (by rw [mulL_len]; exact hlt))
            rw [nth_mulL hlt, hx, her])
        have HM2 := Lib.hid (show m = (j : Int) ∧ E = 0 by
          have := HV.out
          rcases HMM.out with ⟨h1, -, -⟩ | ⟨h1, h2, h3⟩
          · omega
          · exact ⟨by omega, h3⟩)
        have HBW := Lib.hid (HB.out.trans (hb.mono (by omega)))
        clear hj hb hFj hx her
        go_wp2
        go_ret2
        exact ⟨ret_ii HM2.out.1.symm HM2.out.2.symm, HBW.out⟩
      · rw [decide_eq_false her] at heq
        simp only at heq
        have HP2 := Lib.hid (show ∀ i, i < j + 1 → mulP P A q i ≠ r from fun i hi => by
          by_cases hij : i = j
          · rw [hij, hx]; exact her
          · exact HP.out i (by omega))
        have hsum : sumP P A ⟨x, y, f⟩ q = mulP P A q (j + 1) := by rw [← HX.out]; rfl
        have HSUM := Lib.hid (fun W => HS.out ⟨x, y, f⟩ HOk.out W)
        rw [hsum] at HSUM
        clear hj hb hFj hx hsum her
        go_wp2_with fail
        refine (HSUM.out _).mono ?_
        rintro e w6 ⟨rfl, hb⟩
        have HC6 := Lib.hid (HCg.out.later hb)
        have HF6 := Lib.hid (HFg.out.below HGLj.out hb)
        have HB6 := Lib.hid (HBB.out.trans (hb.mono (by have := HBB.out.size; have := HZ.out; omega)))
        clear y0 y1 y2
        obtain ⟨k0, k1, k2⟩ := HC6.out
        obtain ⟨m0, m1, m2⟩ := HF6.out
        obtain ⟨⟨X', Y', G'⟩, hm⟩ : ∃ m, mulP P A q (j + 1) = m := ⟨_, rfl⟩
        rw [hm]
        simp only
        have HM := Lib.hid hm
        clear hb hm c0 c1 c2 d0 d1 d2 e0 e1 e2
        go_wp2
        go_roundg (gk - 1)
        case rel =>
          refine ⟨j + 1, by have := HJ.out; omega, by go_num, HP2, ?_, HF6.out.set _ _ _, set3 HB6.out HGE.out _ _ _⟩
          rw [HM.out]
          exact HC6.out.set
        case measure => have := HJ.out; omega
    · have l1 : ¬ (j : Int) < (n : Int) := by omega
      have HM2 := Lib.hid (show m = 0 ∧ E = 4 by
        rcases HL.out with ⟨i, rfl, i1, i2, i3⟩ | ⟨i0, -⟩
        · rw [mulL_len] at i1
          rw [nth_mulL i1] at i2
          exact absurd i2 (HP.out i (by omega))
        · rcases HMM.out with ⟨-, h2, h3⟩ | ⟨h1, -, -⟩
          · exact ⟨h2, h3⟩
          · omega)
      have HBW := Lib.hid (HB.out.trans (hb.mono (by omega)))
      clear hj hb hx hFj
      go_wp2
      go_ret2
      exact ⟨ret_ii HM2.out.1.symm HM2.out.2.symm, HBW.out⟩
end Go.Proofs.YtoepghlkjbpkfaaDoor
