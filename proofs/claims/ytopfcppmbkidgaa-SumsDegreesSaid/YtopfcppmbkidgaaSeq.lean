/- Rows of steps; the walks of slices.AppendSeq, slices.Collect and Chain. Conditions as stated in each theorem. -/
import Derived.Test.YtopfcppmbkidgaaChnG
import Derived.Test.YtopfcppmbkidgaaVal
import Derived.Maps.AppendAt
import Derived.Maps.OwnIn
import Derived.Lib.SmallJoins
namespace Go.Proofs.Ytopfcppmbkidgaa
open Go.RowKit Go.Shelf
attribute [local go_sem] Oper.semAt_some

def fl4 (S : List Stp) : List Value := S.flatMap fun t => [.int .i64 t.k, .int .i64 t.a, .int .i64 t.n, .int .i64 t.s]
theorem fl4_len (S : List Stp) : (fl4 S).length = S.length * 4 := by
  induction S with
  | nil => rfl
  | cons a t ih => simp [fl4] at ih ⊢; omega
theorem fl4_app (S T : List Stp) : fl4 (S ++ T) = fl4 S ++ fl4 T := by simp [fl4]
theorem fl4_one (S : List Stp) : ∀ u ∈ fl4 S, u.oneCell' = true := by
  intro u hu
  unfold fl4 at hu
  rw [List.mem_flatMap] at hu
  obtain ⟨p, -, hp⟩ := hu
  simp at hp
  rcases hp with rfl | rfl | rfl | rfl <;> rfl
def nth4 (L : List Stp) (j : Nat) : Stp := L.getD j ⟨0, 0, 0, 0⟩
theorem fl4_at : ∀ (S : List Stp) (j : Nat), j < S.length → (fl4 S)[j * 4]? = some (.int .i64 (nth4 S j).k) ∧ (fl4 S)[j * 4 + 1]? = some (.int .i64 (nth4 S j).a) ∧ (fl4 S)[j * 4 + 2]? = some (.int .i64 (nth4 S j).n) ∧ (fl4 S)[j * 4 + 3]? = some (.int .i64 (nth4 S j).s)
  | [], j, h => absurd h (by simp)
  | p :: t, 0, _ => by simp [fl4, nth4]
  | p :: t, j + 1, h => by
    have ih := fl4_at t j (by simpa using h)
    have e : fl4 (p :: t) = .int .i64 p.k :: .int .i64 p.a :: .int .i64 p.n :: .int .i64 p.s :: fl4 t := by simp [fl4]
    rw [e, show (j + 1) * 4 = j * 4 + 1 + 1 + 1 + 1 by omega]
    simpa [nth4, List.getD] using ih
/-- A row of steps of the call's own. -/
def Row4 (B : Nat) (v : Value) (S : List Stp) (W : World) : Prop := W.ownsRow B 66 4 v S.length (fl4 S)
theorem Row4.nil (B : Nat) (W : World) : Row4 B (.slice none 0 0) [] W := World.ownsRow_nil _ _ _ _
theorem Row4.later {B : Nat} {v : Value} {S : List Stp} {W W' : World} (h : Row4 B v S W) (hb : Below W.heap.size W W') : Row4 B v S W' := own_later h hb
theorem Row4.mono {B B' : Nat} {v : Value} {S : List Stp} {W : World} (h : Row4 B v S W) (hb : B' ≤ B) : Row4 B' v S W := Joins.ownsRow_le h hb
theorem Row4.cell {B g n c : Nat} {S : List Stp} {W : World} (h : Row4 B (.slice (some ⟨g, 0, none⟩) n c) S W) {j : Nat} (hj : j < S.length) :
    W.cell? ⟨g, j * 4, none⟩ = some (.int .i64 (nth4 S j).k) ∧ W.cell? ⟨g, j * 4 + 1, none⟩ = some (.int .i64 (nth4 S j).a) ∧ W.cell? ⟨g, j * 4 + 2, none⟩ = some (.int .i64 (nth4 S j).n) ∧ W.cell? ⟨g, j * 4 + 3, none⟩ = some (.int .i64 (nth4 S j).s) := by
  have hl : n = S.length := by
    rcases h.2 with ⟨h1, -⟩ | ⟨g', cap, cur, h1, -⟩
    · cases h1
    · cases h1; rfl
  subst hl
  obtain ⟨a, b, c, d⟩ := fl4_at S j hj
  refine ⟨?_, ?_, ?_, ?_⟩
  · rw [h.cellAt (j * 4) (by omega)]; exact a
  · rw [h.cellAt (j * 4 + 1) (by omega)]; exact b
  · rw [h.cellAt (j * 4 + 2) (by omega)]; exact c
  · rw [h.cellAt (j * 4 + 3) (by omega)]; exact d
theorem Row4.form {B : Nat} {v : Value} {S : List Stp} {W : World} (h : Row4 B v S W) : ∃ a c, v = .slice a S.length c ∧ S.length ≤ c ∧ c ≤ maxLen ∧ ((a = none ∧ S = [] ∧ c = 0) ∨ ∃ g, a = some ⟨g, 0, none⟩ ∧ B ≤ g ∧ g < W.heap.size) := by
  rcases h.2 with ⟨h1, h2⟩ | ⟨g, cap, cur, h1, h2, h3, h4, h5, h6, h7⟩
  · have : S = [] := List.length_eq_zero_iff.1 h2
    subst this
    exact ⟨none, 0, h1, Nat.le_refl _, by unfold maxLen; omega, .inl ⟨rfl, rfl, rfl⟩⟩
  · exact ⟨_, cap, h1, h4, h5, .inr ⟨g, rfl, h2, (Array.getElem?_eq_some_iff.1 h3).1⟩⟩
theorem info66 : (Try.prog.info? 66).map (fun i => (i.zero, i.size, i.bytes)) = some (some (.agg #[.int .i64 0, .int .i64 0, .int .i64 0, .int .i64 0]), 4, 32) := by kernel_rfl
theorem cell4_new (W : World) (p : Stp) (t : TypeId) : ∀ (j : Nat) (u : Value), (fl4 [p])[j]? = some u → (W.alloc (.cells #[.int .i64 p.k, .int .i64 p.a, .int .i64 p.n, .int .i64 p.s] t)).cell? ((⟨W.heap.size, 0, none⟩ : Addr).add j) = some u := by
  intro j u h
  have hn : (W.alloc (.cells #[.int .i64 p.k, .int .i64 p.a, .int .i64 p.n, .int .i64 p.s] t)).heap[W.heap.size]? = some (.cells #[.int .i64 p.k, .int .i64 p.a, .int .i64 p.n, .int .i64 p.s] t (0, 0)) := heap_alloc_last W _
  unfold World.cell?
  rw [show ((⟨W.heap.size, 0, none⟩ : Addr).add j).block = W.heap.size by unfold Addr.add; split <;> rfl, hn]
  simp only [fl4, List.flatMap_cons, List.flatMap_nil, List.append_nil] at h
  match j, h with
  | 0, h => simpa [Addr.add] using h
  | 1, h => simpa [Addr.add] using h
  | 2, h => simpa [Addr.add] using h
  | 3, h => simpa [Addr.add] using h
  | j + 4, h => simp at h

theorem row_kept {base : Nat} {e : TypeId} {s : Nat} {v : Value} {k : Nat} {xs : List Value} {W W' : World} (h : W.ownsRow base e s v k xs) (hk : ∀ g, v.ownBlock = some g → W'.heap[g]? = W.heap[g]?) : W'.ownsRow base e s v k xs := by
  refine ⟨h.1, h.2.imp id ?_⟩
  rintro ⟨g, cap, cur, h1, h2, h3, h4⟩
  exact ⟨g, cap, cur, h1, h2, (hk g (by rw [h1]; rfl)).trans h3, h4⟩
theorem row_lt {base : Nat} {e : TypeId} {s : Nat} {v : Value} {k : Nat} {xs : List Value} {W : World} (h : W.ownsRow base e s v k xs) {g : Nat} (hg : v.ownBlock = some g) : base ≤ g ∧ g < W.heap.size := h.lt g hg

/-- 'list = append(list, ..)' in a box, while block G belongs to another. -/
theorem appended_g {W w1 : World} {base B G : Nat} {t e : TypeId} {size : Nat} {v v' : Value} {k m : Nat} {xs ys : List Value} {tmp : Obj}
    (hv : Boxed W B t v) (hB : B < base) (hrow : W.ownsRow base e size v k xs) (hbs : base ≤ W.heap.size) (hGl : G < W.heap.size) (hGB : G ≠ B) (hne : v.ownBlock ≠ some G)
    (hown' : w1.ownsRow base e size v' m ys) (hgrow : (W.alloc tmp).grownBy w1 v.ownBlock) (hat : v'.ownBlock = v.ownBlock ∨ v'.ownBlock = some (W.alloc tmp).heap.size) :
    Boxed w1 B t v ∧ Boxed (w1.setCell ⟨B, 0, none⟩ v') B t v' ∧ (w1.setCell ⟨B, 0, none⟩ v').ownsRow base e size v' m ys ∧
      (∀ j, j < base → j ≠ B → (w1.setCell ⟨B, 0, none⟩ v').heap[j]? = W.heap[j]?) ∧ Below B W (w1.setCell ⟨B, 0, none⟩ v') ∧
      (w1.setCell ⟨B, 0, none⟩ v').heap[G]? = W.heap[G]? ∧ W.heap.size ≤ (w1.setCell ⟨B, 0, none⟩ v').heap.size ∧ v'.ownBlock ≠ some G := by
  have hlt : ∀ r, v.ownBlock = some r → base ≤ r := fun r h => (hrow.lt r h).1
  have hv1 : Boxed w1 B t v := (hv.alloc tmp).kept hgrow (fun e => by have := hlt B e.symm; omega)
  have hold : ∀ j, j < base → w1.heap[j]? = W.heap[j]? := fun j hj =>
    (hgrow.block j (by simp; omega) (fun e => by have := hlt j e.symm; omega)).trans (Below.heap_alloc W tmp j (by omega))
  have h2 : (w1.setCell ⟨B, 0, none⟩ v').heap.size = w1.heap.size := by simp [World.setCell]
  have h1 := hgrow.size
  simp at h1
  refine ⟨hv1, hv1.set v', ownsRow_setCell_below hown' (a := ⟨B, 0, none⟩) hB v', ?_, ?_, ?_, ?_, ?_⟩
  · intro j hj hne
    exact (Below.heap_setCell _ _ _ j hne).trans (hold j hj)
  · refine ⟨hgrow.os, hgrow.tape, hgrow.output, by rw [h2]; omega, fun j hj => ?_⟩
    exact (Below.heap_setCell _ _ _ j (by show j ≠ B; omega)).trans (hold j (by omega))
  · exact (Below.heap_setCell _ _ _ G hGB).trans ((hgrow.block G (by simp; omega) (fun e => hne e.symm)).trans (Below.heap_alloc W tmp G hGl))
  · rw [h2]; omega
  · rcases hat with h | h
    · rw [h]; exact hne
    · rw [h]; simp; omega

def cstp (a n : Int) (N : Nat) : List Stp := (List.range N).map fun k => st a n (k + 1)
theorem cstp_len (a n : Int) (N : Nat) : (cstp a n N).length = N := by simp [cstp]
theorem cstp_succ (a n : Int) (N : Nat) : cstp a n (N + 1) = cstp a n N ++ [st a n (N + 1)] := by simp [cstp, List.range_succ]

/-- The variables of AppendSeq behind k rounds. -/
structure QS (a n : Int) (B k G : Nat) (w W : World) : Prop where
  l : ∃ v, Boxed W B 45 v ∧ W.ownsRow (B + 3) 66 4 v k (fl4 (cstp a n k)) ∧ v.ownBlock ≠ some G
  b : Below B w W
theorem QS.own {a n : Int} {B k G : Nat} {w W W' : World} (h : QS a n B k G w W) (hG : B + 3 ≤ G) (ho : OwnG G W W') : QS a n B k G w W' := by
  obtain ⟨v, h1, h2, h3⟩ := h.l
  refine ⟨⟨v, (ho.2.2.2.2 B h1.lt (by omega)).trans h1, row_kept h2 fun g hg => ho.2.2.2.2 g (row_lt h2 hg).2 (fun e => h3 (by rw [hg, e])), h3⟩, h.b.trans (ho.below (Nat.le_of_lt h1.lt) (by omega))⟩
theorem QS.alloc {a n : Int} {B k G : Nat} {w W : World} (h : QS a n B k G w W) (o : Obj) : QS a n B k W.heap.size w (W.alloc o) ∧ QS a n B k G w (W.alloc o) := by
  obtain ⟨v, h1, h2, h3⟩ := h.l
  have hb := h.b.trans ((Below.refl B W).alloc (Nat.le_of_lt h1.lt) o)
  exact ⟨⟨⟨v, h1.alloc o, h2.alloc o, fun e => by have := (row_lt h2 e).2; omega⟩, hb⟩, ⟨⟨v, h1.alloc o, h2.alloc o, h3⟩, hb⟩⟩
theorem QS.rcd {a n : Int} {B k G l : Nat} {w W : World} (h : QS a n B k G w W) (hl1 : B < l) (hl2 : l < B + 3) (o : Obj) : QS a n B k G w (W.putObj l o) := by
  obtain ⟨v, h1, h2, h3⟩ := h.l
  exact ⟨⟨v, boxed_putObj _ h1 (by omega), row_kept h2 fun g hg => World.putObj_heap_other (by have := (row_lt h2 hg).1; omega), h3⟩, h.b.trans (below_putObj W (by omega) o)⟩

set_option maxRecDepth 100000 in
set_option maxHeartbeats 4000000 in
theorem appendSeq_any (a n : Int) (b N : Nat) (w : World) (hN1 : N ≤ 5000000000) (hb : b + 1 < w.heap.size) (h1 : Boxed w b 3 (.int .i64 a)) (h2 : Boxed w (b + 1) 3 (.int .i64 n))
    (hN : ∀ k, k < N → ¬ fin (st a n k)) (hF : fin (st a n N)) (hG : ∀ k, k ≤ N → Good (st a n k)) :
    Calls Try.prog 88 #[.slice none 0 0, .func (.func 89) #[] #[.pointer (some ⟨b, 0, none⟩), .pointer (some ⟨b + 1, 0, none⟩)]] w fun e w' =>
      (∃ v, e = .returned v ∧ Row4 w.heap.size v (cstp a n N) w') ∧ Below w.heap.size w w' := by
  obtain ⟨i0, hi, hz0, hz1, hz2⟩ := info_parts info66
  have HI := Lib.hid (And.intro hi (And.intro hz0 (And.intro hz1 hz2)))
  clear hi hz0 hz1 hz2
  refine (callsIn_wide (n := 5)).1 ?_
  refine callsIn_of_wp_marks Try.func88 rfl trivial ?_ rfl
  simp only [Try.ntmps88, List.size_toArray, List.length_cons, List.length_nil, Nat.reduceAdd, Nat.reduceSub, Array.replicate_succ, Array.replicate_zero, List.push_toArray, List.append_toArray, List.nil_append, List.cons_append]
  gi_wp2
  obtain ⟨B, hB⟩ : ∃ B, w.heap.size = B := ⟨_, rfl⟩
  obtain ⟨W2, hW2⟩ : ∃ W2, w.alloc (.cells #[.slice none 0 0] 45) = W2 := ⟨_, rfl⟩
  have hsz : W2.heap.size = B + 1 := by rw [← hW2]; simp [hB]
  have hs0 : QS a n B 0 (B + 3) w W2 := by
    have y0 := Boxed.new w 45 (.slice none 0 0)
    rw [hB] at y0
    rw [← hW2]
    exact ⟨⟨_, y0, World.ownsRow_nil _ _ _ _, by simp [Value.ownBlock]⟩, (Below.refl B w).alloc (by omega) _⟩
  have hbW : Below w.heap.size w W2 := by rw [← hW2]; exact (Below.refl _ _).alloc (Nat.le_refl _) _
  have y1 : Boxed W2 b 3 (.int .i64 a) := boxed_below h1 hbW (by omega)
  have y2 : Boxed W2 (b + 1) 3 (.int .i64 n) := boxed_below h2 hbW hb
  rw [hB]
  rw [hW2]
  clear hW2 hbW h1 h2
  refine wpIn_range_ig (gf := 89) (lb := #[.pointer (some ⟨b, 0, none⟩), .pointer (some ⟨b + 1, 0, none⟩)]) rfl (enters_of Try.func89 (by kernel_rfl) rfl)
    (chain_iterG a n b W2 (by omega) y1 y2 N hN hF hG) (Below.refl _ _) (fun _ => rfl)
    (fun k G A => QS a n B k G w A)
    (fun k G A A' h hG ho => h.own (by omega) ho)
    (fun k G A o h hz => (h.alloc o).1)
    (fun k G A r r' h _ => h.rcd (by omega) (by omega) _)
    (fun r => by rw [hsz]; exact ((hs0.alloc _).2.alloc _).2)
    (fun k G a1 A => ∃ S : Nat, B + 3 ≤ S ∧ S ≠ G ∧ Sx A S (st a n (k + 1)) ∧ QS a n B k G w A ∧ a1 = { tmps := #[.slice none 0 0, .func (.func 89) #[] #[.pointer (some ⟨b, 0, none⟩), .pointer (some ⟨b + 1, 0, none⟩)], .pointer (some ⟨B, 0, none⟩), undef, .slice none 0 0, .pointer (some ⟨S, 0, none⟩), .func (.func 89) #[] #[.pointer (some ⟨b, 0, none⟩), .pointer (some ⟨b + 1, 0, none⟩)], stV (st a n (k + 1)), undef, undef, undef, undef, undef], defers := [] })
    (fun k G a1 A r r' h _ => by
      obtain ⟨S, h1, h2, h3, h4, h5⟩ := h
      exact ⟨S, h1, h2, h3.putObj _ (by omega), h4.rcd (by omega) (by omega) _, h5⟩)
    ?assign ?body ?done
  case assign =>
    intro l k G W K hI hk hG hGl hK
    obtain ⟨⟨k1, a1, n1, s1⟩, e1⟩ : ∃ t, st a n (k + 1) = t := ⟨_, rfl⟩
    have hn := Sx.new W ⟨k1, a1, n1, s1⟩
    simp only at hn
    have hBW : Below W.heap.size W (W.alloc (.cells #[.int .i64 k1, .int .i64 a1, .int .i64 n1, .int .i64 s1] 66)) := (Below.refl _ _).alloc (Nat.le_refl _) _
    have HK := Lib.hid (hK { tmps := #[.slice none 0 0, .func (.func 89) #[] #[.pointer (some ⟨b, 0, none⟩), .pointer (some ⟨b + 1, 0, none⟩)], .pointer (some ⟨B, 0, none⟩), undef, .slice none 0 0, .pointer (some ⟨W.heap.size, 0, none⟩), .func (.func 89) #[] #[.pointer (some ⟨b, 0, none⟩), .pointer (some ⟨b + 1, 0, none⟩)], .agg #[.int .i64 k1, .int .i64 a1, .int .i64 n1, .int .i64 s1], undef, undef, undef, undef, undef], defers := [] }
      (W.alloc (.cells #[.int .i64 k1, .int .i64 a1, .int .i64 n1, .int .i64 s1] 66))
      ⟨W.heap.size, by omega, by omega, by rw [e1]; exact hn, (hI.alloc _).2, by rw [e1]; rfl⟩
      (hBW.block _ (by omega)) (hBW.block _ (by omega)) (hBW.block _ hGl) hBW.size)
    rw [e1, stV_eq]
    simp only
    clear hK hI hn hBW y1 y2 hs0 hN hF
    gi_wp2
    exact HK.out
  case done =>
    intro G A hi hKK
    obtain ⟨v, hv, hrow, hne⟩ := hi.l
    have hc := hv.cell
    have HK1 := Lib.hid (show A.heap[B + 1]? = some (.deferred (some [])) by rw [← hsz]; exact hKK)
    have HK2 := Lib.hid hKK
    have HB1 := Lib.hid (show Row4 B v (cstp a n N) (A.putObj (B + 1) (.deferred none)) ∧ Below B w (A.putObj (B + 1) (.deferred none)) from
      ⟨by unfold Row4; rw [cstp_len]; exact Joins.ownsRow_le (row_kept hrow fun g hg => World.putObj_heap_other (by have := (row_lt hrow hg).1; omega)) (by omega), hi.b.trans (below_putObj A (by omega) _)⟩)
    clear hKK hi y1 y2 hs0 hN hF hrow
    gi_wp2
    refine ⟨by simp, .inl ⟨_, _, rfl, run_takeDeferred (by first | exact HK1.out | exact HK2.out), ?_⟩⟩
    refine ⟨v, by simp [results, Try.f88, go_sem], ⟨v, rfl, ?_⟩, ?_⟩
    · first | exact HB1.out.1 | (rw [hsz]; exact HB1.out.1) | (rw [hB]; exact HB1.out.1) | (rw [hB, hsz]; exact HB1.out.1)
    · first | exact HB1.out.2 | (rw [hsz]; exact HB1.out.2) | (rw [hB]; exact HB1.out.2) | (rw [hB, hsz]; exact HB1.out.2)
  case body =>
    rintro l' k G a1 A ⟨S, hS, hSG, hx, hq, rfl⟩ hkN hGb hGl ⟨hr0, r, hr1⟩
    obtain ⟨v, hv, hrow, hne⟩ := hq.l
    obtain ⟨hi, hz0, hz1, hz2⟩ := HI.out
    obtain ⟨⟨k1, a1, n1, s1⟩, e1⟩ : ∃ t, st a n (k + 1) = t := ⟨_, rfl⟩
    rw [e1] at hx
    obtain ⟨c0, c1, c2, c3, -⟩ := hx.cells
    simp only at c0 c1 c2 c3
    have hc := hv.cell
    have hf := hv.frozen
    have hbA := hq.b
    have HE1 := Lib.hid e1
    clear y1 y2 hs0 hN hF hq hx
    simp only [e1, stV_eq]
    gi_wp2_with (gi_at_builtin; refine wpListIn_append_own_at _ rfl _ _ 45 rfl (B + 3) 66 i0 (.agg #[.int .i64 0, .int .i64 0, .int .i64 0, .int .i64 0]) 4 32 Try.underlying45 hi hz0 hz1 hz2 rfl (by decide) _ _ _ rfl (hrow.alloc _) ⟨A.heap.size, 0, none⟩ 1 1 (fl4 [⟨k1, a1, n1, s1⟩]) rfl rfl (cell4_new _ ⟨k1, a1, n1, s1⟩ _) (fl4_one _) (by unfold maxLen; omega) (by omega) (by simp; omega) ?_; intro v' w1 hown' hgrow _ hat; obtain ⟨g', cap', rfl⟩ := own_form hown' (by omega); obtain ⟨hv1, hv2, hr2, hj2, hb2, hg2, hz2', hne2⟩ := appended_g hv (by omega) hrow (by omega) hGl (by omega) hne hown' hgrow hat; have hc1 := hv1.cell; have hf1 := hv1.frozen)
    refine ⟨hj2 _ (by omega) (by omega), by simpa [World.setCell] using hz2', ⟨⟨_, hv2, ?_, hne2⟩, hbA.trans hb2⟩⟩
    · rw [cstp_succ, fl4_app, HE1.out]; exact hr2

theorem collect_any (a n : Int) (b N : Nat) (w : World) (hN1 : N ≤ 5000000000) (hb : b + 1 < w.heap.size) (h1 : Boxed w b 3 (.int .i64 a)) (h2 : Boxed w (b + 1) 3 (.int .i64 n))
    (hN : ∀ k, k < N → ¬ fin (st a n k)) (hF : fin (st a n N)) (hG : ∀ k, k ≤ N → Good (st a n k)) :
    Calls Try.prog 75 #[.func (.func 89) #[] #[.pointer (some ⟨b, 0, none⟩), .pointer (some ⟨b + 1, 0, none⟩)]] w fun e w' =>
      (∃ v, e = .returned v ∧ Row4 w.heap.size v (cstp a n N) w') ∧ Below w.heap.size w w' := by
  have HC := Lib.hid (appendSeq_any a n b N w hN1 hb h1 h2 hN hF hG)
  clear h1 h2 hN hF hG
  go_enter Try.func75, Try.ntmps75
  go_wp2_with fail
  refine HC.out.mono ?_
  rintro e w1 ⟨⟨v, rfl, hr⟩, hb1⟩
  have H := Lib.hid (And.intro hr hb1)
  clear hr hb1
  go_wp2
  go_ret
  exact ⟨⟨v, rfl, H.out.1⟩, H.out.2⟩

/-- how long a chain is. -/
def isLen (a n : Int) (N : Nat) : Prop := N ≤ 5000000000 ∧ (∀ k, k < N → ¬ fin (st a n k)) ∧ fin (st a n N) ∧ (∀ k, k ≤ N → Good (st a n k))
set_option maxHeartbeats 1000000 in
theorem Chain_yes (a n : Int) (h : isSym a n) (N : Nat) (hN : isLen a n N) (w : World) :
    Calls Try.prog 37 #[.int .i64 a, .int .i64 n] w fun e w' => (∃ v, e = .returned (.tuple #[v, .int .i64 0]) ∧ Row4 w.heap.size v (cstp a n N) w') ∧ Below w.heap.size w w' := by
  have HV := Lib.hid (fun W => validSymbol_any a n W)
  rw [(symB_iff a n).2 h] at HV
  have HL := Lib.hid hN
  clear h hN
  go_enter Try.func37, Try.ntmps37
  go_wp2_with fail
  refine (HV.out _).mono ?_
  rintro e w1 ⟨rfl, hb1⟩
  have H1 := Lib.hid hb1
  clear hb1
  go_wp2_with fail
  refine (chain_any a n w1).mono ?_
  rintro e w2 ⟨rfl, hw2⟩
  have y1 : Boxed w2 w1.heap.size 3 (.int .i64 a) := by rw [← hw2]; exact (Boxed.new w1 3 (.int .i64 a)).alloc _
  have y2 : Boxed w2 (w1.heap.size + 1) 3 (.int .i64 n) := by
    have := Boxed.new (w1.alloc (.cells #[.int .i64 a] 3)) 3 (.int .i64 n)
    rw [World.size_alloc] at this
    rw [← hw2]; exact this
  have hsz : w2.heap.size = w1.heap.size + 2 := by rw [← hw2]; simp
  have hb2 : Below w.heap.size w w2 := by rw [← hw2]; exact (H1.out.alloc H1.out.size _).alloc (by have := H1.out.size; simp; omega) _
  have HC := Lib.hid (collect_any a n w1.heap.size N w2 HL.out.1 (by omega) y1 y2 HL.out.2.1 HL.out.2.2.1 HL.out.2.2.2)
  have H2 := Lib.hid hb2
  clear hw2 y1 y2 hsz hb2
  go_wp2_with fail
  refine HC.out.mono ?_
  rintro e w3 ⟨⟨v, rfl, hr⟩, hb3⟩
  have H3 := Lib.hid (And.intro (hr.mono H2.out.size) (H2.out.trans (hb3.mono H2.out.size)))
  clear hr hb3
  go_wp2
  go_ret2
  exact ⟨⟨v, rfl, H3.out.1⟩, H3.out.2⟩
set_option maxHeartbeats 1000000 in
theorem Chain_no (a n : Int) (h : ¬ isSym a n) (w : World) :
    Calls Try.prog 37 #[.int .i64 a, .int .i64 n] w fun e w' => e = .returned (.tuple #[.slice none 0 0, .int .i64 2]) ∧ Below w.heap.size w w' := by
  have HV := Lib.hid (fun W => validSymbol_any a n W)
  rw [Bool.eq_false_iff.2 (fun e => h ((symB_iff a n).1 e))] at HV
  clear h
  go_enter Try.func37, Try.ntmps37
  go_wp2_with fail
  refine (HV.out _).mono ?_
  rintro e w1 ⟨rfl, hb1⟩
  have H1 := Lib.hid hb1
  clear hb1
  go_wp2
  go_ret2
  exact ⟨rfl, H1.out⟩
end Go.Proofs.Ytopfcppmbkidgaa
