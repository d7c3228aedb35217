/- The walk of next at steps of the kinds 1 and 2. Condition: the step is one of a chain. -/
import Derived.Test.YtopfcppmbkidgaaNxt
namespace Go.Proofs.Ytopfcppmbkidgaa
open Go.RowKit Go.Shelf
attribute [local go_sem] Oper.semAt_some

attribute [local irreducible] vAt NX
set_option maxHeartbeats 4000000 in
theorem next2_any (k a n s z : Int) (h : Good ⟨k, a, n, s⟩) (h0 : 0 ≤ a) (hlt : a < n) (he : ¬ a % 2 = 0) (hz : exch a n = z) (w : World) : Calls Try.prog 91 #[stV ⟨k, a, n, s⟩] w fun e w' => e = .returned (stV ⟨2, n, a, s * z⟩) ∧ Below w.heap.size w w' := by
  obtain ⟨a0, a1, n0, n1, od, hs⟩ := h
  simp only at a0 a1 n0 n1 od hs
  have HT := Lib.hid (exch_any a n h0 n0)
  rw [hz] at HT
  have hz2 : z = 1 ∨ z = -1 := hz ▸ exch_cases a n
  have p0 : -1 ≤ s * z := by rcases sgn_mul hs hz2 with h | h <;> omega
  have p1 : s * z ≤ 1 := by rcases sgn_mul hs hz2 with h | h <;> omega
  have hw : IntKind.i64.wrap (s * z) = s * z := IntWalk.i64_in _ (by omega)
  have hw' : wrap64 (s * z) = s * z := IntWalk.wrap64_in _ (by omega)
  have HN := Lib.hid (NX.begins w ⟨k, a, n, s⟩)
  have hb : (a % 2 == 0) = false := by simpa using he
  unfold stV
  clear hz hz2 hs
  go_enter Try.func91, Try.ntmps91
  go_wp2
  generalize hW2 : (w.alloc (.cells #[.int .i64 k, .int .i64 a, .int .i64 n, .int .i64 s] 66)).alloc (.cells #[.int .i64 0, .int .i64 0, .int .i64 0, .int .i64 0] 66) = W2 at HN ⊢
  obtain ⟨P, hP⟩ : ∃ P, w.heap.size = P := ⟨_, rfl⟩
  have HP := Lib.hid hP
  rw [hP] at HN ⊢
  have HS := Lib.hid (NS.of HN.out)
  have HPG := Lib.hid (show P < P + 1 by omega)
  have H1 := Lib.hid (fun (W : World) (hS : NS w P (P + 1) ⟨k, a, n, s⟩ W) => hS.drew)
  have H2 := Lib.hid (fun (W : World) (x y u v : Int) (hS : NS w P (P + 1) ⟨k, a, n, s⟩ W) => NS.of (hS.x.put HPG.out ⟨x, y, u, v⟩).2)
  obtain ⟨c1, c2, c3, g0, g1, g2, g3, f0, f1, f2, f3, -⟩ := HS.out
  simp only at c1 c2 c3
  have et : a.tdiv 2 = a / 2 := Int.tdiv_eq_ediv_of_nonneg h0
  have ew : IntKind.i64.wrap (a / 2) = a / 2 := IntWalk.i64_in _ (by omega)
  have ew' : IntKind.i64.wrap (a.tdiv 2) = a / 2 := by rw [et, ew]
  clear hW2 hP
  go_wp2
  go_region_held3 (fun W => W.cell? ⟨P, 1, none⟩ = some (.int .i64 a) ∧ W.cell? ⟨P, 2, none⟩ = some (.int .i64 n) ∧ W.cell? ⟨P, 3, none⟩ = some (.int .i64 s) ∧ W.cell? ⟨P + 1, 0, none⟩ = some (vAt (P + 1) 0 W) ∧ W.cell? ⟨P + 1, 1, none⟩ = some (vAt (P + 1) 1 W) ∧ W.cell? ⟨P + 1, 2, none⟩ = some (vAt (P + 1) 2 W) ∧ W.cell? ⟨P + 1, 3, none⟩ = some (vAt (P + 1) 3 W) ∧ W.frozen? ⟨P + 1, 0, none⟩ = false ∧ W.frozen? ⟨P + 1, 1, none⟩ = false ∧ W.frozen? ⟨P + 1, 2, none⟩ = false ∧ W.frozen? ⟨P + 1, 3, none⟩ = false ∧ NX w P (P + 1) ⟨k, a, n, s⟩ W)
    (first | assumption | exact HS.out | exact H1.out _ HS.out | exact H1.out _ (by assumption) | exact H2.out _ _ _ _ _ (by assumption))
    ((go_at_call 93; refine (HT.out _).mono ?_; rintro e w' ⟨rfl, rfl⟩))
  all_goals
    have hE := HN.out.put' HPG.out 2 n a (s * z)
    obtain ⟨d0, d1, d2, d3, -⟩ := hE.1.cells
    simp only at d0 d1 d2 d3
    have HE := Lib.hid hE.2
    clear hE
    go_wp2
    exact bodyPost_ret (v := .agg #[.int .i64 2, .int .i64 n, .int .i64 a, .int .i64 (s * z)]) (by simp [results, Try.results91, go_sem, d0, d1, d2, d3]) rfl ⟨rfl, by rw [HP.out]; first | exact HE.out.drew | exact HE.out⟩
end Go.Proofs.Ytopfcppmbkidgaa
