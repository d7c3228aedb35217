/- The walks of CheckChain and of slices.Clone at steps. Conditions as stated in each theorem. -/
import Derived.Test.YtopfcppmbkidgaaIsC
import Derived.Lib.OwnKind
namespace Go.Proofs.Ytopfcppmbkidgaa
open Go.RowKit Go.Shelf
attribute [local go_sem] Oper.semAt_some

set_option maxHeartbeats 1000000 in
theorem Check_yes (a n : Int) (h : isSym a n) (N : Nat) (hN : isLen a n N) (B0 : Nat) (v : Value) (L : List Stp) (hL : L.length ≤ 5000000000) (hl : L = cstp a n N) (w : World) (hr : Row4 B0 v L w) :
    Calls Try.prog 38 #[.int .i64 a, .int .i64 n, v] w fun e w' => e = .returned (.tuple #[.int .i64 (Jv a n), .bool true, .int .i64 0]) ∧ Below w.heap.size w w' := by
  have HV := Lib.hid (fun W => validSymbol_any a n W)
  rw [(symB_iff a n).2 h] at HV
  have HS := Lib.hid (fun W => symbol_any a n h W)
  have HC := Lib.hid (fun W (hr : Row4 B0 v L W) => isChain_any a n N hN B0 v L hL true (by simp [hl]) W hr)
  have HR := Lib.hid hr
  clear h hN hl hr
  go_enter Try.func38, Try.ntmps38
  go_wp2_with fail
  refine (HV.out _).mono ?_
  rintro e w1 ⟨rfl, hb1⟩
  have H1 := Lib.hid hb1
  have HR1 := Lib.hid (HR.out.later hb1)
  clear hb1
  go_wp2_with fail
  refine (HC.out _ HR1.out).mono ?_
  rintro e w2 ⟨rfl, hb2⟩
  have H2 := Lib.hid (H1.out.trans (hb2.mono H1.out.size))
  clear hb2
  go_wp2_with fail
  refine (HS.out _).mono ?_
  rintro e w3 ⟨rfl, hb3⟩
  have H3 := Lib.hid (H2.out.trans (hb3.mono H2.out.size))
  clear hb3
  go_wp2
  exact bodyPost_ret (v := .tuple #[.int .i64 (Jv a n), .bool true, .int .i64 0]) (by simp [results, Try.results38, go_sem]) rfl ⟨rfl, H3.out⟩
set_option maxHeartbeats 1000000 in
theorem Check_not (a n : Int) (h : isSym a n) (N : Nat) (hN : isLen a n N) (B0 : Nat) (v : Value) (L : List Stp) (hL : L.length ≤ 5000000000) (hl : L ≠ cstp a n N) (w : World) (hr : Row4 B0 v L w) :
    Calls Try.prog 38 #[.int .i64 a, .int .i64 n, v] w fun e w' => e = .returned (.tuple #[.int .i64 0, .bool false, .int .i64 0]) ∧ Below w.heap.size w w' := by
  have HV := Lib.hid (fun W => validSymbol_any a n W)
  rw [(symB_iff a n).2 h] at HV
  have HC := Lib.hid (fun W (hr : Row4 B0 v L W) => isChain_any a n N hN B0 v L hL false (by simp [hl]) W hr)
  have HR := Lib.hid hr
  clear h hN hl hr
  go_enter Try.func38, Try.ntmps38
  go_wp2_with fail
  refine (HV.out _).mono ?_
  rintro e w1 ⟨rfl, hb1⟩
  have H1 := Lib.hid hb1
  have HR1 := Lib.hid (HR.out.later hb1)
  clear hb1
  go_wp2_with fail
  refine (HC.out _ HR1.out).mono ?_
  rintro e w2 ⟨rfl, hb2⟩
  have H2 := Lib.hid (H1.out.trans (hb2.mono H1.out.size))
  clear hb2
  go_wp2
  exact bodyPost_ret (v := .tuple #[.int .i64 0, .bool false, .int .i64 0]) (by simp [results, Try.results38, go_sem]) rfl ⟨rfl, H2.out⟩
set_option maxHeartbeats 1000000 in
theorem Check_no (a n : Int) (h : ¬ isSym a n) (v : Value) (w : World) :
    Calls Try.prog 38 #[.int .i64 a, .int .i64 n, v] w fun e w' => e = .returned (.tuple #[.int .i64 0, .bool false, .int .i64 2]) ∧ Below w.heap.size w w' := by
  have HV := Lib.hid (fun W => validSymbol_any a n W)
  rw [Bool.eq_false_iff.2 (fun e => h ((symB_iff a n).1 e))] at HV
  clear h
  go_enter Try.func38, Try.ntmps38
  go_wp2_with fail
  refine (HV.out _).mono ?_
  rintro e w1 ⟨rfl, hb1⟩
  have H1 := Lib.hid hb1
  clear hb1
  go_wp2
  exact bodyPost_ret (v := .tuple #[.int .i64 0, .bool false, .int .i64 2]) (by simp [results, Try.results38, go_sem]) rfl ⟨rfl, H1.out⟩

theorem add0 (g j : Nat) : (⟨g, 0, none⟩ : Addr).add j = ⟨g, j, none⟩ := by unfold Addr.add; split <;> simp_all
set_option maxHeartbeats 4000000 in
set_option maxRecDepth 100000 in
theorem clone4_any {B : Nat} {v : Value} {S : List Stp} (w : World) (h : Row4 B v S w) (hl : S.length ≤ 5000000000) :
    Calls Try.prog 57 #[v] w fun e w' => (∃ v', e = .returned v' ∧ Row4 w.heap.size v' S w') ∧ Below w.heap.size w w' := by
  have q45 : ∀ (w : World) (a : Option Addr) (n c n' c' : Nat), (binOp .eql 45 (.slice a n c) (.slice none n' c')).run Try.prog w = .ok (.bool a.isNone) w := fun w a n c n' c' => Lib.run_eql_slice_nil w _ _ a n c n' c' Try.underlying45
  obtain ⟨i0, hi, hz0, hz1, hz2⟩ := info_parts info66
  obtain ⟨a, c, rfl, -, -, ⟨rfl, rfl, rfl⟩ | ⟨g, rfl, h3, h4⟩⟩ := h.form
  · go_enter Try.func57, Try.ntmps57
    go_wp2
    go_ret
    exact ⟨⟨_, rfl, Row4.nil _ _⟩, Below.refl _ _⟩
  · have hs : ∀ j u, (fl4 S)[j]? = some u → (w.alloc (.cells #[] 66)).cell? ((⟨g, 0, none⟩ : Addr).add j) = some u := fun j u hj => by
      have hlt : j < S.length * 4 := by
        rw [← fl4_len]
        exact (List.getElem?_eq_some_iff.1 hj).1
      rw [add0, ← hj, ← h.cellAt j (by omega)]
      exact ((Below.refl w.heap.size w).alloc (Nat.le_refl _) (.cells #[] 66)).cell (p := ⟨g, j, none⟩) h4
    have hemp : (w.alloc (.cells #[] 66)).ownsRow w.heap.size 66 4 (.slice (some ⟨w.heap.size, 0, none⟩) 0 0) 0 [] := World.ownsRow_made w #[] 0 (Nat.le_refl _) (Nat.zero_le _) rfl
    have HS := Lib.hid hs
    have HE := Lib.hid hemp
    have HB := Lib.hid ((Below.refl w.heap.size w).alloc (Nat.le_refl _) (.cells #[] 66))
    clear h h3 h4 hs hemp
    go_enter Try.func57, Try.ntmps57
    go_wp2_with (at_builtin; refine wpList_append_own _ rfl _ _ 45 rfl (w.heap.size) 66 i0 (.agg #[.int .i64 0, .int .i64 0, .int .i64 0, .int .i64 0]) 4 32 Try.underlying45 hi hz0 hz1 hz2 rfl (by decide) _ _ _ rfl HE.out ⟨g, 0, none⟩ S.length c (fl4 S) rfl (fl4_len S) HS.out (fl4_one _) (by unfold maxLen; omega) (by omega) HB.out.size ?_; intro v' w3 hown' hgrow _)
    have hrow : Row4 w.heap.size v' S w3 := by
      unfold Row4
      rw [Nat.zero_add, List.nil_append] at hown'
      exact hown'
    have hb3 : Below w.heap.size w w3 := HB.out.grown hgrow HB.out.size (fun j e => (World.ownsRow.lt HE.out j e).1)
    have HF := Lib.hid (And.intro hrow hb3)
    clear hown' hgrow hrow hb3
    go_wp2
    go_ret
    exact ⟨⟨_, rfl, HF.out.1⟩, HF.out.2⟩
end Go.Proofs.Ytopfcppmbkidgaa
