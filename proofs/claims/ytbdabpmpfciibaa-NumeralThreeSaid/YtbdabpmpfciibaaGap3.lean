/- The walk of numeral.counted: each distance, rising, and how often it occurs. Condition: the map is one that gaps has made. -/
import Derived.Test.YtbdabpmpfciibaaSort2
import Derived.Maps.RangeWalk
namespace Go.Proofs.Ytbdabpmpfciibaa
open Go.RowKit Go.Shelf Go.Maps Go.Lib Go.Sort
attribute [local go_sem] Oper.semAt_some

/-- What the range has collected: just the entries that are no longer to come. -/
structure Coll (out : List (Int × Int)) (f : Nat → Nat) (left : Lit → Bool) (D : DataW Unit) : Prop where
  mem : ∀ q ∈ out, ∃ d : Nat, q = ((d : Int), (f d : Int)) ∧ 0 < f d ∧ left (.int .i64 (d : Int)) = false
  all : ∀ d : Nat, 0 < f d → left (.int .i64 (d : Int)) = false → ((d : Int), (f d : Int)) ∈ out
  apart : out.Pairwise fun a b => a.1 ≠ b.1
  has : ∀ kl, left kl = true → Maps.has D kl = true
theorem same_refl (x : Int) : (Lit.int .i64 x).sameKey (.int .i64 x) = true := by simp [Lit.sameKey]
theorem Coll.start {f : Nat → Nat} {D : DataW Unit} {m : Nat} (h : MapIs D f m) : Coll [] f (Maps.has D) D := by
  refine ⟨fun q hq => by simp at hq, fun d h1 h2 => ?_, List.Pairwise.nil, fun _ h => h⟩
  rw [h.has d, decide_eq_true h1] at h2
  exact absurd h2 (by simp)
theorem Coll.step {out : List (Int × Int)} {f : Nat → Nat} {left : Lit → Bool} {D : DataW Unit} {m : Nat} (h : Coll out f left D) (hm : MapIs D f m) {x c : Int} (hl : left (.int .i64 x) = true) (hat : ∀ zd, D.atKey (.int .i64 x) zd = .lit (.int .i64 c)) :
    Coll (out ++ [(x, c)]) f (fun z => left z && !z.sameKey (.int .i64 x)) D := by
  obtain ⟨d, hd, -⟩ := hm.key _ (h.has _ hl)
  have hx : x = (d : Int) := by injection hd
  subst hx
  have hc : c = (f d : Int) := (lit_inj ((hm.at_ d).symm.trans (hat _))).symm
  subst hc
  have hpos : 0 < f d := by
    have := h.has _ hl
    rw [hm.has d] at this
    exact of_decide_eq_true this
  have hne : ∀ e : Nat, e ≠ d → (Lit.int .i64 (e : Int)).sameKey (.int .i64 (d : Int)) = false := fun e he => sameKey_ne (fun hh => he (by injection hh with _ hh; omega))
  refine ⟨fun q hq => ?_, fun e h1 h2 => ?_, ?_, fun kl hk => ?_⟩
  · rw [List.mem_append, List.mem_singleton] at hq
    rcases hq with hq | rfl
    · obtain ⟨e, he1, he2, he3⟩ := h.mem q hq
      exact ⟨e, he1, he2, by show (left _ && _) = false; rw [he3, Bool.false_and]⟩
    · exact ⟨d, rfl, hpos, by show (left _ && !_) = false; rw [same_refl, Bool.not_true, Bool.and_false]⟩
  · rw [List.mem_append, List.mem_singleton]
    by_cases he : e = d
    · subst he; exact .inr rfl
    · left
      refine h.all e h1 ?_
      have h2' : (left (.int .i64 (e : Int)) && !(Lit.int .i64 (e : Int)).sameKey (.int .i64 (d : Int))) = false := h2
      rw [hne e he, Bool.not_false, Bool.and_true] at h2'
      exact h2'
  · rw [List.pairwise_append]
    refine ⟨h.apart, List.pairwise_singleton _ _, fun a ha b hb => ?_⟩
    rw [List.mem_singleton] at hb
    subst hb
    obtain ⟨e, he1, he2, he3⟩ := h.mem a ha
    subst he1
    intro hh
    have : (e : Int) = (d : Int) := hh
    rw [this, hl] at he3
    exact absurd he3 (by simp)
  · have hk' : (left kl && !kl.sameKey (.int .i64 (d : Int))) = true := hk
    rw [Bool.and_eq_true] at hk'
    exact h.has kl hk'.1

theorem coll_can {out L' : List (Int × Int)} {f : Nat → Nat} {left : Lit → Bool} {D : DataW Unit} {m : Nat} (h : Coll out f left D) (hm : MapIs D f m) (hl : ∀ kl, left kl = false) (hp : L'.Perm out) (hr : L'.Pairwise fun a b => a.1 < b.1) : L' = canL f (m + 1) := by
  refine rise_eq hr (canL_rise f (m + 1)) fun q => ?_
  rw [hp.mem_iff, canL_mem]
  constructor
  · intro hq
    obtain ⟨d, h1, h2, -⟩ := h.mem q hq
    refine ⟨d, ?_, h2, h1⟩
    obtain ⟨e, he, hle⟩ := hm.key (.int .i64 (d : Int)) (by rw [hm.has d, decide_eq_true h2])
    have : d = e := by injection he with _ he; omega
    omega
  · rintro ⟨d, -, h2, rfl⟩
    exact h.all d h2 (hl _)

set_option maxHeartbeats 8000000 in
set_option maxRecDepth 100000 in
theorem counted_any (b n m : Nat) (D : DataW Unit) (f : Nat → Nat) (w : World) (hown : w.ownsMap Try.prog 3 (plainElem Try.prog 3) b n D) (hmap : MapIs D f m) (hn : n ≤ 1000) (hpos : ∃ d, 0 < f d) :
    Calls Try.prog 84 #[.map (some b)] w fun e w' => ∃ g c, e = .returned (.slice (some ⟨g, 0, none⟩) (canL f (m + 1)).length c) ∧ Sl2 w' g (canL f (m + 1)) ∧ Below w.heap.size w w' ∧ g < w'.heap.size := by
  have HMAP := Lib.hid hmap
  have hsz := hown.size_le
  obtain ⟨i0, j1, j2, j3, j4⟩ := info_parts info46c
  have hbl := hown.lt
  have HPOS := Lib.hid hpos
  clear hmap hpos
  go_enter Try.func84, Try.ntmps84
  go_wp2_with (at_range; refine wpList_range_own _ rfl _ 78 rfl 3 3 law3 Try.underlying78 _ b n _ rfl hown ?_; intro w0 hrg0 hg0 hs0)
  go_frame
  have HRG0 := Lib.hid hrg0
  have HB0 := Lib.hid ((Below.refl w.heap.size w).grown hg0 (Nat.le_refl _) (fun j hj => by cases hj))
  have hs0' : w.heap.size + 1 ≤ w0.heap.size := by omega
  clear hown hrg0 hg0 hs0
  go_loopw [3, 4, 5] (fun v _ _ wr => ∃ (left : Lit → Bool) (cnt : Nat) (out : List (Int × Int)), wr.ranges Try.prog 3 (plainElem Try.prog 3) b w.heap.size n D left cnt ∧ out.length + cnt ≤ n ∧ Coll out f left D ∧ Row2 (w.heap.size + 1) v out wr ∧ Below w.heap.size w wr ∧ w.heap.size + 1 ≤ wr.heap.size) (fun _ _ _ wr => wr.rangeLeft b w.heap.size)
  case atStart => exact ⟨_, _, [], HRG0.out, by simpa using hsz, Coll.start HMAP.out, World.ownsRow_nil _ _ _ _, HB0.out, hs0'⟩
  case round =>
    obtain ⟨left, cnt, out, hrg, hcs, hcoll, hrow, hnx, hsz1⟩ := hrel
    have HCOLL := Lib.hid hcoll
    have HROW := Lib.hid hrow
    have HNX := Lib.hid hnx
    clear HRG0 HB0 hcoll hrow hnx hs0'
    go_wp2_with (first
      | (at_next; refine wpList_next_ranges_ii _ rfl _ rfl 3 3 .i64 .i64 law3 Try.underlying3 Try.underlying3 b w.heap.size n _ _ _ rfl hrg ?_ ?_)
      | go_in)
    · intro hc0 hl0
      have hne : 0 < out.length := by
        obtain ⟨d, hd⟩ := HPOS.out
        exact List.length_pos_of_mem (HCOLL.out.all d hd (hl0 _))
      obtain ⟨a9, c9, rfl, -, -, h9⟩ := HROW.out.form
      obtain ⟨g, rfl, hg1, hg2⟩ : ∃ g, a9 = some ⟨g, 0, none⟩ ∧ w.heap.size + 1 ≤ g ∧ g < wr.heap.size := by
        rcases h9 with ⟨-, h9⟩ | h9
        · rw [h9] at hne; exact absurd hne (by simp)
        · exact h9
      have HL0 := Lib.hid hl0
      have HG2 := Lib.hid hg2
      clear h9 hg1 hl0 hg2
      have HS := Lib.hid (sort2_any w.heap.size g c9 out.length out w wr HNX.out HNX.out.size (own_mono HROW.out (Nat.le_succ _)) rfl (by omega) HCOLL.out.apart)
      clear hrg hc0
      obtain ⟨N, hN⟩ : ∃ N, out.length = N := ⟨_, rfl⟩
      rw [hN] at HS ⊢
      have HN := Lib.hid hN
      clear hN
      go_wp2_with fail
      refine HS.out.mono ?_
      rintro e w5 ⟨rfl, hb5, hg5, L', hp, hr, hs2⟩
      have hL : L' = canL f (m + 1) := coll_can HCOLL.out HMAP.out HL0.out hp hr
      have hlen : (canL f (m + 1)).length = N := by rw [← hL, hp.length_eq, HN.out]
      rw [hL] at hs2
      have HF := Lib.hid (And.intro hs2 (And.intro hb5 (And.intro hg5 hlen)))
      clear hb5 hg5 hp hr hs2 hL hlen
      go_wp2
      go_ret
      exact ⟨g, c9, by rw [HF.out.2.2.2]; rfl, HF.out.1, HF.out.2.1, HF.out.2.2.1⟩
    · intro x c w1 cnt1 hwx hwc hlx hat hrg1 hlt hg1 hs1 hen
      have hrow1 : Row2 (w.heap.size + 1) u3 out w1 := World.ownsRow.kept HROW.out hg1 (.inr (fun e => by have := (World.ownsRow.lt HROW.out _ e).1; omega))
      have hnx1 := HNX.out.grown hg1 HNX.out.size (fun j hj => by cases hj; exact Nat.le_refl _)
      have hcoll1 := HCOLL.out.step HMAP.out hlx hat
      have hsw : w.heap.size + 1 ≤ w1.heap.size := by rw [hs1]; exact hsz1
      have hlit := World.ownsRow_lit (base := w.heap.size + 1) (e := 46) (size := 2) w1 #[.int .i64 x, .int .i64 c] 1 hsw (by unfold maxLen; omega) rfl
      have hrow2 := World.ownsRow.alloc (h := hrow1) (.cells #[.int .i64 x, .int .i64 c] 46)
      have hrg2 := hrg1.alloc (.cells #[.int .i64 x, .int .i64 c] 46)
      have hnx2 := hnx1.alloc hnx1.size (.cells #[.int .i64 x, .int .i64 c] 46)
      have hsz2 : w.heap.size + 1 ≤ (w1.alloc (.cells #[.int .i64 x, .int .i64 c] 46)).heap.size := by simp; omega
      have HH := Lib.hid (And.intro hrow2 (And.intro hlit (And.intro hcoll1 (And.intro hrg2 (And.intro hnx2 hsz2)))))
      have HLT := Lib.hid (And.intro hlt (hrg.left_eq))
      clear hrow1 hnx1 hcoll1 hsw hlit hrow2 hrg2 hnx2 hsz2 hrg hrg1 hlt hg1 hs1 hat hlx
      go_wp2_with (first
        | (at_builtin; refine wpList_app2 rfl _ _ rfl (w.heap.size + 1) (w.heap.size + 1) _ _ out [(x, c)] rfl HH.out.1 rfl HH.out.2.1 (by simp; omega) HH.out.2.2.2.2.2 ?_; intro v' w3 hown' hgrow'; have HO := Lib.hid hown'; have HGR := Lib.hid hgrow'; clear hown' hgrow')
        | go_in)
      have hrg3 := HH.out.2.2.2.1.kept HGR.out (fun e => by have := (World.ownsRow.lt HH.out.1 _ e.symm).1; omega) (fun e => by have := (World.ownsRow.lt HH.out.1 _ e.symm).1; omega)
      have HRG3 := Lib.hid hrg3
      clear hrg3
      go_roundw
      case rel =>
        exact ⟨_, cnt1, out ++ [(x, c)], HRG3.out, by have := HLT.out.1; simp; omega, HH.out.2.2.1, HO.out, HH.out.2.2.2.2.1.grown HGR.out HH.out.2.2.2.2.1.size (fun k e => by have := (World.ownsRow.lt HH.out.1 _ e).1; omega), Nat.le_trans HH.out.2.2.2.2.2 HGR.out.size⟩
      case measure => rw [HRG3.out.left_eq, HLT.out.2]; exact HLT.out.1
end Go.Proofs.Ytbdabpmpfciibaa
