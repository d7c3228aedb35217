/- The law TopGolden: its walk in every case. No condition. -/
import Derived.Test.YtbdabpmpfciibaaGoldTop
import Derived.Test.YtbdabpmpfciibaaLawUnder
namespace Go.Proofs.Ytbdabpmpfciibaa
open Go.RowKit
attribute [local go_sem] Oper.semAt_some

/-- What the call has made: the pairs, and the row of the numbers met. -/
structure GSt (w : World) (v : Value) (L : List (Int × Int)) (g m : Nat) (f : Nat → Bool) (W : World) : Prop where
  b : Below w.heap.size w W
  l : Row2 w.heap.size v L W
  m : BS g m w.heap.size f W
theorem GSt.alloc {w W : World} {v : Value} {L : List (Int × Int)} {g m : Nat} {f : Nat → Bool} (h : GSt w v L g m f W) (o : Obj) : GSt w v L g m f (W.alloc o) :=
  ⟨h.b.alloc h.b.size o, World.ownsRow.alloc (h := h.l) o, ⟨h.m.own.alloc o⟩⟩
theorem GSt.put {w W : World} {v : Value} {L : List (Int × Int)} {g m : Nat} {f : Nat → Bool} (h : GSt w v L g m f W) (j : Nat) (x : Bool) : GSt w v L g m (fun i => if i = j then x else f i) (W.setCell ⟨g, j, none⟩ (.bool x)) :=
  ⟨h.b.setCell (p := ⟨g, j, none⟩) h.m.le _, World.ownsRow.kept h.l (h.m.own.stored j (.bool x)).2 (own_kinds h.l h.m.own (by decide)), h.m.put j x⟩
theorem GSt.congr {w W : World} {v : Value} {L : List (Int × Int)} {g m : Nat} {f f' : Nat → Bool} (h : GSt w v L g m f W) (e : ∀ j, j < m → f j = f' j) : GSt w v L g m f' W := ⟨h.b, h.l, h.m.congr e⟩

theorem info4 : (Try.prog.info? 4).map (fun i => (i.zero, i.size, i.bytes)) = some (some (.bool false), 1, 1) := by kernel_rfl

set_option maxHeartbeats 4000000 in
theorem lawGold_no (m : Int) (w : World) (h : m < 0 ∨ 5000 < m) :
    Calls Try.prog 17 #[.int .i64 m] w fun e w' => e = .returned (.bool true) ∧ Below w.heap.size w w' := by
  have H1 := Lib.hid (pl.Solve_no 5 4 m (.inr (.inr h)))
  have H2 := Lib.hid (pl.Solve_no 5 (-4) m (.inr (.inr h)))
  clear h
  go_enter Try.func17, Try.ntmps17
  go_wp2_with fail
  refine (H1.out _).mono ?_
  rintro e w' ⟨rfl, rfl⟩
  go_wp2_with fail
  refine (H2.out _).mono ?_
  rintro e w' ⟨rfl, rfl⟩
  go_wp2_with fail
  refine (codes_any _).mono ?_
  rintro e w1 ⟨rfl, hb⟩
  have HB := Lib.hid hb
  clear hb
  go_wp2
  go_ret
  exact ⟨rfl, HB.out⟩

set_option maxHeartbeats 16000000 in
set_option maxRecDepth 100000 in
theorem lawGold_yes (M : Nat) (hM : M ≤ 5000) (w : World) :
    Calls Try.prog 17 #[.int .i64 (M : Int)] w fun e w' => e = .returned (.bool true) ∧ Below w.heap.size w w' := by
  have H1 := Lib.hid (fun w => pl.Solve_yes 5 4 (by decide) (by decide) M hM w)
  have H2 := Lib.hid (fun w => pl.Solve_yes 5 (-4) (by decide) (by decide) M hM w)
  obtain ⟨A, hA⟩ : ∃ A, pl.solL 5 4 (M + 1) = A := ⟨_, rfl⟩
  obtain ⟨B, hB⟩ : ∃ B, pl.solL 5 (-4) (M + 1) = B := ⟨_, rfl⟩
  obtain ⟨L, hL⟩ : ∃ L, goldL M = L := ⟨_, rfl⟩
  have hAB : A ++ B = L := by rw [← hL, ← hA, ← hB]; rfl
  have HAB := Lib.hid hAB
  have la : A.length ≤ 5001 := by rw [← hA]; have := pl.solL_len 5 4 (M + 1); omega
  have lb : B.length ≤ 5001 := by rw [← hB]; have := pl.solL_len 5 (-4) (M + 1); omega
  have lL : L.length ≤ 10002 := by rw [← hAB, List.length_append]; omega
  have HMEM := Lib.hid (fun k (hk : k < L.length) => by rw [← hL] at hk ⊢; exact goldL_mem hk : ∀ k, k < L.length → 0 ≤ (nth2 L k).2 ∧ (nth2 L k).2 ≤ (M : Int))
  have HANY := Lib.hid (fun y (hy : y ≤ M) => by rw [metF_all, ← hL, goldL_any hy, hitG_eq (by omega)] : ∀ y, y ≤ M → metF L L.length y = decide ((enc (y : Int)).length < 2))
  rw [hA] at H1
  rw [hB] at H2
  obtain ⟨N, hN⟩ : ∃ N, M + 1 = N := ⟨_, rfl⟩
  have hMN : (M : Int) + 1 = (N : Int) := by omega
  have HN := Lib.hid hN
  have n0 : (0 : Int) ≤ (N : Int) := by omega
  have n1 : (N : Int) ≤ 5001 := by omega
  have n2 : N ≤ 5001 := by omega
  have m0 : ¬ (M : Int) < 0 := by omega
  have m1 : ¬ (5000 : Int) < (M : Int) := by omega
  clear hA hB hL hAB hN hM
  go_enter Try.func17, Try.ntmps17
  go_wp2_with fail
  refine (H1.out _).mono ?_
  rintro e w1 ⟨v1, rfl, ho1, hb1⟩
  rw [pl.flat_all] at ho1
  have R1 := Lib.hid (show Row2 w.heap.size v1 A w1 from ho1)
  have HB1 := Lib.hid hb1
  clear ho1 hb1
  go_wp2_with fail
  refine (H2.out _).mono ?_
  rintro e w2 ⟨v2, rfl, ho2, hb2⟩
  rw [pl.flat_all] at ho2
  have R2 := Lib.hid (show Row2 w1.heap.size v2 B w2 from ho2)
  have R12 := Lib.hid (own_later R1.out hb2)
  have HB2 := Lib.hid (HB1.out.trans (hb2.mono HB1.out.size))
  obtain ⟨i4, hi, hz0, hz1, hz2⟩ := info_parts info4
  clear ho2 hb2 R1 H1 H2
  go_wp2_with (at_make; refine wpList_make_full _ rfl _ _ 64 rfl w2.heap.size 4 i4 (.bool false) 1 Try.underlying64 hi hz0 hz1 _ _ _ _ N rfl rfl (by omega) (by omega) (by rw [hz2]; omega) (by unfold maxLen; omega) (Nat.le_refl _) ?_; intro w3 hown hgrow; have hb3 := (Below.refl w2.heap.size w2).grown hgrow (Nat.le_refl _) (fun k e => by cases e); have S3 := Lib.hid (BS.made hown); obtain ⟨g, hg⟩ : (∃ g, w2.heap.size = g) := ⟨_, rfl⟩; rw [hg] at S3 ⊢; have HG := Lib.hid hg; have R23 := Lib.hid (own_later R2.out hb3); have R13 := Lib.hid (own_later R12.out hb3); have HB3 := Lib.hid (HB2.out.trans (hb3.mono HB2.out.size)); clear hown hgrow hb3 hi hz0 hz1 hz2 hg)
  refine (clone2_any _ A _ R13.out (by omega)).mono ?_
  rintro e w4 ⟨v4, rfl, ho4, hb4⟩
  have R4 := Lib.hid ho4
  have R24 := Lib.hid (own_later R23.out hb4)
  have S4 := Lib.hid (S3.out.later hb4)
  have HB4 := Lib.hid (HB3.out.trans (hb4.mono HB3.out.size))
  have hle4 : w3.heap.size ≤ w4.heap.size := hb4.size
  clear ho4 hb4 R23 S3 R13 R12 R2
  go_wp2_with (at_builtin; refine wpList_app2 rfl _ _ rfl _ _ _ _ A B rfl R4.out rfl R24.out (by omega) hle4 ?_; intro v5 w5 hown hgrow; rw [HAB.out] at hown; have R5 := Lib.hid hown; have hgr := Lib.hid hgrow; obtain ⟨a5, c5, rfl, -, -, hf5⟩ := hown.form; clear hown hgrow)
  have hg0 : w.heap.size ≤ g := by have := HB2.out.size; have := HG.out; omega
  have hw3 : w.heap.size ≤ w3.heap.size := HB3.out.size
  have G0 := Lib.hid (show GSt w (.slice a5 L.length c5) L g N (fun _ => false) w5 from
    ⟨HB4.out.grown hgr.out HB4.out.size (fun k e => Nat.le_trans hw3 (R4.out.lt k e).1), own_mono R5.out hw3,
     ⟨own_mono (World.ownsRow.kept S4.out.own hgr.out (own_kinds S4.out.own R4.out (by decide))) hg0⟩⟩)
  have HF5 := Lib.hid hf5
  obtain ⟨K, hK⟩ : ∃ K, L.length = K := ⟨_, rfl⟩
  rw [hK] at G0 HMEM HANY lL ⊢
  have HK := Lib.hid hK
  clear R4 R5 R24 S4 HB1 HB2 HB3 HB4 hgr HG hle4 hw3 hf5 hK la lb HAB
  go_loopg [9, 54] K (fun gk u9 i wr => ∃ (j : Nat), j + gk = K ∧ i = .int .i64 (j : Int) ∧ GSt w (.slice a5 K c5) L g N (metF L j) wr)
  case atStart => exact ⟨0, by omega, rfl, G0.out.congr fun j _ => (metF_zero L j).symm⟩
  case round =>
    obtain ⟨j, hj, rfl, hs⟩ := hrel
    have HS := Lib.hid hs
    clear hs G0
    by_cases hjK : j = K
    · have hge : ¬ (j : Int) < (K : Int) := by omega
      have hge2 : ¬ j < K := by omega
      rw [hjK] at HS
      have HB := Lib.hid HS.out.b
      have HM := Lib.hid HS.out.m
      clear hj hjK HMEM HS
      obtain ⟨W5, hW5⟩ : ∃ W5, wr = W5 := ⟨_, rfl⟩
      rw [hW5] at HB HM ⊢
      clear hW5
      go_wp2
      go_loopg [10, 11, 12, 74] N (fun gk u10 u11 u12 i wr => ∃ (j : Nat), j + gk = N ∧ i = .int .i64 (j : Int) ∧ Below w.heap.size w wr ∧ BS g N w.heap.size (metF L K) wr)
      case atStart => exact ⟨0, by omega, rfl, HB.out, HM.out⟩
      case round =>
        obtain ⟨j, hj, rfl, hb, hm⟩ := hrel
        clear HB HM
        have HB := Lib.hid hb
        have HM := Lib.hid hm
        clear hb hm
        by_cases hjN : j = N
        · have hge : ¬ (j : Int) < (N : Int) := by omega
          have hge2 : ¬ j < N := by omega
          clear hj hjN
          go_wp2_with fail
          refine (codes_any _).mono ?_
          rintro e w9 ⟨rfl, hb9⟩
          have HB9 := Lib.hid (HB.out.trans (hb9.mono HB.out.size))
          clear hb9
          go_wp2
          go_ret
          exact ⟨rfl, HB9.out⟩
        · have hlt : (j : Int) < (N : Int) := by omega
          have hlt2 : j < N := by omega
          have j0 : (0 : Int) ≤ (j : Int) := by omega
          have hE := Encode_yes (j : Int) (isNum_mk (by omega) (by omega)) wr
          have hA := HANY.out j (by have := HN.out; omega)
          obtain ⟨E, hE2⟩ : ∃ E, enc (j : Int) = E := ⟨_, rfl⟩
          rw [hE2] at hE hA
          have hEl : E.length ≤ 1000 := by rw [← hE2]; have := enc_len (x := (j : Int)) (isNum_mk (by omega) (by omega)); omega
          have HE := Lib.hid hE
          have HA := Lib.hid hA
          have HJ := Lib.hid hj
          clear hE hA hE2 hjN hj
          go_wp2_with fail
          refine HE.out.mono ?_
          rintro e w6 ⟨a6, c6, rfl, -, hb6⟩
          have HB6 := Lib.hid (HB.out.trans (hb6.mono HB.out.size))
          have HM6 := Lib.hid (HM.out.later hb6)
          have hcg := HM6.out.cell hlt2
          rw [HA.out] at hcg
          obtain ⟨n, hn⟩ : ∃ n, E.length = n := ⟨_, rfl⟩
          rw [hn] at hcg hEl ⊢
          clear hb6 HB HM HE HA hn
          by_cases h2 : n < 2
          · have h2i : (n : Int) < 2 := by omega
            rw [decide_eq_true h2] at hcg
            go_wp2
            go_roundg (N - j - 1)
            case rel => exact ⟨j + 1, by have := HJ.out; omega, by go_num, HB6.out, HM6.out⟩
            case measure => have := HJ.out; omega
          · have h2i : ¬ (n : Int) < 2 := by omega
            rw [decide_eq_false h2] at hcg
            go_wp2
            go_roundg (N - j - 1)
            case rel => exact ⟨j + 1, by have := HJ.out; omega, by go_num, HB6.out, HM6.out⟩
            case measure => have := HJ.out; omega
    · have hlt : (j : Int) < (K : Int) := by omega
      have hlt2 : j < K := by omega
      have j0 : (0 : Int) ≤ (j : Int) := by omega
      have hjl : j < L.length := by have := HK.out; omega
      obtain ⟨g5, rfl, hg5, hg5b⟩ : ∃ g, a5 = some ⟨g, 0, none⟩ ∧ w.heap.size ≤ g ∧ g < wr.heap.size := by
        obtain ⟨a, c, he, -, -, hh⟩ := HS.out.l.form
        rcases hh with ⟨rfl, h0⟩ | ⟨g, rfl, h1, h2⟩
        · rw [h0] at hjl
          exact absurd hjl (by simp)
        · cases he
          exact ⟨g, rfl, h1, h2⟩
      obtain ⟨c0, c1⟩ := HS.out.l.cell hjl
      obtain ⟨y0, y1⟩ := HMEM.out j hlt2
      have hsucc := fun Y hY => metF_succ (y := Y) hjl hY
      obtain ⟨x, hx⟩ : ∃ x, (nth2 L j).1 = x := ⟨_, rfl⟩
      obtain ⟨Y, hY⟩ : ∃ Y : Nat, (nth2 L j).2 = (Y : Int) := ⟨(nth2 L j).2.toNat, by omega⟩
      have HSUC := Lib.hid (hsucc Y hY)
      rw [hx] at c0
      rw [hY] at c1 y0 y1
      have hYN : Y < N := by have := HN.out; omega
      have hYN2 : (Y : Int) < (N : Int) := by omega
      have y2 : ¬ (Y : Int) < 0 := by omega
      have y3 : ¬ (M : Int) < (Y : Int) := by omega
      have HS1 := Lib.hid (HS.out.alloc (.cells #[.int .i64 x, .int .i64 (Y : Int)] 46))
      have hcg := HS1.out.m.cell hYN
      have hfg := HS1.out.m.frozen Y
      obtain ⟨u, hu⟩ : ∃ u : Bool, metF L j Y = u := ⟨_, rfl⟩
      rw [hu] at hcg
      have HJ := Lib.hid hj
      clear hx hY hu hsucc hj hjK hjl HMEM
      go_wp2
      have H2 := Lib.hid ((HS1.out.put Y true).congr fun i _ => HSUC.out i)
      go_roundg (K - j - 1)
      case rel => exact ⟨j + 1, by have := HJ.out; omega, by go_num, H2.out⟩
      case measure => have := HJ.out; omega

theorem lawGold_any (m : Int) (w : World) :
    Calls Try.prog 17 #[.int .i64 m] w fun e w' => e = .returned (.bool true) ∧ Below w.heap.size w w' := by
  by_cases h : m < 0 ∨ 5000 < m
  · exact lawGold_no m w h
  · obtain ⟨M, rfl⟩ : ∃ M : Nat, m = (M : Int) := ⟨m.toNat, by omega⟩
    exact lawGold_yes M (by omega) w
end Go.Proofs.Ytbdabpmpfciibaa
