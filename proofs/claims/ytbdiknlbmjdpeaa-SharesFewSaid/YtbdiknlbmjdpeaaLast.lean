/- The walk of last. Conditions: the numbers are in range. -/
import Derived.Test.YtbdiknlbmjdpeaaShort
namespace Go.Proofs.Ytbdiknlbmjdpeaa
open Go.RowKit
attribute [local go_sem] Oper.semAt_some


/-- The greatest int. -/
def maxI : Nat := 9223372036854775807
theorem finder_max (gap : Nat) (w : World) :
    Calls Try.prog 42 #[.int .i64 (gap : Int), .int .i64 9223372036854775807] w fun e w' => (∃ gm gf gg, e = .returned (.func (.func 56) #[] #[.pointer (some ⟨gm, 0, none⟩), .pointer (some ⟨gf, 0, none⟩), .pointer (some ⟨gg, 0, none⟩)]) ∧ FEnv gm gf gg maxI gap w') ∧ Below w.heap.size w w' := finder_any gap maxI w
theorem le_maxI {d : Nat} (h : d ≤ 3000000000000000000) : d ≤ maxI := Nat.le_trans h (by decide)
/-- The first of lo + k, lo + k - 1, .., lo + 1 at which f answers. -/
def fdn {α : Type} (f : Nat → Option α) (lo : Nat) : Nat → Option α
  | 0 => none
  | k + 1 => match f (lo + k + 1) with | some x => some x | none => fdn f lo k
theorem fdn_yes {α : Type} {f : Nat → Option α} {lo k : Nat} {x : α} (h : f (lo + k + 1) = some x) : fdn f lo (k + 1) = some x := by simp [fdn, h]
theorem fdn_no {α : Type} {f : Nat → Option α} {lo k : Nat} (h : f (lo + k + 1) = none) : fdn f lo (k + 1) = fdn f lo k := by simp [fdn, h]
/-- What last answers, with t + 1 terms. -/
def lst : Nat → Nat → Nat → Option (List Nat)
  | 0, num, den => fnd 1 maxI 0 num den 1
  | t + 1, num, den => fdn (fnR 1 maxI t num den) (den / num) ((t + 2) * den / num - den / num)

set_option maxHeartbeats 4000000 in
set_option maxRecDepth 100000 in
theorem last_one (num den : Nat) (w : World) (hn : 0 < num) (hd : 0 < den) (h1 : num ≤ 3000000000000000000) (h2 : den ≤ 3000000000000000000) :
    Calls Try.prog 52 #[.agg #[.int .i64 (num : Int), .int .i64 (den : Int)], .int .i64 1] w fun e w' => Fnd (lst 0 num den) w.heap.size e w' ∧ Below w.heap.size w w' := by
  obtain ⟨R, hR⟩ : ∃ R, lst 0 num den = R := ⟨_, rfl⟩
  rw [hR]
  unfold lst at hR
  have hb0 : Below w.heap.size w (w.alloc (.cells #[.int .i64 (num : Int), .int .i64 (den : Int)] 49)) := (Below.refl _ _).alloc (Nat.le_refl _) _
  obtain ⟨p0, p1⟩ := cell_pair w (.int .i64 (num : Int)) (.int .i64 (den : Int)) 49
  have hF := fun gm gf gg w he => find_any 1 maxI gm gf gg (by omega) 0 num den 1 w (by omega) hn hd h1 h2 (by omega) he
  simp only [hR] at hF
  have HF := Lib.hid hF
  have HB0 := Lib.hid hb0
  have P0 := Lib.hid p0
  have P1 := Lib.hid p1
  clear hb0 p0 p1 hF hR
  go_enter Try.func52, Try.ntmps52
  go_wp2_with fail
  refine (finder_max 1 _).mono ?_
  rintro e w1 ⟨⟨gm, gf, gg, rfl, he⟩, hb1⟩
  have q0 := cell_later P0.out hb1
  have q1 := cell_later P1.out hb1
  have hF2 := HF.out gm gf gg w1 he
  have HF2 := Lib.hid hF2
  have HB1 := Lib.hid (HB0.out.trans (hb1.mono HB0.out.size))
  clear he hb1 hF2
  go_wp2_with fail
  refine HF2.out.mono ?_
  rintro e w2 ⟨hf, hb2⟩
  have HB2 := Lib.hid (HB1.out.trans (hb2.mono HB1.out.size))
  have hsz := HB1.out.size
  clear hb2
  cases R with
  | none =>
    have he : e = .returned (.slice none 0 0) := hf
    subst he
    clear hf
    go_wp2
    go_ret
    exact ⟨rfl, HB2.out⟩
  | some L =>
    obtain ⟨g, c, rfl, hr⟩ := hf
    have HR := Lib.hid (hr.mono hsz)
    clear hr
    go_wp2
    go_ret
    exact ⟨⟨g, c, rfl, HR.out⟩, HB2.out⟩

set_option maxHeartbeats 16000000 in
set_option maxRecDepth 100000 in
theorem last_more (t num den : Nat) (w : World) (ht10 : t + 1 ≤ 10) (hn : 0 < num) (hd : 0 < den) (h1 : num ≤ 3000000000000000000) (h2 : fitB maxI (t + 1) den) :
    Calls Try.prog 52 #[.agg #[.int .i64 (num : Int), .int .i64 (den : Int)], .int .i64 ((t + 2 : Nat) : Int)] w fun e w' => Fnd (lst (t + 1) num den) w.heap.size e w' ∧ Below w.heap.size w w' := by
  obtain ⟨f1, f2⟩ := h2
  obtain ⟨R, hR⟩ : ∃ R, lst (t + 1) num den = R := ⟨_, rfl⟩
  rw [hR]
  replace hR : fdn (fnR 1 maxI t num den) (den / num) ((t + 2) * den / num - den / num) = R := hR
  obtain ⟨T, hT⟩ : ∃ T, t + 2 = T := ⟨_, rfl⟩
  rw [hT]
  rw [hT] at f1 f2 hR
  have hlt := fun d => lt_div (num := num) (den := den) (d := d) hn
  have hles := fun d => le_divs (num := num) (x := T * den) (d := d) hn
  have c1 : ((den : Int) / (num : Int)) = ((den / num : Nat) : Int) := by rw [Int.natCast_ediv]
  have dl := Nat.div_le_self den num
  have dl2 := Nat.div_le_self (T * den) num
  have hDH : den / num ≤ T * den / num := Nat.div_le_div_right (Nat.le_mul_of_pos_left den (show 0 < T by omega))
  have hden : den ≤ 3000000000000000000 := Nat.le_trans (Nat.le_mul_of_pos_left den (show 0 < T by omega)) f1
  obtain ⟨D, hD⟩ : ∃ D, den / num = D := ⟨_, rfl⟩
  rw [hD] at hR c1 dl hDH
  simp only [hD] at hlt
  obtain ⟨P, hP⟩ : ∃ P, T * den = P := ⟨_, rfl⟩
  rw [hP] at hR f1 dl2 hDH
  simp only [hP] at hles f2
  have W1 := Lib.hid (wrap_mul hP (Nat.le_trans f1 (by decide)))
  have c2 : ((P : Int) / (num : Int)) = ((P / num : Nat) : Int) := by rw [Int.natCast_ediv]
  obtain ⟨H, hH⟩ : ∃ H, P / num = H := ⟨_, rfl⟩
  rw [hH] at hR c2 dl2 hDH
  simp only [hH] at hles
  have b1 : (D : Int) ≤ 3000000000000000000 := Int.ofNat_le.2 (Nat.le_trans dl hden)
  have b2 : (H : Int) ≤ 3000000000000000000 := Int.ofNat_le.2 (Nat.le_trans dl2 f1)
  have b3 : (P : Int) ≤ 3000000000000000000 := Int.ofNat_le.2 f1
  have n0 : (0 : Int) < (num : Int) := by omega
  have n1 : ¬ (num : Int) = 0 := by omega
  have t1 : ((T : Int) == 1) = false := by rw [beq_eq_false_iff_ne]; omega
  have t2 : (2 : Int) ≤ (T : Int) := by omega
  have t3 : (T : Int) ≤ 11 := by omega
  have hb0 : Below w.heap.size w (w.alloc (.cells #[.int .i64 (num : Int), .int .i64 (den : Int)] 49)) := (Below.refl _ _).alloc (Nat.le_refl _) _
  obtain ⟨p0, p1⟩ := cell_pair w (.int .i64 (num : Int)) (.int .i64 (den : Int)) 49
  have HR := Lib.hid hR
  have HLT := Lib.hid hlt
  have HLE := Lib.hid hles
  have HF2 := Lib.hid f2
  have HT := Lib.hid hT
  have HB0 := Lib.hid hb0
  have P0 := Lib.hid p0
  have P1 := Lib.hid p1
  have C1 := Lib.hid c1
  have C2 := Lib.hid c2
  clear hT hR hlt hles f2 hb0 hD hP hH dl dl2 p0 p1 c1 c2
  go_enter Try.func52, Try.ntmps52
  go_wp2_with fail
  refine (finder_max 1 _).mono ?_
  rintro e w1 ⟨⟨gm, gf, gg, rfl, he⟩, hb1⟩
  have q0 := cell_later P0.out hb1
  have q1 := cell_later P1.out hb1
  have HE := Lib.hid he
  have HB1 := Lib.hid (HB0.out.trans (hb1.mono HB0.out.size))
  have Q0 := Lib.hid q0
  have Q1 := Lib.hid q1
  clear he hb1
  have w1e := W1.out
  have c2 := C2.out
  go_wp2
  clear w1e c2 q0 q1
  go_loopg [6] (H - D) (fun gk s6 wr => s6 = .int .i64 ((D + gk : Nat) : Int) ∧ gk ≤ H - D ∧ fdn (fnR 1 maxI t num den) D gk = R ∧ Below w1.heap.size w1 wr)
  case atStart => exact ⟨by congr 1; omega, Nat.le_refl _, HR.out, Below.refl _ _⟩
  case round =>
    obtain ⟨rfl, hgk, hfs, hb⟩ := hrel
    have HFS := Lib.hid hfs
    have HB := Lib.hid hb
    clear hfs hb
    have q0 := cell_later Q0.out HB.out
    have q1 := cell_later Q1.out HB.out
    obtain ⟨d, hdd⟩ : ∃ d, D + gk = d := ⟨_, rfl⟩
    rw [hdd]
    cases gk with
    | zero =>
      have hle : ¬ (D : Int) < (d : Int) := by omega
      have hfs := HFS.out
      have hfs2 : none = R := hfs
      have HFX := Lib.hid hfs2
      have HB3 := Lib.hid (HB1.out.trans (HB.out.mono HB1.out.size))
      have c1 := C1.out
      clear hfs hfs2 hdd hgk
      go_wp2
      go_ret
      refine ⟨?_, HB3.out⟩
      rw [← HFX.out]
      exact rfl
    | succ k =>
      have hDd : D < d := by omega
      have hlt : (D : Int) < (d : Int) := by omega
      have hdk : d = D + k + 1 := by omega
      have hx1 := (HLT.out d).1 hDd
      have hdH : d ≤ H := by omega
      have hx2 := (HLE.out d).1 hdH
      have hdP : d ≤ P := Nat.le_trans (Nat.le_mul_of_pos_left _ hn) hx2
      have hP3 : P ≤ 3000000000000000000 := f1
      have hd3 : d ≤ 3000000000000000000 := Nat.le_trans hdP hP3
      have hfit := HF2.out d (le_maxI hd3) hdP
      have hE3 := hfit.le
      have hd0 : 0 < d := by omega
      have hE0 : 0 < den * d := Nat.mul_pos hd hd0
      have hM := fun w => minus_any num den d w (Nat.le_of_lt hx1) (Nat.le_trans hx2 (Nat.le_trans hP3 (by decide))) (Nat.le_trans hE3 (by decide)) (Nat.le_trans hd3 (by decide)) (Nat.le_trans h1 (by decide))
      have hX0 : 0 < num * d - den := by omega
      have hX3 : num * d - den ≤ 3000000000000000000 := Nat.le_trans (Nat.sub_le _ _) (Nat.le_trans hx2 hP3)
      have hI := fun w he => find_any 1 maxI gm gf gg (by omega) t (num * d - den) (den * d) (d + 1) w (by omega) hX0 hE0 hX3 hfit (Nat.succ_le_succ hd3) he
      have hfn : fnR 1 maxI t num den d = (fnd 1 maxI t (num * d - den) (den * d) (d + 1)).map (d :: ·) := rfl
      have hE1 := hE0
      obtain ⟨X, hX⟩ : ∃ X, num * d - den = X := ⟨_, rfl⟩
      rw [hX] at hX0
      obtain ⟨E, hE⟩ : ∃ E, den * d = E := ⟨_, rfl⟩
      obtain ⟨T1, hT1⟩ : ∃ T1, t + 1 = T1 := ⟨_, rfl⟩
      rw [hX, hE] at hfn
      rw [hE] at hE1
      simp only [hX, hE] at hM
      simp only [hX, hE, hT1] at hI
      have v1 : (T : Int) - 1 = (T1 : Int) := by have := HT.out; omega
      have v2 : (d : Int) + 1 = ((d + 1 : Nat) : Int) := by omega
      obtain ⟨G, hG⟩ : ∃ G, d + 1 = G := ⟨_, rfl⟩
      rw [hG] at v2 hfn
      simp only [hG] at hI
      have d3 : (d : Int) ≤ 3000000000000000000 := Int.ofNat_le.2 hd3
      obtain ⟨R', hR'⟩ : ∃ R', fnd 1 maxI t X E G = R' := ⟨_, rfl⟩
      have hlen : ∀ L, R' = some L → L.length = t + 1 := fun L h => (fnd_sound 1 maxI t hX0 hE1 (hR'.trans h)).1
      have HLN := Lib.hid hlen
      rw [hR'] at hfn hI
      have HM := Lib.hid hM
      have HI := Lib.hid hI
      have HFN := Lib.hid hfn
      have HDK := Lib.hid hdk
      have HGK := Lib.hid hgk
      have c1 := C1.out
      clear hlen hX0 hE1 hgk hDd hx1 hdH hx2 hdP hfit hE3 hd0 hE0 hP3 hM hI hfn hX hE hG hT1 hR' hdk hdd hX3 hd3
      go_wp2_with fail
      refine (HM.out _).mono ?_
      rintro e w2 ⟨rfl, hb2⟩
      have HB2 := Lib.hid (HB.out.trans (hb2.mono HB.out.size))
      clear hb2 q0 q1
      go_wp2_with fail
      refine (HI.out _ (HE.out.below HB2.out)).mono ?_
      rintro e w3 ⟨hf, hb3⟩
      have HB3 := Lib.hid (HB2.out.trans (hb3.mono HB2.out.size))
      have hsz2 := Nat.le_trans HB1.out.size HB2.out.size
      clear hb3
      cases R' with
      | none =>
        have he : e = .returned (.slice none 0 0) := hf
        subst he
        have hfs := HFS.out
        rw [fdn_no (by rw [← HDK.out, HFN.out]; rfl)] at hfs
        have HFX := Lib.hid hfs
        clear hf hfs
        go_wp2
        go_roundg k
        case rel => exact ⟨by have := HDK.out; congr 1; omega, by have := HGK.out; omega, HFX.out, HB3.out⟩
        case measure => omega
      | some L =>
        obtain ⟨g2, c2, rfl, hrow⟩ := hf
        have hfs := HFS.out
        rw [fdn_yes (x := d :: L) (by rw [← HDK.out, HFN.out]; rfl)] at hfs
        have HFX := Lib.hid hfs
        have hLen := HLN.out L rfl
        obtain ⟨N, hN⟩ : ∃ N, L.length = N := ⟨_, rfl⟩
        rw [hN] at hrow hLen
        have hN11 : N ≤ 11 := by omega
        rw [hN]
        have HN := Lib.hid hN
        obtain ⟨i0, hi9, hz0, hz1, hz2⟩ := info_parts info3
        have hba2 : Below w3.heap.size w3 (w3.alloc (.cells #[.int .i64 (d : Int)] 3)) := (Below.refl w3.heap.size w3).alloc (Nat.le_refl _) (.cells #[.int .i64 (d : Int)] 3)
        have hrow2 := nats_cells (hrow.later hba2)
        clear hfs hLen hN hrow
        go_wp2_with (at_builtin; refine wpList_append_own _ rfl _ _ 22 rfl w3.heap.size 3 i0 (.int .i64 0) 1 8 Try.underlying22 hi9 hz0 hz1 hz2 rfl (by decide) _ _ _ rfl (row_lit w3 (d : Int)) ⟨g2, 0, none⟩ N c2 ((nats L).map (Value.int .i64)) rfl ?c1 hrow2 ?c2 ?c3 ?c4 ?c5 ?_)
        case c1 => rw [List.length_map, nats_len, HN.out, Nat.mul_one]
        case c2 => intro u hu; obtain ⟨y, -, rfl⟩ := List.mem_map.1 hu; rfl
        case c3 => unfold maxLen; omega
        case c4 => omega
        case c5 => simp
        intro v' w4 hown' hgrow hnil
        obtain ⟨g3, cc3, rfl⟩ := own_form hown' (by omega)
        have hszw : w.heap.size ≤ w3.heap.size := Nat.le_trans HB1.out.size HB3.out.size
        have hrow3 : Row w.heap.size (.slice (some ⟨g3, 0, none⟩) (d :: L).length cc3) (nats (d :: L)) w4 := by
          have e : (d :: L).length = 1 + N := by rw [List.length_cons, HN.out]; omega
          rw [e]
          unfold Row
          rw [nats_len, e]
          exact own_mono hown' hszw
        have hb4 : Below w3.heap.size w3 w4 := hba2.grown hgrow (by simp) (fun j e => by
          have : w3.heap.size = j := by simpa [Value.ownBlock] using e
          omega)
        have hb5 : Below w.heap.size w w4 := (HB1.out.trans (HB3.out.mono HB1.out.size)).trans (hb4.mono hszw)
        have HF := Lib.hid (And.intro hrow3 hb5)
        have hfx := HFX.out
        have e1N : (1 : Nat) + N = (d :: L).length := by rw [List.length_cons, HN.out]; omega
        rw [e1N]
        subst hfx
        clear hown' hgrow hnil hrow2 hba2 hszw hrow3 hb4 hb5 e1N
        go_wp2
        go_ret
        exact ⟨⟨g3, cc3, rfl, HF.out.1⟩, HF.out.2⟩
end Go.Proofs.Ytbdiknlbmjdpeaa
