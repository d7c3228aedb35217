/- The walk of the closure that finder returns, of finder. Conditions: the numbers are in range. -/
import Derived.Test.YtbdiknlbmjdpeaaFind1
namespace Go.Proofs.Ytbdiknlbmjdpeaa
open Go.RowKit
attribute [local go_sem] Oper.semAt_some


def BelF (B : Nat) (w W : World) : Prop := W.os = w.os ∧ W.tape = w.tape ∧ W.output = w.output ∧ w.heap.size ≤ W.heap.size ∧ ∀ k, k < B → W.heap[k]? = w.heap[k]?
theorem BelF.to {B : Nat} {w W : World} (h : BelF B w W) : Below B w W := ⟨h.1, h.2.1, h.2.2.1, h.2.2.2.1, h.2.2.2.2⟩
theorem BelF.of {B : Nat} {w W : World} (h : Below B w W) : BelF B w W := ⟨h.os, h.tape, h.output, h.size, h.block⟩
theorem drew_below (w : World) (q : Nat) : Below w.heap.size w (w.drewN q) := below_drewN (Below.refl _ _) q
/-- The closure that finder returns. -/
def fclo (gm gf gg : Nat) : Value := .func (.func 56) #[] #[.pointer (some ⟨gm, 0, none⟩), .pointer (some ⟨gf, 0, none⟩), .pointer (some ⟨gg, 0, none⟩)]
/-- The variables that it captures. -/
structure FEnv (gm gf gg most gap : Nat) (W : World) : Prop where
  m : W.cell? ⟨gm, 0, none⟩ = some (.int .i64 (most : Int))
  f : W.cell? ⟨gf, 0, none⟩ = some (fclo gm gf gg)
  g : W.cell? ⟨gg, 0, none⟩ = some (.int .i64 (gap : Int))
theorem FEnv.below {gm gf gg most gap : Nat} {W W' : World} (h : FEnv gm gf gg most gap W) (hb : Below W.heap.size W W') : FEnv gm gf gg most gap W' :=
  ⟨cell_later h.m hb, cell_later h.f hb, cell_later h.g hb⟩
/-- No number on the way is too great. -/
def fitB (most : Nat) : Nat → Nat → Prop
  | 0, den => den ≤ 3000000000000000000
  | t + 1, den => (t + 2) * den ≤ 3000000000000000000 ∧ ∀ d, d ≤ most → d ≤ (t + 2) * den → fitB most t (den * d)
theorem fitB.le {most : Nat} : ∀ {t den : Nat}, fitB most t den → den ≤ 3000000000000000000
  | 0, _, h => h
  | t + 1, den, h => Nat.le_trans (Nat.le_mul_of_pos_left den (show 0 < t + 2 by omega)) h.1
theorem Fnd.mono {R : Option (List Nat)} {B B' : Nat} {e : Ending} {w : World} (h : Fnd R B e w) (hB : B' ≤ B) : Fnd R B' e w := by
  cases R with
  | none => exact h
  | some L => obtain ⟨g, c, h1, h2⟩ := h; exact ⟨g, c, h1, h2.mono hB⟩
/-- What a round of the search answers. -/
def fnR (gap most t num den d : Nat) : Option (List Nat) := (fnd gap most t (num * d - den) (den * d) (d + gap)).map (d :: ·)
theorem nats_cells {w : World} {B g n c : Nat} {L : List Nat} (h : Row B (.slice (some ⟨g, 0, none⟩) n c) (nats L) w) : ∀ (j : Nat) (u : Value), ((nats L).map (Value.int .i64))[j]? = some u → w.cell? ((⟨g, 0, none⟩ : Addr).add j) = some u := by
  intro j u hu
  have hj : j < (nats L).length := by
    have := (List.getElem?_eq_some_iff.1 hu).1
    simpa using this
  have e : (⟨g, 0, none⟩ : Addr).add j = ⟨g, j, none⟩ := by simp [Addr.add]; exact fun h => h.symm
  have hl : n = (nats L).length := by
    rcases h.2 with ⟨h1, -⟩ | ⟨g', cap, cur, h1, -⟩
    · cases h1
    · cases h1; rfl
  subst hl
  rw [e]
  unfold Row at h
  rw [h.cellAt j (by omega)]
  exact hu

set_option maxHeartbeats 16000000 in
set_option maxRecDepth 100000 in
theorem find_any (gap most gm gf gg : Nat) (hgap : gap ≤ 1) : ∀ (t num den least : Nat) (w : World), t ≤ 10 → 0 < num → 0 < den → num ≤ 3000000000000000000 → fitB most t den → least ≤ 3000000000000000001 → FEnv gm gf gg most gap w →
    Calls Try.prog 56 #[.agg #[.int .i64 (num : Int), .int .i64 (den : Int)], .int .i64 ((t + 1 : Nat) : Int), .int .i64 (least : Int), .pointer (some ⟨gm, 0, none⟩), .pointer (some ⟨gf, 0, none⟩), .pointer (some ⟨gg, 0, none⟩)] w fun e w' => Fnd (fnd gap most t num den least) w.heap.size e w' ∧ Below w.heap.size w w' := by
  intro t
  induction t with
  | zero =>
    intro num den least w ht10 hn hd h1 h2 h3 he
    exact find_one gap most num den least gm _ _ w hn (Nat.le_trans h1 (by decide)) (Nat.le_trans h2.le (by decide)) (Nat.le_trans h3 (by decide)) he.m
  | succ t ih =>
    intro num den least w ht10 hn hd h1 h2 h3 he
    have HIH := Lib.hid ih
    clear ih
    obtain ⟨f1, f2⟩ := h2
    obtain ⟨T, hT⟩ : ∃ T, t + 2 = T := ⟨_, rfl⟩
    have hT2 : t + 1 + 1 = T := hT
    rw [hT2]
    rw [hT] at f1 f2
    have hres : ∃ R, fnd gap most (t + 1) num den least = R := ⟨_, rfl⟩
    obtain ⟨R, hR⟩ := hres
    rw [hR]
    unfold fnd at hR
    rw [hT] at hR
    have hlt := fun d => lt_div (num := num) (den := den) (d := d) hn
    have hles := fun d => le_divs (num := num) (x := T * den) (d := d) hn
    have c1 : ((den : Int) / (num : Int)) = ((den / num : Nat) : Int) := by rw [Int.natCast_ediv]
    have dl := Nat.div_le_self den num
    have dl2 := Nat.div_le_self (T * den) num
    have hden : den ≤ 3000000000000000000 := Nat.le_trans (Nat.le_mul_of_pos_left den (show 0 < T by omega)) f1
    obtain ⟨D, hD⟩ : ∃ D, den / num = D := ⟨_, rfl⟩
    rw [hD] at hR c1 dl
    simp only [hD] at hlt
    obtain ⟨P, hP⟩ : ∃ P, T * den = P := ⟨_, rfl⟩
    rw [hP] at hR f1 dl2
    simp only [hP] at hles f2
    have w1 := wrapI_mul hP (Nat.le_trans f1 (by decide))
    have c2 : ((P : Int) / (num : Int)) = ((P / num : Nat) : Int) := by rw [Int.natCast_ediv]
    obtain ⟨H, hH⟩ : ∃ H, P / num = H := ⟨_, rfl⟩
    rw [hH] at hR c2 dl2
    simp only [hH] at hles
    obtain ⟨hi, hhi⟩ : ∃ hi, min most H = hi := ⟨_, rfl⟩
    obtain ⟨lo, hlo⟩ : ∃ lo, max least (D + 1) = lo := ⟨_, rfl⟩
    rw [hhi, hlo] at hR
    have c3 : min (most : Int) (H : Int) = (hi : Int) := by omega
    have c4 : max (least : Int) ((D : Int) + 1) = (lo : Int) := by omega
    have hi3 : hi ≤ 3000000000000000000 := by omega
    have b1 : (D : Int) ≤ 3000000000000000000 := by omega
    have b2 : (H : Int) ≤ 3000000000000000000 := by omega
    have b3 : (P : Int) ≤ 3000000000000000000 := by omega
    have b4 : (hi : Int) ≤ 3000000000000000000 := by omega
    have b5 : (lo : Int) ≤ 3000000000000000001 := by omega
    have n0 : (0 : Int) < (num : Int) := by omega
    have n1 : ¬ (num : Int) = 0 := by omega
    have t1 : ((T : Int) == 1) = false := by rw [beq_eq_false_iff_ne]; omega
    have t2 : (2 : Int) ≤ (T : Int) := by omega
    have t3 : (T : Int) ≤ 3000000000000000000 := by
      have : T ≤ P := by rw [← hP]; exact Nat.le_mul_of_pos_right _ hd
      omega
    have hb0 : Below w.heap.size w (w.alloc (.cells #[.int .i64 (num : Int), .int .i64 (den : Int)] 49)) := (Below.refl _ _).alloc (Nat.le_refl _) _
    have he1 := he.below hb0
    obtain ⟨p0, p1⟩ := cell_pair w (.int .i64 (num : Int)) (.int .i64 (den : Int)) 49
    have hlod : ∀ d, lo ≤ d → D < d := fun d h => by omega
    have hhid : ∀ d, d ≤ hi → d ≤ most ∧ d ≤ H := fun d h => by omega
    have HR := Lib.hid hR
    have HLT := Lib.hid hlt
    have HLE := Lib.hid hles
    have HF2 := Lib.hid f2
    have HD := Lib.hid hlod
    have HH := Lib.hid hhid
    have HT := Lib.hid hT
    obtain ⟨W1, hW1⟩ : ∃ W1, w.alloc (.cells #[.int .i64 (num : Int), .int .i64 (den : Int)] 49) = W1 := ⟨_, rfl⟩
    have hsz1 : W1.heap.size = w.heap.size + 1 := by rw [← hW1]; simp
    rw [hW1] at he1 p0 p1 hb0
    have HE1 := Lib.hid he1
    have HB0 := Lib.hid hb0
    have HW1 := Lib.hid hW1
    have HSZ := Lib.hid hsz1
    have em := he1.m
    have P0 := Lib.hid p0
    have P1 := Lib.hid p1
    clear hT hT2 hR hlt hles f2 hlod hhid he he1 hb0 hD hP hH hhi hlo f1 dl dl2 h3 hsz1
    go_enter Try.func56, Try.ntmps56
    go_wp2_with fail
    clear hW1
    go_quiet (fail)
    obtain ⟨W2, hW2⟩ : ∃ W2, W1.drewN nq = W2 := ⟨_, rfl⟩
    have hb2 : Below W1.heap.size W1 W2 := hW2 ▸ drew_below W1 nq
    have HB2 := Lib.hid hb2
    rw [hW2]
    have q0 := cell_later P0.out hb2
    have q1 := cell_later P1.out hb2
    clear hW2 hb2 em p0 p1
    go_wp2
    go_loopg [12] (hi + 1 - lo) (fun gk s12 wr => ∃ d : Nat, s12 = .int .i64 (d : Int) ∧ gk = hi + 1 - d ∧ lo ≤ d ∧ d ≤ 3000000000000000001 ∧ fs (fnR gap most t num den) d gk = R ∧ Below W1.heap.size W1 wr)
    case atStart => exact ⟨lo, rfl, rfl, Nat.le_refl _, by omega, HR.out, HB2.out⟩
    case round =>
      obtain ⟨d, rfl, hgk, hlo, hd3, hfs, hb⟩ := hrel
      have HFS := Lib.hid hfs
      have HB := Lib.hid hb
      have HLO := Lib.hid hlo
      clear hfs hb hlo
      by_cases hdh : d ≤ hi
      · obtain ⟨k, rfl⟩ : ∃ k, gk = k + 1 := ⟨gk - 1, by omega⟩
        have HGK := Lib.hid hgk
        have l1 : (d : Int) ≤ (hi : Int) := by omega
        have hDd := HD.out d HLO.out
        have hx1 := (HLT.out d).1 hDd
        obtain ⟨hdm, hdH⟩ := HH.out d hdh
        have hx2 := (HLE.out d).1 hdH
        have hdP : d ≤ P := Nat.le_trans (Nat.le_mul_of_pos_left _ hn) hx2
        have hfit := HF2.out d hdm hdP
        have hE3 := hfit.le
        have hd0 : 0 < d := by omega
        have hE0 : 0 < den * d := Nat.mul_pos hd hd0
        have hP3 : P ≤ 3000000000000000000 := by omega
        have hM := fun w => minus_any num den d w (Nat.le_of_lt hx1) (Nat.le_trans hx2 (Nat.le_trans hP3 (by decide))) (Nat.le_trans hE3 (by decide)) (by omega) (by omega)
        have hI := fun w he => HIH.out (num * d - den) (den * d) (d + gap) w (by omega) (by omega) hE0 (by omega) hfit (by omega) he
        have hfn : fnR gap most t num den d = (fnd gap most t (num * d - den) (den * d) (d + gap)).map (d :: ·) := rfl
        have hX0 : 0 < num * d - den := by omega
        have hE1 := hE0
        obtain ⟨X, hX⟩ : ∃ X, num * d - den = X := ⟨_, rfl⟩
        rw [hX] at hX0
        obtain ⟨E, hE⟩ : ∃ E, den * d = E := ⟨_, rfl⟩
        obtain ⟨G, hG⟩ : ∃ G, d + gap = G := ⟨_, rfl⟩
        obtain ⟨T1, hT1⟩ : ∃ T1, t + 1 = T1 := ⟨_, rfl⟩
        rw [hX, hE, hG] at hfn
        rw [hE] at hE1
        simp only [hX, hE] at hM
        simp only [hX, hE, hG, hT1] at hI
        have v1 : IntKind.i64.wrap ((T : Int) - 1) = (T1 : Int) := by
          have e : (T : Int) - 1 = (T1 : Int) := by have := HT.out; omega
          rw [e]; exact IntWalk.i64_in _ (by have := HT.out; omega)
        have v2 : IntKind.i64.wrap ((d : Int) + (gap : Int)) = (G : Int) := by
          have e : (d : Int) + (gap : Int) = (G : Int) := by omega
          rw [e]; exact IntWalk.i64_in _ (by omega)
        obtain ⟨R', hR'⟩ : ∃ R', fnd gap most t X E G = R' := ⟨_, rfl⟩
        have hlen : ∀ L, R' = some L → L.length = t + 1 := fun L h => (fnd_sound gap most t hX0 hE1 (hR'.trans h)).1
        have HLN := Lib.hid hlen
        rw [hR'] at hfn hI
        have HM := Lib.hid hM
        have HI := Lib.hid hI
        have HFN := Lib.hid hfn
        have e3 := HE1.out.below HB.out
        have s0 := cell_later P0.out HB.out
        have s1 := cell_later P1.out HB.out
        have sf := e3.f
        have sg := e3.g
        have HS0 := Lib.hid (show wr.cell? ⟨gf, 0, none⟩ = some (.func (.func 56) #[] #[.pointer (some ⟨gm, 0, none⟩), .pointer (some ⟨gf, 0, none⟩), .pointer (some ⟨gg, 0, none⟩)]) ∧ wr.cell? ⟨gg, 0, none⟩ = some (.int .i64 (gap : Int)) ∧ wr.cell? ⟨w.heap.size, 0, none⟩ = some (.int .i64 (num : Int)) ∧ wr.cell? ⟨w.heap.size, 1, none⟩ = some (.int .i64 (den : Int)) ∧ BelF W1.heap.size W1 wr from ⟨sf, sg, s0, s1, BelF.of HB.out⟩)
        have HNX := Lib.hid (show ∀ (u u' : World), Below u.heap.size u u' → u.cell? ⟨gf, 0, none⟩ = some (.func (.func 56) #[] #[.pointer (some ⟨gm, 0, none⟩), .pointer (some ⟨gf, 0, none⟩), .pointer (some ⟨gg, 0, none⟩)]) ∧ u.cell? ⟨gg, 0, none⟩ = some (.int .i64 (gap : Int)) ∧ u.cell? ⟨w.heap.size, 0, none⟩ = some (.int .i64 (num : Int)) ∧ u.cell? ⟨w.heap.size, 1, none⟩ = some (.int .i64 (den : Int)) ∧ BelF W1.heap.size W1 u → u'.cell? ⟨gf, 0, none⟩ = some (.func (.func 56) #[] #[.pointer (some ⟨gm, 0, none⟩), .pointer (some ⟨gf, 0, none⟩), .pointer (some ⟨gg, 0, none⟩)]) ∧ u'.cell? ⟨gg, 0, none⟩ = some (.int .i64 (gap : Int)) ∧ u'.cell? ⟨w.heap.size, 0, none⟩ = some (.int .i64 (num : Int)) ∧ u'.cell? ⟨w.heap.size, 1, none⟩ = some (.int .i64 (den : Int)) ∧ BelF W1.heap.size W1 u' from
          fun u u' hb h => ⟨cell_later h.1 hb, cell_later h.2.1 hb, cell_later h.2.2.1 hb, cell_later h.2.2.2.1 hb, BelF.of (h.2.2.2.2.to.trans (hb.mono h.2.2.2.2.to.size))⟩)
        have HEN := Lib.hid (show ∀ (u : World), u.cell? ⟨gf, 0, none⟩ = some (.func (.func 56) #[] #[.pointer (some ⟨gm, 0, none⟩), .pointer (some ⟨gf, 0, none⟩), .pointer (some ⟨gg, 0, none⟩)]) ∧ u.cell? ⟨gg, 0, none⟩ = some (.int .i64 (gap : Int)) ∧ u.cell? ⟨w.heap.size, 0, none⟩ = some (.int .i64 (num : Int)) ∧ u.cell? ⟨w.heap.size, 1, none⟩ = some (.int .i64 (den : Int)) ∧ BelF W1.heap.size W1 u → FEnv gm gf gg most gap u from fun u h => HE1.out.below h.2.2.2.2.to)
        unfold fclo at sf
        clear hlen hX0 hE1 hgk hDd hx1 hdm hdH hx2 hdP hfit hE3 hd0 hE0 hP3 hM hI hfn hX hE hG hT1 hR' e3 s0 s1 sf sg
        cases R' with
        | none =>
          have HI2 := Lib.hid (fun w he => (HI.out w he).mono (fun e w' h => (⟨h.1, h.2⟩ : e = .returned (.slice none 0 0) ∧ Below w.heap.size w w')))
          clear HI
          go_wp2
          go_region_held3 (fun w' => w'.cell? ⟨gf, 0, none⟩ = some (.func (.func 56) #[] #[.pointer (some ⟨gm, 0, none⟩), .pointer (some ⟨gf, 0, none⟩), .pointer (some ⟨gg, 0, none⟩)]) ∧ w'.cell? ⟨gg, 0, none⟩ = some (.int .i64 (gap : Int)) ∧ w'.cell? ⟨w.heap.size, 0, none⟩ = some (.int .i64 (num : Int)) ∧ w'.cell? ⟨w.heap.size, 1, none⟩ = some (.int .i64 (den : Int)) ∧ BelF W1.heap.size W1 w')
            (first | exact HS0.out | exact HNX.out _ _ (by assumption) (by assumption) | exact HNX.out _ _ (drew_below _ _) (by assumption))
            ((first | (go_at_call 54; refine (HM.out _).mono ?_; rintro e wx ⟨rfl, hb⟩) | (go_at_call 56; refine (HI2.out _ (HEN.out _ (by assumption))).mono ?_; rintro e wx ⟨rfl, hb⟩)))
          have hS : wx.cell? ⟨gf, 0, none⟩ = some (.func (.func 56) #[] #[.pointer (some ⟨gm, 0, none⟩), .pointer (some ⟨gf, 0, none⟩), .pointer (some ⟨gg, 0, none⟩)]) ∧ wx.cell? ⟨gg, 0, none⟩ = some (.int .i64 (gap : Int)) ∧ wx.cell? ⟨w.heap.size, 0, none⟩ = some (.int .i64 (num : Int)) ∧ wx.cell? ⟨w.heap.size, 1, none⟩ = some (.int .i64 (den : Int)) ∧ BelF W1.heap.size W1 wx := by assumption
          have HBX := Lib.hid hS.2.2.2.2.to
          have hfs := HFS.out
          rw [fs_no k (by rw [HFN.out]; rfl)] at hfs
          have HFX := Lib.hid hfs
          clear hS hfs hb
          go_wp2
          go_roundg k
          case rel => exact ⟨d + 1, by go_num, by have := HGK.out; omega, by have := HLO.out; omega, by omega, HFX.out, HBX.out⟩
          case measure => omega
        | some L =>
          have HI2 := Lib.hid (fun w he => (HI.out w he).mono (fun e w' h => (by obtain ⟨⟨g, c, h1, h2⟩, h3⟩ := h; exact ⟨g, c, h1, h2, h3⟩ : ∃ g c, e = .returned (.slice (some ⟨g, 0, none⟩) L.length c) ∧ Row w.heap.size (.slice (some ⟨g, 0, none⟩) L.length c) (nats L) w' ∧ Below w.heap.size w w')))
          have hfs := HFS.out
          rw [fs_yes k (show fnR gap most t num den d = some (d :: L) by rw [HFN.out]; rfl)] at hfs
          have HFX := Lib.hid hfs
          have hLen : L.length = t + 1 := HLN.out L rfl
          obtain ⟨N, hN⟩ : ∃ N, L.length = N := ⟨_, rfl⟩
          rw [hN] at HI2
          have HN := Lib.hid hN
          have hN11 : N ≤ 11 := by omega
          clear HI hfs hLen hN
          go_wp2
          go_region_held3 (fun w' => w'.cell? ⟨gf, 0, none⟩ = some (.func (.func 56) #[] #[.pointer (some ⟨gm, 0, none⟩), .pointer (some ⟨gf, 0, none⟩), .pointer (some ⟨gg, 0, none⟩)]) ∧ w'.cell? ⟨gg, 0, none⟩ = some (.int .i64 (gap : Int)) ∧ w'.cell? ⟨w.heap.size, 0, none⟩ = some (.int .i64 (num : Int)) ∧ w'.cell? ⟨w.heap.size, 1, none⟩ = some (.int .i64 (den : Int)) ∧ BelF W1.heap.size W1 w')
            (first | exact HS0.out | exact HNX.out _ _ (by assumption) (by assumption) | exact HNX.out _ _ (drew_below _ _) (by assumption))
            ((first | (go_at_call 54; refine (HM.out _).mono ?_; rintro e wx ⟨rfl, hb⟩) | (go_at_call 56; refine (HI2.out _ (HEN.out _ (by assumption))).mono ?_; rintro e wx ⟨g2, c2, rfl, hrow, hb⟩)))
          have hS : wx.cell? ⟨gf, 0, none⟩ = some (.func (.func 56) #[] #[.pointer (some ⟨gm, 0, none⟩), .pointer (some ⟨gf, 0, none⟩), .pointer (some ⟨gg, 0, none⟩)]) ∧ wx.cell? ⟨gg, 0, none⟩ = some (.int .i64 (gap : Int)) ∧ wx.cell? ⟨w.heap.size, 0, none⟩ = some (.int .i64 (num : Int)) ∧ wx.cell? ⟨w.heap.size, 1, none⟩ = some (.int .i64 (den : Int)) ∧ BelF W1.heap.size W1 wx := by assumption
          have HBX := Lib.hid hS.2.2.2.2.to
          obtain ⟨i0, hi9, hz0, hz1, hz2⟩ := info_parts info3
          have hba := (Below.refl wx.heap.size wx).alloc (Nat.le_refl _) (.cells #[.int .i64 (d : Int)] 3)
          have hrow2 := nats_cells (hrow.later hba)
          have hba2 : Below wx.heap.size wx (wx.alloc (.cells #[.int .i64 (d : Int)] 3)) := hba
          clear hS hb hba hrow
          go_wp2_with (at_builtin; refine wpList_append_own _ rfl _ _ 22 rfl wx.heap.size 3 i0 (.int .i64 0) 1 8 Try.underlying22 hi9 hz0 hz1 hz2 rfl (by decide) _ _ _ rfl (row_lit wx (d : Int)) ⟨g2, 0, none⟩ N c2 ((nats L).map (Value.int .i64)) rfl ?c1 hrow2 ?c2 ?c3 ?c4 ?c5 ?_)
          case c1 => rw [List.length_map, nats_len, HN.out, Nat.mul_one]
          case c2 => intro u hu; obtain ⟨y, -, rfl⟩ := List.mem_map.1 hu; rfl
          case c3 => unfold maxLen; omega
          case c4 => omega
          case c5 => simp
          intro v' w3 hown' hgrow hnil
          obtain ⟨g3, cc3, rfl⟩ := own_form hown' (by omega)
          have hszw : w.heap.size ≤ wx.heap.size := Nat.le_trans HB0.out.size HBX.out.size
          have hrow3 : Row w.heap.size (.slice (some ⟨g3, 0, none⟩) (d :: L).length cc3) (nats (d :: L)) w3 := by
            have e : (d :: L).length = 1 + N := by rw [List.length_cons, HN.out]; omega
            rw [e]
            unfold Row
            rw [nats_len, e]
            exact own_mono hown' hszw
          have hb3 : Below wx.heap.size wx w3 := hba2.grown hgrow (by simp) (fun j e => by
            have : wx.heap.size = j := by simpa [Value.ownBlock] using e
            omega)
          have hb4 : Below w.heap.size w w3 := (HB0.out.trans (HBX.out.mono HB0.out.size)).trans (hb3.mono hszw)
          have HF := Lib.hid (And.intro hrow3 hb4)
          have hfx := HFX.out
          have e1N : (1 : Nat) + N = (d :: L).length := by rw [List.length_cons, HN.out]; omega
          rw [e1N]
          subst hfx
          clear hown' hgrow hnil hrow2 hba2 hszw hrow3 hb3 hb4 e1N
          go_wp2
          go_ret
          exact ⟨⟨g3, cc3, rfl, HF.out.1⟩, HF.out.2⟩
      · have hgk0 : gk = 0 := by omega
        subst hgk0
        have l1 : ¬ (d : Int) ≤ (hi : Int) := by omega
        have hR0 := HFS.out
        rw [fs_zero] at hR0
        subst hR0
        have HF := Lib.hid (HB0.out.trans (HB.out.mono (by rw [HSZ.out]; omega)))
        clear hdh hgk
        go_wp2
        go_ret
        exact ⟨rfl, HF.out⟩
end Go.Proofs.Ytbdiknlbmjdpeaa
