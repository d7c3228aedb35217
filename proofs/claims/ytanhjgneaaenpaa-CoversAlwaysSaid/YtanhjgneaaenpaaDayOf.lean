/- The walks of dayOf and daysOf. Condition: k is one, and the primes are. -/
import Derived.Test.YtanhjgneaaenpaaPrim
import Derived.Test.YtanhjgneaaenpaaRefR
import Derived.Test.YtanhjgneaaenpaaRefT2
namespace Go.Proofs.Ytanhjgneaaenpaa
open Go.RowKit
attribute [local go_sem] Oper.semAt_some

/-- What dayOf returns. -/
def dayP (k p : Nat) : Int × Int := (dayF k p).getD (0, 0)
def dayB (k p : Nat) : Bool := (dayF k p).isSome
theorem day_last {k p : Nat} (h : lastH k p (ordF p) = 0) : dayP k p = (0, 0) ∧ dayB k p = false := by
  unfold dayP dayB dayF
  rw [if_pos h]; exact ⟨rfl, rfl⟩
theorem day_last' {k p : Nat} (h : lastH k p (ordF p) ≠ 0) : dayP k p = (((lastH k p (ordF p) % ordF p : Nat) : Int), ((ordF p : Nat) : Int)) ∧ dayB k p = true := by
  unfold dayP dayB dayF
  rw [if_neg h]; exact ⟨rfl, rfl⟩

set_option maxRecDepth 100000 in
set_option maxHeartbeats 8000000 in
theorem dayOf_any (k p : Nat) (hk : k ≤ 1000000) (h3 : 3 ≤ p) (h300 : p < 300) (h2 : p % 2 = 1) (w : World) :
    Calls Try.prog 74 #[.int .i64 (k : Int), .int .i64 (p : Int)] w fun e w' => e = .returned (.tuple #[.agg #[.int .i64 (dayP k p).1, .int .i64 (dayP k p).2], .bool (dayB k p)]) ∧ Below w.heap.size w w' := by
  obtain ⟨o1, o2, o3, o4⟩ := ord_spec h3 h300 h2
  have HO3 := Lib.hid o3
  have HO4 := Lib.hid o4
  have HD0 := Lib.hid (fun h => day_last (k := k) (p := p) h)
  have HD1 := Lib.hid (fun h => day_last' (k := k) (p := p) h)
  obtain ⟨⟨d1, d2⟩, hd⟩ : ∃ q, dayP k p = q := ⟨_, rfl⟩
  obtain ⟨B, hB⟩ : ∃ B, dayB k p = B := ⟨_, rfl⟩
  rw [hd, hB] at HD0 HD1 ⊢
  obtain ⟨o, ho⟩ : ∃ o, ordF p = o := ⟨_, rfl⟩
  rw [ho] at HD0 HD1 HO3 HO4 o1 o2
  have HPS := Lib.hid (fun t => pow_mod_succ p t)
  have HHP := Lib.hid (fun t => hit_pw k p t)
  have hb0 : Below w.heap.size w (w.alloc (.cells #[.int .i64 0, .int .i64 0] 44)) := (Below.refl _ _).alloc (Nat.le_refl _) _
  obtain ⟨c0, c1⟩ := cell_pair2 w (.int .i64 0) (.int .i64 0) 44
  have f0 : (w.alloc (.cells #[.int .i64 0, .int .i64 0] 44)).frozen? ⟨w.heap.size, 0, none⟩ = false := by
    unfold World.frozen?; rw [heap_alloc_last]; simp
  have f1 : (w.alloc (.cells #[.int .i64 0, .int .i64 0] 44)).frozen? ⟨w.heap.size, 1, none⟩ = false := by
    unfold World.frozen?; rw [heap_alloc_last]; simp
  have HB := Lib.hid hb0
  have p0 : ¬ (p : Int) = 0 := by omega
  have p300 : (p : Int) < 300 := by omega
  have pp0 : (0 : Int) < (p : Int) := by omega
  have kk : (k : Int) ≤ 1000000 := by omega
  clear o3 o4 hd hB ho hb0 h2
  go_enter Try.func74, Try.ntmps74
  go_wp2
  obtain ⟨W0, hW0⟩ : ∃ W0, w.alloc (.cells #[.int .i64 0, .int .i64 0] 44) = W0 := ⟨_, rfl⟩
  rw [hW0] at c0 c1 f0 f1 HB ⊢
  clear hW0
  go_loopg [5, 6, 7, 8] o (fun gk s5 s6 s7 s8 wr => ∃ t : Nat, t + gk = o ∧ s7 = .int .i64 (t : Int) ∧ s8 = .int .i64 ((2 ^ t % p : Nat) : Int) ∧ s6 = .int .i64 ((lastH k p t : Nat) : Int) ∧ s5 = .bool (decide (lastH k p t ≠ 0)) ∧ wr = W0)
  case atStart => exact ⟨0, by omega, rfl, by rw [Nat.pow_zero, Nat.mod_eq_of_lt (by omega)]; rfl, rfl, rfl, rfl⟩
  case round =>
    obtain ⟨t, ht, rfl, rfl, rfl, rfl, hww⟩ := hrel
    have hww2 := hww.symm
    subst hww2
    clear hww
    have HT := Lib.hid ht
    have hle := lastH_le k p t
    have HLH := Lib.hid (show lastH k p (t + 1) = if hit k p (t + 1) = true then t + 1 else lastH k p t from rfl)
    obtain ⟨L, hL⟩ : ∃ L, lastH k p t = L := ⟨_, rfl⟩
    rw [hL] at hle HLH ⊢
    have HL := Lib.hid hL
    have hplt : 2 ^ t % p < p := Nat.mod_lt _ (by omega)
    obtain ⟨q, hq⟩ : ∃ q, 2 ^ t % p = q := ⟨_, rfl⟩
    rw [hq] at hplt ⊢
    have HQ := Lib.hid hq
    have q300 : (q : Int) < 300 := by omega
    have L300 : (L : Int) < 300 := by omega
    have t300 : (t : Int) < 300 := by omega
    clear hL hq
    by_cases hto : t = o
    · have hq1 : q = 1 := by rw [← HQ.out, hto]; exact HO3.out
      have ht0 : ((t : Int) == 0) = false := by simp; omega
      subst hq1
      have hqb : (((1 : Nat) : Int) != 1) = false := rfl
      have HLO := Lib.hid (show lastH k p o = L by rw [← HL.out, hto])
      have t0 : ¬ (t : Int) = 0 := by omega
      have hto' : (t : Int) = (o : Int) := by omega
      have HTO := Lib.hid hto
      clear hto ht hplt
      by_cases hL0 : L = 0
      · obtain ⟨e1, e2⟩ := HD0.out (by rw [HLO.out]; exact hL0)
        obtain ⟨rfl, rfl⟩ : d1 = 0 ∧ d2 = 0 := by simpa using e1
        subst e2
        have hdb : decide (L ≠ 0) = false := by simpa using hL0
        rw [hdb]
        clear e1 hdb hto'
        go_wp2
        exact bodyPost_ret (v := .tuple #[.agg #[.int .i64 0, .int .i64 0], .bool false]) (by simp [results, Try.results74, go_sem, c0, c1]) rfl ⟨rfl, (HB.out.setCell (p := ⟨w.heap.size, 0, none⟩) (Nat.le_refl _) _).setCell (p := ⟨w.heap.size, 1, none⟩) (Nat.le_refl _) _⟩
      · obtain ⟨e1, e2⟩ := HD1.out (by rw [HLO.out]; exact hL0)
        rw [HLO.out, ← HTO.out] at e1
        obtain ⟨rfl, rfl⟩ : ((L % t : Nat) : Int) = d1 ∧ (t : Int) = d2 := by
          have := Prod.mk.inj e1
          exact ⟨this.1.symm, this.2.symm⟩
        subst e2
        have hdb : decide (L ≠ 0) = true := by simpa using hL0
        rw [hdb]
        clear e1 hdb hto'
        go_wp2
        exact bodyPost_ret (v := .tuple #[.agg #[.int .i64 ((L : Int) % (t : Int)), .int .i64 (t : Int)], .bool true]) (by simp [results, Try.results74, go_sem, c0, c1]) rfl ⟨rfl, (HB.out.setCell (p := ⟨w.heap.size, 0, none⟩) (Nat.le_refl _) _).setCell (p := ⟨w.heap.size, 1, none⟩) (Nat.le_refl _) _⟩
    · have hps := HPS.out t
      rw [HQ.out] at hps
      have hhp := HHP.out (t + 1)
      have hplt2 : 2 ^ (t + 1) % p < p := Nat.mod_lt _ (by omega)
      rw [hps] at hhp hplt2
      have e1 : (q : Int) * 2 % (p : Int) = ((q * 2 % p : Nat) : Int) := by rw [Int.natCast_emod, Int.natCast_mul]; rfl
      obtain ⟨Q, hQ⟩ : ∃ Q, q * 2 % p = Q := ⟨_, rfl⟩
      rw [hQ] at hps hhp e1 hplt2
      have e2 : ((k : Int) * (Q : Int) + 1) % (p : Int) = (((k * Q + 1) % p : Nat) : Int) := by rw [Int.natCast_emod, Int.natCast_add, Int.natCast_mul]; rfl
      have kq0 : 0 ≤ (k : Int) * (Q : Int) := Int.mul_nonneg (by omega) (by omega)
      have kq1 : (k : Int) * (Q : Int) ≤ 300000000 := by
        have h1 : k * Q ≤ 1000000 * 300 := Nat.mul_le_mul hk (by omega)
        have h2 : ((k * Q : Nat) : Int) ≤ 300000000 := by omega
        rw [Int.natCast_mul] at h2; exact h2
      have HPS2 := Lib.hid hps
      have HHH := Lib.hid hhp
      have Q300 : (Q : Int) < 300 := by omega
      clear hQ hplt hplt2 hps hhp
      have htlt : t < o := by omega
      have hgo : (t = 0) ∨ ¬ (q = 1) := by
        by_cases h0 : t = 0
        · exact .inl h0
        · exact .inr (by rw [← HQ.out]; exact HO4.out t (by omega) (by omega))
      have HGO := Lib.hid hgo
      clear hto ht hgo
      have hhe : ((((k * Q + 1) % p : Nat) : Int) == 0) = hit k p (t + 1) := by
        rw [HHH.out, Bool.eq_iff_iff]
        simp only [beq_iff_eq, decide_eq_true_eq]
        omega
      have hhe2 : (((k : Int) * (Q : Int) + 1) % (p : Int) == 0) = hit k p (t + 1) := by rw [e2]; exact hhe
      obtain ⟨H, hH⟩ : ∃ H, hit k p (t + 1) = H := ⟨_, rfl⟩
      rw [hH] at hhe2 HLH
      have HE := Lib.hid hhe2
      clear hhe hhe2 hH e2
      by_cases ht0 : t = 0
      · subst ht0
        have hz : (((0 : Nat) : Int) == 0) = true := rfl
        cases H with
        | true =>
          have hx := HE.out
          have HN := Lib.hid (show lastH k p (0 + 1) = 0 + 1 by rw [HLH.out, if_pos rfl])
          have HND := Lib.hid (show decide (lastH k p (0 + 1) ≠ 0) = true by rw [HN.out]; simp)
          go_wp2
          go_roundg (o - 0 - 1)
          case rel => exact ⟨0 + 1, by have := HT.out; omega, by go_num, by rw [HPS2.out, ← e1], by rw [HN.out]; go_num, by rw [HND.out], rfl⟩
          case measure => have := HT.out; omega
        | false =>
          have hx := HE.out
          have HN := Lib.hid (show lastH k p (0 + 1) = L by rw [HLH.out, if_neg (by decide)])
          have HND := Lib.hid (show decide (lastH k p (0 + 1) ≠ 0) = decide (L ≠ 0) by rw [HN.out])
          go_wp2
          go_roundg (o - 0 - 1)
          case rel => exact ⟨0 + 1, by have := HT.out; omega, by go_num, by rw [HPS2.out, ← e1], by rw [HN.out], by rw [HND.out]; try simp, rfl⟩
          case measure => have := HT.out; omega
      · have htb : ((t : Int) == 0) = false := by simp; omega
        have hqn : ¬ q = 1 := HGO.out.resolve_left ht0
        have hqb : ((q : Int) != 1) = true := by simp; omega
        have hti : ¬ (t : Int) = 0 := by omega
        clear hqn ht0
        cases H with
        | true =>
          have hx := HE.out
          have HN := Lib.hid (show lastH k p (t + 1) = t + 1 by rw [HLH.out, if_pos rfl])
          have HND := Lib.hid (show decide (lastH k p (t + 1) ≠ 0) = true by rw [HN.out]; simp)
          go_wp2
          go_roundg (o - t - 1)
          case rel => exact ⟨t + 1, by have := HT.out; omega, by go_num, by rw [HPS2.out, ← e1], by rw [HN.out]; go_num, by rw [HND.out], rfl⟩
          case measure => have := HT.out; omega
        | false =>
          have hx := HE.out
          have HN := Lib.hid (show lastH k p (t + 1) = L by rw [HLH.out, if_neg (by decide)])
          have HND := Lib.hid (show decide (lastH k p (t + 1) ≠ 0) = decide (L ≠ 0) by rw [HN.out])
          go_wp2
          go_roundg (o - t - 1)
          case rel => exact ⟨t + 1, by have := HT.out; omega, by go_num, by rw [HPS2.out, ← e1], by rw [HN.out], by rw [HND.out]; try simp, rfl⟩
          case measure => have := HT.out; omega

/-- The days of some primes. -/
def bigB (k : Nat) (p : Int) : Bool := dayB k p.toNat && decide (60 < (dayP k p.toNat).2)
def dyL (k : Nat) : List Int → List (Int × Int)
  | [] => []
  | p :: t => (if dayB k p.toNat = true then [dayP k p.toNat] else []) ++ dyL k t
theorem dyL_app (k : Nat) : ∀ A B : List Int, dyL k (A ++ B) = dyL k A ++ dyL k B
  | [], B => rfl
  | p :: t, B => by simp only [List.cons_append, dyL]; rw [dyL_app k t B, List.append_assoc]
theorem take_succI {xs : List Int} {j : Nat} (h : j < xs.length) : xs.take (j + 1) = xs.take j ++ [xs.getD j 0] := by
  rw [List.take_add_one, List.getElem?_eq_getElem h]
  simp [List.getD, h]
theorem dyL_take {k : Nat} {xs : List Int} {j : Nat} (h : j < xs.length) : dyL k (xs.take (j + 1)) = dyL k (xs.take j) ++ if dayB k (xs.getD j 0).toNat = true then [dayP k (xs.getD j 0).toNat] else [] := by
  rw [take_succI h, dyL_app]; simp [dyL]
theorem dyL_len (k : Nat) : ∀ xs : List Int, (dyL k xs).length ≤ xs.length
  | [] => Nat.le_refl _
  | p :: t => by have := dyL_len k t; simp only [dyL, List.length_append, List.length_cons]; split <;> simp <;> omega
def bigs (k : Nat) (xs : List Int) (j : Nat) : Bool := (List.range j).any fun i => bigB k (xs.getD i 0)
theorem bigs_succ (k : Nat) (xs : List Int) (j : Nat) : bigs k xs (j + 1) = (bigs k xs j || bigB k (xs.getD j 0)) := by
  unfold bigs
  rw [List.range_succ, List.any_append]; simp
def daysB (k : Nat) (xs : List Int) : Bool := bigs k xs xs.length || decide (10080 < wl (dyL k xs))
theorem dayB_some {k p : Nat} (h : dayB k p = true) : dayF k p = some (dayP k p) := by
  unfold dayB at h
  unfold dayP
  obtain ⟨q, hq⟩ := Option.isSome_iff_exists.1 h
  rw [hq]; rfl
theorem dayB_none {k p : Nat} (h : dayB k p = false) : dayF k p = none := by
  unfold dayB at h
  exact Option.isSome_eq_false_iff.1 h |> Option.isNone_iff_eq_none.1
theorem dyL_mem {k : Nat} {q : Int × Int} : ∀ {xs : List Int}, q ∈ dyL k xs → ∃ p ∈ xs, dayB k p.toNat = true ∧ q = dayP k p.toNat
  | p :: t, h => by
    simp only [dyL] at h
    rcases List.mem_append.1 h with h | h
    · by_cases hb : dayB k p.toNat = true
      · rw [if_pos hb] at h
        exact ⟨p, List.mem_cons_self, hb, by simpa using h⟩
      · rw [if_neg hb] at h; cases h
    · obtain ⟨p', h1, h2⟩ := dyL_mem h
      exact ⟨p', List.mem_cons_of_mem _ h1, h2⟩
theorem memI {xs : List Int} {p : Int} (h : p ∈ xs) : ∃ j, j < xs.length ∧ xs.getD j 0 = p := by
  obtain ⟨j, hj, e⟩ := List.mem_iff_getElem.1 h
  exact ⟨j, hj, by simp [List.getD, hj, e]⟩
theorem dyL_ok {k j : Nat} {xs : List Int} (hp : isPs xs = true) (hj : j ≤ xs.length) (hb : bigs k xs j = false) : Ok (dyL k (xs.take j)) := by
  intro q hq
  obtain ⟨p, h1, h2, rfl⟩ := dyL_mem hq
  obtain ⟨i, hi, rfl⟩ := memI h1
  have hij : i < j := by rw [List.length_take] at hi; omega
  have e : (xs.take j).getD i 0 = xs.getD i 0 := by simp [List.getD, hij]
  rw [e] at h2 ⊢
  obtain ⟨a1, a2, a3⟩ := isPs_at hp (show i < xs.length by omega)
  have hf := day_form (k := k) (by omega) (by omega) (pr_odd (by omega) a3) (dayB_some h2)
  have hbi : bigB k (xs.getD i 0) = false := by
    cases e : bigB k (xs.getD i 0) with
    | false => rfl
    | true =>
      have : bigs k xs j = true := by unfold bigs; rw [List.any_eq_true]; exact ⟨i, List.mem_range.2 hij, e⟩
      rw [this] at hb; cases hb
  unfold bigB at hbi
  rw [h2, Bool.true_and] at hbi
  have := of_decide_eq_false hbi
  exact ⟨hf.2.2.2, by omega, hf.2.1, hf.2.2.1⟩

set_option maxRecDepth 100000 in
set_option maxHeartbeats 8000000 in
theorem daysOf_no (k : Nat) (a : Option Addr) (n c : Nat) (xs : List Int) (w : World) (hk : k ≤ 1000000) (h : Ints w a n xs) (hp : isPs xs = true) (hd : daysB k xs = true) :
    Calls Try.prog 65 #[.int .i64 (k : Int), .slice a n c] w fun e w' => e = .returned (.tuple #[.slice none 0 0, .int .i64 6]) ∧ Below w.heap.size w w' := by
  have H := Lib.hid h
  have HL := Lib.hid h.1
  have HP := Lib.hid hp
  have hn : n ≤ 8 := by have := (isPs_len hp).2; have := h.1; omega
  have HD := Lib.hid hd
  obtain ⟨i0, hi, hz0, hz1, hz2⟩ := info_parts info44
  have HI := Lib.hid (And.intro hi (And.intro hz0 (And.intro hz1 hz2)))
  clear h hp hd hi hz0 hz1 hz2
  go_enter Try.func65, Try.ntmps65
  go_wp2
  go_loopg [6, 13] n (fun gk s6 s13 wr => ∃ j : Nat, j + gk = n ∧ s13 = .int .i64 (j : Int) ∧ Row2 w.heap.size s6 (dyL k (xs.take j)) wr ∧ bigs k xs j = false ∧ Below w.heap.size w wr)
  case atStart => exact ⟨0, by omega, rfl, World.ownsRow_nil _ _ _ _, rfl, Below.refl _ _⟩
  case round =>
    obtain ⟨j, hj, rfl, ho, hbg, hb⟩ := hrel
    have HJ := Lib.hid hj
    have HO := Lib.hid ho
    have HBG := Lib.hid hbg
    have HB := Lib.hid hb
    clear ho hbg hb
    by_cases hjn : j = n
    · have hge : ¬ (j : Int) < (n : Int) := by omega
      have hge2 : ¬ j < n := by omega
      have ho := HO.out
      rw [List.take_of_length_le (by have := HL.out; omega)] at ho
      have hok := dyL_ok HP.out (show j ≤ xs.length by have := HL.out; omega) HBG.out
      rw [List.take_of_length_le (by have := HL.out; omega)] at hok
      have hbn := HBG.out
      rw [hjn, ← HL.out] at hbn
      have hdd := HD.out
      unfold daysB at hdd
      rw [hbn, Bool.false_or] at hdd
      have hlen := dyL_len k xs
      obtain ⟨al, cl, rfl, h1, h2, h3⟩ := ho.prs
      have hW := whole_any al (dyL k xs).length cl (dyL k xs) wr h3 hok (by have := HL.out; omega)
      have hwb := wl_bound hok (by have := HL.out; omega) (dyL k xs).length
      rw [List.take_length] at hwb
      obtain ⟨W, hWl⟩ : ∃ W, wl (dyL k xs) = W := ⟨_, rfl⟩
      rw [hWl] at hW hdd hwb
      have HF := Lib.hid ho
      have HW := Lib.hid hW
      have wb1 : (W : Int) ≤ 604661760000000000 := by omega
      clear hjn hj ho hok hbn hW hWl h1 h2 h3 hwb hlen
      have hdd2 : decide ((10080 : Int) < (W : Int)) = true := by rw [← hdd, decide_eq_decide]; omega
      have hdi :  (10080 : Int) < (W : Int) := by simpa using hdd2
      clear hdd
      go_wp2_with fail
      refine HW.out.mono ?_
      rintro e w1 ⟨rfl, hb1⟩
      have HB1 := Lib.hid (HB.out.trans (hb1.mono HB.out.size))
      have HF1 := Lib.hid (HF.out.later hb1)
      clear hb1 HW
      go_wp2
      go_ret2
      exact ⟨rfl, HB1.out⟩
    · have hlt : (j : Int) < (n : Int) := by omega
      have hlt2 : j < n := by omega
      have j0 : (0 : Int) ≤ (j : Int) := by omega
      obtain ⟨b, off, hab, hbl, hcc⟩ := (H.out.below HB.out).at (by omega)
      subst hab
      have hcj := hcc j hlt2
      obtain ⟨p1, p2, p3⟩ := isPs_at HP.out (show j < xs.length by have := HL.out; omega)
      have hds := dyL_take (k := k) (xs := xs) (j := j) (by have := HL.out; omega)
      have hbs := bigs_succ k xs j
      rw [HBG.out, Bool.false_or] at hbs
      obtain ⟨p, hpp⟩ : ∃ p, xs.getD j 0 = p := ⟨_, rfl⟩
      rw [hpp] at hcj p1 p2 p3 hds hbs
      obtain ⟨P, rfl⟩ := Int.eq_ofNat_of_zero_le (show 0 ≤ p by omega)
      unfold bigB at hbs
      rw [Int.toNat_natCast] at hds p3 hbs
      have hDO := dayOf_any k P hk (by omega) (by omega) (pr_odd (by omega) p3) wr
      obtain ⟨⟨d1, d2⟩, hq⟩ : ∃ q, dayP k P = q := ⟨_, rfl⟩
      obtain ⟨T, hT⟩ : ∃ T, dayB k P = T := ⟨_, rfl⟩
      rw [hq, hT] at hDO hds hbs
      have HDS := Lib.hid hds
      have HBS := Lib.hid hbs
      have HDO := Lib.hid hDO
      have HDB := Lib.hid (show ∀ (hx : bigs k xs (j + 1) = true), daysB k xs = true from fun hx => by
        unfold daysB
        have : bigs k xs xs.length = true := by
          unfold bigs at hx ⊢
          rw [List.any_eq_true] at hx ⊢
          obtain ⟨i, h1, h2⟩ := hx
          have := List.mem_range.1 h1
          exact ⟨i, List.mem_range.2 (by have := HL.out; omega), h2⟩
        rw [this]; rfl)
      clear hjn hj hcc hds hbs hDO hpp hq hT p1 p2 p3
      go_wp2_with fail
      refine HDO.out.mono ?_
      rintro e w1 ⟨rfl, hb1⟩
      have HB1 := Lib.hid ((HB.out.trans (hb1.mono HB.out.size)).alloc (Nat.le_trans HB.out.size hb1.size) (.cells #[.int .i64 d1, .int .i64 d2] 44))
      have hbx : Below w1.heap.size w1 (w1.alloc (.cells #[.int .i64 d1, .int .i64 d2] 44)) := (Below.refl _ _).alloc (Nat.le_refl _) _
      have HO1 := Lib.hid ((HO.out.later hb1).later hbx)
      obtain ⟨e0, e1⟩ := cell_pair2 w1 (.int .i64 d1) (.int .i64 d2) 44
      clear hb1 hbx HDO
      cases T with
      | false =>
        have HN := Lib.hid (show Row2 w.heap.size u6 (dyL k (xs.take (j + 1))) (w1.alloc (.cells #[.int .i64 d1, .int .i64 d2] 44)) by
          rw [HDS.out, if_neg (by decide), List.append_nil]; exact HO1.out)
        have HBS2 := Lib.hid (show bigs k xs (j + 1) = false by rw [HBS.out]; rfl)
        go_wp2
        go_roundg (n - j - 1)
        case rel => exact ⟨j + 1, by have := HJ.out; omega, by go_num, HN.out, HBS2.out, HB1.out⟩
        case measure => have := HJ.out; omega
      | true =>
        by_cases h60 : 60 < d2
        · have hbig : bigs k xs (j + 1) = true := by rw [HBS.out]; simpa using h60
          have hdt := HDB.out hbig
          clear hbig hdt
          go_wp2
          go_ret2
          exact ⟨rfl, HB1.out⟩
        · have HBS2 := Lib.hid (show bigs k xs (j + 1) = false by rw [HBS.out]; simpa using h60)
          have h60i : ¬ (60 : Int) < d2 := h60
          have ho := HO1.out
          unfold Row2 at ho
          have hlen := dyL_len k (xs.take j)
          have hlen2 : (xs.take j).length ≤ j := List.length_take_le _ _
          obtain ⟨N, hN⟩ : ∃ N, (dyL k (xs.take j)).length = N := ⟨_, rfl⟩
          rw [hN] at ho hlen
          have HN := Lib.hid hN
          obtain ⟨W2, hW2⟩ : ∃ W2, w1.alloc (.cells #[.int .i64 d1, .int .i64 d2] 44) = W2 := ⟨_, rfl⟩
          rw [hW2] at ho e0 e1 HB1
          have hsz := HB1.out.size
          have HW2 := Lib.hid hW2
          obtain ⟨hi, hz0, hz1, hz2⟩ := HI.out
          clear h60 hN
          go_wp2_with (at_builtin; refine wpList_append_own _ rfl _ _ 58 rfl w.heap.size 44 i0 (.agg #[.int .i64 0, .int .i64 0]) 2 16 Try.underlying58 hi hz0 hz1 hz2 rfl (by decide) _ _ _ rfl (World.ownsRow.alloc (h := ho) _) ⟨W2.heap.size, 0, none⟩ 1 1 [.int .i64 d1, .int .i64 d2] rfl rfl (cell_two_new _ _ _ _) (by simp [Value.oneCell']) (by unfold maxLen; omega) (by omega) (by simp; omega) ?_; intro v' w5 hown' hgrow _)
          have hb5 : Below w.heap.size w w5 := (HB1.out.alloc hsz _).grown hgrow (by simp; omega) (fun j e => (ho.lt j e).1)
          have HX5 := Lib.hid hb5
          have HN5 := Lib.hid (show Row2 w.heap.size v' (dyL k (xs.take (j + 1))) w5 by
            unfold Row2
            rw [HDS.out, if_pos trivial, List.length_append, HN.out, fl_app]
            exact hown')
          clear hown' hgrow hb5
          go_roundg (n - j - 1)
          case rel => exact ⟨j + 1, by have := HJ.out; omega, by go_num, HN5.out, HBS2.out, HX5.out⟩
          case measure => have := HJ.out; omega

set_option maxRecDepth 100000 in
set_option maxHeartbeats 8000000 in
theorem daysOf_yes (k : Nat) (a : Option Addr) (n c : Nat) (xs : List Int) (w : World) (hk : k ≤ 1000000) (h : Ints w a n xs) (hp : isPs xs = true) (hd : daysB k xs = false) :
    Calls Try.prog 65 #[.int .i64 (k : Int), .slice a n c] w fun e w' => ∃ v, e = .returned (.tuple #[v, .int .i64 0]) ∧ Row2 w.heap.size v (dyL k xs) w' ∧ Below w.heap.size w w' := by
  have H := Lib.hid h
  have HL := Lib.hid h.1
  have HP := Lib.hid hp
  have hn : n ≤ 8 := by have := (isPs_len hp).2; have := h.1; omega
  have HD := Lib.hid hd
  obtain ⟨i0, hi, hz0, hz1, hz2⟩ := info_parts info44
  have HI := Lib.hid (And.intro hi (And.intro hz0 (And.intro hz1 hz2)))
  clear h hp hd hi hz0 hz1 hz2
  go_enter Try.func65, Try.ntmps65
  go_wp2
  go_loopg [6, 13] n (fun gk s6 s13 wr => ∃ j : Nat, j + gk = n ∧ s13 = .int .i64 (j : Int) ∧ Row2 w.heap.size s6 (dyL k (xs.take j)) wr ∧ bigs k xs j = false ∧ Below w.heap.size w wr)
  case atStart => exact ⟨0, by omega, rfl, World.ownsRow_nil _ _ _ _, rfl, Below.refl _ _⟩
  case round =>
    obtain ⟨j, hj, rfl, ho, hbg, hb⟩ := hrel
    have HJ := Lib.hid hj
    have HO := Lib.hid ho
    have HBG := Lib.hid hbg
    have HB := Lib.hid hb
    clear ho hbg hb
    by_cases hjn : j = n
    · have hge : ¬ (j : Int) < (n : Int) := by omega
      have hge2 : ¬ j < n := by omega
      have ho := HO.out
      rw [List.take_of_length_le (by have := HL.out; omega)] at ho
      have hok := dyL_ok HP.out (show j ≤ xs.length by have := HL.out; omega) HBG.out
      rw [List.take_of_length_le (by have := HL.out; omega)] at hok
      have hbn := HBG.out
      rw [hjn, ← HL.out] at hbn
      have hdd := HD.out
      unfold daysB at hdd
      rw [hbn, Bool.false_or] at hdd
      have hlen := dyL_len k xs
      obtain ⟨al, cl, rfl, h1, h2, h3⟩ := ho.prs
      have hW := whole_any al (dyL k xs).length cl (dyL k xs) wr h3 hok (by have := HL.out; omega)
      have hwb := wl_bound hok (by have := HL.out; omega) (dyL k xs).length
      rw [List.take_length] at hwb
      obtain ⟨W, hWl⟩ : ∃ W, wl (dyL k xs) = W := ⟨_, rfl⟩
      rw [hWl] at hW hdd hwb
      have HF := Lib.hid ho
      have HW := Lib.hid hW
      have wb1 : (W : Int) ≤ 604661760000000000 := by omega
      clear hjn hj ho hok hbn hW hWl h1 h2 h3 hwb hlen
      have hdd2 : decide ((10080 : Int) < (W : Int)) = false := by rw [← hdd, decide_eq_decide]; omega
      have hdi : ¬ (10080 : Int) < (W : Int) := by simpa using hdd2
      clear hdd
      go_wp2_with fail
      refine HW.out.mono ?_
      rintro e w1 ⟨rfl, hb1⟩
      have HB1 := Lib.hid (HB.out.trans (hb1.mono HB.out.size))
      have HF1 := Lib.hid (HF.out.later hb1)
      clear hb1 HW
      go_wp2
      go_ret2
      exact ⟨_, rfl, HF1.out, HB1.out⟩
    · have hlt : (j : Int) < (n : Int) := by omega
      have hlt2 : j < n := by omega
      have j0 : (0 : Int) ≤ (j : Int) := by omega
      obtain ⟨b, off, hab, hbl, hcc⟩ := (H.out.below HB.out).at (by omega)
      subst hab
      have hcj := hcc j hlt2
      obtain ⟨p1, p2, p3⟩ := isPs_at HP.out (show j < xs.length by have := HL.out; omega)
      have hds := dyL_take (k := k) (xs := xs) (j := j) (by have := HL.out; omega)
      have hbs := bigs_succ k xs j
      rw [HBG.out, Bool.false_or] at hbs
      obtain ⟨p, hpp⟩ : ∃ p, xs.getD j 0 = p := ⟨_, rfl⟩
      rw [hpp] at hcj p1 p2 p3 hds hbs
      obtain ⟨P, rfl⟩ := Int.eq_ofNat_of_zero_le (show 0 ≤ p by omega)
      unfold bigB at hbs
      rw [Int.toNat_natCast] at hds p3 hbs
      have hDO := dayOf_any k P hk (by omega) (by omega) (pr_odd (by omega) p3) wr
      obtain ⟨⟨d1, d2⟩, hq⟩ : ∃ q, dayP k P = q := ⟨_, rfl⟩
      obtain ⟨T, hT⟩ : ∃ T, dayB k P = T := ⟨_, rfl⟩
      rw [hq, hT] at hDO hds hbs
      have HDS := Lib.hid hds
      have HBS := Lib.hid hbs
      have HDO := Lib.hid hDO
      have HDB := Lib.hid (show ∀ (hx : bigs k xs (j + 1) = true), daysB k xs = true from fun hx => by
        unfold daysB
        have : bigs k xs xs.length = true := by
          unfold bigs at hx ⊢
          rw [List.any_eq_true] at hx ⊢
          obtain ⟨i, h1, h2⟩ := hx
          have := List.mem_range.1 h1
          exact ⟨i, List.mem_range.2 (by have := HL.out; omega), h2⟩
        rw [this]; rfl)
      clear hjn hj hcc hds hbs hDO hpp hq hT p1 p2 p3
      go_wp2_with fail
      refine HDO.out.mono ?_
      rintro e w1 ⟨rfl, hb1⟩
      have HB1 := Lib.hid ((HB.out.trans (hb1.mono HB.out.size)).alloc (Nat.le_trans HB.out.size hb1.size) (.cells #[.int .i64 d1, .int .i64 d2] 44))
      have hbx : Below w1.heap.size w1 (w1.alloc (.cells #[.int .i64 d1, .int .i64 d2] 44)) := (Below.refl _ _).alloc (Nat.le_refl _) _
      have HO1 := Lib.hid ((HO.out.later hb1).later hbx)
      obtain ⟨e0, e1⟩ := cell_pair2 w1 (.int .i64 d1) (.int .i64 d2) 44
      clear hb1 hbx HDO
      cases T with
      | false =>
        have HN := Lib.hid (show Row2 w.heap.size u6 (dyL k (xs.take (j + 1))) (w1.alloc (.cells #[.int .i64 d1, .int .i64 d2] 44)) by
          rw [HDS.out, if_neg (by decide), List.append_nil]; exact HO1.out)
        have HBS2 := Lib.hid (show bigs k xs (j + 1) = false by rw [HBS.out]; rfl)
        go_wp2
        go_roundg (n - j - 1)
        case rel => exact ⟨j + 1, by have := HJ.out; omega, by go_num, HN.out, HBS2.out, HB1.out⟩
        case measure => have := HJ.out; omega
      | true =>
        by_cases h60 : 60 < d2
        · have hbig : bigs k xs (j + 1) = true := by rw [HBS.out]; simpa using h60
          have hdt := HDB.out hbig
          rw [HD.out] at hdt; cases hdt
        · have HBS2 := Lib.hid (show bigs k xs (j + 1) = false by rw [HBS.out]; simpa using h60)
          have h60i : ¬ (60 : Int) < d2 := h60
          have ho := HO1.out
          unfold Row2 at ho
          have hlen := dyL_len k (xs.take j)
          have hlen2 : (xs.take j).length ≤ j := List.length_take_le _ _
          obtain ⟨N, hN⟩ : ∃ N, (dyL k (xs.take j)).length = N := ⟨_, rfl⟩
          rw [hN] at ho hlen
          have HN := Lib.hid hN
          obtain ⟨W2, hW2⟩ : ∃ W2, w1.alloc (.cells #[.int .i64 d1, .int .i64 d2] 44) = W2 := ⟨_, rfl⟩
          rw [hW2] at ho e0 e1 HB1
          have hsz := HB1.out.size
          have HW2 := Lib.hid hW2
          obtain ⟨hi, hz0, hz1, hz2⟩ := HI.out
          clear h60 hN
          go_wp2_with (at_builtin; refine wpList_append_own _ rfl _ _ 58 rfl w.heap.size 44 i0 (.agg #[.int .i64 0, .int .i64 0]) 2 16 Try.underlying58 hi hz0 hz1 hz2 rfl (by decide) _ _ _ rfl (World.ownsRow.alloc (h := ho) _) ⟨W2.heap.size, 0, none⟩ 1 1 [.int .i64 d1, .int .i64 d2] rfl rfl (cell_two_new _ _ _ _) (by simp [Value.oneCell']) (by unfold maxLen; omega) (by omega) (by simp; omega) ?_; intro v' w5 hown' hgrow _)
          have hb5 : Below w.heap.size w w5 := (HB1.out.alloc hsz _).grown hgrow (by simp; omega) (fun j e => (ho.lt j e).1)
          have HX5 := Lib.hid hb5
          have HN5 := Lib.hid (show Row2 w.heap.size v' (dyL k (xs.take (j + 1))) w5 by
            unfold Row2
            rw [HDS.out, if_pos trivial, List.length_append, HN.out, fl_app]
            exact hown')
          clear hown' hgrow hb5
          go_roundg (n - j - 1)
          case rel => exact ⟨j + 1, by have := HJ.out; omega, by go_num, HN5.out, HBS2.out, HX5.out⟩
          case measure => have := HJ.out; omega
end Go.Proofs.Ytanhjgneaaenpaa
