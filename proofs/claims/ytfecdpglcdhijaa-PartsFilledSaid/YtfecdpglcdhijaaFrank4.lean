/- The walks of parts.Franklin and of the reference's Franklin. Condition: the slice lies in memory; for the reference's it holds a partition that is not empty. -/
import Derived.Test.YtfecdpglcdhijaaFrank3
namespace Go.Proofs.Ytfecdpglcdhijaa
open Go.RowKit
attribute [local go_sem] Oper.semAt_some

theorem moveL_len {xs : List Int} (hP : isP xs = true) (hn : 1 ≤ xs.length) (hF : failL xs = false) : 1 ≤ (moveL xs).length ∧ (moveL xs).length ≤ 31 := by
  have hn2 := isP_len hP
  unfold moveL
  split
  · rename_i h
    rw [List.length_map, List.length_range]
    refine ⟨?_, by omega⟩
    by_cases h1 : xs.length = 1
    · exfalso
      obtain ⟨f1, f2⟩ := frontL_bd (xs := xs) (by omega)
      have hl := isP_at hP (j := xs.length - 1) (by omega)
      have hl2 : lastL xs = xs.getD (xs.length - 1) 0 := rfl
      have e1 : frontL xs = xs.length := by omega
      have e2 : lastL xs = frontL xs := by omega
      unfold failL at hF
      rw [e1, e2, e1] at hF
      simp at hF
    · omega
  · rw [List.length_map, List.length_range]
    omega

theorem move_fail (ad : Addr) (n c : Nat) (xs : List Int) (w : World) (h : Ints w (some ad) n xs) (hP : isP xs = true) (hn1 : 1 ≤ n) (hcn : n ≤ c) (hF : failL xs = true) :
    Calls Try.prog 69 #[.slice (some ad) n c] w fun e w' => e = .returned (.slice none 0 0) ∧ Below w.heap.size w w' :=
  (move_any ad n c xs w h hP hn1 hcn).mono fun e w' h1 => by
    rcases h1 with ⟨-, h2, h3⟩ | ⟨h2, -⟩
    · exact ⟨h2, h3⟩
    · rw [hF] at h2; cases h2
theorem move_ok (ad : Addr) (n c : Nat) (xs M : List Int) (L : Nat) (w : World) (h : Ints w (some ad) n xs) (hP : isP xs = true) (hn1 : 1 ≤ n) (hcn : n ≤ c) (hF : failL xs = false) (hM : moveL xs = M) (hL : M.length = L) :
    Calls Try.prog 69 #[.slice (some ad) n c] w fun e w' => ∃ g co, e = .returned (.slice (some ⟨g, 0, none⟩) L co) ∧ w'.ownsRow w.heap.size 3 1 (.slice (some ⟨g, 0, none⟩) L co) L (M.map (Value.int .i64)) ∧ Below w.heap.size w w' :=
  (move_any ad n c xs w h hP hn1 hcn).mono fun e w' h1 => by
    subst hM hL
    rcases h1 with ⟨h2, -⟩ | ⟨-, h3⟩
    · rw [hF] at h2; cases h2
    · exact h3

set_option maxHeartbeats 1000000 in
theorem Franklin_no (a : Option Addr) (n c : Nat) (xs : List Int) (w : World) (h : Ints w a n xs) (hn : n ≤ 4611686018427387904) (hB : (decide (0 < n) && (diffL xs && isP xs)) = false) :
    Calls Try.prog 34 #[.slice a n c] w fun e w' => e = .returned (.tuple #[.slice none 0 0, .int .i64 2]) ∧ Below w.heap.size w w' := by
  have H := Lib.hid h
  have HB := Lib.hid hB
  clear h hB
  go_enter Try.func34, Try.ntmps34
  go_wp2_with (first | (go_at_call 68; refine (movable_any a n c xs _ H.out hn).mono ?_; rintro e w' ⟨rfl, q, rfl⟩; rw [HB.out]) | go_in)
  go_ret2
  exact ⟨rfl, below_drewN (Below.refl w.heap.size w) q⟩

set_option maxHeartbeats 1000000 in
theorem Franklin_yes (a : Option Addr) (n c : Nat) (xs : List Int) (w : World) (h : Ints w a n xs) (hn : 1 ≤ n) (hD : diffL xs = true) (hP : isP xs = true) (hcn : n ≤ c) :
    Calls Try.prog 34 #[.slice a n c] w fun e w' => (failL xs = true ∧ e = .returned (.tuple #[.slice none 0 0, .int .i64 5]) ∧ Below w.heap.size w w') ∨
      (failL xs = false ∧ ∃ g co, e = .returned (.tuple #[.slice (some ⟨g, 0, none⟩) (moveL xs).length co, .int .i64 0]) ∧ w'.ownsRow w.heap.size 3 1 (.slice (some ⟨g, 0, none⟩) (moveL xs).length co) (moveL xs).length ((moveL xs).map (Value.int .i64)) ∧ Below w.heap.size w w') := by
  have hl := h.1
  have hn2 := isP_len hP
  have hn3 : n ≤ 30 := by omega
  have hlen := fun hF => moveL_len hP (by omega) hF
  have HLEN := Lib.hid hlen
  obtain ⟨b, off, rfl, -, -⟩ := h.at (by omega)
  have hB : (decide (0 < n) && (diffL xs && isP xs)) = true := by rw [hD, hP]; simp; omega
  have H := Lib.hid h
  have HB := Lib.hid hB
  have HP := Lib.hid hP
  obtain ⟨M, hM⟩ : ∃ M, moveL xs = M := ⟨_, rfl⟩
  obtain ⟨L, hL⟩ : ∃ L, M.length = L := ⟨_, rfl⟩
  rw [hM, hL] at HLEN
  have hbq : ∀ q, Below w.heap.size w (w.drewN q) := fun q => below_drewN (Below.refl w.heap.size w) q
  have HBQ := Lib.hid hbq
  have HM := Lib.hid hM
  have HL := Lib.hid hL
  rw [hM, hL]
  clear h hB hP hD hlen hM hL hbq hl
  by_cases hF : failL xs = true
  · have HF := Lib.hid hF
    clear hF
    go_enter Try.func34, Try.ntmps34
    go_wp2_with (first | (go_at_call 68; refine (movable_any _ n c xs _ H.out (by omega)).mono ?_; rintro e w' ⟨rfl, q, rfl⟩; rw [HB.out]) | (go_at_call 69; refine (move_fail _ n c xs _ (H.out.below (HBQ.out _)) HP.out hn hcn HF.out).mono ?_; rintro e w1 ⟨rfl, hb1⟩; have HB1 := Lib.hid hb1; clear hb1) | go_in)
    go_ret2
    exact .inl ⟨HF.out, rfl, (HBQ.out q).trans HB1.out⟩
  · have hF' : failL xs = false := by simpa using hF
    have HF := Lib.hid hF'
    obtain ⟨l1, l2⟩ := HLEN.out hF'
    have hLz : ((L : Int) == 0) = false := by simp; omega
    clear hF hF'
    go_enter Try.func34, Try.ntmps34
    go_wp2_with (first | (go_at_call 68; refine (movable_any _ n c xs _ H.out (by omega)).mono ?_; rintro e w' ⟨rfl, q, rfl⟩; rw [HB.out]) | (go_at_call 69; refine (move_ok _ n c xs M L _ (H.out.below (HBQ.out _)) HP.out hn hcn HF.out HM.out HL.out).mono ?_; rintro e w1 ⟨g, co, rfl, ho, hb1⟩; have HO := Lib.hid (And.intro ho hb1); clear hb1 ho) | go_in)
    go_ret2
    exact .inr ⟨HF.out, g, co, rfl, HO.out.1, (HBQ.out q).trans HO.out.2⟩
theorem own_cap {W : World} {B : Nat} {e : TypeId} {g n c : Nat} {xs : List Value} (h : W.ownsRow B e 1 (.slice (some ⟨g, 0, none⟩) n c) n xs) : n ≤ c ∧ c ≤ maxLen := by
  rcases h.2 with ⟨h1, _⟩ | ⟨g', cap, cur, h1, h2, h3, h4, h5, _⟩
  · cases h1
  · cases h1
    exact ⟨h4, h5⟩

set_option maxHeartbeats 4000000 in
set_option maxRecDepth 100000 in
theorem refFranklin_any (a : Option Addr) (n c : Nat) (xs : List Int) (w : World) (h : Ints w a n xs) (hP : isP xs = true) (hn1 : 1 ≤ n) :
    Calls Try.prog 36 #[.slice a n c] w fun e w' => (failL xs = true ∧ e = .returned (.tuple #[.slice none 0 0, .int .i64 5]) ∧ Below w.heap.size w w') ∨
      (failL xs = false ∧ ∃ g co, e = .returned (.tuple #[.slice (some ⟨g, 0, none⟩) (moveL xs).length co, .int .i64 0]) ∧ w'.ownsRow w.heap.size 3 1 (.slice (some ⟨g, 0, none⟩) (moveL xs).length co) (moveL xs).length ((moveL xs).map (Value.int .i64)) ∧ Below w.heap.size w w') := by
  have hl := h.1
  have hn := isP_len hP
  rw [hl] at hn
  obtain ⟨f1, f2⟩ := frontL_bd (xs := xs) (by omega)
  rw [hl] at f2
  obtain ⟨b, off, had, hb, hc⟩ := h.at (by omega)
  cases had
  have hlast := hc (n - 1) (by omega)
  have hls := isP_at hP (j := n - 1) (by omega)
  have hlast2 : xs.getD (n - 1) 0 = lastL xs := by unfold lastL; rw [hl]
  rw [hlast2] at hlast hls
  have hfl := fail_cases hl
  have hidx : (n : Int) - 1 = ((n - 1 : Nat) : Int) := by omega
  have hbd : ∀ j, j < n → 1 ≤ xs.getD j 0 ∧ xs.getD j 0 ≤ 30 := fun j hj => isP_at hP (by rw [hl]; exact hj)
  have hmv : moveL xs = if lastL xs ≤ frontL xs then (List.range (n - 1)).map fun j => xs.getD j 0 + if (j : Int) < lastL xs then 1 else 0
      else (List.range (n + 1)).map fun j => if j = n then (frontL xs : Int) else xs.getD j 0 - if j < frontL xs then 1 else 0 := by unfold moveL; rw [hl]
  obtain ⟨t, ht⟩ : ∃ t, frontL xs = t := ⟨_, rfl⟩
  obtain ⟨S, hS⟩ : ∃ S : Nat, lastL xs = (S : Int) := ⟨(lastL xs).toNat, by omega⟩
  rw [ht] at f1 f2 hfl hmv
  rw [hS] at hlast hls hfl hmv
  have hcl : ∀ Q j u, (xs.map (Value.int .i64))[j]? = some u → ((w.drewN Q).alloc (.cells #[] 3)).cell? ((⟨b, off, none⟩ : Addr).add j) = some u := by
    intro Q j u hj
    have hjn : j < n := by
      have := (List.getElem?_eq_some_iff.1 hj).1
      rw [List.length_map, hl] at this
      exact this
    rw [Addr.add_lit]
    refine cell_alloc_k _ ?_
    rw [World.cell?_drewN, hc j hjn]
    have e : (xs.map (Value.int .i64))[j]? = some (Value.int .i64 (xs.getD j 0)) := by
      have : j < xs.length := by rw [hl]; exact hjn
      simp [List.getD, this]
    rw [e] at hj
    exact hj
  have HC := Lib.hid hc
  have HCL := Lib.hid hcl
  have HT := Lib.hid ht
  have HBD := Lib.hid hbd
  have HMV := Lib.hid hmv
  have HFL := Lib.hid hfl
  have HL := Lib.hid hl
  have n0 : (0 : Int) ≤ (n : Int) - 1 := by omega
  have n2 : (n : Int) - 1 < (n : Int) := by omega
  have n3 : n - 1 < n := by omega
  have S1 : 1 ≤ S := by omega
  have S2 : S ≤ 30 := by omega
  obtain ⟨i3, j1, j2, j3, j4⟩ := info_parts info3
  have J := Lib.hid (And.intro j1 (And.intro j2 (And.intro j3 j4)))
  have hto : ((n : Int) - 1).toNat = n - 1 := by omega
  clear h hP hl hc ht hS hbd hmv hfl hlast2 hcl hls j1 j2 j3 j4
  go_enter Try.func36, Try.ntmps36
  go_wp2
  go_loopg [6] n (fun gk i wr => ∃ (k q : Nat), k + gk = n + 1 ∧ 1 ≤ k ∧ i = .int .i64 (k : Int) ∧ frontL xs = frontFrom k (xs.getD (k - 1) 0) (xs.drop k) ∧ wr = w.drewN q)
  case atStart => exact ⟨1, 0, by omega, by omega, rfl, rfl, rfl⟩
  case round =>
    obtain ⟨k, q, hk, hk1, rfl, hp, rfl⟩ := hrel
    have HP := Lib.hid hp
    clear hp
    by_cases hend : n ≤ k ∨ ¬ xs.getD k 0 = xs.getD (k - 1) 0 - 1
    · have hkt : k = t := by
        rw [← HT.out, HP.out]
        rcases hend with h | h
        · rw [front_end (by have := HL.out; omega)]
        · by_cases h2 : n ≤ k
          · rw [front_end (by have := HL.out; omega)]
          · rw [front_step (by have := HL.out; omega), if_neg h]
      subst hkt
      have HKN := Lib.hid hend
      clear hend HP
      by_cases hkn : n ≤ k
      case' pos =>
        have hge : ¬ (k : Int) < (n : Int) := by omega
        have hge2 : ¬ k < n := by omega
        go_wp2_with fail
        go_quiet (fail)
      case' neg =>
        have hlt : (k : Int) < (n : Int) := by omega
        have hlt2 : k < n := by omega
        have hne := HKN.out.resolve_left hkn
        obtain ⟨j, hj⟩ : ∃ j, k = j + 1 := ⟨k - 1, by omega⟩
        have hck := HC.out k hlt2
        have hcj := HC.out j (by omega)
        obtain ⟨x1, x2⟩ := HBD.out k hlt2
        obtain ⟨y1, y2⟩ := HBD.out j (by omega)
        have hidk : (k : Int) - 1 = (j : Int) := by omega
        have hj2 : j < n := by omega
        have hj3 : (j : Int) < (n : Int) := by omega
        have hj0 : (0 : Int) ≤ (j : Int) := by omega
        rw [hj, Nat.add_sub_cancel, ← hj] at hne
        obtain ⟨x, hx⟩ : ∃ x, xs.getD k 0 = x := ⟨_, rfl⟩
        obtain ⟨y, hy⟩ : ∃ y, xs.getD j 0 = y := ⟨_, rfl⟩
        rw [hx] at hck hne x1 x2
        rw [hy] at hcj hne y1 y2
        have hxy : (x == y - 1) = false := by simp [hne]
        have k0 : (0 : Int) ≤ (k : Int) := by omega
        clear hx hy hj hne
        go_wp2_with fail
        go_quiet (fail)
      all_goals
        (try rw [World.drewN_drewN])
        clear hkn
        have hbq : Below w.heap.size w (w.drewN (q + nq)) := below_drewN (Below.refl w.heap.size w) _
        have HBQ := Lib.hid hbq
        have hnews := HCL.out (q + nq)
        have hml : (xs.map (Value.int .i64)).length = n * 1 := by rw [List.length_map, HL.out, Nat.mul_one]
        obtain ⟨j1, j2, j3, j4⟩ := J.out
        clear hbq
        by_cases hfail : k = n ∧ (S = k ∨ S = k + 1)
        · obtain ⟨htn, hor⟩ := hfail
          have hF : failL xs = true := by
            rw [HFL.out, Bool.and_eq_true, Bool.or_eq_true]
            refine ⟨by simpa using htn, ?_⟩
            rcases hor with h | h
            · left; simp; omega
            · right; simp; omega
          have HF := Lib.hid hF
          have g1 : ((k : Int) == (n : Int)) = true := by simp; omega
          clear hF
          rcases hor with h | h
          case' inl =>
            have g2 : ((S : Int) == (k : Int)) = true := by simp; omega
            have g4 : (S : Int) ≤ (k : Int) := by omega
            clear h htn
          case' inr =>
            have g3 : ((S : Int) == (k : Int) + 1) = true := by simp; omega
            have g4 : ¬ (S : Int) ≤ (k : Int) := by omega
            clear h htn
          all_goals
            go_wp2_with (at_builtin; refine wpList_append_own _ rfl _ _ 33 rfl w.heap.size 3 i3 (.int .i64 0) 1 8 Try.underlying33 j1 j2 j3 j4 rfl (by decide) _ _ _ rfl (World.ownsRow_made _ #[] 0 (Nat.le_refl _) (Nat.zero_le _) rfl) ⟨b, off, none⟩ n c (xs.map (Value.int .i64)) rfl hml hnews (ints_oneCell .i64 xs) (by unfold maxLen; omega) (by omega) (by simp) ?_; intro v3 w3 ho3 hg3 _; have hb3 : Below w.heap.size w w3 := (HBQ.out.alloc (by rw [World.heap_drewN]; exact Nat.le_refl _) _).grown hg3 (by simp) (fun k' e => by cases e; exact Nat.le_refl _); have HB3 := Lib.hid hb3; clear ho3 hg3 hb3)
            go_ret2
            exact .inl ⟨HF.out, rfl, HB3.out⟩
        · have hF : failL xs = false := by
            rw [HFL.out, Bool.and_eq_false_iff]
            by_cases h : k = n
            · right
              rw [Bool.or_eq_false_iff]
              constructor <;> (simp; omega)
            · left; simpa using h
          have HF := Lib.hid hF
          clear hF
          by_cases hst : S ≤ k
          · have hSn : S ≤ n - 1 := by omega
            have hle : (S : Int) ≤ (k : Int) := by omega
            have hmv := HMV.out
            rw [if_pos hle] at hmv
            have HM2 := Lib.hid hmv
            clear hmv
            by_cases htn : k = n
            case' pos =>
              have g1 : ((k : Int) == (n : Int)) = true := by simp; omega
              have g2 : ((S : Int) == (k : Int)) = false := by simp; omega
              clear hfail htn
            case' neg =>
              have g1 : ((k : Int) == (n : Int)) = false := by simp; omega
              clear hfail htn
            all_goals
              go_wp2_with (at_builtin; refine wpList_append_own _ rfl _ _ 33 rfl w.heap.size 3 i3 (.int .i64 0) 1 8 Try.underlying33 j1 j2 j3 j4 rfl (by decide) _ _ _ rfl (World.ownsRow_made _ #[] 0 (Nat.le_refl _) (Nat.zero_le _) rfl) ⟨b, off, none⟩ n c (xs.map (Value.int .i64)) rfl hml hnews (ints_oneCell .i64 xs) (by unfold maxLen; omega) (by omega) (by simp) ?_; intro v3 w3 ho3 hg3 _; have hb3 : Below w.heap.size w w3 := (HBQ.out.alloc (by rw [World.heap_drewN]; exact Nat.le_refl _) _).grown hg3 (by simp) (fun k' e => by cases e; exact Nat.le_refl _); replace ho3 : w3.ownsRow w.heap.size 3 1 v3 n (xs.map (Value.int .i64)) := (by simpa using ho3); obtain ⟨g3, c3, rfl⟩ := own_form ho3 (by omega); obtain ⟨hcap, -⟩ := own_cap ho3; have HR := Lib.hid (RS.of ho3 hb3); clear ho3 hg3 hb3)
              have hr0 : RS g3 (n - 1) c3 (fun j => xs.getD j 0 + if j < 0 then 1 else 0) w w3 := (HR.out.cut (by omega)).congr fun j hj => by simp
              have HR0 := Lib.hid hr0
              clear hr0 HR
              go_loopg [54] S (fun gk i wr => ∃ (m : Nat), m + gk = S ∧ i = .int .i64 (m : Int) ∧ RS g3 (n - 1) c3 (fun j => xs.getD j 0 + if j < m then 1 else 0) w wr)
              case atStart => exact ⟨0, by omega, rfl, HR0.out⟩
              case round =>
                obtain ⟨m, hm, rfl, hr⟩ := hrel
                have HR := Lib.hid hr
                clear hr HR0
                by_cases hkS : m = S
                · have hge : ¬ (m : Int) < (S : Int) := by omega
                  have hge2 : ¬ m < S := by omega
                  have HK := Lib.hid hkS
                  clear hkS
                  go_wp2
                  go_ret2
                  refine .inr ⟨HF.out, g3, c3, ?_, ?_, HR.out.b⟩
                  · rw [HM2.out, List.length_map, List.length_range]; rfl
                  · have := (HR.out.congr (f' := fun j => xs.getD j 0 + if (j : Int) < (S : Int) then 1 else 0) fun j _ => by
                      rw [HK.out]
                      by_cases h : j < S
                      · rw [if_pos h, if_pos (by omega)]
                      · rw [if_neg h, if_neg (by omega)]).own
                    rw [HM2.out, List.length_map, List.length_range, List.map_map]
                    exact this
                · have hlt : (m : Int) < (S : Int) := by omega
                  have hlt2 : m < S := by omega
                  have hkm : m < n - 1 := by omega
                  have hkm2 : (m : Int) < ((n - 1 : Nat) : Int) := by omega
                  have hcg := HR.out.cell hkm
                  have hfg := HR.out.frozen m
                  rw [if_neg (by omega), Int.add_zero] at hcg
                  obtain ⟨x1, x2⟩ := HBD.out m (by omega)
                  obtain ⟨x, hx⟩ : ∃ x, xs.getD m 0 = x := ⟨_, rfl⟩
                  rw [hx] at hcg x1 x2
                  have HX := Lib.hid hx
                  have m0 : (0 : Int) ≤ (m : Int) := by omega
                  clear hx hkS
                  go_wp2
                  go_roundg (gk - 1)
                  case rel =>
                    refine ⟨m + 1, by omega, by go_num, (HR.out.put m (x + 1)).congr fun j _ => ?_⟩
                    by_cases hj : j = m
                    · subst hj
                      rw [if_pos rfl, if_pos (by omega), HX.out]
                    · rw [if_neg hj]
                      by_cases hj2 : j < m
                      · rw [if_pos hj2, if_pos (by omega)]
                      · rw [if_neg hj2, if_neg (by omega)]
                  case measure => omega
          · have hgt : ¬ (S : Int) ≤ (k : Int) := by omega
            have hmv := HMV.out
            rw [if_neg hgt] at hmv
            have HM2 := Lib.hid hmv
            clear hmv
            by_cases htn : k = n
            case' pos =>
              have g1 : ((k : Int) == (n : Int)) = true := by simp; omega
              have g3 : ((S : Int) == (k : Int) + 1) = false := by simp; omega
              clear hfail htn
            case' neg =>
              have g1 : ((k : Int) == (n : Int)) = false := by simp; omega
              clear hfail htn
            all_goals
              go_wp2_with (at_builtin; refine wpList_append_own _ rfl _ _ 33 rfl w.heap.size 3 i3 (.int .i64 0) 1 8 Try.underlying33 j1 j2 j3 j4 rfl (by decide) _ _ _ rfl (World.ownsRow_made _ #[] 0 (Nat.le_refl _) (Nat.zero_le _) rfl) ⟨b, off, none⟩ n c (xs.map (Value.int .i64)) rfl hml hnews (ints_oneCell .i64 xs) (by unfold maxLen; omega) (by omega) (by simp) ?_; intro v3 w3 ho3 hg3 _; have hb3 : Below w.heap.size w w3 := (HBQ.out.alloc (by rw [World.heap_drewN]; exact Nat.le_refl _) _).grown hg3 (by simp) (fun k' e => by cases e; exact Nat.le_refl _); replace ho3 : w3.ownsRow w.heap.size 3 1 v3 n (xs.map (Value.int .i64)) := (by simpa using ho3); obtain ⟨g3, c3, rfl⟩ := own_form ho3 (by omega); obtain ⟨hcap, -⟩ := own_cap ho3; have HR := Lib.hid (RS.of ho3 hb3); clear ho3 hg3 hb3)
              have hr0 : RS g3 n c3 (fun j => xs.getD j 0 - if j < 0 then 1 else 0) w w3 := HR.out.congr fun j hj => by simp
              have HR0 := Lib.hid hr0
              clear hr0 HR
              go_loopg [75] k (fun gk i wr => ∃ (m : Nat), m + gk = k ∧ i = .int .i64 (m : Int) ∧ RS g3 n c3 (fun j => xs.getD j 0 - if j < m then 1 else 0) w wr)
              case atStart => exact ⟨0, by omega, rfl, HR0.out⟩
              case round =>
                obtain ⟨m, hm, rfl, hr⟩ := hrel
                have HR := Lib.hid hr
                clear hr HR0
                by_cases hkS : m = k
                · have hge : ¬ (m : Int) < (k : Int) := by omega
                  have hge2 : ¬ m < k := by omega
                  have HK := Lib.hid hkS
                  have ho := HR.out.own
                  have hsz := HR.out.b.size
                  clear hkS
                  go_wp2_with (at_builtin; refine wpList_append_own _ rfl _ _ 33 rfl w.heap.size 3 i3 (.int .i64 0) 1 8 Try.underlying33 j1 j2 j3 j4 rfl (by decide) _ _ _ rfl (ho.alloc _) ⟨wr.heap.size, 0, none⟩ 1 1 [.int .i64 (k : Int)] rfl rfl (cell_one_new _ _ _) (by simp [Value.oneCell']) (by unfold maxLen; omega) (by omega) (by simp; omega) ?_; intro v4 w4 ho4 hg4 _; obtain ⟨g4, c4, rfl⟩ := own_form ho4 (by omega))
                  have hb4 : Below w.heap.size w w4 := (HR.out.b.alloc hsz _).grown hg4 (by simp; omega) (fun k e => (ho.lt k e).1)
                  go_ret2
                  refine .inr ⟨HF.out, g4, c4, ?_, ?_, hb4⟩
                  · rw [HM2.out, List.length_map, List.length_range]; rfl
                  · rw [HM2.out, List.length_map, List.length_range, List.map_map, List.range_succ, List.map_append]
                    have e : (List.range n).map ((Value.int IntKind.i64) ∘ fun j => if j = n then (k : Int) else xs.getD j 0 - if j < k then 1 else 0) = (List.range n).map fun j => Value.int IntKind.i64 (xs.getD j 0 - if j < m then 1 else 0) := by
                      apply List.map_congr_left
                      intro j hj
                      have := List.mem_range.1 hj
                      simp only [Function.comp]
                      rw [if_neg (by omega), HK.out]
                    rw [e]
                    simpa using ho4
                · have hlt : (m : Int) < (k : Int) := by omega
                  have hlt2 : m < k := by omega
                  have hkm : m < n := by omega
                  have hkm2 : (m : Int) < (n : Int) := by omega
                  have hcg := HR.out.cell hkm
                  have hfg := HR.out.frozen m
                  rw [if_neg (by omega), Int.sub_zero] at hcg
                  obtain ⟨x1, x2⟩ := HBD.out m (by omega)
                  obtain ⟨x, hx⟩ : ∃ x, xs.getD m 0 = x := ⟨_, rfl⟩
                  rw [hx] at hcg x1 x2
                  have HX := Lib.hid hx
                  have m0 : (0 : Int) ≤ (m : Int) := by omega
                  clear hx hkS
                  go_wp2
                  go_roundg (gk - 1)
                  case rel =>
                    refine ⟨m + 1, by omega, by go_num, (HR.out.put m (x - 1)).congr fun j _ => ?_⟩
                    by_cases hj : j = m
                    · subst hj
                      rw [if_pos rfl, if_pos (by omega), HX.out]
                    · rw [if_neg hj]
                      by_cases hj2 : j < m
                      · rw [if_pos hj2, if_pos (by omega)]
                      · rw [if_neg hj2, if_neg (by omega)]
                  case measure => omega
    · have hlt2 : k < n := by omega
      have hlt : (k : Int) < (n : Int) := by omega
      have heq : xs.getD k 0 = xs.getD (k - 1) 0 - 1 := by
        by_cases h : xs.getD k 0 = xs.getD (k - 1) 0 - 1
        · exact h
        · exact absurd (.inr h) hend
      obtain ⟨j, hj⟩ : ∃ j, k = j + 1 := ⟨k - 1, by omega⟩
      have hck := HC.out k hlt2
      have hcj := HC.out j (by omega)
      obtain ⟨x1, x2⟩ := HBD.out k hlt2
      obtain ⟨y1, y2⟩ := HBD.out j (by omega)
      have hidk : (k : Int) - 1 = (j : Int) := by omega
      have hj2 : j < n := by omega
      have hj3 : (j : Int) < (n : Int) := by omega
      have hj0 : (0 : Int) ≤ (j : Int) := by omega
      have hp := HP.out
      rw [front_step (xs := xs) (k := k) (by have := HL.out; omega), if_pos heq] at hp
      rw [hj, Nat.add_sub_cancel, ← hj] at heq
      obtain ⟨x, hx⟩ : ∃ x, xs.getD k 0 = x := ⟨_, rfl⟩
      obtain ⟨y, hy⟩ : ∃ y, xs.getD j 0 = y := ⟨_, rfl⟩
      rw [hx] at hck hp heq x1 x2
      rw [hy] at hcj heq y1 y2
      have hxy : (x == y - 1) = true := by simp [heq]
      have HX := Lib.hid hx
      have HP2 := Lib.hid hp
      have k0 : (0 : Int) ≤ (k : Int) := by omega
      clear hx hy hj heq hp HP hend
      go_wp2_with fail
      go_quiet (fail)
      go_wp2
      go_roundg (n - k)
      case rel =>
        refine ⟨k + 1, q + nq, by omega, by omega, by go_num, ?_, by first | rfl | exact World.drewN_drewN _ _ _⟩
        rw [HP2.out, Nat.add_sub_cancel, HX.out]
      case measure => omega
end Go.Proofs.Ytfecdpglcdhijaa
