/- The walks of slices.DeleteFunc and MinFunc at pairs. Condition: the slice is the call's own, of at most 1000 pairs. -/
import Derived.Test.YtbdabpmpfciibaaGame2
namespace Go.Proofs.Ytbdabpmpfciibaa
open Go.RowKit
attribute [local go_sem] Oper.semAt_some

set_option maxHeartbeats 8000000 in
set_option maxRecDepth 100000 in
theorem delete_any (B g cp b : Nat) (a c : Int) (S : List (Int × Int)) (w : World) (hS : HB B g S w) (hX : Bx b a c w) (hbg : b ≠ g) (hB : B ≤ w.heap.size) (hl : S.length ≤ 1000) (hcp : S.length ≤ cp) (hcp2 : cp ≤ 1000) :
    Calls Try.prog 100 #[.slice (some ⟨g, 0, none⟩) S.length cp, .func (.func 98) #[] #[.pointer (some ⟨b, 0, none⟩)]] w fun e w' =>
      e = .returned (.slice (some ⟨g, 0, none⟩) (keepL a c S).length cp) ∧ Below B w w' ∧ ∃ Z, HB B g (keepL a c S ++ Z) w' := by
  have HI := Lib.hid (index_any B g cp b a c S w hS hX hl)
  have HS := Lib.hid hS
  have HX := Lib.hid hX
  have HBL := Lib.hid hB
  have HBG := Lib.hid (And.intro hbg hS.le)
  obtain ⟨n, hn⟩ : ∃ n, S.length = n := ⟨_, rfl⟩
  have HN := Lib.hid hn
  rw [hn] at hl hcp HI ⊢
  clear hS hX hn hB hbg
  go_enter Try.func100, Try.ntmps100
  go_wp2_with fail
  refine HI.out.mono ?_
  rintro e w1 ⟨r, rfl, hb1, hr⟩
  have HB1 := Lib.hid (hb1.mono HBL.out)
  have HS1 := Lib.hid (HS.out.later hb1)
  have HX1 := Lib.hid (HX.out.later hb1)
  have HBL1 := Lib.hid (Nat.le_trans HBL.out hb1.size)
  clear hb1 HI
  rcases hr with ⟨rfl, hall⟩ | ⟨k, rfl, hk, hyes, hno⟩
  · have hK : keepL a c S = S := keepL_none (by rw [HN.out]; exact hall)
    have HK := Lib.hid hK
    clear hall hK
    go_wp2
    go_ret
    refine ⟨by rw [HK.out, HN.out]; rfl, HB1.out, [], ?_⟩
    rw [List.append_nil, HK.out]
    exact HS1.out
  · have hkS : k < S.length := by rw [HN.out]; exact hk
    have hkeep : keepL a c (S.take k) = S.take k := keepL_none (fun j hj => by
      rw [List.length_take] at hj
      have hj2 : j < k := by omega
      have := hno j hj2
      unfold nth2 at this ⊢
      rw [List.getD_eq_getElem?_getD, List.getElem?_take_of_lt hj2, ← List.getD_eq_getElem?_getD]
      exact this)
    have hk1 : keepL a c (S.take (k + 1)) = S.take k := by rw [keepL_succ hkS, if_pos hyes, hkeep]
    have hlk : (S.take k).length = k := by rw [List.length_take]; omega
    have hst : (keepL a c (S.take (k + 1))).length = k ∧ HB B g (keepL a c (S.take (k + 1)) ++ S.drop k) w1 := by
      rw [hk1]
      exact ⟨hlk, by rw [List.take_append_drop]; exact HS1.out⟩
    have HST := Lib.hid hst
    have kb : ((k : Int) == -1) = false := by rw [beq_eq_false_iff_ne]; omega
    have k0 : (0 : Int) ≤ (k : Int) := by omega
    have k1 : (k : Int) ≤ 1000 := by omega
    clear hkS hkeep hk1 hlk hst hyes hno HS1 HS HX
    go_wp2
    go_loopg [5, 6, 7] (n - k - 1) (fun gk s5 s6 u7 wr => ∃ (t i : Nat), t + gk = n ∧ s5 = .int .i64 (i : Int) ∧ s6 = .int .i64 (t : Int) ∧ i < t ∧ (keepL a c (S.take t)).length = i ∧ HB B g (keepL a c (S.take t) ++ S.drop i) wr ∧ Bx b a c wr ∧ Below B w wr ∧ B ≤ wr.heap.size)
    case atStart => exact ⟨k + 1, k, by omega, rfl, by go_num, by omega, HST.out.1, HST.out.2, HX1.out, HB1.out, HBL1.out⟩
    case round =>
      obtain ⟨t, i, ht, rfl, rfl, hit, hlen, hs, hx, hb, hBw⟩ := hrel
      have HT := Lib.hid ht
      have HLEN := Lib.hid hlen
      have HS := Lib.hid hs
      have HX := Lib.hid hx
      have HBB := Lib.hid hb
      have HBW := Lib.hid hBw
      clear ht hlen hs hx hb hBw HST HX1 HB1 HBL1
      have i0 : (0 : Int) ≤ (i : Int) := by omega
      by_cases htn : t = n
      · have hge : ¬ (t : Int) < (n : Int) := by omega
        have hge2 : ¬ t < n := by omega
        have hin : i < n := by omega
        have hin2 : i ≤ n := by omega
        have hin3 : (i : Int) ≤ (n : Int) := by omega
        have hicp : i ≤ cp := by omega
        have hicp2 : (i : Int) ≤ (cp : Int) := by omega
        have hfull : keepL a c (S.take t) = keepL a c S := by rw [List.take_of_length_le (by have := HN.out; omega)]
        obtain ⟨W', hclr, hHB, hbl⟩ := run_clear2 (m := n - i) HS.out HLEN.out (by rw [List.length_drop, HN.out]) (by omega)
        rw [hfull] at HLEN hHB
        have HHB := Lib.hid hHB
        have HBL2 := Lib.hid (hbl B w HBG.out.2 HBB.out)
        clear hfull hHB hbl HS
        go_wp2
        go_ret
        exact ⟨by rw [HLEN.out]; rfl, HBL2.out, _, HHB.out⟩
      · have hlt : (t : Int) < (n : Int) := by have := HT.out; omega
        have hlt2 : t < n := by have := HT.out; omega
        have t0 : (0 : Int) ≤ (t : Int) := by omega
        have htS : t < S.length := by rw [HN.out]; exact hlt2
        have hcl : (keepL a c (S.take t) ++ S.drop i).length = n := by rw [List.length_append, List.length_drop, HLEN.out, HN.out]; omega
        have hr := HS.out.range (j := t) (by rw [hcl]; exact hlt2)
        rw [nth2_app_right HLEN.out (by omega) htS] at hr
        have hc0 := hr 0 _ rfl
        have hc1 := hr 1 _ rfl
        rw [Nat.add_zero] at hc0
        have hks := keepL_succ (a := a) (c := c) htS
        have hsm := set_mid HLEN.out (show i < S.length by omega) (nth2 S t)
        have hbox := (Below.refl wr.heap.size wr).alloc (Nat.le_refl _) (.cells #[.int .i64 (nth2 S t).1, .int .i64 (nth2 S t).2] 72)
        have HS2 := Lib.hid (HS.out.later hbox)
        have HX2 := Lib.hid (HX.out.later hbox)
        have HB2 := Lib.hid (HBB.out.trans (hbox.mono HBW.out))
        have HBW2 := Lib.hid (Nat.le_trans HBW.out hbox.size)
        have HC := Lib.hid (closure98_any b a c (nth2 S t).1 (nth2 S t).2 _ HX2.out.c0 HX2.out.c1)
        obtain ⟨f, hf⟩ : ∃ f, tooL a c (nth2 S t) = f := ⟨_, rfl⟩
        have hf' : (decide (a < (nth2 S t).1) || decide (c < (nth2 S t).2)) = f := hf
        rw [hf'] at HC
        rw [hf] at hks
        have HKS := Lib.hid hks
        have HSM := Lib.hid hsm
        have hp : nth2 S t = ((nth2 S t).1, (nth2 S t).2) := rfl
        obtain ⟨x, hx⟩ : ∃ x, (nth2 S t).1 = x := ⟨_, rfl⟩
        obtain ⟨y, hy⟩ : ∃ y, (nth2 S t).2 = y := ⟨_, rfl⟩
        rw [hx] at hc0 HC HS2 HX2 HB2 HBW2
        rw [hy] at hc1 HC HS2 HX2 HB2 HBW2
        rw [hx, hy] at hp
        rw [hp] at HKS HSM
        have HTHERE := Lib.hid (fun W (hw : HB B g (keepL a c (S.take t) ++ S.drop i) W) => HB.there (j := i) hw (by rw [hcl]; omega))
        have HLT := Lib.hid (show i < (keepL a c (S.take t) ++ S.drop i).length by rw [hcl]; omega)
        clear hr hks hsm hbox hf hf' hx hy hp hcl HS HX HBB HBW htn
        go_wp2_with fail
        refine HC.out.mono ?_
        rintro e w2 ⟨rfl, hb2⟩
        have bx0 : w2.cell? ⟨wr.heap.size, 0, none⟩ = some (.int .i64 x) := (hb2.cell (p := ⟨wr.heap.size, 0, none⟩) (by simp)).trans (by simp)
        have bx1 : w2.cell? ⟨wr.heap.size, 1, none⟩ = some (.int .i64 y) := (hb2.cell (p := ⟨wr.heap.size, 1, none⟩) (by simp)).trans (by simp)
        have HS3 := Lib.hid (HS2.out.later hb2)
        have HX3 := Lib.hid (HX2.out.later hb2)
        have HB3 := Lib.hid (HB2.out.trans (hb2.mono HBW2.out))
        have HBW3 := Lib.hid (Nat.le_trans HBW2.out hb2.size)
        clear hb2 HC HS2 HX2 HB2 HBW2
        cases f with
        | true =>
          go_wp2
          go_roundg (n - t - 1)
          case rel => 
            have e := HKS.out
            rw [if_pos trivial] at e
            exact ⟨t + 1, i, by have := HT.out; omega, rfl, by go_num, by omega, by rw [e]; exact HLEN.out, by rw [e]; exact HS3.out, HX3.out, HB3.out, HBW3.out⟩
          case measure => have := HT.out; omega
        | false =>
          have hth := HTHERE.out _ HS3.out
          obtain ⟨v0, hv0⟩ := Option.isSome_iff_exists.1 (hth 0 (by omega)).1
          obtain ⟨v1, hv1⟩ := Option.isSome_iff_exists.1 (hth 1 (by omega)).1
          have hf0 := (hth 0 (by omega)).2
          have hf1 := (hth 1 (by omega)).2
          rw [Nat.add_zero] at hv0 hf0
          clear hth
          go_wp2
          have HS4 := Lib.hid (HS3.out.put HLT.out x y)
          have HX4 := Lib.hid (HX3.out.put HBG.out.1 (i * 2) [.int .i64 x, .int .i64 y])
          have HB4 := Lib.hid (HB.put_below (B := B) HB3.out HBG.out.2 (i * 2) x y)
          have HBW4 := Lib.hid (Nat.le_trans HBW3.out (Nat.le_of_eq (show w2.heap.size = (w2.setCells g (i * 2) [.int .i64 x, .int .i64 y]).heap.size by simp [World.setCells])))
          go_roundg (n - t - 1)
          case rel => 
            have e := HKS.out
            rw [if_neg (by simp)] at e
            have h4 := HS4.out
            rw [HSM.out, ← e] at h4
            exact ⟨t + 1, i + 1, by have := HT.out; omega, by go_num, by go_num, by omega, by rw [e, List.length_append, HLEN.out]; rfl, h4, HX4.out, HB4.out, HBW4.out⟩
          case measure => have := HT.out; omega
end Go.Proofs.Ytbdabpmpfciibaa
