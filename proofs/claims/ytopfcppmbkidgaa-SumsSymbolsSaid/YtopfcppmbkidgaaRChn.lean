/- The walk of the reference's Chain. Condition: the symbol is one. -/
import Derived.Test.YtopfcppmbkidgaaOwnS
import Derived.Test.YtopfcppmbkidgaaRecK
namespace Go.Proofs.Ytopfcppmbkidgaa
open Go.RowKit Go.Shelf
attribute [local go_sem] Oper.semAt_some

set_option maxHeartbeats 16000000 in
set_option maxRecDepth 100000 in
theorem chainR_any (a n : Int) (N : Nat) (hN : isLen a n N) (w : World) :
    Calls Try.prog 41 #[.int .i64 a, .int .i64 n] w fun e w' => (∃ v', e = .returned v' ∧ Row5 w.heap.size v' (cstp a n N) w') ∧ Below w.heap.size w w' := by
  have HN := Lib.hid hN
  clear hN
  go_enter Try.func41, Try.ntmps41
  go_wp2
  go_loopg [0, 1, 5, 6, 7] N (fun gk s0 s1 s5 s6 s7 wr => ∃ k : Nat, k + gk = N ∧ s0 = .int .i64 (st a n k).a ∧ s1 = .int .i64 (st a n k).n ∧ s6 = .int .i64 (st a n k).s ∧ Row5 w.heap.size s5 (cstp a n k) wr ∧ Below w.heap.size w wr)
  case atStart => exact ⟨0, by omega, rfl, rfl, rfl, Row5.nil _ _, Below.refl _ _⟩
  case round =>
    obtain ⟨k, hk, rfl, rfl, rfl, hr, hb⟩ := hrel
    have HK := Lib.hid hk
    have HRR := Lib.hid hr
    have HBB := Lib.hid hb
    have hg := HN.out.2.2.2 k (by omega)
    obtain ⟨⟨tk, ta, tn, ts⟩, ht⟩ : ∃ t, st a n k = t := ⟨_, rfl⟩
    have hfin : k < N → ¬ fin (st a n k) := HN.out.2.1 k
    have hend : k = N → fin (st a n k) := fun e => by rw [e]; exact HN.out.2.2.1
    have hnx : st a n (k + 1) = nx (st a n k) := rfl
    rw [ht] at hg hfin hend hnx ⊢
    obtain ⟨a0, a1, n0, n1, od, hs⟩ := hg
    simp only at a0 a1 n0 n1 od hs ⊢
    unfold fin at hfin hend
    simp only at hfin hend
    clear ht
    have hne : ¬ tn = 0 := by omega
    by_cases hlt : k < N
    · have hf := hfin hlt
      have z1 : ¬ ta = 0 := fun e => hf (.inl e)
      have z2 : ¬ tn = 1 := fun e => hf (.inr e)
      have z1b : (ta != 0) = true := by simpa using z1
      have z2b : (tn != 1) = true := by simpa using z2
      have sw : wrap64 (-ts) = -ts := IntWalk.wrap64_in _ (by omega)
      have HNX := Lib.hid hnx
      have HLT := Lib.hid hlt
      have HHS := Lib.hid hs
      obtain ⟨i0, hi, hz0, hz1, hz2⟩ := info_parts info55
      have hr2 := hr
      unfold Row5 at hr2
      have hsz := HBB.out.size
      have hln : (cstp a n k).length ≤ 5000000000 := by rw [cstp_len]; have := HN.out.1; omega
      obtain ⟨Q, hQ⟩ : ∃ Q, (cstp a n k).length = Q := ⟨_, rfl⟩
      rw [hQ] at hr2 hln
      have HQ := Lib.hid hQ
      clear hnx hs hk hr hb hQ hfin hend hf hlt
      by_cases hneg : ta < 0
      · have HV0 := Lib.hid (tmod_res2 (n := ta) (m := tn) (by omega))
        have b1 := Int.tmod_lt_of_pos ta (show 0 < tn by omega)
        have b2 := Int.lt_tmod_of_pos ta (show 0 < tn by omega)
        obtain ⟨r, hr1⟩ : ∃ r, ta.tmod tn = r := ⟨_, rfl⟩
        have HV := Lib.hid (show (r + tn) % tn = ta % tn by rw [← hr1]; exact HV0.out)
        rw [hr1] at b1 b2
        obtain ⟨v, hv⟩ : ∃ v, ta % tn = v := ⟨_, rfl⟩
        have hm2 : (r + tn) % tn = v := by rw [HV.out, hv]
        have hm3 : r % tn = v := by rw [← hm2, Int.add_emod_right]
        have hm1 : (r + tn).tmod tn = v := by rw [Int.tmod_eq_emod_of_nonneg (by omega), hm2]
        have hw : wrap64 (r + tn) = r + tn := IntWalk.wrap64_in _ (by omega)
        have HST := Lib.hid (show st a n (k + 1) = ⟨0, v, tn, ts⟩ by rw [HNX.out]; unfold nx; simp only; rw [if_pos (by omega), hv])
        clear hv
        go_wp2_with (at_builtin; refine wpList_append_own _ rfl _ _ 43 rfl (w.heap.size) 55 i0 (.agg #[.int .i64 0, .int .i64 0, .int .i64 0, .int .i64 0]) 4 32 Try.underlying43 hi hz0 hz1 hz2 rfl (by decide) _ _ _ rfl (World.ownsRow.alloc (h := hr2) _) ⟨wr.heap.size, 0, none⟩ 1 1 (fl4 [⟨0, v, tn, ts⟩]) rfl rfl (by have := cell4_new wr ⟨0, v, tn, ts⟩ 55; simpa using this) (fl4_one _) (by unfold maxLen; omega) (by omega) (by simp; omega) ?_; intro v' w3 hown' hgrow _)
        have hb3 : Below w.heap.size w w3 := (HBB.out.alloc hsz _).grown hgrow (by first | (simp; done) | (simp; omega)) (fun j e => (World.ownsRow.lt hr2 j e).1)
        have hrow : Row5 w.heap.size v' (cstp a n (k + 1)) w3 := by
          unfold Row5
          rw [cstp_succ, HST.out, List.length_append, HQ.out, fl4_app]
          exact hown'
        have HF := Lib.hid (And.intro hrow hb3)
        clear hown' hgrow hrow hb3 hr2
        go_wp2
        go_roundg (gk - 1)
        case rel => exact ⟨k + 1, by have := HK.out; have := HLT.out; omega, by rw [HST.out], by rw [HST.out], by rw [HST.out], HF.out.1, HF.out.2⟩
        case measure => have := HK.out; have := HLT.out; omega
      · by_cases hge : tn ≤ ta
        · have r0 : 0 ≤ ta % tn := Int.emod_nonneg ta hne
          have r1 : ta % tn < tn := Int.emod_lt_of_pos ta (by omega)
          obtain ⟨v, hv⟩ : ∃ v, ta % tn = v := ⟨_, rfl⟩
          have hr1 : ta.tmod tn = v := by rw [Int.tmod_eq_emod_of_nonneg (by omega), hv]
          rw [hv] at r0 r1
          have hm3 : v % tn = v := Int.emod_eq_of_lt r0 r1
          have hm2 : (v + tn) % tn = v := by rw [Int.add_emod_right, hm3]
          have hm1 : (v + tn).tmod tn = v := by rw [Int.tmod_eq_emod_of_nonneg (by omega), hm2]
          have hw : wrap64 (v + tn) = v + tn := IntWalk.wrap64_in _ (by omega)
          have HST := Lib.hid (show st a n (k + 1) = ⟨0, v, tn, ts⟩ by rw [HNX.out]; unfold nx; simp only; rw [if_pos (by omega), hv])
          clear r0 r1
          go_wp2_with (at_builtin; refine wpList_append_own _ rfl _ _ 43 rfl (w.heap.size) 55 i0 (.agg #[.int .i64 0, .int .i64 0, .int .i64 0, .int .i64 0]) 4 32 Try.underlying43 hi hz0 hz1 hz2 rfl (by decide) _ _ _ rfl (World.ownsRow.alloc (h := hr2) _) ⟨wr.heap.size, 0, none⟩ 1 1 (fl4 [⟨0, v, tn, ts⟩]) rfl rfl (by have := cell4_new wr ⟨0, v, tn, ts⟩ 55; simpa using this) (fl4_one _) (by unfold maxLen; omega) (by omega) (by simp; omega) ?_; intro v' w3 hown' hgrow _)
          have hb3 : Below w.heap.size w w3 := (HBB.out.alloc hsz _).grown hgrow (by first | (simp; done) | (simp; omega)) (fun j e => (World.ownsRow.lt hr2 j e).1)
          have hrow : Row5 w.heap.size v' (cstp a n (k + 1)) w3 := by
            unfold Row5
            rw [cstp_succ, HST.out, List.length_append, HQ.out, fl4_app]
            exact hown'
          have HF := Lib.hid (And.intro hrow hb3)
          clear hown' hgrow hrow hb3 hr2
          go_wp2
          go_roundg (gk - 1)
          case rel => exact ⟨k + 1, by have := HK.out; have := HLT.out; omega, by rw [HST.out], by rw [HST.out], by rw [HST.out], HF.out.1, HF.out.2⟩
          case measure => have := HK.out; have := HLT.out; omega
        · have hp : 0 < ta := by omega
          by_cases hev : ta % 2 = 0
          · by_cases m3 : tn % 8 = 3
            · have b0 : (ta % 2 == 0) = true := by simp [hev]
              have b1 : (tn % 8 == 3) = true := by simp [m3]
              obtain ⟨v, hv⟩ : ∃ v, ta / 2 = v := ⟨_, rfl⟩
              have hv2 : ta.tdiv 2 = v := by rw [Int.tdiv_eq_ediv_of_nonneg (by omega), hv]
              have HST := Lib.hid (show st a n (k + 1) = ⟨1, v, tn, -ts⟩ by rw [HNX.out]; unfold nx; simp only; rw [if_neg (by omega), if_pos hev, hv]; congr 1; unfold two; rw [if_pos (.inl m3)]; omega)
              skip
              go_wp2_with (at_builtin; refine wpList_append_own _ rfl _ _ 43 rfl (w.heap.size) 55 i0 (.agg #[.int .i64 0, .int .i64 0, .int .i64 0, .int .i64 0]) 4 32 Try.underlying43 hi hz0 hz1 hz2 rfl (by decide) _ _ _ rfl (World.ownsRow.alloc (h := hr2) _) ⟨wr.heap.size, 0, none⟩ 1 1 (fl4 [⟨1, v, tn, -ts⟩]) rfl rfl (by have := cell4_new wr ⟨1, v, tn, -ts⟩ 55; simpa using this) (fl4_one _) (by unfold maxLen; omega) (by omega) (by simp; omega) ?_; intro v' w3 hown' hgrow _)
              have hb3 : Below w.heap.size w w3 := (HBB.out.alloc hsz _).grown hgrow (by first | (simp; done) | (simp; omega)) (fun j e => (World.ownsRow.lt hr2 j e).1)
              have hrow : Row5 w.heap.size v' (cstp a n (k + 1)) w3 := by
                unfold Row5
                rw [cstp_succ, HST.out, List.length_append, HQ.out, fl4_app]
                exact hown'
              have HF := Lib.hid (And.intro hrow hb3)
              clear hown' hgrow hrow hb3 hr2
              go_wp2
              go_roundg (gk - 1)
              case rel => exact ⟨k + 1, by have := HK.out; have := HLT.out; omega, by rw [HST.out], by rw [HST.out], by rw [HST.out], HF.out.1, HF.out.2⟩
              case measure => have := HK.out; have := HLT.out; omega
            · by_cases m5 : tn % 8 = 5
              · have b0 : (ta % 2 == 0) = true := by simp [hev]
                have b1 : (tn % 8 == 3) = false := by simp [m3]
                have b2 : (tn % 8 == 5) = true := by simp [m5]
                obtain ⟨v, hv⟩ : ∃ v, ta / 2 = v := ⟨_, rfl⟩
                have hv2 : ta.tdiv 2 = v := by rw [Int.tdiv_eq_ediv_of_nonneg (by omega), hv]
                have HST := Lib.hid (show st a n (k + 1) = ⟨1, v, tn, -ts⟩ by rw [HNX.out]; unfold nx; simp only; rw [if_neg (by omega), if_pos hev, hv]; congr 1; unfold two; rw [if_pos (.inr m5)]; omega)
                skip
                go_wp2_with (at_builtin; refine wpList_append_own _ rfl _ _ 43 rfl (w.heap.size) 55 i0 (.agg #[.int .i64 0, .int .i64 0, .int .i64 0, .int .i64 0]) 4 32 Try.underlying43 hi hz0 hz1 hz2 rfl (by decide) _ _ _ rfl (World.ownsRow.alloc (h := hr2) _) ⟨wr.heap.size, 0, none⟩ 1 1 (fl4 [⟨1, v, tn, -ts⟩]) rfl rfl (by have := cell4_new wr ⟨1, v, tn, -ts⟩ 55; simpa using this) (fl4_one _) (by unfold maxLen; omega) (by omega) (by simp; omega) ?_; intro v' w3 hown' hgrow _)
                have hb3 : Below w.heap.size w w3 := (HBB.out.alloc hsz _).grown hgrow (by first | (simp; done) | (simp; omega)) (fun j e => (World.ownsRow.lt hr2 j e).1)
                have hrow : Row5 w.heap.size v' (cstp a n (k + 1)) w3 := by
                  unfold Row5
                  rw [cstp_succ, HST.out, List.length_append, HQ.out, fl4_app]
                  exact hown'
                have HF := Lib.hid (And.intro hrow hb3)
                clear hown' hgrow hrow hb3 hr2
                go_wp2
                go_roundg (gk - 1)
                case rel => exact ⟨k + 1, by have := HK.out; have := HLT.out; omega, by rw [HST.out], by rw [HST.out], by rw [HST.out], HF.out.1, HF.out.2⟩
                case measure => have := HK.out; have := HLT.out; omega
              · have b0 : (ta % 2 == 0) = true := by simp [hev]
                have b1 : (tn % 8 == 3) = false := by simp [m3]
                have b2 : (tn % 8 == 5) = false := by simp [m5]
                obtain ⟨v, hv⟩ : ∃ v, ta / 2 = v := ⟨_, rfl⟩
                have hv2 : ta.tdiv 2 = v := by rw [Int.tdiv_eq_ediv_of_nonneg (by omega), hv]
                have HST := Lib.hid (show st a n (k + 1) = ⟨1, v, tn, ts⟩ by rw [HNX.out]; unfold nx; simp only; rw [if_neg (by omega), if_pos hev, hv]; congr 1; unfold two; rw [if_neg (by omega)]; omega)
                skip
                go_wp2_with (at_builtin; refine wpList_append_own _ rfl _ _ 43 rfl (w.heap.size) 55 i0 (.agg #[.int .i64 0, .int .i64 0, .int .i64 0, .int .i64 0]) 4 32 Try.underlying43 hi hz0 hz1 hz2 rfl (by decide) _ _ _ rfl (World.ownsRow.alloc (h := hr2) _) ⟨wr.heap.size, 0, none⟩ 1 1 (fl4 [⟨1, v, tn, ts⟩]) rfl rfl (by have := cell4_new wr ⟨1, v, tn, ts⟩ 55; simpa using this) (fl4_one _) (by unfold maxLen; omega) (by omega) (by simp; omega) ?_; intro v' w3 hown' hgrow _)
                have hb3 : Below w.heap.size w w3 := (HBB.out.alloc hsz _).grown hgrow (by first | (simp; done) | (simp; omega)) (fun j e => (World.ownsRow.lt hr2 j e).1)
                have hrow : Row5 w.heap.size v' (cstp a n (k + 1)) w3 := by
                  unfold Row5
                  rw [cstp_succ, HST.out, List.length_append, HQ.out, fl4_app]
                  exact hown'
                have HF := Lib.hid (And.intro hrow hb3)
                clear hown' hgrow hrow hb3 hr2
                go_wp2
                go_roundg (gk - 1)
                case rel => exact ⟨k + 1, by have := HK.out; have := HLT.out; omega, by rw [HST.out], by rw [HST.out], by rw [HST.out], HF.out.1, HF.out.2⟩
                case measure => have := HK.out; have := HLT.out; omega
          · by_cases k3 : ta % 4 = 3
            · by_cases m3 : tn % 4 = 3
              · have b0 : (ta % 2 == 0) = false := by simp [hev]
                have b1 : (ta % 4 == 3) = true := by simp [k3]
                have b2 : (tn % 4 == 3) = true := by simp [m3]
                have HST := Lib.hid (show st a n (k + 1) = ⟨2, tn, ta, -ts⟩ by rw [HNX.out]; unfold nx; simp only; rw [if_neg (by omega), if_neg hev]; congr 1; unfold exch; rw [if_pos ⟨k3, m3⟩]; omega)
                skip
                go_wp2_with (at_builtin; refine wpList_append_own _ rfl _ _ 43 rfl (w.heap.size) 55 i0 (.agg #[.int .i64 0, .int .i64 0, .int .i64 0, .int .i64 0]) 4 32 Try.underlying43 hi hz0 hz1 hz2 rfl (by decide) _ _ _ rfl (World.ownsRow.alloc (h := hr2) _) ⟨wr.heap.size, 0, none⟩ 1 1 (fl4 [⟨2, tn, ta, -ts⟩]) rfl rfl (by have := cell4_new wr ⟨2, tn, ta, -ts⟩ 55; simpa using this) (fl4_one _) (by unfold maxLen; omega) (by omega) (by simp; omega) ?_; intro v' w3 hown' hgrow _)
                have hb3 : Below w.heap.size w w3 := (HBB.out.alloc hsz _).grown hgrow (by first | (simp; done) | (simp; omega)) (fun j e => (World.ownsRow.lt hr2 j e).1)
                have hrow : Row5 w.heap.size v' (cstp a n (k + 1)) w3 := by
                  unfold Row5
                  rw [cstp_succ, HST.out, List.length_append, HQ.out, fl4_app]
                  exact hown'
                have HF := Lib.hid (And.intro hrow hb3)
                clear hown' hgrow hrow hb3 hr2
                go_wp2
                go_roundg (gk - 1)
                case rel => exact ⟨k + 1, by have := HK.out; have := HLT.out; omega, by rw [HST.out], by rw [HST.out], by rw [HST.out], HF.out.1, HF.out.2⟩
                case measure => have := HK.out; have := HLT.out; omega
              · have b0 : (ta % 2 == 0) = false := by simp [hev]
                have b1 : (ta % 4 == 3) = true := by simp [k3]
                have b2 : (tn % 4 == 3) = false := by simp [m3]
                have HST := Lib.hid (show st a n (k + 1) = ⟨2, tn, ta, ts⟩ by rw [HNX.out]; unfold nx; simp only; rw [if_neg (by omega), if_neg hev]; congr 1; unfold exch; rw [if_neg (fun c => m3 c.2)]; omega)
                skip
                go_wp2_with (at_builtin; refine wpList_append_own _ rfl _ _ 43 rfl (w.heap.size) 55 i0 (.agg #[.int .i64 0, .int .i64 0, .int .i64 0, .int .i64 0]) 4 32 Try.underlying43 hi hz0 hz1 hz2 rfl (by decide) _ _ _ rfl (World.ownsRow.alloc (h := hr2) _) ⟨wr.heap.size, 0, none⟩ 1 1 (fl4 [⟨2, tn, ta, ts⟩]) rfl rfl (by have := cell4_new wr ⟨2, tn, ta, ts⟩ 55; simpa using this) (fl4_one _) (by unfold maxLen; omega) (by omega) (by simp; omega) ?_; intro v' w3 hown' hgrow _)
                have hb3 : Below w.heap.size w w3 := (HBB.out.alloc hsz _).grown hgrow (by first | (simp; done) | (simp; omega)) (fun j e => (World.ownsRow.lt hr2 j e).1)
                have hrow : Row5 w.heap.size v' (cstp a n (k + 1)) w3 := by
                  unfold Row5
                  rw [cstp_succ, HST.out, List.length_append, HQ.out, fl4_app]
                  exact hown'
                have HF := Lib.hid (And.intro hrow hb3)
                clear hown' hgrow hrow hb3 hr2
                go_wp2
                go_roundg (gk - 1)
                case rel => exact ⟨k + 1, by have := HK.out; have := HLT.out; omega, by rw [HST.out], by rw [HST.out], by rw [HST.out], HF.out.1, HF.out.2⟩
                case measure => have := HK.out; have := HLT.out; omega
            · have b0 : (ta % 2 == 0) = false := by simp [hev]
              have b1 : (ta % 4 == 3) = false := by simp [k3]
              have HST := Lib.hid (show st a n (k + 1) = ⟨2, tn, ta, ts⟩ by rw [HNX.out]; unfold nx; simp only; rw [if_neg (by omega), if_neg hev]; congr 1; unfold exch; rw [if_neg (fun c => k3 c.1)]; omega)
              skip
              go_wp2_with (at_builtin; refine wpList_append_own _ rfl _ _ 43 rfl (w.heap.size) 55 i0 (.agg #[.int .i64 0, .int .i64 0, .int .i64 0, .int .i64 0]) 4 32 Try.underlying43 hi hz0 hz1 hz2 rfl (by decide) _ _ _ rfl (World.ownsRow.alloc (h := hr2) _) ⟨wr.heap.size, 0, none⟩ 1 1 (fl4 [⟨2, tn, ta, ts⟩]) rfl rfl (by have := cell4_new wr ⟨2, tn, ta, ts⟩ 55; simpa using this) (fl4_one _) (by unfold maxLen; omega) (by omega) (by simp; omega) ?_; intro v' w3 hown' hgrow _)
              have hb3 : Below w.heap.size w w3 := (HBB.out.alloc hsz _).grown hgrow (by first | (simp; done) | (simp; omega)) (fun j e => (World.ownsRow.lt hr2 j e).1)
              have hrow : Row5 w.heap.size v' (cstp a n (k + 1)) w3 := by
                unfold Row5
                rw [cstp_succ, HST.out, List.length_append, HQ.out, fl4_app]
                exact hown'
              have HF := Lib.hid (And.intro hrow hb3)
              clear hown' hgrow hrow hb3 hr2
              go_wp2
              go_roundg (gk - 1)
              case rel => exact ⟨k + 1, by have := HK.out; have := HLT.out; omega, by rw [HST.out], by rw [HST.out], by rw [HST.out], HF.out.1, HF.out.2⟩
              case measure => have := HK.out; have := HLT.out; omega
    · have hkn : k = N := by omega
      have hf := hend hkn
      have HF := Lib.hid (show Row5 w.heap.size u5 (cstp a n N) wr by have := HRR.out; rwa [hkn] at this)
      clear hnx hs hk hr hb hfin hend hlt hkn
      by_cases z1 : ta = 0
      · have z1b : (ta != 0) = false := by simp [z1]
        clear hf
        go_wp2
        go_ret
        exact ⟨⟨_, rfl, HF.out⟩, HBB.out⟩
      · have z2 : tn = 1 := hf.resolve_left z1
        have z1b : (ta != 0) = true := by simpa using z1
        have z2b : (tn != 1) = false := by simp [z2]
        clear hf
        go_wp2
        go_ret
        exact ⟨⟨_, rfl, HF.out⟩, HBB.out⟩
end Go.Proofs.Ytopfcppmbkidgaa
