/- The walks of numeral.encode and Encode, and of the reference's F and Encode: the greedy numeral, in a row of the call's own. Condition: the number is from 0 to 10^12, or Encode answers ErrArg. -/
import Derived.Test.YtbdabpmpfciibaaFib
namespace Go.Proofs.Ytbdabpmpfciibaa
open Go.RowKit
attribute [local go_sem] Oper.semAt_some

theorem own_mono {W : World} {B B' n : Nat} {e : TypeId} {s : Nat} {v : Value} {xs : List Value} (h : W.ownsRow B e s v n xs) (hB : B' ≤ B) : W.ownsRow B' e s v n xs := by
  refine ⟨h.1, h.2.imp id ?_⟩
  rintro ⟨g, cap, cur, h1, h2, h3⟩
  exact ⟨g, cap, cur, h1, by omega, h3⟩
/-- A row of whole numbers of the call's own, from block B on. -/
def Row (B : Nat) (v : Value) (xs : List Int) (W : World) : Prop := W.ownsRow B 3 1 v xs.length (xs.map (Value.int .i64))
theorem Row.nil (B : Nat) (W : World) : Row B (.slice none 0 0) [] W := ⟨rfl, .inl ⟨rfl, rfl⟩⟩
theorem Row.form {B : Nat} {v : Value} {xs : List Int} {W : World} (h : Row B v xs W) : ∃ a c, v = .slice a xs.length c ∧ Ints W a xs.length xs ∧ xs.length ≤ c ∧ c ≤ maxLen := by
  rcases h.2 with ⟨h1, h2⟩ | ⟨g, cap, cur, h1, h2, h3, h4, h5, h6, h7⟩
  · subst h1
    have hx : xs = [] := List.length_eq_zero_iff.1 h2
    subst hx
    exact ⟨none, 0, rfl, Ints.nil _ _, Nat.le_refl _, by unfold maxLen; omega⟩
  · subst h1
    have h' : W.ownsRow B 3 1 (.slice (some ⟨g, 0, none⟩) xs.length cap) xs.length (xs.map (Value.int .i64)) := h
    exact ⟨_, cap, rfl, (Ints.own h').1, h4, h5⟩
theorem Row.later {B : Nat} {v : Value} {xs : List Int} {W W' : World} (h : Row B v xs W) (hb : Below W.heap.size W W') : Row B v xs W' := own_later h hb
theorem Row.mono {B B' : Nat} {v : Value} {xs : List Int} {W : World} (h : Row B v xs W) (hB : B' ≤ B) : Row B' v xs W := own_mono h hB
theorem Row.of {B n c : Nat} {a : Option Addr} {xs : List Int} {W : World} (h : W.ownsRow B 3 1 (.slice a n c) n (xs.map (Value.int .i64))) : Row B (.slice a n c) xs W ∧ xs.length = n := by
  have hl : xs.length = n := by simpa using h.1
  subst hl
  exact ⟨h, rfl⟩

theorem fibT_at {k : Nat} (h1 : 2 ≤ k) (h2 : k < 61) : fibT 61 k = fibN k := by unfold fibT; rw [if_pos ⟨h1, h2⟩]
theorem fib_cell {W : World} {g k : Nat} (h : W.heap[g]? = some (.cells fibArr 88 (0, 0))) (h1 : 2 ≤ k) (h2 : k < 61) : W.cell? ⟨g, k, none⟩ = some (.int .i64 (fibN k)) := by
  rw [cell_of_row W g k fibArr 88 (0, 0) h]
  simp [fibArr, h2, fibT_at h1 h2]

/-- What lies while a numeral is made: the array in block g, the list behind it. -/
structure ES (g : Nat) (W1 : World) (v : Value) (xs : List Int) (W : World) : Prop where
  b : Below (g + 1) W1 W
  f : W1.heap[g]? = some (.cells fibArr 88 (0, 0))
  r : Row (g + 1) v xs W
theorem ES.fib {g : Nat} {W1 W : World} {v : Value} {xs : List Int} (h : ES g W1 v xs W) : W.heap[g]? = some (.cells fibArr 88 (0, 0)) := (h.b.block g (by omega)).trans h.f

set_option maxHeartbeats 4000000 in
set_option maxRecDepth 100000 in
theorem encode_any (n : Int) (h0 : 0 ≤ n) (h1 : n ≤ 9000000000000000000) (w : World) :
    Calls Try.prog 65 #[.int .i64 n] w fun e w' => ∃ a c, e = .returned (.slice a (enc n).length c) ∧ Row w.heap.size (.slice a (enc n).length c) (enc n) w' ∧ Below w.heap.size w w' := by
  obtain ⟨L, hL⟩ : ∃ L, enc n = L := ⟨_, rfl⟩
  rw [hL]
  have HL := Lib.hid (show encL 59 n = L from hL)
  clear hL
  go_enter Try.func65, Try.ntmps65
  go_wp2_with fail
  refine (fibonacci_any _).mono ?_
  rintro e w1 ⟨rfl, hb⟩
  have HB := Lib.hid hb
  have sl := fibArr_size
  have hi : (Try.prog.info? 88).map (·.size) = some fibArr.size := by rw [size88, sl]
  have HI := Lib.hid hi
  clear hb sl hi
  go_wp2_with (refine wpList_store_row rfl 88 (.tmp 3) (.tmp 6) rfl w1.heap.size fibArr _ rfl rfl (heap_alloc_last w1 _) HI.out (by rw [fibArr_size]; rfl) fibArr_one ?_)
  rw [World.setRow_alloc_new]
  obtain ⟨W1, hW1⟩ : ∃ W1, w1.alloc (.cells fibArr 88) = W1 := ⟨_, rfl⟩
  obtain ⟨g, hg⟩ : ∃ g, w1.heap.size = g := ⟨_, rfl⟩
  have hE : ES g W1 (.slice none 0 0) [] W1 := by
    refine ⟨Below.refl _ _, ?_, Row.nil _ _⟩
    rw [← hW1, ← hg]
    exact heap_alloc_last w1 _
  have hS : W1.heap.size = g + 1 := by rw [← hW1, ← hg]; simp
  have hBB : Below w.heap.size w W1 := hW1 ▸ HB.out.alloc HB.out.size _
  have HE := Lib.hid hE
  have HS := Lib.hid hS
  have HBB := Lib.hid hBB
  rw [hW1, hg]
  clear hW1 hg hE hS hBB HB HI
  go_loopg [0, 4, 5] 59 (fun gk m v i wr => ∃ (x : Int) (xs : List Int), i = .int .i64 ((gk : Int) + 1) ∧ gk ≤ 59 ∧ m = .int .i64 x ∧ 0 ≤ x ∧ x ≤ n ∧ xs ++ encL gk x = L ∧ xs.length + gk ≤ 59 ∧ ES g W1 v xs wr)
  case atStart => exact ⟨n, [], rfl, by omega, rfl, h0, by omega, HL.out, by simp, HE.out⟩
  case round =>
    obtain ⟨x, xs, rfl, hgk, rfl, hx0, hxn, hxs, hlen, hes⟩ := hrel
    have HX := Lib.hid hxs
    have HES := Lib.hid hes
    clear hxs hes HE HL
    match gk, hgk, HX, hlen with
    | 0, hgk, HX, hlen =>
      have hlt : ¬ (((0 : Nat) : Int) + 1 ≥ 2) := by omega
      have hx2 : xs = L := by have := HX.out; rw [encL, List.append_nil] at this; exact this
      have hr := HES.out.r
      rw [hx2] at hr
      obtain ⟨a, c, rfl, hi, hc1, hc2⟩ := hr.form
      have HR := Lib.hid hr
      have HB2 := Lib.hid (HBB.out.trans (HES.out.b.mono (show w.heap.size ≤ g + 1 by have := HBB.out.size; rw [HS.out] at this; omega)))
      have HG := Lib.hid (show w.heap.size ≤ g + 1 by have := HBB.out.size; rw [HS.out] at this; exact this)
      clear hr hi hx2 HX HES
      go_wp2
      go_ret
      exact ⟨a, c, rfl, HR.out.mono HG.out, HB2.out⟩
    | j + 1, hgk, HX, hlen =>
      have hk : (((j + 1 : Nat) : Int) + 1) = ((j + 2 : Nat) : Int) := by omega
      rw [hk]
      obtain ⟨k, hkk⟩ : ∃ k, j + 2 = k := ⟨_, rfl⟩
      have hge : (2 : Int) ≤ (k : Int) := by omega
      have hge2 : 2 ≤ k := by omega
      have hk60 : k < 61 := by omega
      have hk61 : (k : Int) < 61 := by omega
      have hc := fib_cell HES.out.fib (k := k) (by omega) (by omega)
      obtain ⟨X, hX⟩ : ∃ X, fibN k = X := ⟨_, rfl⟩
      have hX0 : 0 ≤ X := hX ▸ fibN_nonneg k
      rw [hX] at hc
      rw [hkk]
      have HK := Lib.hid hkk
      have HXX := Lib.hid hX
      clear hk hkk hX
      by_cases hle : X ≤ x
      · have hst := encL_yes (k := j) (n := x) (by rw [HK.out, HXX.out]; exact hle)
        rw [HK.out, HXX.out] at hst
        have hx2 := HX.out
        rw [hst] at hx2
        have HX2 := Lib.hid (show (xs ++ [(k : Int)]) ++ encL j (x - X) = L by simpa using hx2)
        obtain ⟨i0, hi, hz0, hz1, hz2⟩ := info_parts info3
        have hr := HES.out.r
        have hsz := HES.out.b.size
        have hsz2 := HS.out
        have HJ := Lib.hid hgk
        have HLEN := Lib.hid hlen
        have hll : xs.length ≤ 59 := by omega
        clear hst hx2 HX hgk hlen
        go_wp2_with (at_builtin; refine wpList_append_own _ rfl _ _ 22 rfl (g + 1) 3 i0 (.int .i64 0) 1 8 Try.underlying22 hi hz0 hz1 hz2 rfl (by decide) _ _ _ rfl (World.ownsRow.alloc (h := hr) _) ⟨wr.heap.size, 0, none⟩ 1 1 [.int .i64 (k : Int)] rfl rfl (cell_one_new _ _ _) (by simp [Value.oneCell']) (by unfold maxLen; omega) (by omega) (by simp; omega) ?_; intro v' w3 hown' hgrow _)
        have HES3 : ES g W1 v' (xs ++ [(k : Int)]) w3 := by
          refine ⟨(HES.out.b.alloc (by omega) _).grown hgrow (by simp; omega) (fun j e => (hr.lt j e).1), HES.out.f, ?_⟩
          unfold Row
          rw [List.length_append, List.map_append]
          exact hown'
        have H3 := Lib.hid HES3
        clear HES3 hown' hgrow hr
        go_roundg j
        case rel => exact ⟨x - X, xs ++ [(k : Int)], by have := HK.out; congr 1; omega, by have := HJ.out; omega, rfl, by omega, by omega, HX2.out, by have := HLEN.out; simp; omega, H3.out⟩
        case measure => omega
      · have hst := encL_no (k := j) (n := x) (by rw [HK.out, HXX.out]; omega)
        have hx2 := HX.out
        rw [hst] at hx2
        have HX2 := Lib.hid hx2
        have HJ := Lib.hid hgk
        have HLEN := Lib.hid hlen
        clear hst hx2 HX hgk hlen
        go_wp2
        go_roundg j
        case rel => exact ⟨x, xs, by have := HK.out; congr 1; omega, by have := HJ.out; omega, rfl, hx0, hxn, HX2.out, by have := HLEN.out; omega, HES.out⟩
        case measure => omega
end Go.Proofs.Ytbdabpmpfciibaa
