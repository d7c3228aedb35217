/- The mathematics of CoversParted and CoversMoves. No condition. -/
import Derived.Test.YtanhjgneaaenpaaApart
namespace Go.Proofs.Ytanhjgneaaenpaa

theorem lst_period {P : Nat → Bool} {W V : Nat} (hW : 0 < W) (hV : 0 < V) (h : ∀ n, P (n % W) = P n) (h' : ∀ n, P (n % V) = P n) : lst P 0 W = lst P 0 V := by
  rcases lst_spec P W 0 with ⟨d, -, h2, h3, h4, h5⟩ | ⟨h1, h2⟩
  · rw [h5]
    have e : d % V = d := by
      rcases Nat.lt_or_ge (d % V) d with hlt | hge
      · have := h4 (d % V) (Nat.zero_le _) hlt
        rw [h' d, h3] at this; cases this
      · have := Nat.mod_le d V; omega
    have hlt := Nat.mod_lt d hV
    exact (lst_some (Nat.zero_le _) (by omega) h3 h4).symm
  · rw [h2]
    refine (lst_none fun n _ _ => ?_).symm
    rw [← h n]
    exact h1 _ (Nat.zero_le _) (by have := Nat.mod_lt n hW; omega)
theorem frac_same {c W d V : Nat} (hW : 0 < W) (hV : 0 < V) (h : c * V = d * W) : c / Nat.gcd c W = d / Nat.gcd d V ∧ W / Nat.gcd c W = V / Nat.gcd d V := by
  have g0 := Nat.gcd_pos_of_pos_right c hW
  have g1 := Nat.gcd_pos_of_pos_right d hV
  have c1 := Nat.coprime_div_gcd_div_gcd g0
  have c2 := Nat.coprime_div_gcd_div_gcd g1
  have k1 := Nat.div_mul_cancel (Nat.gcd_dvd_left c W)
  have k2 := Nat.div_mul_cancel (Nat.gcd_dvd_right c W)
  have k3 := Nat.div_mul_cancel (Nat.gcd_dvd_left d V)
  have k4 := Nat.div_mul_cancel (Nat.gcd_dvd_right d V)
  generalize c / Nat.gcd c W = a at *
  generalize W / Nat.gcd c W = b at *
  generalize d / Nat.gcd d V = a' at *
  generalize V / Nat.gcd d V = b' at *
  generalize Nat.gcd c W = g at *
  generalize Nat.gcd d V = g' at *
  subst k1 k2 k3 k4
  have e : a * b' = a' * b := by
    have h2 : (g * g') * (a * b') = (g * g') * (a' * b) := by
      calc (g * g') * (a * b') = a * g * (b' * g') := by simp only [Nat.mul_assoc, Nat.mul_comm, Nat.mul_left_comm]
        _ = a' * g' * (b * g) := h
        _ = (g * g') * (a' * b) := by simp only [Nat.mul_assoc, Nat.mul_comm, Nat.mul_left_comm]
    exact Nat.eq_of_mul_eq_mul_left (Nat.mul_pos g0 g1) h2
  have d1 : a ∣ a' := c1.dvd_of_dvd_mul_right (by rw [← e]; exact Nat.dvd_mul_right _ _)
  have d2 : a' ∣ a := c2.dvd_of_dvd_mul_right (by rw [e]; exact Nat.dvd_mul_right _ _)
  have ea := Nat.dvd_antisymm d1 d2
  refine ⟨ea, ?_⟩
  subst ea
  by_cases ha : a = 0
  · subst ha
    have := Nat.coprime_zero_left b |>.1 c1
    have := Nat.coprime_zero_left b' |>.1 c2
    omega
  · exact (Nat.eq_of_mul_eq_mul_left (by omega) e).symm

/-- Two systems that cover each number as often. -/
theorem alike {xs ys : List (Int × Int)} (hx : Sys xs) (hy : Sys ys) (h : ∀ n : Nat, tm n ys = tm n xs) : leftF ys = leftF xs ∧ twiceF ys = twiceF xs ∧ numF ys = numF xs ∧ denF ys = denF xs := by
  have e : ∀ n, (fun n : Nat => tm n ys) n = tm n xs := h
  have p1 : ∀ n : Nat, tm ((n % wl xs : Nat) : Int) xs = tm n xs := hx.mod
  have p2 : ∀ n : Nat, tm ((n % wl ys : Nat) : Int) xs = tm n xs := fun n => by rw [← h, ← h]; exact hy.mod n
  have w1 := hx.wl1
  have w2 := hy.wl1
  have hl : leftF ys = lst (fun n => decide (tm n xs = 0)) 0 (wl ys) := by unfold leftF; exact lst_congr fun n _ _ => by rw [h n]
  have ht : twiceF ys = lst (fun n => decide (1 < tm n xs)) 0 (wl ys) := by unfold twiceF; exact lst_congr fun n _ _ => by rw [h n]
  have hc : ∀ k, covF ys k = cnt (fun n => decide (0 < tm n xs)) k := fun k => by unfold covF; exact cnt_congr fun n _ => by rw [h n]
  have per : ∀ {W : Nat}, (∀ n : Nat, tm ((n % W : Nat) : Int) xs = tm n xs) → ∀ n : Nat, (fun n : Nat => decide (0 < tm n xs)) (n + W) = (fun n : Nat => decide (0 < tm n xs)) n := by
    intro W hp n
    show decide (0 < tm ((n + W : Nat) : Int) xs) = decide (0 < tm (n : Int) xs)
    rw [← hp (n + W), Nat.add_mod_right, hp n]
  have q1 := cnt_per (P := fun n : Nat => decide (0 < tm n xs)) (per p1) (wl ys)
  have q2 := cnt_per (P := fun n : Nat => decide (0 < tm n xs)) (per p2) (wl xs)
  have hcc : covF xs (wl xs) * wl ys = covF ys (wl ys) * wl xs := by
    rw [hc]
    unfold covF
    rw [Nat.mul_comm, ← q1, Nat.mul_comm (wl xs) (wl ys), q2, Nat.mul_comm]
  obtain ⟨f1, f2⟩ := frac_same (by omega) (by omega) hcc
  refine ⟨?_, ?_, ?_, ?_⟩
  · rw [hl]; exact lst_period (by omega) (by omega) (fun n => by rw [p2]) (fun n => by rw [p1])
  · rw [ht]; exact lst_period (by omega) (by omega) (fun n => by rw [p2]) (fun n => by rw [p1])
  · unfold numF; rw [f1]
  · unfold denF; rw [f2]

theorem ref_zero {n a m r : Int} (h : ¬ m ∣ n - a) : ∀ k, tm n (refL (a, m) r k) = 0
  | 0 => rfl
  | k + 1 => by
    rw [refL_succ, tm_app, ref_zero h k]
    have : cvB n (a + (k : Int) * m, m * r) = false := by
      unfold cvB
      apply decide_eq_false
      rintro ⟨c, hc⟩
      apply h
      refine ⟨r * c + k, ?_⟩
      simp only at hc
      rw [Int.mul_add, ← Int.mul_assoc, ← hc, Int.mul_comm m]
      omega
    simp [tm, this]
theorem ref_some {a m r q : Int} (hm : 1 ≤ m) (hr : 1 ≤ r) : ∀ k : Nat, (k : Int) ≤ r → tm (a + m * q) (refL (a, m) r k) = if q % r < (k : Int) then 1 else 0
  | 0, _ => by
    have := Int.emod_nonneg q (show r ≠ 0 by omega)
    rw [if_neg (by omega)]; rfl
  | k + 1, hk => by
    have ih := ref_some (a := a) (q := q) hm hr k (by omega)
    rw [refL_succ, tm_app, ih]
    have h0 := Int.emod_nonneg q (show r ≠ 0 by omega)
    have h1 := Int.emod_lt_of_pos q (show 0 < r by omega)
    have h2 := Int.emod_add_mul_ediv q r
    have e : cvB (a + m * q) (a + (k : Int) * m, m * r) = decide (q % r = (k : Int)) := by
      unfold cvB
      rw [decide_eq_decide]
      simp only
      have e1 : a + m * q - (a + (k : Int) * m) = m * (q - k) := by rw [Int.mul_sub, Int.mul_comm (k : Int) m]; omega
      rw [e1, show (m * r ∣ m * (q - k)) ↔ r ∣ q - k from ⟨fun h => Int.dvd_of_mul_dvd_mul_left (show m ≠ 0 by omega) h, fun h => Int.mul_dvd_mul_left m h⟩]
      constructor
      · rintro ⟨c, hc⟩
        have : q = k + r * c := by omega
        rw [this, Int.add_mul_emod_self_left, Int.emod_eq_of_lt (by omega) (by omega)]
      · intro hq
        exact ⟨q / r, by omega⟩
    have e2 : tm (a + m * q) [(a + (k : Int) * m, m * r)] = if q % r = (k : Int) then 1 else 0 := by
      simp only [tm]
      rw [e]; simp
    rw [e2]
    have : ((k + 1 : Nat) : Int) = (k : Int) + 1 := by omega
    rw [this]
    split <;> split <;> split <;> omega
theorem refine_tm {L : List (Int × Int)} {i : Nat} {r : Int} (hi : i < L.length) (hm : 1 ≤ (nth L i).2) (hr : 2 ≤ r) (n : Int) : tm n (refA L i r) = tm n L := by
  have e : L = L.take i ++ [nth L i] ++ L.drop (i + 1) := by
    rw [← take_succ2 hi, List.take_append_drop]
  unfold refA
  conv => rhs; rw [e]
  rw [tm_app, tm_app, tm_app, tm_app]
  have e2 : tm n (refL (nth L i) r r.toNat) = tm n [nth L i] := by
    clear e
    obtain ⟨⟨a, m⟩, hp⟩ : ∃ p, nth L i = p := ⟨_, rfl⟩
    rw [hp] at hm ⊢
    replace hm : 1 ≤ m := hm
    by_cases hd : m ∣ n - a
    · obtain ⟨q, hq⟩ := hd
      have hn : n = a + m * q := by omega
      rw [hn, ref_some hm (by omega) _ (by omega)]
      have := Int.emod_lt_of_pos q (show 0 < r by omega)
      rw [if_pos (by omega)]
      have hc : cvB (a + m * q) (a, m) = true := by
        unfold cvB; apply decide_eq_true; exact ⟨q, by simp only; omega⟩
      simp [tm, hc]
    · rw [ref_zero hd]
      have hc : cvB n (a, m) = false := by unfold cvB; exact decide_eq_false hd
      simp [tm, hc]
  rw [e2]

/-- All residues moved. -/
def movP (by' : Int) (p : Int × Int) : Int × Int := ((p.1 + by') % p.2, p.2)
def mov (by' : Int) (L : List (Int × Int)) : List (Int × Int) := L.map (movP by')
theorem mov_cv {n b : Int} {p : Int × Int} : cvB n (movP b p) = cvB (n - b) p := by
  unfold cvB movP
  rw [decide_eq_decide]
  simp only
  have h := Int.emod_add_mul_ediv (p.1 + b) p.2
  constructor
  · rintro ⟨c, hc⟩
    refine ⟨c - (p.1 + b) / p.2, ?_⟩
    rw [Int.mul_sub]; omega
  · rintro ⟨c, hc⟩
    refine ⟨c + (p.1 + b) / p.2, ?_⟩
    rw [Int.mul_add]; omega
theorem mov_tm {n b : Int} : ∀ L : List (Int × Int), tm n (mov b L) = tm (n - b) L
  | [] => rfl
  | p :: t => by
    unfold mov
    simp only [List.map_cons, tm]
    rw [mov_cv, show tm n (List.map (movP b) t) = tm (n - b) t from mov_tm t]
theorem mov_wl {b : Int} : ∀ L : List (Int × Int), wl (mov b L) = wl L
  | [] => rfl
  | p :: t => by
    unfold mov
    simp only [List.map_cons, wl]
    rw [show wl (List.map (movP b) t) = wl t from mov_wl t]; rfl
theorem mov_len (b : Int) (L : List (Int × Int)) : (mov b L).length = L.length := by simp [mov]
theorem mov_sys {b : Int} {L : List (Int × Int)} (h : Sys L) : Sys (mov b L) := by
  refine ⟨by rw [mov_len]; exact h.len1, by rw [mov_len]; exact h.len2, fun p hp => ?_, by rw [mov_wl]; exact h.wl2⟩
  obtain ⟨q, hq, rfl⟩ := List.mem_map.1 hp
  have := h.ok q hq
  have h1 := Int.emod_nonneg (q.1 + b) (show q.2 ≠ 0 by omega)
  have h2 := Int.emod_lt_of_pos (q.1 + b) (show 0 < q.2 by omega)
  exact ⟨this.1, this.2.1, h1, h2⟩
theorem cvB_add {n k : Int} {W : Nat} {p : Int × Int} (h0 : 1 ≤ p.2) (h : p.2.toNat ∣ W) : cvB (n + k * (W : Int)) p = cvB n p := by
  unfold cvB
  rw [decide_eq_decide]
  obtain ⟨c, hc⟩ := h
  have e : (W : Int) = p.2 * (c : Int) := by
    rw [hc, Int.natCast_mul, Int.toNat_of_nonneg (by omega)]
  constructor
  · rintro ⟨d, hd⟩
    refine ⟨d - k * c, ?_⟩
    rw [Int.mul_sub, ← hd, e, Int.mul_left_comm p.2 k]; omega
  · rintro ⟨d, hd⟩
    refine ⟨d + k * c, ?_⟩
    rw [Int.mul_add, ← hd, e, Int.mul_left_comm p.2 k]; omega
theorem tm_add {n k : Int} {W : Nat} : ∀ {L : List (Int × Int)}, (∀ p ∈ L, 1 ≤ p.2 ∧ p.2.toNat ∣ W) → tm (n + k * (W : Int)) L = tm n L
  | [], _ => rfl
  | p :: t, h => by
    simp only [tm]
    rw [tm_add (fun q hq => h q (List.mem_cons_of_mem _ hq)), cvB_add (h p List.mem_cons_self).1 (h p List.mem_cons_self).2]
/-- A number moved back is a number moved forth. -/
theorem back {L : List (Int × Int)} {W b : Nat} (hW : 1 ≤ W) (h : ∀ p ∈ L, 1 ≤ p.2 ∧ p.2.toNat ∣ W) (n : Nat) : tm ((n : Int) - (b : Int)) L = tm ((n + b * (W - 1) : Nat) : Int) L := by
  obtain ⟨V, rfl⟩ : ∃ V, W = V + 1 := ⟨W - 1, by omega⟩
  rw [← tm_add (k := (b : Int)) h, Nat.add_sub_cancel]
  congr 1
  rw [Int.natCast_add, Int.natCast_add, Int.natCast_mul, Int.mul_add]
  omega
theorem cnt_shift {P : Nat → Bool} {W : Nat} (hp : ∀ n, P (n + W) = P n) (s : Nat) : cnt (fun n => P (n + s)) W = cnt P W := by
  have h1 := cnt_app P s W
  have h2 := cnt_app P W s
  rw [Nat.add_comm W s, h1] at h2
  have h3 : cnt (fun n => P (W + n)) s = cnt P s := cnt_congr fun n _ => by rw [Nat.add_comm W n, hp]
  have h4 : cnt (fun n => P (s + n)) W = cnt (fun n => P (n + s)) W := cnt_congr fun n _ => by rw [Nat.add_comm]
  omega
theorem all_of {P : Nat → Bool} {k : Nat} : (∀ n, n < k → P n = true) ↔ cnt P k = k := cnt_all.symm
/-- What moving leaves. -/
theorem moved {L : List (Int × Int)} (h : Sys L) (b : Nat) : numF (mov b L) = numF L ∧ denF (mov b L) = denF L ∧ (leftF (mov b L)).2 = (leftF L).2 ∧ (twiceF (mov b L)).2 = (twiceF L).2 ∧ ∀ k, needL (mov b L) k = needL L k := by
  have hW := h.wl1
  have hd : ∀ p ∈ L, 1 ≤ p.2 ∧ p.2.toNat ∣ wl L := fun p hp => ⟨(h.ok p hp).1, wl_dvd hp⟩
  obtain ⟨s, hs⟩ : ∃ s, b * (wl L - 1) = s := ⟨_, rfl⟩
  have ht : ∀ {A : List (Int × Int)}, (∀ p ∈ A, p ∈ L) → ∀ n : Nat, tm n (mov b A) = tm ((n + s : Nat) : Int) A := by
    intro A hA n
    rw [mov_tm, ← hs]
    exact back hW (fun p hp => hd p (hA p hp)) n
  have per : ∀ {A : List (Int × Int)}, (∀ p ∈ A, p ∈ L) → ∀ n : Nat, tm ((n + wl L : Nat) : Int) A = tm n A := by
    intro A hA n
    have := tm_add (n := (n : Int)) (k := 1) (W := wl L) (L := A) (fun p hp => hd p (hA p hp))
    rw [← this]
    congr 1
    omega
  have hL : ∀ p ∈ L, p ∈ L := fun p hp => hp
  have hc : covF (mov b L) (wl L) = covF L (wl L) := by
    unfold covF
    have e : cnt (fun n : Nat => decide (0 < tm n (mov b L))) (wl L) = cnt (fun n : Nat => (fun n : Nat => decide (0 < tm n L)) (n + s)) (wl L) := cnt_congr fun n _ => by rw [ht hL n]
    rw [e]
    exact cnt_shift (P := fun n : Nat => decide (0 < tm n L)) (fun n => by rw [per hL n]) s
  have hsig : ∀ (Q : Nat → Bool), (lst (fun n : Nat => Q (tm n (mov b L))) 0 (wl L)).2 = (lst (fun n : Nat => Q (tm n L)) 0 (wl L)).2 := by
    intro Q
    have e1 : cnt (fun n : Nat => Q (tm n (mov b L))) (wl L) = cnt (fun n : Nat => Q (tm n L)) (wl L) := by
      have e : cnt (fun n : Nat => Q (tm n (mov b L))) (wl L) = cnt (fun n : Nat => (fun n : Nat => Q (tm n L)) (n + s)) (wl L) := cnt_congr fun n _ => by rw [ht hL n]
      rw [e]
      exact cnt_shift (P := fun n : Nat => Q (tm n L)) (fun n => by rw [per hL n]) s
    have k1 : ∀ P : Nat → Bool, (lst P 0 (wl L)).2 = 4 ↔ cnt P (wl L) = 0 := fun P => by
      rw [lst_four, cnt_zero]
      exact ⟨fun h n hn => h n (Nat.zero_le _) (by omega), fun h n _ hn => h n (by omega)⟩
    rcases lst_or (fun n : Nat => Q (tm n (mov b L))) (wl L) 0 with h1 | h1
    · rcases lst_or (fun n : Nat => Q (tm n L)) (wl L) 0 with h2 | h2
      · rw [h1, h2]
      · have := (k1 _).1 h2
        rw [← e1] at this
        rw [(k1 _).2 this] at h1; cases h1
    · have := (k1 _).1 h1
      rw [e1] at this
      rw [h1, (k1 _).2 this]
  refine ⟨?_, ?_, ?_, ?_, fun k => ?_⟩
  · unfold numF; rw [mov_wl, hc]
  · unfold denF; rw [mov_wl, hc]
  · unfold leftF; rw [mov_wl]; exact hsig fun t => decide (t = 0)
  · unfold twiceF; rw [mov_wl]; exact hsig fun t => decide (1 < t)
  · unfold needL
    congr 1
    apply List.filter_congr
    intro i _
    unfold needB
    rw [mov_wl]
    have hwo : wo (mov b L) i = mov b (wo L i) := by unfold wo mov; rw [List.map_append, List.map_take, List.map_drop]
    have hin : ∀ p ∈ wo L i, p ∈ L := fun p hp => by
      unfold wo at hp
      rcases List.mem_append.1 hp with hp | hp
      · exact List.mem_of_mem_take hp
      · exact List.mem_of_mem_drop hp
    have e : cnt (missB (mov b L) i) (wl L) = cnt (fun n => (missB L i) (n + s)) (wl L) := cnt_congr fun n _ => by
      unfold missB
      rw [hwo, ht hL n, ht hin n]
    rw [e, cnt_shift (P := missB L i) (fun n => by unfold missB; rw [per hL n, per hin n]) s]
end Go.Proofs.Ytanhjgneaaenpaa
