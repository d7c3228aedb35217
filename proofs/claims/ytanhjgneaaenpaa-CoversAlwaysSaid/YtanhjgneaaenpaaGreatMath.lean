/- Newman and Mirsky for exact systems whose moduli are at most 60, plainly: the greatest modulus comes at least as often as its least prime factor. No condition. -/
namespace Go.Proofs.Ytanhjgneaaenpaa.GM
/-- A pair covers a number. -/
def cv (x : Nat × Nat) (n : Nat) : Int := if n % x.2 = x.1 then 1 else 0
def sumL {α : Type} (f : α → Int) : List α → Int
  | [] => 0
  | x :: r => f x + sumL f r
def sumN (f : Nat → Int) : Nat → Int
  | 0 => 0
  | k + 1 => sumN f k + f k
def alt : List Nat → (Nat → Int) → Nat → Int
  | [], f, n => f n
  | s :: ss, f, n => alt ss f n - alt ss f (n + s)
def avg (M K : Nat) (f : Nat → Int) (n : Nat) : Int := sumN (fun t => f (n + t * M)) K

theorem sumN_congr {f g : Nat → Int} : ∀ {k}, (∀ t, t < k → f t = g t) → sumN f k = sumN g k
  | 0, _ => rfl
  | k + 1, h => by
    simp only [sumN]
    rw [sumN_congr (fun t ht => h t (by omega)), h k (by omega)]
theorem sumN_const (c : Int) : ∀ k, sumN (fun _ => c) k = k * c
  | 0 => by simp [sumN]
  | k + 1 => by
    simp only [sumN]
    rw [sumN_const c k]
    have : ((k + 1 : Nat) : Int) * c = (k : Int) * c + c := by
      rw [Int.natCast_add, Int.add_mul]; simp
    omega
theorem sumN_shift {f : Nat → Int} {K : Nat} (hp : ∀ t, f (t + K) = f t) : ∀ v, sumN (fun t => f (t + v)) K = sumN f K
  | 0 => rfl
  | v + 1 => by
    have ih := sumN_shift hp v
    have h2 : ∀ k, sumN (fun t => f (t + (v + 1))) k + f v = sumN (fun t => f (t + v)) k + f (k + v) := by
      intro k
      induction k with
      | zero => simp [sumN]
      | succ k ihk =>
        simp only [sumN]
        have e : k + (v + 1) = k + 1 + v := by omega
        rw [e]
        omega
    have h3 := h2 K
    have h4 : f (K + v) = f v := by rw [Nat.add_comm]; exact hp v
    omega
theorem per_mul {f : Nat → Int} {m : Nat} (h : ∀ n, f (n + m) = f n) (c n : Nat) : f (n + c * m) = f n := by
  induction c with
  | zero => simp
  | succ c ih =>
    have e : n + (c + 1) * m = n + c * m + m := by rw [Nat.add_mul]; omega
    rw [e, h, ih]
theorem avg_move {f : Nat → Int} {m M K d u v : Nat} (h : ∀ n, f (n + m) = f n) (hK : m ∣ K * M) (hd : d + u * m = v * M) (n : Nat) : avg M K f (n + d) = avg M K f n := by
  obtain ⟨c, hc⟩ := hK
  have hp : ∀ t, f (n + (t + K) * M) = f (n + t * M) := by
    intro t
    have e : n + (t + K) * M = n + t * M + c * m := by rw [Nat.add_mul, hc, Nat.mul_comm m c]; omega
    rw [e, per_mul h]
  have h1 := sumN_shift (f := fun t => f (n + t * M)) hp v
  unfold avg
  rw [← h1]
  refine sumN_congr fun t _ => ?_
  show f (n + d + t * M) = f (n + (t + v) * M)
  have e : n + (t + v) * M = n + d + t * M + u * m := by rw [Nat.add_mul]; omega
  rw [e, per_mul h]

theorem alt_sum {α : Type} (ss : List Nat) (F : α → Nat → Int) (L : List α) : ∀ n, alt ss (fun n => sumL (fun x => F x n) L) n = sumL (fun x => alt ss (F x) n) L := by
  induction ss with
  | nil => intro n; rfl
  | cons s ss ih =>
    intro n
    simp only [alt]
    rw [ih, ih]
    clear ih
    induction L with
    | nil => rfl
    | cons x L ihL => simp only [sumL]; omega
theorem alt_comm (ss : List Nat) (f : Nat → Int) (d : Nat) : ∀ n, alt ss f (n + d) = alt ss (fun k => f (k + d)) n := by
  induction ss with
  | nil => intro n; rfl
  | cons s ss ih =>
    intro n
    simp only [alt]
    rw [← ih, ← ih]
    have e : n + s + d = n + d + s := by omega
    rw [e]
theorem alt_zero {f : Nat → Int} {s : Nat} (h : ∀ n, f (n + s) = f n) : ∀ (ss : List Nat), s ∈ ss → ∀ n, alt ss f n = 0
  | [], hs, _ => by simp at hs
  | q :: ss, hs, n => by
    simp only [alt]
    rcases List.mem_cons.1 hs with e | hs
    · subst e
      rw [alt_comm]
      have : (fun k => f (k + s)) = f := funext h
      rw [this]
      omega
    · rw [alt_zero h ss hs, alt_zero h ss hs]; rfl
def subs : List Nat → List Nat
  | [] => [0]
  | s :: ss => subs ss ++ (subs ss).map (s + ·)
def nes : List Nat → List Nat
  | [] => []
  | s :: ss => nes ss ++ (subs ss).map (s + ·)
theorem alt_none {f : Nat → Int} : ∀ (ss : List Nat) (n : Nat), (∀ z ∈ subs ss, f (n + z) = 0) → alt ss f n = 0
  | [], n, h => h 0 (by simp [subs])
  | s :: ss, n, h => by
    simp only [alt]
    rw [alt_none ss n (fun z hz => h z (by simp [subs, hz])), alt_none ss (n + s) (fun z hz => by
      rw [Nat.add_assoc]
      exact h (s + z) (by simp only [subs, List.mem_append, List.mem_map]; exact .inr ⟨z, hz, rfl⟩))]
    rfl
theorem alt_one {f : Nat → Int} : ∀ (ss : List Nat) (n : Nat), (∀ z ∈ nes ss, f (n + z) = 0) → alt ss f n = f n
  | [], n, _ => rfl
  | s :: ss, n, h => by
    simp only [alt]
    rw [alt_one ss n (fun z hz => h z (by simp [nes, hz])), alt_none ss (n + s) (fun z hz => by
      rw [Nat.add_assoc]
      exact h (s + z) (by simp only [nes, List.mem_append, List.mem_map]; exact .inr ⟨z, hz, rfl⟩))]
    omega

/-- A number that a short list lacks. -/
theorem free_at : ∀ (c : Nat) (T : List Nat), T.length < c → ∃ t, 1 ≤ t ∧ t ≤ c ∧ t ∉ T
  | 0, T, h => by omega
  | c + 1, T, h => by
    by_cases hc : c + 1 ∈ T
    · have hl := List.length_erase_of_mem hc
      have hp : 0 < T.length := List.length_pos_of_mem hc
      obtain ⟨t, h1, h2, h3⟩ := free_at c (T.erase (c + 1)) (by omega)
      exact ⟨t, h1, by omega, fun ht => h3 ((List.mem_erase_of_ne (by omega)).2 ht)⟩
    · exact ⟨c + 1, by omega, Nat.le_refl _, hc⟩

/-- Each modulus to 60 with its primes. -/
def psF (M : Nat) : List Nat := (List.range 61).filter fun q => 2 ≤ q && M % q == 0 && (List.range q).all fun d => d < 2 || q % d != 0
def prodF : List Nat → Nat
  | [] => 1
  | q :: r => q * prodF r
/-- What a list of primes of a modulus needs. -/
def okF (M : Nat) : List Nat → Bool
  | [] => true
  | q :: r => (List.range q).all (fun t => t == 0 || (prodF r * (t * (M / q))) % M != 0) && (prodF (q :: r) * (M / q)) % M == 0 && okF M r
theorem ps_ok : ((List.range 61).all fun M => M < 2 || (okF M (psF M) && !(psF M).isEmpty && (List.range 61).all fun m => m == 0 || M ≤ m || (psF M).any fun q => (List.range 61).any fun v => M / q ≤ v * M && (v * M - M / q) % m == 0)) = true := by decide +kernel


theorem okF_cons {M q : Nat} {r : List Nat} (h : okF M (q :: r) = true) : (∀ t, 0 < t → t < q → ¬ M ∣ prodF r * (t * (M / q))) ∧ M ∣ prodF (q :: r) * (M / q) ∧ okF M r = true := by
  simp only [okF, Bool.and_eq_true, List.all_eq_true, List.mem_range, Bool.or_eq_true, beq_iff_eq, bne_iff_ne, ne_eq] at h
  obtain ⟨⟨h1, h2⟩, h3⟩ := h
  refine ⟨fun t ht hq hd => ?_, Nat.dvd_of_mod_eq_zero h2, h3⟩
  rcases h1 t hq with e | e
  · omega
  · exact e (Nat.mod_eq_zero_of_dvd hd)

theorem shifts {M : Nat} (A : List Nat) (a0 p : Nat) (hA : A.length + 1 < p) : ∀ ps : List Nat, okF M ps = true → (∀ q ∈ ps, p ≤ q) →
    ∃ ss : List Nat, ss.length = ps.length ∧ (∀ q ∈ ps, ∃ t, t * (M / q) ∈ ss) ∧ (∀ z ∈ subs ss, M ∣ prodF ps * z) ∧ ∀ z ∈ nes ss, (∀ a ∈ A, a % M ≠ (a0 + z) % M) ∧ a0 % M ≠ (a0 + z) % M
  | [], _, _ => ⟨[], rfl, by simp, by simp [subs], by simp [nes]⟩
  | q :: r, ho, hp => by
    obtain ⟨o1, o2, o3⟩ := okF_cons ho
    obtain ⟨ss, e0, e1, e2, e3⟩ := shifts A a0 p hA r o3 (fun x hx => hp x (by simp [hx]))
    have hq := hp q (by simp)
    let T := A.map fun a => ((List.range q).find? fun t => (prodF r * a) % M == (prodF r * (a0 + t * (M / q))) % M).getD 0
    obtain ⟨t, t1, t2, t3⟩ := free_at (q - 1) T (by simp only [T, List.length_map]; omega)
    have uniq : ∀ a ∈ A, (prodF r * a) % M ≠ (prodF r * (a0 + t * (M / q))) % M := by
      intro a ha he
      apply t3
      simp only [T, List.mem_map]
      refine ⟨a, ha, ?_⟩
      cases hf : (List.range q).find? (fun t => (prodF r * a) % M == (prodF r * (a0 + t * (M / q))) % M) with
      | none =>
        have := List.find?_eq_none.1 hf t (List.mem_range.2 (by omega))
        simp [he] at this
      | some u =>
        have h1 := List.find?_some hf
        have h2 := List.mem_range.1 (List.mem_of_find?_eq_some hf)
        have h3 : (prodF r * (a0 + u * (M / q))) % M = (prodF r * (a0 + t * (M / q))) % M := by
          have := beq_iff_eq.1 h1
          omega
        simp only [Option.getD_some]
        apply Classical.byContradiction
        intro hne
        rcases Nat.lt_or_gt_of_ne hne with hlt | hlt
        · have h4 := Nat.dvd_of_mod_eq_zero (Nat.sub_mod_eq_zero_of_mod_eq h3.symm)
          rw [← Nat.mul_sub, show a0 + t * (M / q) - (a0 + u * (M / q)) = (t - u) * (M / q) by rw [Nat.sub_mul]; omega] at h4
          exact o1 (t - u) (by omega) (by omega) h4
        · have h4 := Nat.dvd_of_mod_eq_zero (Nat.sub_mod_eq_zero_of_mod_eq h3)
          rw [← Nat.mul_sub, show a0 + u * (M / q) - (a0 + t * (M / q)) = (u - t) * (M / q) by rw [Nat.sub_mul]; omega] at h4
          exact o1 (u - t) (by omega) (by omega) h4
    refine ⟨t * (M / q) :: ss, by simp [e0], ?_, ?_, ?_⟩
    · intro x hx
      rcases List.mem_cons.1 hx with e | hx
      · subst e; exact ⟨t, by simp⟩
      · obtain ⟨u, hu⟩ := e1 x hx; exact ⟨u, by simp [hu]⟩
    · intro z hz
      simp only [subs, List.mem_append, List.mem_map] at hz
      rcases hz with hz | ⟨y, hy, rfl⟩
      · obtain ⟨c, hc⟩ := e2 z hz
        exact ⟨q * c, by simp only [prodF]; rw [Nat.mul_assoc, hc, Nat.mul_left_comm]⟩
      · rw [Nat.mul_add]
        apply Nat.dvd_add
        · obtain ⟨c, hc⟩ := o2
          exact ⟨t * c, by rw [Nat.mul_left_comm, hc, Nat.mul_left_comm]⟩
        · obtain ⟨c, hc⟩ := e2 y hy
          exact ⟨q * c, by simp only [prodF]; rw [Nat.mul_assoc, hc, Nat.mul_left_comm]⟩
    · intro z hz
      simp only [nes, List.mem_append, List.mem_map] at hz
      rcases hz with hz | ⟨y, hy, rfl⟩
      · exact e3 z hz
      · obtain ⟨c, hc⟩ := e2 y hy
        have key : (prodF r * (a0 + (t * (M / q) + y))) % M = (prodF r * (a0 + t * (M / q))) % M := by
          rw [← Nat.add_assoc, Nat.mul_add, hc, Nat.add_mul_mod_self_left]
        refine ⟨fun a ha he => uniq a ha ?_, fun he => ?_⟩
        · rw [← key, Nat.mul_mod, he, ← Nat.mul_mod]
        · have h3 : (prodF r * a0) % M = (prodF r * (a0 + t * (M / q))) % M := by
            rw [← key, Nat.mul_mod, he, ← Nat.mul_mod]
          have h4 := Nat.dvd_of_mod_eq_zero (Nat.sub_mod_eq_zero_of_mod_eq h3.symm)
          rw [← Nat.mul_sub, Nat.add_sub_cancel_left] at h4
          exact o1 t (by omega) (by omega) h4

theorem alt_const (c : Int) : ∀ (ss : List Nat), 0 < ss.length → ∀ n, alt ss (fun _ => c) n = 0
  | [], h, _ => by simp at h
  | s :: ss, _, n => by
    have h : ∀ (ss : List Nat) n k, alt ss (fun _ => c) n = alt ss (fun _ => c) k := by
      intro ss
      induction ss with
      | nil => intro n k; rfl
      | cons s ss ih => intro n k; simp only [alt]; rw [ih n k, ih (n + s) (k + s)]
    simp only [alt]
    rw [h ss n (n + s)]
    omega
def comN : List (Nat × Nat) → Nat
  | [] => 1
  | x :: r => x.2 * comN r
theorem comN_dvd {x : Nat × Nat} : ∀ {L : List (Nat × Nat)}, x ∈ L → x.2 ∣ comN L
  | y :: r, h => by
    rcases List.mem_cons.1 h with e | h
    · subst e; exact ⟨comN r, rfl⟩
    · obtain ⟨c, hc⟩ := comN_dvd h
      exact ⟨y.2 * c, by simp only [comN]; rw [hc, Nat.mul_left_comm]⟩
theorem comN_pos : ∀ {L : List (Nat × Nat)}, (∀ x ∈ L, 0 < x.2) → 0 < comN L
  | [], _ => by simp [comN]
  | y :: r, h => Nat.mul_pos (h y (by simp)) (comN_pos fun x hx => h x (by simp [hx]))
theorem cv_per (x : Nat × Nat) (n : Nat) : cv x (n + x.2) = cv x n := by simp [cv]
theorem sumL_congr {α : Type} {f g : α → Int} : ∀ {L : List α}, (∀ x ∈ L, f x = g x) → sumL f L = sumL g L
  | [], _ => rfl
  | x :: r, h => by
    simp only [sumL]
    rw [h x (by simp), sumL_congr fun y hy => h y (by simp [hy])]
theorem sumL_avg (M K : Nat) (L : List (Nat × Nat)) (n : Nat) : sumL (fun x => avg M K (cv x) n) L = avg M K (fun n => sumL (fun x => cv x n) L) n := by
  unfold avg
  induction K with
  | zero =>
    simp only [sumN]
    induction L with
    | nil => rfl
    | cons x r ih => simp only [sumL]; omega
  | succ K ih =>
    simp only [sumN]
    rw [← ih]
    clear ih
    induction L with
    | nil => rfl
    | cons x r ih => simp only [sumL]; omega
theorem sumL_pos {α : Type} {f : α → Int} : ∀ {L : List α}, (∀ x ∈ L, 0 ≤ f x) → (∃ x ∈ L, 0 < f x) → 0 < sumL f L
  | [], _, h => by obtain ⟨x, hx, _⟩ := h; simp at hx
  | y :: r, h0, ⟨x, hx, h⟩ => by
    have hnn : ∀ {L : List _}, (∀ x ∈ L, 0 ≤ f x) → 0 ≤ sumL f L := by
      intro L hL
      induction L with
      | nil => exact Int.le_refl _
      | cons z r ih =>
        simp only [sumL]
        have := hL z (by simp)
        have := ih fun x hx => hL x (by simp [hx])
        omega
    have hy := h0 y (by simp)
    simp only [sumL]
    rcases List.mem_cons.1 hx with e | hx
    · subst e
      have := hnn (L := r) fun x hx => h0 x (by simp [hx])
      omega
    · have := sumL_pos (L := r) (fun x hx => h0 x (by simp [hx])) ⟨x, hx, h⟩
      omega
theorem avg_same {M K : Nat} {x : Nat × Nat} (h : x.2 = M) (n : Nat) : avg M K (cv x) n = K * cv x n := by
  unfold avg
  rw [← sumN_const]
  refine sumN_congr fun t _ => ?_
  rw [← h]
  exact per_mul (cv_per x) t n

/-- In an exact system the greatest modulus comes at least as often as its least prime factor. -/
theorem great {L : List (Nat × Nat)} {M p : Nat} (hv : ∀ x ∈ L, x.1 < x.2) (hx : ∀ n, sumL (fun x => cv x n) L = 1)
    (hM : ∃ x ∈ L, x.2 = M) (hmax : ∀ x ∈ L, x.2 ≤ M) (h2 : 2 ≤ M) (h60 : M ≤ 60) (hp : ∀ q, 2 ≤ q → q ∣ M → p ≤ q) :
    p ≤ (L.filter fun x => x.2 == M).length := by
  apply Classical.byContradiction
  intro hlt
  obtain ⟨x0, hx0, hxM⟩ := hM
  have hck := ps_ok
  rw [List.all_eq_true] at hck
  have hck := hck M (List.mem_range.2 (by omega))
  simp only [Bool.or_eq_true, Bool.and_eq_true, decide_eq_true_eq, Bool.not_eq_true', List.all_eq_true, List.mem_range, List.any_eq_true, beq_iff_eq] at hck
  rcases hck with hck | ⟨⟨ho, hne⟩, hq⟩
  · omega
  have hps : ∀ q ∈ psF M, 2 ≤ q ∧ q ∣ M := by
    intro q hq
    simp only [psF, List.mem_filter, List.mem_range, Bool.and_eq_true, decide_eq_true_eq, beq_iff_eq] at hq
    exact ⟨hq.2.1.1, Nat.dvd_of_mod_eq_zero hq.2.1.2⟩
  obtain ⟨A, hA⟩ : ∃ A, A = ((L.filter fun x => x.2 == M).filter fun x => x.1 != x0.1).map Prod.fst := ⟨_, rfl⟩
  have hAl : A.length + 1 < p := by
    have h1 : (((L.filter fun x => x.2 == M).filter fun x => x.1 != x0.1)).length < (L.filter fun x => x.2 == M).length := by
      apply List.length_filter_lt_length_iff_exists.2
      exact ⟨x0, List.mem_filter.2 ⟨hx0, by simp [hxM]⟩, by simp⟩
    rw [hA, List.length_map]
    omega
  obtain ⟨ss, e0, e1, -, e3⟩ := shifts A x0.1 p hAl (psF M) ho (fun q hq => hp q (hps q hq).1 (hps q hq).2)
  have hpos : 0 < ss.length := by
    rw [e0]
    cases hl : psF M with
    | nil => rw [hl] at hne; simp at hne
    | cons a b => simp
  obtain ⟨K, hK⟩ : ∃ K, comN L = K := ⟨_, rfl⟩
  have hK0 : 0 < K := hK ▸ comN_pos fun x hx => by have := hv x hx; omega
  have hsum : sumL (fun x => alt ss (avg M K (cv x)) x0.1) L = 0 := by
    rw [← alt_sum ss (fun x n => avg M K (cv x) n) L x0.1]
    have : (fun n => sumL (fun x => avg M K (cv x) n) L) = fun _ => (K : Int) := by
      funext n
      rw [sumL_avg]
      have : (fun n => sumL (fun x => cv x n) L) = fun _ => 1 := funext hx
      rw [this]
      unfold avg
      rw [sumN_const]; omega
    rw [this]
    exact alt_const _ ss hpos _
  have hone : ∀ x ∈ L, x.2 = M → alt ss (avg M K (cv x)) x0.1 = K * cv x x0.1 := by
    intro x hx hxm
    rw [← avg_same hxm]
    refine alt_one ss _ fun z hz => ?_
    rw [avg_same hxm]
    have h0 : cv x (x0.1 + z) = 0 := by
      obtain ⟨d1, d2⟩ := e3 z hz
      unfold cv
      rw [if_neg]
      rw [hxm]
      intro he
      have hxl : x.1 < M := by have := hv x hx; omega
      by_cases hxe : x.1 = x0.1
      · apply d2; rw [he, ← hxe, Nat.mod_eq_of_lt hxl]
      · apply d1 x.1 (by rw [hA]; exact List.mem_map.2 ⟨x, List.mem_filter.2 ⟨List.mem_filter.2 ⟨hx, by simp [hxm]⟩, by simp [hxe]⟩, rfl⟩)
        rw [he, Nat.mod_eq_of_lt hxl]
    rw [h0]; omega
  have hzero : ∀ x ∈ L, x.2 ≠ M → alt ss (avg M K (cv x)) x0.1 = 0 := by
    intro x hx hxm
    have h1 := hv x hx
    have h3 := hmax x hx
    rcases hq x.2 (by omega) with h4 | ⟨q, hq1, v, hv1, hv2, hv3⟩
    · omega
    obtain ⟨t, ht⟩ := e1 q hq1
    refine alt_zero (s := t * (M / q)) (fun n => ?_) ss ht _
    refine per_mul (m := M / q) (fun n => ?_) t n
    obtain ⟨u, hu⟩ := Nat.dvd_of_mod_eq_zero hv3
    refine avg_move (m := x.2) (u := u) (v := v) (cv_per x) ?_ ?_ n
    · obtain ⟨c, hc⟩ := comN_dvd hx
      exact ⟨c * M, by rw [← hK, hc, Nat.mul_assoc]⟩
    · rw [Nat.mul_comm u]; omega
  have := sumL_pos (f := fun x => alt ss (avg M K (cv x)) x0.1) (L := L) (fun x hx => by
      by_cases hxm : x.2 = M
      · show 0 ≤ alt ss (avg M K (cv x)) x0.1
        rw [hone x hx hxm]
        exact Int.mul_nonneg (by omega) (by unfold cv; split <;> omega)
      · show 0 ≤ alt ss (avg M K (cv x)) x0.1
        rw [hzero x hx hxm]; omega) ⟨x0, hx0, by
        show 0 < alt ss (avg M K (cv x0)) x0.1
        rw [hone x0 hx0 hxM]
        have : cv x0 x0.1 = 1 := by unfold cv; rw [Nat.mod_eq_of_lt (hv x0 hx0)]; simp
        rw [this]; omega⟩
  omega

end Go.Proofs.Ytanhjgneaaenpaa.GM
