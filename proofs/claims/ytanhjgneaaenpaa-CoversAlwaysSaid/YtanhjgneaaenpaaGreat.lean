/- The mathematics of CoversGreatest over systems of pairs. No condition. -/
import Derived.Test.YtanhjgneaaenpaaSumMath
import Derived.Test.YtanhjgneaaenpaaGreatMath
namespace Go.Proofs.Ytanhjgneaaenpaa

theorem tm_mod {W n : Nat} : ∀ {L : List (Int × Int)}, (∀ p ∈ L, 0 ≤ p.1 ∧ p.1 < p.2 ∧ p.2.toNat ∣ W) → tm ((n % W : Nat) : Int) L = tm (n : Int) L
  | [], _ => rfl
  | p :: t, h => by
    obtain ⟨a, m⟩ := p
    obtain ⟨h1, h2, h3⟩ := h (a, m) List.mem_cons_self
    simp only [tm]
    rw [tm_mod (fun q hq => h q (List.mem_cons_of_mem _ hq)), cv_mod h1 h2, cv_mod h1 h2, Nat.mod_mod_of_dvd _ h3]
theorem Sys.mod {L : List (Int × Int)} (h : Sys L) (n : Nat) : tm ((n % wl L : Nat) : Int) L = tm (n : Int) L :=
  tm_mod fun p hp => ⟨(h.ok p hp).2.2.1, (h.ok p hp).2.2.2, wl_dvd hp⟩
def natL (L : List (Int × Int)) : List (Nat × Nat) := L.map fun p => (p.1.toNat, p.2.toNat)
theorem sum_nat {n : Nat} : ∀ {L : List (Int × Int)}, (∀ p ∈ L, 0 ≤ p.1 ∧ p.1 < p.2) → GM.sumL (fun x => GM.cv x n) (natL L) = (tm n L : Int)
  | [], _ => rfl
  | p :: t, h => by
    obtain ⟨a, m⟩ := p
    obtain ⟨h1, h2⟩ := h (a, m) List.mem_cons_self
    have ih := sum_nat (n := n) (L := t) (fun q hq => h q (List.mem_cons_of_mem _ hq))
    unfold natL at ih ⊢
    simp only [List.map_cons, GM.sumL, tm, GM.cv]
    rw [cv_mod h1 h2]
    have e : GM.sumL (fun x => GM.cv x n) (List.map (fun p : Int × Int => (p.1.toNat, p.2.toNat)) t) = (tm n t : Int) := ih
    unfold GM.cv at e
    rw [e]
    by_cases hh : n % m.toNat = a.toNat
    · simp [hh]; omega
    · simp [hh]

/-- The greatest modulus of a list and how often it comes. -/
structure Mx (A : List (Int × Int)) (M C : Nat) : Prop where
  le : ∀ p ∈ A, p.2 ≤ (M : Int)
  cnt : (A.filter fun p => p.2 == (M : Int)).length = C
  has : A ≠ [] → ∃ p ∈ A, p.2 = (M : Int)
theorem Mx.nil : Mx [] 0 0 := ⟨fun p hp => (by cases hp), rfl, fun h => absurd rfl h⟩
theorem Mx.more {A : List (Int × Int)} {M C : Nat} {x : Int} {m : Nat} (h : Mx A M C) (hm : M < m) : Mx (A ++ [(x, (m : Int))]) m 1 := by
  refine ⟨fun p hp => ?_, ?_, fun _ => ⟨(x, (m : Int)), by simp, rfl⟩⟩
  · rcases List.mem_append.1 hp with hp | hp
    · have := h.le p hp; omega
    · have : p = (x, (m : Int)) := by simpa using hp
      rw [this]; exact Int.le_refl _
  · rw [List.filter_append]
    have e : (A.filter fun p => p.2 == (m : Int)) = [] := by
      rw [List.filter_eq_nil_iff]
      intro p hp
      have := h.le p hp
      simp; omega
    rw [e]; simp
theorem Mx.same {A : List (Int × Int)} {M C : Nat} {x : Int} (h : Mx A M C) : Mx (A ++ [(x, (M : Int))]) M (C + 1) := by
  refine ⟨fun p hp => ?_, ?_, fun _ => ⟨(x, (M : Int)), by simp, rfl⟩⟩
  · rcases List.mem_append.1 hp with hp | hp
    · exact h.le p hp
    · have : p = (x, (M : Int)) := by simpa using hp
      rw [this]; exact Int.le_refl _
  · rw [List.filter_append, List.length_append, h.cnt]; simp
theorem Mx.less {A : List (Int × Int)} {M C : Nat} {x : Int} {m : Nat} (h : Mx A M C) (hm : m < M) (hA : A = [] → M = 0) : Mx (A ++ [(x, (m : Int))]) M C := by
  refine ⟨fun p hp => ?_, ?_, fun _ => ?_⟩
  · rcases List.mem_append.1 hp with hp | hp
    · exact h.le p hp
    · have : p = (x, (m : Int)) := by simpa using hp
      rw [this]; show (m : Int) ≤ M; omega
  · rw [List.filter_append, List.length_append, h.cnt]
    have e : ([(x, (m : Int))].filter fun p => p.2 == (M : Int)) = [] := by simp; omega
    rw [e]; rfl
  · by_cases e : A = []
    · have := hA e; omega
    · obtain ⟨p, hp, h2⟩ := h.has e
      exact ⟨p, List.mem_append_left _ hp, h2⟩

/-- The law's end: as often as p, the least number from 2 on that divides the greatest modulus. -/
theorem great_end {L : List (Int × Int)} {M C p : Nat} (hs : Sys L) (hl : (leftF L).2 = 4) (ht : (twiceF L).2 = 4) (h2 : 2 ≤ L.length) (hm : Mx L M C)
    (hp2 : 2 ≤ p) (hp : ∀ q, 2 ≤ q → q < p → ¬ q ∣ M) (h1 : M ≤ 1 → p = 2) : p ≤ C := by
  have hone : ∀ n : Nat, tm (n : Int) L = 1 := by
    intro n
    rw [← hs.mod n]
    have hw := hs.wl1
    have hlt := Nat.mod_lt n (show 0 < wl L by omega)
    have := left4.1 hl _ hlt
    have := twice4.1 ht _ hlt
    omega
  have hne : L ≠ [] := fun e => by rw [e] at h2; simp at h2
  obtain ⟨p0, hp0, hpM⟩ := hm.has hne
  have hM60 := hs.ok p0 hp0
  by_cases hM : M ≤ 1
  · have := h1 hM
    subst this
    have hall : (L.filter fun p => p.2 == (M : Int)) = L := by
      rw [List.filter_eq_self]
      intro q hq
      have := hm.le q hq
      have := (hs.ok q hq).1
      simp; omega
    rw [← hm.cnt, hall]; exact h2
  · have hv : ∀ x ∈ natL L, x.1 < x.2 := by
      intro x hx
      obtain ⟨q, hq, rfl⟩ := List.mem_map.1 hx
      have := hs.ok q hq
      show q.1.toNat < q.2.toNat
      omega
    have hx : ∀ n, GM.sumL (fun x => GM.cv x n) (natL L) = 1 := by
      intro n
      rw [sum_nat (fun q hq => ⟨(hs.ok q hq).2.2.1, (hs.ok q hq).2.2.2⟩), hone n]; rfl
    have hg := GM.great (L := natL L) (M := M) (p := p) hv hx
      ⟨(p0.1.toNat, p0.2.toNat), List.mem_map.2 ⟨p0, hp0, rfl⟩, by show p0.2.toNat = M; omega⟩
      (fun x hx => by obtain ⟨q, hq, rfl⟩ := List.mem_map.1 hx; have := hm.le q hq; show q.2.toNat ≤ M; omega)
      (by omega) (by omega) (fun q h2 hd => Nat.le_of_not_lt fun hlt => hp q h2 hlt hd)
    have e : ((natL L).filter fun x => x.2 == M).length = C := by
      rw [← hm.cnt]
      unfold natL
      rw [List.filter_map, List.length_map]
      congr 1
      apply List.filter_congr
      intro q hq
      have := (hs.ok q hq).1
      rw [Bool.eq_iff_iff]
      simp only [Function.comp_apply, beq_iff_eq]
      omega
    omega
end Go.Proofs.Ytanhjgneaaenpaa
