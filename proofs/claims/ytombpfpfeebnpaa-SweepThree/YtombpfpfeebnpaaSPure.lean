/- Distances, plain: ways, a search by rising ranks, going over all arcs. Nothing of the program is named here. -/
import Derived.Test.YtombpfpfeebnpaaHPure
namespace Go.Proofs.Ytombpfpfeebnpaa
set_option linter.unusedVariables false
set_option linter.unusedSimpArgs false

/-- what is beyond all distances -/
abbrev INF : Int := 1152921504606846976
/-- ways: by which one goes on, and how far -/
abbrev Goes := Int → Int → Int → Prop
/-- of n nodes, each arc of 1 to 2^20 -/
def Fair (n : Nat) (E : Goes) : Prop := ∀ u t x, E u t x → 0 ≤ u ∧ u < n ∧ 0 ≤ t ∧ t < n ∧ 1 ≤ x ∧ x ≤ 1048576
/-- a way from s, and its sum -/
inductive Walk (n : Nat) (E : Goes) (s : Int) : Int → Int → Prop where
  | none : 0 ≤ s → s < n → Walk n E s s 0
  | more {u t x y : Int} : Walk n E s u y → E u t x → Walk n E s t (y + x)
/-- the distance -/
structure IsD (n : Nat) (E : Goes) (s u d : Int) : Prop where
  ge : 0 ≤ d
  le : d ≤ INF
  walk : d < INF → Walk n E s u d
  least : ∀ y, Walk n E s u y → d ≤ y

theorem Walk.nonneg {n : Nat} {E : Goes} {s u y : Int} (hE : Fair n E) (h : Walk n E s u y) : 0 ≤ y ∧ 0 ≤ u ∧ u < n ∧ 0 ≤ s ∧ s < n := by
  induction h with
  | none h1 h2 => exact ⟨Int.le_refl _, h1, h2, h1, h2⟩
  | more h1 h2 ih => have := hE _ _ _ h2; omega
theorem IsD.uniq {n : Nat} {E : Goes} {s u d e : Int} (h : IsD n E s u d) (k : IsD n E s u e) : d = e := by
  rcases Int.lt_trichotomy d e with hlt | he | hlt
  · have := k.least d (h.walk (by have := k.le; omega)); omega
  · exact he
  · have := h.least e (k.walk (by have := h.le; omega)); omega
theorem IsD.none {n : Nat} {E : Goes} {s u d : Int} (hE : Fair n E) (hs : ¬ (0 ≤ s ∧ s < n)) (h : IsD n E s u d) : d = INF := by
  have := h.le
  by_cases h1 : d < INF
  · have := (h.walk h1).nonneg hE; exact absurd ⟨this.2.2.2.1, this.2.2.2.2⟩ hs
  · omega
theorem isD_none {n : Nat} {E : Goes} {s u : Int} (hE : Fair n E) (hs : ¬ (0 ≤ s ∧ s < n)) : IsD n E s u INF :=
  ⟨by decide, Int.le_refl _, fun h => absurd h (by decide), fun y h => absurd ⟨(h.nonneg hE).2.2.2.1, (h.nonneg hE).2.2.2.2⟩ hs⟩
theorem isD_self {n : Nat} {E : Goes} {s : Int} (hE : Fair n E) (hs : 0 ≤ s ∧ s < n) : IsD n E s s 0 :=
  ⟨Int.le_refl _, by decide, fun _ => .none hs.1 hs.2, fun y h => (h.nonneg hE).1⟩
theorem least_of (P : Nat → Prop) : ∀ k, P k → ∃ m, P m ∧ ∀ j, P j → m ≤ j := by
  intro k
  induction k using Nat.strongRecOn with
  | ind k ih =>
    intro hk
    by_cases h : ∃ j, j < k ∧ P j
    · obtain ⟨j, h1, h2⟩ := h; exact ih j h1 h2
    · exact ⟨k, hk, fun j hj => Nat.le_of_not_lt (fun hlt => h ⟨j, hlt, hj⟩)⟩
theorem isD_exists {n : Nat} {E : Goes} (hE : Fair n E) (s u : Int) : ∃ d, IsD n E s u d := by
  by_cases h : ∃ y : Nat, Walk n E s u y ∧ (y : Int) < INF
  · obtain ⟨y, hy⟩ := h
    obtain ⟨m, ⟨hm, hm2⟩, hl⟩ := least_of (fun y : Nat => Walk n E s u y ∧ (y : Int) < INF) y hy
    refine ⟨m, by omega, by omega, fun _ => hm, fun z hz => ?_⟩
    by_cases hz2 : z < INF
    · have h0 := (hz.nonneg hE).1
      have := hl z.toNat ⟨by rw [Int.toNat_of_nonneg h0]; exact hz, by omega⟩
      omega
    · omega
  · refine ⟨INF, by decide, Int.le_refl _, fun h => absurd h (by decide), fun z hz => ?_⟩
    have h0 := (hz.nonneg hE).1
    exact Decidable.byContradiction (fun hc => h ⟨z.toNat, by rw [Int.toNat_of_nonneg h0]; exact hz, by omega⟩)
/-- an arc is no shorter than what it adds -/
theorem IsD.arc {n : Nat} {E : Goes} {s u t x d e : Int} (hE : Fair n E) (h : IsD n E s u d) (k : IsD n E s t e) (ha : E u t x) : e ≤ d + x := by
  have hx := hE _ _ _ ha
  by_cases h1 : d < INF
  · exact k.least _ (.more (h.walk h1) ha)
  · have := k.le; omega
/-- each distance but 0 and the end is made of an arc and a distance -/
theorem IsD.made {n : Nat} {E : Goes} {s u d : Int} (hE : Fair n E) (h : IsD n E s u d) (h1 : d < INF) (hu : u ≠ s) : ∃ p x e, E p u x ∧ IsD n E s p e ∧ e + x = d := by
  have hw := h.walk h1
  cases hw with
  | none _ _ => exact absurd rfl hu
  | @more p _ x y hw ha =>
    obtain ⟨e, he⟩ := isD_exists hE s p
    have h2 := he.least y hw
    have h3 := he.arc hE h ha
    exact ⟨p, x, e, ha, he, by omega⟩
theorem Walk.join {n : Nat} {E : Goes} {s u t y z : Int} (h : Walk n E s u y) (k : Walk n E u t z) : Walk n E s t (y + z) := by
  induction k with
  | none _ _ => simpa using h
  | more _ ha ih => rw [← Int.add_assoc]; exact .more ih ha
/-- no way is shorter by way of a third node -/
theorem IsD.three {n : Nat} {E : Goes} {s u t d e f : Int} (h : IsD n E s u d) (k : IsD n E u t e) (l : IsD n E s t f) : f ≤ d + e := by
  have := l.le; have := h.ge; have := k.ge
  by_cases h1 : d < INF
  · by_cases h2 : e < INF
    · exact l.least _ ((h.walk h1).join (k.walk h2))
    · omega
  · omega
/-- what nothing lowers is the distance -/
theorem isD_fix {n : Nat} {E : Goes} {s : Int} (hE : Fair n E) (D : Int → Int) (h0 : ∀ u : Int, 0 ≤ u → u < n → 0 ≤ D u ∧ D u ≤ INF) (hs : 0 ≤ s → s < n → D s = 0) (hw : ∀ u : Int, 0 ≤ u → u < n → D u < INF → Walk n E s u (D u)) (ha : ∀ u t x, E u t x → D t ≤ D u + x) (u : Int) (hu : 0 ≤ u) (hu2 : u < n) : IsD n E s u (D u) := by
  refine ⟨(h0 u hu hu2).1, (h0 u hu hu2).2, hw u hu hu2, fun y hy => ?_⟩
  clear hu hu2
  induction hy with
  | none h1 h2 => rw [hs h1 h2]; exact Int.le_refl _
  | more _ k ih => have := ha _ _ _ k; omega

/-- all distances from s -/
def IsDs (n : Nat) (E : Goes) (s : Int) (L : List Int) : Prop := L.length = n ∧ ∀ (u : Nat) d, L[u]? = some d → IsD n E s u d
theorem IsDs.uniq {n : Nat} {E : Goes} {s : Int} {L M : List Int} (h : IsDs n E s L) (k : IsDs n E s M) : L = M := by
  refine List.ext_getElem (by rw [h.1, k.1]) (fun i h1 h2 => ?_)
  exact (h.2 i L[i] (by simp [h1])).uniq (k.2 i M[i] (by simp [h2]))
theorem isDs_none {n : Nat} {E : Goes} {s : Int} (hE : Fair n E) (hs : ¬ (0 ≤ s ∧ s < n)) : IsDs n E s (List.replicate n INF) := by
  refine ⟨List.length_replicate, fun u d h => ?_⟩
  rw [List.getElem?_replicate] at h
  by_cases hu : u < n
  · rw [if_pos hu] at h; cases h; exact isD_none hE hs
  · rw [if_neg hu] at h; cases h

/- a search -/
/-- a search under way: L: how far each node is by the ways that were seen; T: seen and not taken; R: taken, in their order; Dn: the arcs that were gone along -/
structure Dij (n : Nat) (E : Goes) (s : Int) (L : List Int) (T R : List It) (Dn : Goes) : Prop where
  len : L.length = n
  rng : ∀ (u : Nat) d, L[u]? = some d → 0 ≤ d ∧ d ≤ INF
  walk : ∀ (u : Nat) d, L[u]? = some d → d < INF → Walk n E s u d
  start : ∀ u : Nat, s = u → u < n → L[u]? = some 0
  heap : ∀ y : It, y ∈ T ↔ (L[y.1]? = some y.2 ∧ y.2 < INF ∧ y ∉ R)
  took : ∀ y ∈ R, L[y.1]? = some y.2 ∧ y.2 < INF
  sort : R.Pairwise bef
  low : ∀ y ∈ R, ∀ z ∈ T, bef y z
  done : ∀ (u t : Nat) x d, Dn u t x → (u, d) ∈ R → ∃ e, L[t]? = some e ∧ e ≤ d + x

theorem Dij.taken_or {n : Nat} {E : Goes} {s : Int} {L : List Int} {T R : List It} {Dn : Goes} (h : Dij n E s L T R Dn) {u : Nat} {d : Int} (hu : L[u]? = some d) : (u, d) ∈ R ∨ (u, d) ∈ T ∨ d = INF := by
  by_cases h1 : (u, d) ∈ R
  · exact .inl h1
  · by_cases h2 : d < INF
    · exact .inr (.inl ((h.heap (u, d)).2 ⟨hu, h2, h1⟩))
    · have := (h.rng u d hu).2; exact .inr (.inr (by omega))
theorem Dij.lt {n : Nat} {E : Goes} {s : Int} {L : List Int} {T R : List It} {Dn : Goes} (h : Dij n E s L T R Dn) {y : It} (hy : y ∈ R) : y.1 < n := by
  have := (List.getElem?_eq_some_iff.1 (h.took y hy).1).1; rw [h.len] at this; exact this
theorem Dij.few {n : Nat} {E : Goes} {s : Int} {L : List Int} {T R : List It} {Dn : Goes} (h : Dij n E s L T R Dn) : R.length ≤ n := by
  have := few_of n (R.map Prod.fst) (by
    rw [List.nodup_iff_pairwise_ne, List.pairwise_map]
    refine h.sort.imp_of_mem (fun {a b} ha hb hab he => ?_)
    have h1 := (h.took a ha).1
    have h2 := (h.took b hb).1
    rw [he, h2] at h1
    have : a = b := Prod.ext he (by simpa using h1.symm)
    rw [this] at hab
    exact bef_irr _ hab) (by
    intro x hx
    obtain ⟨y, hy, rfl⟩ := List.mem_map.1 hx
    exact h.lt hy)
  simpa using this
/-- what is taken next -/
theorem Dij.pop {n : Nat} {E : Goes} {s : Int} {L : List Int} {T T' R : List It} {Dn : Goes} (h : Dij n E s L T R Dn) {x : It} (hx : x ∈ T) (hm : ∀ y ∈ T, ¬ bef y x) (hT : ∀ u, u ∈ T' ↔ u ∈ T ∧ u.1 ≠ x.1) :
    Dij n E s L T' (R ++ [x]) (fun u t w => Dn u t w ∧ u ≠ x.1) := by
  have hx2 := (h.heap x).1 hx
  refine ⟨h.len, h.rng, h.walk, h.start, ?_, ?_, ?_, ?_, ?_⟩
  · intro y
    rw [hT y, h.heap y]
    simp only [List.mem_append, List.mem_singleton, not_or]
    constructor
    · rintro ⟨⟨h1, h2, h3⟩, h4⟩
      exact ⟨h1, h2, h3, fun e => h4 (by rw [e])⟩
    · rintro ⟨h1, h2, h3, h4⟩
      refine ⟨⟨h1, h2, h3⟩, fun e => h4 ?_⟩
      rw [e, hx2.1] at h1
      exact Prod.ext e (by simpa using h1.symm)
  · intro y hy
    rcases List.mem_append.1 hy with hy | hy
    · exact h.took y hy
    · rw [List.mem_singleton] at hy; subst hy; exact ⟨hx2.1, hx2.2.1⟩
  · rw [List.pairwise_append]
    refine ⟨h.sort, List.pairwise_singleton _ _, fun a ha b hb => ?_⟩
    rw [List.mem_singleton] at hb; subst hb; exact h.low a ha b hx
  · intro y hy z hz
    have hz2 := (hT z).1 hz
    rcases List.mem_append.1 hy with hy | hy
    · exact h.low y hy z hz2.1
    · rw [List.mem_singleton] at hy; subst hy
      exact Decidable.byContradiction (fun hc => hz2.2 (by rw [bef_total hc (hm z hz2.1)]))
  · intro u t w d hd hu
    rcases List.mem_append.1 hu with hu | hu
    · exact h.done u t w d hd.1 hu
    · rw [List.mem_singleton] at hu
      exact absurd (by rw [← hu]) hd.2
/-- an arc that is gone along and is no shorter -/
theorem Dij.skip {n : Nat} {E : Goes} {s : Int} {L : List Int} {T R : List It} {Dn : Goes} (h : Dij n E s L T R Dn) {x : It} {t : Nat} {w old : Int} (hx : x ∈ R) (hold : L[t]? = some old) (hle : ¬ (min (x.2 + w) INF < old)) :
    Dij n E s L T R (fun u t' w' => Dn u t' w' ∨ (u = x.1 ∧ t' = t ∧ w' = w)) := by
  refine { h with done := ?_ }
  intro u t' w' d hd hu
  rcases hd with hd | ⟨h1, h2, rfl⟩
  · exact h.done u t' w' d hd hu
  · obtain rfl : u = x.1 := by omega
    obtain rfl : t' = t := by omega
    have h3 := (h.took _ hu).1
    have h4 := (h.took _ hx).1
    simp only at h3
    rw [h4] at h3
    have h5 := (h.rng _ _ hold).2
    simp at h3
    exact ⟨old, hold, by omega⟩
/-- .. and is shorter -/
theorem Dij.see {n : Nat} {E : Goes} {s : Int} {L : List Int} {T T' R : List It} {Dn : Goes} (hE : Fair n E) (h : Dij n E s L T R Dn) {x : It} {t : Nat} {w old : Int} (hx : x ∈ R) (hmax : ∀ y ∈ R, y.2 ≤ x.2) (ha : E x.1 t w) (hold : L[t]? = some old) (hlt : x.2 + w < old)
    (hT : ∀ u, u ∈ T' ↔ u = (t, x.2 + w) ∨ u ∈ T ∧ u.1 ≠ t) :
    Dij n E s (L.set t (x.2 + w)) T' R (fun u t' w' => Dn u t' w' ∨ (u = x.1 ∧ t' = t ∧ w' = w)) := by
  have hw := hE _ _ _ ha
  have hx2 := h.took x hx
  have hx0 := h.rng _ _ hx2.1
  have ho := h.rng _ _ hold
  have htl := (List.getElem?_eq_some_iff.1 hold).1
  have hnR : ∀ y ∈ R, y.1 ≠ t := by
    intro y hy e
    have h1 := (h.took y hy).1
    rw [e, hold] at h1
    have := hmax y hy
    simp at h1
    omega
  have hset : ∀ u : Nat, u ≠ t → (L.set t (x.2 + w))[u]? = L[u]? := fun u hu => by rw [List.getElem?_set, if_neg (fun e => hu e.symm)]
  have hsett : (L.set t (x.2 + w))[t]? = some (x.2 + w) := by rw [List.getElem?_set, if_pos rfl, if_pos htl]
  refine ⟨by rw [List.length_set]; exact h.len, ?_, ?_, ?_, ?_, ?_, h.sort, ?_, ?_⟩
  · intro u d hu
    by_cases e : u = t
    · subst e; rw [hsett] at hu; cases hu; omega
    · rw [hset u e] at hu; exact h.rng u d hu
  · intro u d hu hd
    by_cases e : u = t
    · subst e; rw [hsett] at hu; cases hu
      exact .more (h.walk _ _ hx2.1 hx2.2) ha
    · rw [hset u e] at hu; exact h.walk u d hu hd
  · intro u hu hn
    have h0 := h.start u hu hn
    have e : u ≠ t := by
      rintro rfl
      rw [hold] at h0; cases h0; omega
    rw [hset u e]; exact h0
  · intro y
    rw [hT y]
    by_cases e : y.1 = t
    · constructor
      · rintro (rfl | ⟨_, h1⟩)
        · exact ⟨hsett, by simp only; omega, fun hc => hnR _ hc rfl⟩
        · exact absurd e h1
      · rintro ⟨h1, _, _⟩
        rw [e, hsett] at h1
        exact .inl (Prod.ext e (by simpa using h1.symm))
    · rw [hset y.1 e, h.heap y]
      constructor
      · rintro (rfl | ⟨h1, _⟩)
        · exact absurd rfl e
        · exact h1
      · exact fun h1 => .inr ⟨h1, e⟩
  · intro y hy
    rw [hset y.1 (hnR y hy)]; exact h.took y hy
  · intro y hy z hz
    rcases (hT z).1 hz with rfl | ⟨h1, _⟩
    · left; have := hmax y hy; simp only; omega
    · exact h.low y hy z h1
  · intro u t' w' d hd hu
    have hdone : ∃ e, L[t']? = some e ∧ (e ≤ d + w' ∨ (t' = t ∧ x.2 + w ≤ d + w')) := by
      rcases hd with hd | ⟨h1, h2, rfl⟩
      · obtain ⟨e, h1, h2⟩ := h.done u t' w' d hd hu; exact ⟨e, h1, .inl h2⟩
      · obtain rfl : u = x.1 := by omega
        obtain rfl : t' = t := by omega
        have h3 := (h.took _ hu).1
        simp only at h3
        rw [hx2.1] at h3
        simp at h3
        exact ⟨old, hold, .inr ⟨rfl, by omega⟩⟩
    obtain ⟨e, h1, h2⟩ := hdone
    by_cases et : t' = t
    · subst et
      rw [hold] at h1; cases h1
      exact ⟨x.2 + w, hsett, by omega⟩
    · exact ⟨e, by rw [hset t' et]; exact h1, by omega⟩
theorem Dij.dn {n : Nat} {E : Goes} {s : Int} {L : List Int} {T R : List It} {Dn Dm : Goes} (h : Dij n E s L T R Dn) (hm : ∀ u t w, Dm u t w → Dn u t w) : Dij n E s L T R Dm := { h with done := fun u t x d hd hu => h.done u t x d (hm _ _ _ hd) hu }
/-- all ways from what was taken were gone along: how low what comes is -/
theorem Dij.bound {n : Nat} {E : Goes} {s : Int} {L : List Int} {T R : List It} (hE : Fair n E) (h : Dij n E s L T R E) {u y : Int} (hw : Walk n E s u y) :
    (∃ k r, u = (k : Nat) ∧ (k, r) ∈ R ∧ r ≤ y) ∨ (∃ z ∈ T, z.2 ≤ y) ∨ INF ≤ y := by
  induction hw with
  | none h1 h2 =>
    obtain ⟨k, rfl⟩ : ∃ k : Nat, s = k := ⟨s.toNat, by omega⟩
    rcases h.taken_or (h.start k rfl (by omega)) with h3 | h3 | h3
    · exact .inl ⟨k, 0, rfl, h3, Int.le_refl _⟩
    · exact .inr (.inl ⟨_, h3, Int.le_refl _⟩)
    · exact absurd h3 (by decide)
  | more _ ha ih =>
    have hx := hE _ _ _ ha
    rcases ih with ⟨k, r, rfl, h1, h2⟩ | ⟨z, h1, h2⟩ | h1
    · obtain ⟨t, ht⟩ : ∃ t : Nat, _ = (t : Int) := ⟨_, (Int.toNat_of_nonneg hx.2.2.1).symm⟩
      rw [ht] at ha ⊢
      obtain ⟨e, h3, h4⟩ := h.done k t _ r ha h1
      rcases h.taken_or h3 with h5 | h5 | h5
      · exact .inl ⟨t, e, rfl, h5, by omega⟩
      · exact .inr (.inl ⟨_, h5, by simp only; omega⟩)
      · exact .inr (.inr (by omega))
    · exact .inr (.inl ⟨z, h1, by omega⟩)
    · exact .inr (.inr (by omega))
theorem Dij.isD_took {n : Nat} {E : Goes} {s : Int} {L : List Int} {T R : List It} (hE : Fair n E) (h : Dij n E s L T R E) {y : It} (hy : y ∈ R) : IsD n E s y.1 y.2 := by
  have h1 := h.took y hy
  have h2 := h.rng _ _ h1.1
  refine ⟨h2.1, h2.2, fun _ => h.walk _ _ h1.1 h1.2, fun z hz => ?_⟩
  rcases h.bound hE hz with ⟨k, r, hk, h3, h4⟩ | ⟨v, h3, h4⟩ | h3
  · obtain rfl : y.1 = k := by omega
    have := (h.took _ h3).1
    simp only at this
    rw [h1.1] at this
    simp at this
    omega
  · have := h.low y hy v h3
    unfold bef at this
    omega
  · omega
/-- what comes first is as far as it is -/
theorem Dij.isD_next {n : Nat} {E : Goes} {s : Int} {L : List Int} {T R : List It} (hE : Fair n E) (h : Dij n E s L T R E) {x : It} (hx : x ∈ T) (hm : ∀ y ∈ T, ¬ bef y x) : IsD n E s x.1 x.2 := by
  have h1 := (h.heap x).1 hx
  have h2 := h.rng _ _ h1.1
  refine ⟨h2.1, h2.2, fun _ => h.walk _ _ h1.1 h1.2.1, fun z hz => ?_⟩
  rcases h.bound hE hz with ⟨k, r, hk, h3, h4⟩ | ⟨v, h3, h4⟩ | h3
  · obtain rfl : x.1 = k := by omega
    have := (h.took _ h3).1
    simp only at this
    rw [h1.1] at this
    have e : x = (x.1, r) := Prod.ext rfl (by simpa using this)
    exact absurd (e ▸ h3) h1.2.2
  · have := hm v h3
    unfold bef at this
    omega
  · omega
/-- nothing is left: all is as far as it is -/
theorem Dij.all {n : Nat} {E : Goes} {s : Int} {L : List Int} {R : List It} (hE : Fair n E) (h : Dij n E s L [] R E) : IsDs n E s L := by
  refine ⟨h.len, fun u d hu => ?_⟩
  have h2 := h.rng _ _ hu
  rcases h.taken_or hu with h1 | h1 | h1
  · exact h.isD_took hE h1
  · simp at h1
  · subst h1
    refine ⟨h2.1, h2.2, fun hc => absurd hc (by decide), fun z hz => ?_⟩
    rcases h.bound hE hz with ⟨k, r, hk, h3, h4⟩ | ⟨v, h3, h4⟩ | h3
    · obtain rfl : u = k := by omega
      have := h.took _ h3
      simp only at this
      rw [hu] at this
      simp at this
      omega
    · simp at h3
    · exact h3
/-- just the nodes that are near, by rising distances, then by their numbers -/
structure Near (n : Nat) (E : Goes) (s most : Int) (R : List It) : Prop where
  sort : R.Pairwise bef
  near : ∀ y ∈ R, y.1 < n ∧ IsD n E s y.1 y.2 ∧ y.2 < INF ∧ y.2 ≤ most
  all : ∀ (u : Nat) d, u < n → IsD n E s u d → d < INF → d ≤ most → (u, d) ∈ R
theorem bef_trans {a b c : It} (h : bef a b) (k : bef b c) : bef a c := by unfold bef at *; omega
theorem sorted_eq : ∀ {A B : List It}, A.Pairwise bef → B.Pairwise bef → (∀ x, x ∈ A ↔ x ∈ B) → A = B
  | [], [], _, _, _ => rfl
  | [], b :: B, _, _, h => absurd ((h b).2 (by simp)) (by simp)
  | a :: A, [], _, _, h => absurd ((h a).1 (by simp)) (by simp)
  | a :: A, b :: B, ha, hb, h => by
    rw [List.pairwise_cons] at ha hb
    have e : a = b := by
      rcases List.mem_cons.1 ((h a).1 (by simp)) with e | h1
      · exact e
      · rcases List.mem_cons.1 ((h b).2 (by simp)) with e | h2
        · exact e.symm
        · exact absurd (hb.1 a h1) (bef_asym (ha.1 b h2))
    subst e
    rw [sorted_eq ha.2 hb.2 (fun x => ?_)]
    constructor
    · intro hx
      rcases List.mem_cons.1 ((h x).1 (by simp [hx])) with rfl | h1
      · exact absurd (ha.1 x hx) (bef_irr x)
      · exact h1
    · intro hx
      rcases List.mem_cons.1 ((h x).2 (by simp [hx])) with rfl | h1
      · exact absurd (hb.1 x hx) (bef_irr x)
      · exact h1
theorem Near.uniq {n : Nat} {E : Goes} {s most : Int} {A B : List It} (h : Near n E s most A) (k : Near n E s most B) : A = B :=
  sorted_eq h.sort k.sort (fun x => ⟨fun hx => by obtain ⟨h1, h2, h3, h4⟩ := h.near x hx; exact k.all x.1 x.2 h1 h2 h3 h4, fun hx => by obtain ⟨h1, h2, h3, h4⟩ := k.near x hx; exact h.all x.1 x.2 h1 h2 h3 h4⟩)
theorem Dij.near_stop {n : Nat} {E : Goes} {s most : Int} {L : List Int} {T R : List It} (hE : Fair n E) (h : Dij n E s L T R E) (hR : ∀ y ∈ R, y.2 ≤ most) (hT : ∀ z ∈ T, most < z.2) : Near n E s most R := by
  refine ⟨h.sort, fun y hy => ⟨h.lt hy, h.isD_took hE hy, (h.took y hy).2, hR y hy⟩, fun u d hu hd h1 h2 => ?_⟩
  rcases h.bound hE (hd.walk h1) with ⟨k, r, hk, h3, h4⟩ | ⟨v, h3, h4⟩ | h3
  · obtain rfl : u = k := by omega
    have := (h.isD_took hE h3).uniq hd
    simp only at this
    rw [← this]; exact h3
  · have := hT v h3; omega
  · omega
theorem near_none {n : Nat} {E : Goes} {s most : Int} (hE : Fair n E) (hs : ¬ (0 ≤ s ∧ s < n)) : Near n E s most [] :=
  ⟨List.Pairwise.nil, fun y hy => by simp at hy, fun u d hu hd h1 h2 => by have := hd.none hE hs; omega⟩
/-- at the beginning -/
theorem dij_start {n : Nat} {E : Goes} {s : Nat} (hs : s < n) : Dij n E s ((List.replicate n INF).set s 0) [(s, 0)] [] E := by
  have hset : ∀ u : Nat, ((List.replicate n INF).set s 0)[u]? = if s = u then some 0 else (List.replicate n INF)[u]? := by
    intro u
    rw [List.getElem?_set]
    by_cases e : s = u
    · rw [if_pos e, if_pos e, if_pos (by simp; exact hs)]
    · rw [if_neg e, if_neg e]
  have hv : ∀ (u : Nat) d, ((List.replicate n INF).set s 0)[u]? = some d → (u = s ∧ d = 0) ∨ d = INF := by
    intro u d h
    rw [hset u] at h
    by_cases e : s = u
    · rw [if_pos e] at h; cases h; exact .inl ⟨e.symm, rfl⟩
    · rw [if_neg e, List.getElem?_replicate] at h
      by_cases hu : u < n
      · rw [if_pos hu] at h; cases h; exact .inr rfl
      · rw [if_neg hu] at h; cases h
  refine ⟨by simp, ?_, ?_, ?_, ?_, by simp, List.Pairwise.nil, by simp, by simp⟩
  · intro u d h; rcases hv u d h with ⟨_, rfl⟩ | rfl <;> decide
  · intro u d h h1
    rcases hv u d h with ⟨rfl, rfl⟩ | rfl
    · exact .none (by omega) (by omega)
    · exact absurd h1 (by decide)
  · intro u hu hn
    obtain rfl : s = u := by omega
    rw [hset s, if_pos rfl]
  · intro y
    constructor
    · intro h
      rw [List.mem_singleton] at h; subst h
      exact ⟨by rw [hset s, if_pos rfl], (by decide : (0 : Int) < INF), by simp⟩
    · rintro ⟨h1, h2, _⟩
      rcases hv _ _ h1 with ⟨h3, h4⟩ | h3
      · rw [List.mem_singleton]; exact Prod.ext h3 h4
      · omega
end Go.Proofs.Ytombpfpfeebnpaa
