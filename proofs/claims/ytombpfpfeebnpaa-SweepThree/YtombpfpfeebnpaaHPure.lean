/- A heap in a list, with the places of things beside it: plain. -/
namespace Go.Proofs.Ytombpfpfeebnpaa
set_option linter.unusedVariables false
set_option linter.unusedSimpArgs false

/-- a thing and its rank -/
abbrev It := Nat × Int
/-- which of two comes ahead -/
def bef (a b : It) : Prop := a.2 < b.2 ∨ a.2 = b.2 ∧ a.1 < b.1
instance (a b : It) : Decidable (bef a b) := by unfold bef; infer_instance
theorem bef_irr (a : It) : ¬ bef a a := by unfold bef; omega
theorem bef_asym {a b : It} (h : bef a b) : ¬ bef b a := by unfold bef at *; omega
theorem nbef_trans {a b c : It} (h : ¬ bef b a) (h2 : ¬ bef c b) : ¬ bef c a := by unfold bef at *; omega
theorem bef_nbef {a b c : It} (h : bef a b) (h2 : ¬ bef c b) : ¬ bef c a := by unfold bef at *; omega
theorem nbef_bef {a b c : It} (h : ¬ bef b a) (h2 : bef b c) : ¬ bef c a := by unfold bef at *; omega
theorem bef_total {a b : It} (h : ¬ bef a b) (h2 : ¬ bef b a) : a = b := by
  unfold bef at *
  exact Prod.ext (by omega) (by omega)

/-- a heap: what is in, and at which place each thing is (plus 1; 0: it is not in) -/
structure Well (n : Nat) (T : List It) (P : List Int) : Prop where
  pl : P.length = n
  idx : ∀ (i : Nat) (y : It), T[i]? = some y → P[y.1]? = some ((i : Int) + 1)
  back : ∀ (id : Nat) (p : Int), P[id]? = some p → p = 0 ∨ ∃ (i : Nat) (r : Int), T[i]? = some (id, r)
  ord : ∀ (i : Nat) (y z : It), 0 < i → T[i]? = some y → T[(i - 1) / 2]? = some z → ¬ bef y z

/-- a heap with a free place, at which or near which x will be -/
structure Hole (n : Nat) (T : List It) (P : List Int) (k : Nat) (x : It) : Prop where
  pl : P.length = n
  hk : k < T.length
  hx : x.1 < n
  idx : ∀ (i : Nat) (y : It), i ≠ k → T[i]? = some y → P[y.1]? = some ((i : Int) + 1) ∧ y.1 ≠ x.1
  back : ∀ (id : Nat) (p : Int), P[id]? = some p → id ≠ x.1 → p = 0 ∨ ∃ (i : Nat) (r : Int), i ≠ k ∧ T[i]? = some (id, r)
  ord : ∀ (i : Nat) (y z : It), 0 < i → i ≠ k → (i - 1) / 2 ≠ k → T[i]? = some y → T[(i - 1) / 2]? = some z → ¬ bef y z
  ordk : ∀ (i : Nat) (y z : It), i ≠ k → (i - 1) / 2 = k → 0 < k → T[i]? = some y → T[(k - 1) / 2]? = some z → ¬ bef y z

/-- what is below the free place does not come ahead of x -/
def Below2 (T : List It) (k : Nat) (x : It) : Prop := ∀ (i : Nat) (y : It), i ≠ k → (i - 1) / 2 = k → T[i]? = some y → ¬ bef y x
/-- x does not come ahead of what is above the free place -/
def Above2 (T : List It) (k : Nat) (x : It) : Prop := ∀ z : It, 0 < k → T[(k - 1) / 2]? = some z → ¬ bef x z
/-- what is in, but for the free place -/
def But (T : List It) (k : Nat) (y : It) : Prop := ∃ i : Nat, i ≠ k ∧ T[i]? = some y

theorem Well.inj {n : Nat} {T : List It} {P : List Int} (h : Well n T P) {i j : Nat} {y z : It} (hi : T[i]? = some y) (hj : T[j]? = some z) (he : y.1 = z.1) : i = j := by
  have h1 := h.idx i y hi
  have h2 := h.idx j z hj
  rw [he, h2] at h1
  simp at h1
  omega
theorem Hole.inj {n : Nat} {T : List It} {P : List Int} {k : Nat} {x : It} (h : Hole n T P k x) {i j : Nat} {y z : It} (hik : i ≠ k) (hjk : j ≠ k) (hi : T[i]? = some y) (hj : T[j]? = some z) (he : y.1 = z.1) : i = j := by
  have h1 := (h.idx i y hik hi).1
  have h2 := (h.idx j z hjk hj).1
  rw [he, h2] at h1
  simp at h1
  omega
theorem Well.id_lt {n : Nat} {T : List It} {P : List Int} (h : Well n T P) {i : Nat} {y : It} (hi : T[i]? = some y) : y.1 < n := by
  have := h.idx i y hi
  have := (List.getElem?_eq_some_iff.1 this).1
  rw [h.pl] at this; exact this

/-- the move of a neighbour y (at place j) to the free place -/
theorem Hole.move_common {n : Nat} {T : List It} {P : List Int} {k : Nat} {x : It} (h : Hole n T P k x) {j : Nat} {y : It} (hjk : j ≠ k) (hj : T[j]? = some y) :
    (P.set y.1 ((k : Int) + 1)).length = n ∧ j < (T.set k y).length ∧
    (∀ (i : Nat) (u : It), i ≠ j → (T.set k y)[i]? = some u → (P.set y.1 ((k : Int) + 1))[u.1]? = some ((i : Int) + 1) ∧ u.1 ≠ x.1) ∧
    (∀ (id : Nat) (p : Int), (P.set y.1 ((k : Int) + 1))[id]? = some p → id ≠ x.1 → p = 0 ∨ ∃ (i : Nat) (r : Int), i ≠ j ∧ (T.set k y)[i]? = some (id, r)) ∧
    (∀ u, But (T.set k y) j u ↔ But T k u) := by
  have hjl := (List.getElem?_eq_some_iff.1 hj).1
  have hk := h.hk
  have hy := h.idx j y hjk hj
  have hyl := (List.getElem?_eq_some_iff.1 hy.1).1
  refine ⟨by rw [List.length_set]; exact h.pl, by rw [List.length_set]; exact hjl, ?_, ?_, ?_⟩
  · intro i u hij hu
    rw [List.getElem?_set] at hu
    by_cases hik : k = i
    · subst hik
      rw [if_pos rfl, if_pos hk] at hu
      cases hu
      refine ⟨?_, hy.2⟩
      rw [List.getElem?_set, if_pos rfl, if_pos hyl]
    · rw [if_neg hik] at hu
      have hu2 := h.idx i u (fun e => hik e.symm) hu
      refine ⟨?_, hu2.2⟩
      rw [List.getElem?_set, if_neg (fun e => hij (h.inj (fun e => hik e.symm) hjk hu hj e.symm)), hu2.1]
  · intro id p hp hid
    rw [List.getElem?_set] at hp
    by_cases he : y.1 = id
    · right
      refine ⟨k, y.2, fun e => hjk e.symm, ?_⟩
      rw [List.getElem?_set, if_pos rfl, if_pos hk, ← he]
    · rw [if_neg he] at hp
      rcases h.back id p hp hid with h0 | ⟨i, r, h1, h2⟩
      · exact .inl h0
      · refine .inr ⟨i, r, ?_, ?_⟩
        · rintro rfl
          rw [hj] at h2; cases h2; exact he rfl
        · rw [List.getElem?_set, if_neg (fun e => h1 e.symm), h2]
  · intro u
    constructor
    · rintro ⟨i, h1, h2⟩
      rw [List.getElem?_set] at h2
      by_cases hik : k = i
      · subst hik
        rw [if_pos rfl, if_pos hk] at h2
        cases h2
        exact ⟨j, hjk, hj⟩
      · rw [if_neg hik] at h2
        exact ⟨i, fun e => hik e.symm, h2⟩
    · rintro ⟨i, h1, h2⟩
      by_cases hij : i = j
      · subst hij
        rw [hj] at h2; cases h2
        exact ⟨k, fun e => hjk e.symm, by rw [List.getElem?_set, if_pos rfl, if_pos hk]⟩
      · exact ⟨i, hij, by rw [List.getElem?_set, if_neg (fun e => h1 e.symm), h2]⟩

theorem Hole.up {n : Nat} {T : List It} {P : List Int} {k : Nat} {x z : It} (h : Hole n T P k x) (hb : Below2 T k x) (h0 : 0 < k) (hz : T[(k - 1) / 2]? = some z) (hxz : bef x z) :
    Hole n (T.set k z) (P.set z.1 ((k : Int) + 1)) ((k - 1) / 2) x ∧ Below2 (T.set k z) ((k - 1) / 2) x ∧ ∀ u, But (T.set k z) ((k - 1) / 2) u ↔ But T k u := by
  have hk := h.hk
  have hjk : (k - 1) / 2 ≠ k := by omega
  obtain ⟨a1, a2, a3, a4, a5⟩ := h.move_common hjk hz
  refine ⟨⟨a1, a2, h.hx, a3, a4, ?_, ?_⟩, ?_, a5⟩
  · intro i y w hi hij hpj hy hw
    rw [List.getElem?_set] at hy hw
    by_cases hik : k = i
    · subst hik; exact absurd rfl hpj
    · rw [if_neg hik] at hy
      by_cases hpk : k = (i - 1) / 2
      · rw [if_pos hpk, if_pos (by omega)] at hw
        cases hw
        exact h.ordk i y z (fun e => hik e.symm) hpk.symm h0 hy hz
      · rw [if_neg hpk] at hw
        exact h.ord i y w hi (fun e => hik e.symm) (fun e => hpk e.symm) hy hw
  · intro i y w hij hpj hj0 hy hw
    rw [List.getElem?_set, if_neg (by omega)] at hw
    have hzw : ¬ bef z w := h.ord ((k - 1) / 2) z w hj0 hjk (by omega) hz hw
    rw [List.getElem?_set] at hy
    by_cases hik : k = i
    · subst hik
      rw [if_pos rfl, if_pos hk] at hy
      cases hy; exact hzw
    · rw [if_neg hik] at hy
      have hyz : ¬ bef y z := h.ord i y z (by omega) (fun e => hik e.symm) (by omega) hy (by rw [hpj]; exact hz)
      exact nbef_trans hzw hyz
  · intro i y hij hpj hy
    rw [List.getElem?_set] at hy
    by_cases hik : k = i
    · subst hik
      rw [if_pos rfl, if_pos hk] at hy
      cases hy; exact bef_asym hxz
    · rw [if_neg hik] at hy
      have hyz : ¬ bef y z := h.ord i y z (by omega) (fun e => hik e.symm) (by omega) hy (by rw [hpj]; exact hz)
      exact bef_nbef hxz hyz

theorem Hole.fill {n : Nat} {T : List It} {P : List Int} {k : Nat} {x : It} (h : Hole n T P k x) (hb : Below2 T k x) (ha : Above2 T k x) :
    Well n (T.set k x) (P.set x.1 ((k : Int) + 1)) ∧ ∀ u, u ∈ T.set k x ↔ u = x ∨ But T k u := by
  have hk := h.hk
  refine ⟨⟨by rw [List.length_set]; exact h.pl, ?_, ?_, ?_⟩, ?_⟩
  · intro i y hy
    rw [List.getElem?_set] at hy
    by_cases hik : k = i
    · subst hik
      rw [if_pos rfl, if_pos hk] at hy
      cases hy
      rw [List.getElem?_set, if_pos rfl, if_pos (by rw [h.pl]; exact h.hx)]
    · rw [if_neg hik] at hy
      have := h.idx i y (fun e => hik e.symm) hy
      rw [List.getElem?_set, if_neg (fun e => this.2 e.symm), this.1]
  · intro id p hp
    by_cases he : id = x.1
    · right
      exact ⟨k, x.2, by rw [List.getElem?_set, if_pos rfl, if_pos hk, he]⟩
    · rw [List.getElem?_set, if_neg (fun e => he e.symm)] at hp
      rcases h.back id p hp he with h0 | ⟨i, r, h1, h2⟩
      · exact .inl h0
      · exact .inr ⟨i, r, by rw [List.getElem?_set, if_neg (fun e => h1 e.symm), h2]⟩
  · intro i y z hi hy hz
    rw [List.getElem?_set] at hy hz
    by_cases hik : k = i
    · subst hik
      rw [if_pos rfl, if_pos hk] at hy
      rw [if_neg (by omega)] at hz
      cases hy
      exact ha z hi hz
    · rw [if_neg hik] at hy
      by_cases hpk : k = (i - 1) / 2
      · rw [if_pos hpk, if_pos (by omega)] at hz
        cases hz
        exact hb i y (fun e => hik e.symm) hpk.symm hy
      · rw [if_neg hpk] at hz
        exact h.ord i y z hi (fun e => hik e.symm) (fun e => hpk e.symm) hy hz
  · intro u
    rw [List.mem_iff_getElem?]
    constructor
    · rintro ⟨i, hi⟩
      rw [List.getElem?_set] at hi
      by_cases hik : k = i
      · subst hik
        rw [if_pos rfl, if_pos hk] at hi
        cases hi; exact .inl rfl
      · rw [if_neg hik] at hi
        exact .inr ⟨i, fun e => hik e.symm, hi⟩
    · rintro (rfl | ⟨i, h1, h2⟩)
      · exact ⟨k, by rw [List.getElem?_set, if_pos rfl, if_pos hk]⟩
      · exact ⟨i, by rw [List.getElem?_set, if_neg (fun e => h1 e.symm), h2]⟩

/-- which of the two places below is told first -/
def FirstB (T : List It) (k j : Nat) (y : It) : Prop := (j = 2 * k + 1 ∨ j = 2 * k + 2) ∧ T[j]? = some y ∧ ∀ (i : Nat) (u : It), (i = 2 * k + 1 ∨ i = 2 * k + 2) → T[i]? = some u → ¬ bef u y

theorem Hole.down {n : Nat} {T : List It} {P : List Int} {k j : Nat} {x y : It} (h : Hole n T P k x) (hf : FirstB T k j y) (hyx : bef y x) :
    Hole n (T.set k y) (P.set y.1 ((k : Int) + 1)) j x ∧ Above2 (T.set k y) j x ∧ ∀ u, But (T.set k y) j u ↔ But T k u := by
  have hk := h.hk
  obtain ⟨hj, hy, hfirst⟩ := hf
  have hjk : j ≠ k := by omega
  have hpj : (j - 1) / 2 = k := by omega
  obtain ⟨a1, a2, a3, a4, a5⟩ := h.move_common hjk hy
  refine ⟨⟨a1, a2, h.hx, a3, a4, ?_, ?_⟩, ?_, a5⟩
  · intro i u w hi hij hpi hu hw
    rw [List.getElem?_set] at hu hw
    by_cases hik : k = i
    · subst hik
      rw [if_pos rfl, if_pos hk] at hu
      rw [if_neg (by omega)] at hw
      cases hu
      exact h.ordk j y w hjk hpj hi hy hw
    · rw [if_neg hik] at hu
      by_cases hpk : k = (i - 1) / 2
      · rw [if_pos hpk, if_pos (by omega)] at hw
        cases hw
        exact hfirst i u (by omega) hu
      · rw [if_neg hpk] at hw
        exact h.ord i u w hi (fun e => hik e.symm) (fun e => hpk e.symm) hu hw
  · intro i u w hij hpi hj0 hu hw
    rw [hpj, List.getElem?_set, if_pos rfl, if_pos hk] at hw
    cases hw
    rw [List.getElem?_set, if_neg (by omega)] at hu
    exact h.ord i u y (by omega) (by omega) (by omega) hu (by rw [hpi]; exact hy)
  · intro z hj0 hz
    rw [hpj, List.getElem?_set, if_pos rfl, if_pos hk] at hz
    cases hz
    exact bef_asym hyx

theorem below_of {T : List It} {k j : Nat} {x y : It} (hf : FirstB T k j y) (h : ¬ bef y x) : Below2 T k x := by
  intro i u hik hp hu
  exact nbef_trans h (hf.2.2 i u (by omega) hu)
theorem below_none {T : List It} {k : Nat} {x : It} (h : T.length ≤ 2 * k + 1) : Below2 T k x := by
  intro i u hik hp hu
  have := (List.getElem?_eq_some_iff.1 hu).1
  omega

/-- the calls' beginnings -/
theorem Well.push {n : Nat} {T : List It} {P : List Int} (h : Well n T P) (z : It) {id : Nat} (r : Int) (h0 : P[id]? = some 0) :
    Hole n (T ++ [z]) P T.length (id, r) ∧ Below2 (T ++ [z]) T.length (id, r) ∧ ∀ u, But (T ++ [z]) T.length u ↔ u ∈ T := by
  have hid := (List.getElem?_eq_some_iff.1 h0).1
  have hlow : ∀ (i : Nat) (y : It), i ≠ T.length → (T ++ [z])[i]? = some y → T[i]? = some y := by
    intro i y hi hy
    have := (List.getElem?_eq_some_iff.1 hy).1
    rw [List.length_append, List.length_singleton] at this
    rwa [List.getElem?_append_left (by omega)] at hy
  refine ⟨⟨h.pl, by simp, by rw [← h.pl]; exact hid, ?_, ?_, ?_, ?_⟩, ?_, ?_⟩
  · intro i y hi hy
    have := h.idx i y (hlow i y hi hy)
    refine ⟨this, ?_⟩
    rintro he
    simp only at he
    rw [he, h0] at this
    simp at this
    omega
  · intro j p hp hj
    rcases h.back j p hp with h1 | ⟨i, q, hi⟩
    · exact .inl h1
    · have := (List.getElem?_eq_some_iff.1 hi).1
      exact .inr ⟨i, q, by omega, by rw [List.getElem?_append_left this, hi]⟩
  · intro i y w hi hik hpk hy hw
    exact h.ord i y w hi (hlow i y hik hy) (hlow _ w hpk hw)
  · intro i y w hi hp h1 hy hw
    have := (List.getElem?_eq_some_iff.1 (hlow i y hi hy)).1
    omega
  · intro i y hi hp hy
    have := (List.getElem?_eq_some_iff.1 (hlow i y hi hy)).1
    omega
  · intro u
    rw [List.mem_iff_getElem?]
    constructor
    · rintro ⟨i, h1, h2⟩
      exact ⟨i, hlow i u h1 h2⟩
    · rintro ⟨i, hi⟩
      have := (List.getElem?_eq_some_iff.1 hi).1
      exact ⟨i, by omega, by rw [List.getElem?_append_left this, hi]⟩

theorem Well.lower {n : Nat} {T : List It} {P : List Int} (h : Well n T P) {k id : Nat} {r q : Int} (hk : T[k]? = some (id, r)) (hq : q ≤ r) :
    Hole n T P k (id, q) ∧ Below2 T k (id, q) ∧ ∀ u, But T k u ↔ u ∈ T ∧ u.1 ≠ id := by
  have hkl := (List.getElem?_eq_some_iff.1 hk).1
  refine ⟨⟨h.pl, hkl, (by have := h.id_lt hk; exact this), ?_, ?_, ?_, ?_⟩, ?_, ?_⟩
  · intro i y hi hy
    exact ⟨h.idx i y hy, fun e => hi (h.inj hy hk e)⟩
  · intro j p hp hj
    rcases h.back j p hp with h1 | ⟨i, s, hi⟩
    · exact .inl h1
    · refine .inr ⟨i, s, ?_, hi⟩
      rintro rfl
      rw [hk] at hi; cases hi; exact hj rfl
  · intro i y w hi hik hpk hy hw
    exact h.ord i y w hi hy hw
  · intro i y w hi hp h1 hy hw
    have a1 := h.ord i y (id, r) (by omega) hy (by rw [hp]; exact hk)
    have a2 := h.ord k (id, r) w h1 hk hw
    exact nbef_trans a2 a1
  · intro i y hi hp hy
    have a1 := h.ord i y (id, r) (by omega) hy (by rw [hp]; exact hk)
    unfold bef at *
    simp only at *
    omega
  · intro u
    rw [List.mem_iff_getElem?]
    constructor
    · rintro ⟨i, h1, h2⟩
      exact ⟨⟨i, h2⟩, fun e => h1 (h.inj h2 hk e)⟩
    · rintro ⟨⟨i, hi⟩, hn⟩
      refine ⟨i, ?_, hi⟩
      rintro rfl
      rw [hk] at hi; cases hi; exact hn rfl

/-- the one that is taken out, and the last one -/
theorem Well.takeEnd {n : Nat} {T : List It} {P : List Int} (h : Well n T P) {k : Nat} {y : It} (hk : T[k]? = some y) (he : k + 1 = T.length) :
    Well n (T.take k) (P.set y.1 0) ∧ ∀ u, u ∈ T.take k ↔ u ∈ T ∧ u.1 ≠ y.1 := by
  have hlow : ∀ (i : Nat) (u : It), (T.take k)[i]? = some u → i < k ∧ T[i]? = some u := by
    intro i u hu
    rw [List.getElem?_take] at hu
    split at hu
    · exact ⟨by assumption, hu⟩
    · cases hu
  refine ⟨⟨by rw [List.length_set]; exact h.pl, ?_, ?_, ?_⟩, ?_⟩
  · intro i u hu
    obtain ⟨h1, h2⟩ := hlow i u hu
    rw [List.getElem?_set, if_neg (fun e => by have := h.inj hk h2 e; omega), h.idx i u h2]
  · intro id p hp
    rw [List.getElem?_set] at hp
    by_cases hy : y.1 = id
    · rw [if_pos hy] at hp
      split at hp
      · cases hp; exact .inl rfl
      · cases hp
    · rw [if_neg hy] at hp
      rcases h.back id p hp with h0 | ⟨i, r, hi⟩
      · exact .inl h0
      · have hl := (List.getElem?_eq_some_iff.1 hi).1
        have hne : i ≠ k := by rintro rfl; rw [hk] at hi; cases hi; exact hy rfl
        exact .inr ⟨i, r, by rw [List.getElem?_take, if_pos (by omega), hi]⟩
  · intro i u w hi hu hw
    exact h.ord i u w hi (hlow i u hu).2 (hlow _ w hw).2
  · intro u
    rw [List.mem_iff_getElem?, List.mem_iff_getElem?]
    constructor
    · rintro ⟨i, hi⟩
      obtain ⟨h1, h2⟩ := hlow i u hi
      exact ⟨⟨i, h2⟩, fun e => by have := h.inj h2 hk e; omega⟩
    · rintro ⟨⟨i, hi⟩, hn⟩
      have hl := (List.getElem?_eq_some_iff.1 hi).1
      have hne : i ≠ k := by rintro rfl; rw [hk] at hi; cases hi; exact hn rfl
      exact ⟨i, by rw [List.getElem?_take, if_pos (by omega), hi]⟩

theorem Well.takeMid {n : Nat} {T : List It} {P : List Int} (h : Well n T P) {k e : Nat} {y l : It} (hk : T[k]? = some y) (he : e + 1 = T.length) (hke : k < e) (hl : T[e]? = some l) :
    Hole n (T.take e) (P.set y.1 0) k l ∧ (∀ z, 0 < k → (T.take e)[(k - 1) / 2]? = some z → bef l z → Below2 (T.take e) k l) ∧ ∀ u, u = l ∨ But (T.take e) k u ↔ u ∈ T ∧ u.1 ≠ y.1 := by
  have hlow : ∀ (i : Nat) (u : It), (T.take e)[i]? = some u → i < e ∧ T[i]? = some u := by
    intro i u hu
    rw [List.getElem?_take] at hu
    split at hu
    · exact ⟨by assumption, hu⟩
    · cases hu
  have hyl : y.1 ≠ l.1 := fun e => by have := h.inj hk hl e; omega
  refine ⟨⟨by rw [List.length_set]; exact h.pl, by rw [List.length_take]; omega, h.id_lt hl, ?_, ?_, ?_, ?_⟩, ?_, ?_⟩
  · intro i u hik hu
    obtain ⟨h1, h2⟩ := hlow i u hu
    refine ⟨?_, fun e => by have := h.inj h2 hl e; omega⟩
    rw [List.getElem?_set, if_neg (fun e => hik (h.inj hk h2 e).symm), h.idx i u h2]
  · intro id p hp hid
    rw [List.getElem?_set] at hp
    by_cases hy : y.1 = id
    · rw [if_pos hy] at hp
      split at hp
      · cases hp; exact .inl rfl
      · cases hp
    · rw [if_neg hy] at hp
      rcases h.back id p hp with h0 | ⟨i, r, hi⟩
      · exact .inl h0
      · have hlt := (List.getElem?_eq_some_iff.1 hi).1
        have hne : i ≠ k := by rintro rfl; rw [hk] at hi; cases hi; exact hy rfl
        have hne2 : i ≠ e := by rintro rfl; rw [hl] at hi; cases hi; exact hid rfl
        exact .inr ⟨i, r, hne, by rw [List.getElem?_take, if_pos (by omega), hi]⟩
  · intro i u w hi hik hpk hu hw
    exact h.ord i u w hi (hlow i u hu).2 (hlow _ w hw).2
  · intro i u w hik hp h0 hu hw
    have a1 := h.ord i u y (by omega) (hlow i u hu).2 (by rw [hp]; exact hk)
    have a2 := h.ord k y w h0 hk (hlow _ w hw).2
    exact nbef_trans a2 a1
  · intro z h0 hz hlz i u hik hp hu
    have a1 := h.ord i u y (by omega) (hlow i u hu).2 (by rw [hp]; exact hk)
    have a2 := h.ord k y z h0 hk (hlow _ z hz).2
    exact bef_nbef hlz (nbef_trans a2 a1)
  · intro u
    rw [List.mem_iff_getElem?]
    constructor
    · rintro (rfl | ⟨i, h1, h2⟩)
      · exact ⟨⟨e, hl⟩, fun e => hyl e.symm⟩
      · exact ⟨⟨i, (hlow i u h2).2⟩, fun e => h1 (h.inj (hlow i u h2).2 hk e)⟩
    · rintro ⟨⟨i, hi⟩, hn⟩
      have hlt := (List.getElem?_eq_some_iff.1 hi).1
      by_cases hie : i = e
      · subst hie; rw [hl] at hi; cases hi; exact .inl rfl
      · refine .inr ⟨i, ?_, by rw [List.getElem?_take, if_pos (by omega), hi]⟩
        rintro rfl
        rw [hk] at hi; cases hi; exact hn rfl

/-- the first one comes ahead of all -/
theorem Well.first {n : Nat} {T : List It} {P : List Int} (h : Well n T P) {x : It} (h0 : T[0]? = some x) : ∀ y ∈ T, ¬ bef y x := by
  have : ∀ (m i : Nat) (y : It), i ≤ m → T[i]? = some y → ¬ bef y x := by
    intro m
    induction m with
    | zero => intro i y hi hy; obtain rfl : i = 0 := by omega
              rw [h0] at hy; cases hy; exact bef_irr x
    | succ m ih =>
      intro i y hi hy
      by_cases hz : i = 0
      · subst hz; rw [h0] at hy; cases hy; exact bef_irr x
      · have hl := (List.getElem?_eq_some_iff.1 hy).1
        have hp : T[(i - 1) / 2]? = some (T[(i - 1) / 2]'(by omega)) := by simp [show (i - 1) / 2 < T.length by omega]
        exact nbef_trans (ih _ _ (by omega) hp) (h.ord i y _ (by omega) hy hp)
  intro y hy
  obtain ⟨i, hi⟩ := List.mem_iff_getElem?.1 hy
  exact this i i y (Nat.le_refl _) hi

/-- no more things than there are -/
theorem few_of (n : Nat) : ∀ L : List Nat, L.Nodup → (∀ x ∈ L, x < n) → L.length ≤ n := by
  induction n with
  | zero => intro L _ h; cases L with
    | nil => simp
    | cons a l => have := h a (by simp); omega
  | succ n ih =>
    intro L hd h
    by_cases hn : n ∈ L
    · have := ih (L.erase n) (hd.erase n) (fun x hx => by
        have h1 := (hd.mem_erase_iff).1 hx
        have := h x h1.2
        have := h1.1
        omega)
      rw [List.length_erase_of_mem hn] at this
      omega
    · have := ih L hd (fun x hx => by
        have := h x hx
        have : x ≠ n := by rintro rfl; exact hn hx
        omega)
      omega
theorem Well.len {n : Nat} {T : List It} {P : List Int} (h : Well n T P) : T.length ≤ n := by
  have := few_of n (T.map Prod.fst) (by
    rw [List.nodup_iff_pairwise_ne, List.pairwise_iff_getElem]
    intro i j hi hj hij he
    simp at hi hj
    simp only [List.getElem_map] at he
    have := h.inj (i := i) (j := j) (y := T[i]) (z := T[j]) (by simp [hi]) (by simp [hj]) he
    omega) (by
    intro x hx
    obtain ⟨y, hy, rfl⟩ := List.mem_map.1 hx
    obtain ⟨i, hi⟩ := List.mem_iff_getElem?.1 hy
    exact h.id_lt hi)
  simpa using this
theorem Well.push_len {n : Nat} {T : List It} {P : List Int} (h : Well n T P) {id : Nat} (h0 : P[id]? = some 0) : T.length < n := by
  have hid := (List.getElem?_eq_some_iff.1 h0).1
  have := few_of n (id :: T.map Prod.fst) (by
    rw [List.nodup_cons]
    constructor
    · intro hm
      obtain ⟨y, hy, rfl⟩ := List.mem_map.1 hm
      obtain ⟨i, hi⟩ := List.mem_iff_getElem?.1 hy
      have := h.idx i y hi
      rw [h0] at this
      simp at this
      omega
    rw [List.nodup_iff_pairwise_ne, List.pairwise_iff_getElem]
    intro i j hi hj hij he
    simp at hi hj
    simp only [List.getElem_map] at he
    have := h.inj (i := i) (j := j) (y := T[i]) (z := T[j]) (by simp [hi]) (by simp [hj]) he
    omega) (by
    intro x hx
    rcases List.mem_cons.1 hx with rfl | hx
    · rw [← h.pl]; exact hid
    obtain ⟨y, hy, rfl⟩ := List.mem_map.1 hx
    obtain ⟨i, hi⟩ := List.mem_iff_getElem?.1 hy
    exact h.id_lt hi)
  simp at this
  omega
/-- an empty one -/
theorem well_nil (n : Nat) : Well n [] (List.replicate n 0) := by
  refine ⟨by simp, fun i y h => by simp at h, fun id p hp => ?_, fun i y z _ h => by simp at h⟩
  rw [List.getElem?_replicate] at hp
  split at hp
  · cases hp; exact .inl rfl
  · cases hp
end Go.Proofs.Ytombpfpfeebnpaa
