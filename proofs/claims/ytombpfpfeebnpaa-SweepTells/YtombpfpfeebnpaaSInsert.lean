/- What is near, put into its place one by one: plain. -/
import Derived.Test.YtombpfpfeebnpaaPack2
namespace Go.Proofs.Ytombpfpfeebnpaa
set_option linter.unusedVariables false
set_option linter.unusedSimpArgs false

/-- of the first i nodes -/
structure Sofar (L : List Int) (most : Int) (i : Nat) (R : List It) : Prop where
  sort : R.Pairwise bef
  mem : ∀ y ∈ R, y.1 < i ∧ L[y.1]? = some y.2 ∧ y.2 < INF ∧ y.2 ≤ most
  all : ∀ (u : Nat) d, u < i → L[u]? = some d → d < INF → d ≤ most → (u, d) ∈ R
  few : R.length ≤ i
theorem Sofar.begin (L : List Int) (most : Int) : Sofar L most 0 [] := ⟨List.Pairwise.nil, by simp, fun u d h => absurd h (Nat.not_lt_zero _), Nat.le_refl _⟩
theorem Sofar.skip {L : List Int} {most d : Int} {i : Nat} {R : List It} (h : Sofar L most i R) (hd : L[i]? = some d) (hn : ¬ (d < INF ∧ d ≤ most)) : Sofar L most (i + 1) R := by
  refine ⟨h.sort, fun y hy => ?_, fun u e hu he h1 h2 => ?_, Nat.le_succ_of_le h.few⟩
  · have := h.mem y hy; exact ⟨by omega, this.2⟩
  · by_cases e0 : u = i
    · subst e0
      rw [hd] at he
      cases he
      exact absurd ⟨h1, h2⟩ hn
    · exact h.all u e (by omega) he h1 h2
theorem Sofar.put {L : List Int} {most d : Int} {i k : Nat} {R : List It} (h : Sofar L most i R) (hd : L[i]? = some d) (h1 : d < INF) (h2 : d ≤ most) (hlow : ∀ y ∈ R.take k, y.2 ≤ d) (hhigh : ∀ y, R[k]? = some y → d < y.2) :
    Sofar L most (i + 1) (R.take k ++ ((i, d) :: R.drop k)) := by
  have hsort := h.sort
  rw [← List.take_append_drop k R] at hsort
  obtain ⟨s1, s2, s3⟩ := List.pairwise_append.1 hsort
  have hmem : ∀ y, y ∈ R ↔ y ∈ R.take k ∨ y ∈ R.drop k := fun y => by rw [← List.mem_append, List.take_append_drop]
  have hdrop : ∀ y ∈ R.drop k, d < y.2 := by
    intro y hy
    cases hR : R.drop k with
    | nil => rw [hR] at hy; cases hy
    | cons z T =>
      have hz : R[k]? = some z := by
        have : (R.drop k)[0]? = some z := by rw [hR]; rfl
        rwa [List.getElem?_drop, Nat.add_zero] at this
      have h3 := hhigh z hz
      rw [hR] at hy s2
      rcases List.mem_cons.1 hy with rfl | hy
      · exact h3
      · have := (List.pairwise_cons.1 s2).1 y hy
        unfold bef at this
        omega
  refine ⟨?_, ?_, ?_, ?_⟩
  · refine List.pairwise_append.2 ⟨s1, List.pairwise_cons.2 ⟨fun y hy => .inl (hdrop y hy), s2⟩, fun a ha b hb => ?_⟩
    rcases List.mem_cons.1 hb with rfl | hb
    · have h3 := hlow a ha
      have h4 := (h.mem a ((hmem a).2 (.inl ha))).1
      unfold bef
      show a.2 < d ∨ a.2 = d ∧ a.1 < i
      omega
    · exact s3 a ha b hb
  · intro y hy
    rcases List.mem_append.1 hy with hy | hy
    · have := h.mem y ((hmem y).2 (.inl hy)); exact ⟨by omega, this.2⟩
    · rcases List.mem_cons.1 hy with rfl | hy
      · exact ⟨Nat.lt_succ_self _, hd, h1, h2⟩
      · have := h.mem y ((hmem y).2 (.inr hy)); exact ⟨by omega, this.2⟩
  · intro u e hu he h3 h4
    by_cases e0 : u = i
    · subst e0
      rw [hd] at he
      cases he
      simp
    · rcases (hmem _).1 (h.all u e (by omega) he h3 h4) with h5 | h5
      · simp [h5]
      · simp [h5]
  · have := h.few
    simp only [List.length_append, List.length_cons, List.length_take, List.length_drop]
    omega
theorem Sofar.near {n : Nat} {E : Goes} {s most : Int} {L : List Int} {R : List It} (h : Sofar L most n R) (hL : IsDs n E s L) : Near n E s most R := by
  refine ⟨h.sort, fun y hy => ?_, fun u d hu hd h1 h2 => ?_⟩
  · obtain ⟨h1, h2, h3⟩ := h.mem y hy
    exact ⟨h1, hL.2 _ _ h2, h3⟩
  · have hul : u < L.length := by rw [hL.1]; exact hu
    have he := hL.2 u L[u] (by simp [hul])
    have := he.uniq hd
    exact h.all u d hu (by rw [← this]; simp [hul]) h1 h2
end Go.Proofs.Ytombpfpfeebnpaa
