/- What is in a heap into which a list's ranks were pushed, one by one. -/
import Derived.Test.YtcajomobmjapgaaHAwake
namespace Go.Proofs.Ytcajomobmjapgaa
open Go.RowKit Go.Maps
set_option linter.unusedVariables false
set_option linter.unusedSimpArgs false

/-- what is in: the first k things, each with its rank of the list -/
def Firsts (zs : List Int) (k : Nat) (T : List It) : Prop := ∀ u : It, u ∈ T ↔ u.1 < k ∧ zs[u.1]? = some u.2
theorem firsts_nil (zs : List Int) : Firsts zs 0 [] := fun u => by simp
theorem Firsts.push {zs : List Int} {k : Nat} {T T' : List It} (h : Firsts zs k T) {r : Int} (hr : zs[k]? = some r) (hm : ∀ u, u ∈ T' ↔ u = (k, r) ∨ u ∈ T) : Firsts zs (k + 1) T' := by
  intro u
  rw [hm u, h u]
  constructor
  · rintro (rfl | ⟨h1, h2⟩)
    · exact ⟨by simp, hr⟩
    · exact ⟨by omega, h2⟩
  · rintro ⟨h1, h2⟩
    by_cases he : u.1 = k
    · left
      rw [he, hr] at h2
      exact Prod.ext he (by simpa using h2.symm)
    · exact .inr ⟨by omega, h2⟩

end Go.Proofs.Ytcajomobmjapgaa
