/- Two pairs held against each other. -/
import Derived.Test.YtffchlpefhldhaaMNew
namespace Go.Proofs.Ytffchlpefhldhaa
/-- are two pairs one? -/
def same2 (x y a b : Int) : Bool := decide (x = a) && decide (y = b)
theorem same2_if {α : Sort _} (x y a b : Int) (f : Bool → α) : (if x = a then if y = b then f true else f false else f false) = f (same2 x y a b) := by
  unfold same2
  by_cases h1 : x = a <;> by_cases h2 : y = b <;> simp [h1, h2]

/-- a slice of pairs that came in -/
def PRow (w : World) (v : Value) (n : Nat) (A B : Nat → Int) : Prop :=
  (n = 0 ∧ ∃ a c, v = .slice a 0 c) ∨ ∃ b off c, v = .slice (some ⟨b, off, none⟩) n c ∧ n ≤ maxLen ∧ ∀ i, i < n → w.cell? ⟨b, off + i * 2, none⟩ = some (.int .i32 (A i)) ∧ w.cell? ⟨b, off + i * 2 + 1, none⟩ = some (.int .i32 (B i)) ∧ I32 (A i) ∧ I32 (B i)

end Go.Proofs.Ytffchlpefhldhaa
