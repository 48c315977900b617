/- Small helpers that all walks over this program share: endings, cells of a row of integers, hidden facts. -/
import Derived.Test.YtlecflgapaahgabChecked
import Derived.Test.YtlecflgapaahgabPlain
import Derived.WalkKit
import Derived.WalkLawsBesides
namespace Go.Proofs.Ytlecflgapaahgab
open Go.RowKit
set_option linter.unusedVariables false

theorem hide {p : Prop} (h : p) : Hid p := h
theorem unhide {p : Prop} (h : Hid p) : p := h
theorem ret_int {k : IntKind} {a b : Int} (h : a = b) : Ending.returned (.int k a) = .returned (.int k b) := by rw [h]
theorem ret_bool {a b : Bool} (h : a = b) : Ending.returned (.bool a) = .returned (.bool b) := by rw [h]
theorem ret_int_bool {k : IntKind} {a b : Int} {c d : Bool} (h : a = b) (h' : c = d) : Ending.returned (.tuple #[.int k a, .bool c]) = .returned (.tuple #[.int k b, .bool d]) := by rw [h, h']
theorem ret_int_int {k k' : IntKind} {a b c d : Int} (h : a = b) (h' : c = d) : Ending.returned (.tuple #[.int k a, .int k' c]) = .returned (.tuple #[.int k b, .int k' d]) := by rw [h, h']

/-- the cells from (b, off) on hold these numbers -/
def Cells (k : IntKind) (w : World) (b off : Nat) (zs : List Int) : Prop :=
  ∀ i, i < zs.length → w.cell? ⟨b, off + i, none⟩ = some (.int k (zs.getD i 0))

/-- a slice value whose elements are these numbers: one without elements, or an address with such cells -/
def Row (k : IntKind) (w : World) (v : Value) (zs : List Int) : Prop :=
  (∃ a c, v = .slice a 0 c ∧ (a = none → c = 0) ∧ zs = []) ∨ ∃ b off c, v = .slice (some ⟨b, off, none⟩) zs.length c ∧ zs.length ≤ c ∧ c ≤ maxLen ∧ Cells k w b off zs

theorem Row.slice {k : IntKind} {w : World} {v : Value} {zs : List Int} (h : Row k w v zs) : ∃ a c, v = .slice a zs.length c := by
  rcases h with ⟨_, _, rfl, _, rfl⟩ | ⟨b, off, c, rfl, _⟩
  · exact ⟨_, _, rfl⟩
  · exact ⟨_, _, rfl⟩

/-- what holds below a mark holds behind it -/
theorem Row.below {k : IntKind} {w w' : World} {v : Value} {zs : List Int} (h : Row k w v zs) (hb : Below w.heap.size w w') : Row k w' v zs := by
  rcases h with h | ⟨b, off, c, rfl, hl, hm, hc⟩
  · exact .inl h
  refine .inr ⟨b, off, c, rfl, hl, hm, fun i hi => ?_⟩
  have h1 := hc i hi
  have hlt : b < w.heap.size := World.block_lt_of_cell? _ _ h1
  rw [hb.cell (p := ⟨b, off + i, none⟩) hlt]
  exact h1

end Go.Proofs.Ytlecflgapaahgab
