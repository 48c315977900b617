/- Operations that came in: a kind, a number, bytes, numbers. -/
import Derived.Test.YthikiahhochjmaaGreatDoorPack7
namespace Go.Proofs.YthikiahhochjmaaGreatDoor
open Go.RowKit
set_option linter.unusedVariables false

/-- operations that came in -/
structure OpsIn (w : World) (v : Value) (n : Nat) (K N : Nat → Int) (BV KV : Nat → Value) (Z Q : Nat → List Int) : Prop where
  form : ∃ a c, v = .slice a n c ∧ n ≤ maxLen ∧ ∀ j, j < n → ∃ b off, a = some ⟨b, off, none⟩ ∧ w.cell? ⟨b, off + j * 4, none⟩ = some (.int .i64 (K j)) ∧ w.cell? ⟨b, off + j * 4 + 1, none⟩ = some (.int .i64 (N j)) ∧ w.cell? ⟨b, off + j * 4 + 2, none⟩ = some (BV j) ∧ w.cell? ⟨b, off + j * 4 + 3, none⟩ = some (KV j)
  rows : ∀ j, j < n → Row .u8 any w (BV j) (Z j) ∧ Row .i64 any w (KV j) (Q j)
  size : ∀ j, j < n → N j ≤ 9223372036854775807 ∧ (Q j).length * 8 ≤ 140737488351232 ∧ (Z j).length ≤ 140737488351232
  bytes : ∀ j, j < n → Bytes (Z j)
end Go.Proofs.YthikiahhochjmaaGreatDoor
