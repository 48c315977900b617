/- What graph answers, whatever the network. -/
import Derived.Test.YtombpfpfeebnpaaSLaw
namespace Go.Proofs.Ytombpfpfeebnpaa
open Go.RowKit Go.Maps
set_option linter.unusedVariables false

/-- what graph answers -/
def Graphed (w : World) (n : Int) (l : List Ar) (g : Option Addr) : Prop := (g = none ∧ ¬ Looked n l) ∨ ∃ (N G : Nat) (F : Nat → Prop), g = some ⟨G, 0, none⟩ ∧ n = (N : Int) ∧ Looked n l ∧ GraphAt w G F N l
theorem Graphed.quiet {w w' : World} {n : Int} {l : List Ar} {g : Option Addr} (h : Graphed w n l g) (t : Turn (fun _ => False) w w') : Graphed w' n l g := by
  rcases h with h | ⟨N, G, F, h1, h2, h3, h4⟩
  · exact .inl h
  · exact .inr ⟨N, G, F, h1, h2, h3, h4.quiet t⟩
theorem graph_any (w : World) (n : Int) (v : Value) (l : List Ar) (hr : AR any w v l) :
    Calls Try.prog 9 #[.agg #[.int .i64 n, v]] w fun e w' => ∃ g, e = .returned (.pointer g) ∧ Turn (fun _ => False) w w' ∧ Graphed w' n l g := by
  by_cases hL : Looked n l
  · obtain ⟨N, rfl⟩ : ∃ N : Nat, n = N := ⟨n.toNat, by have := hL.2.2.1.1; omega⟩
    exact (graph_some any w N v l hr hL).mono (by rintro e w' ⟨G, rfl, t, hG⟩; exact ⟨_, rfl, t, .inr ⟨N, G, _, rfl, rfl, hL, hG⟩⟩)
  · exact (graph_none any w n v l hr hL).mono (by rintro e w' ⟨rfl, t⟩; exact ⟨_, rfl, t, .inl ⟨rfl, hL⟩⟩)
end Go.Proofs.Ytombpfpfeebnpaa
