/-
  No cell of these rows narrows 'for every input' (looked for: loops, veiled, ifaces, maps, wideKeys, modest, calm, conditions, laid).
  DERIVED. THE GIVEN ROWS OF THIS SEAT. 6 by the template 'for every input the law returns true; each argument reads behind the call as it read before'; 0 by the template 'total and deterministic' (their statements: YtombpfpfeebnpaaTotals.lean).
  GIVEN WITH THE SEED: the statements are not yours to turn. If you find one false, say at which input.
  Laid BY PROGRAM, IN A SANDBOX (cutbox-rows.mjs): the forced cells as the released guide's own fill.sh prints them over the translation 4dbeced87ff9a378… (all of the seat's roots in one cut). By AI agents, Wed Nov 11 2026. No macro, syntax, notation, axiom, sorry.
-/
import Derived.Test.YtombpfpfeebnpaaChecked
import GoSem.Claim
import GoSem.ClaimJoined
import GoSem.ClaimMapViews
import Derived.JoinedTies
import Derived.KernelRfl
namespace Go.Proofs.Ytombpfpfeebnpaa
/- THE CELL 'sum', in the pinned program and in every row, IS THE sha256 OF THE DUMP (.gsa) THAT YtombpfpfeebnpaaProg.lean LOADS. Nothing in Lean hashes anything: it is a label: what it is worth is what the hold of that sum in a sandbox is worth. -/
noncomputable def Try.pinned : Pinned := { name := "ytombpfpfeebnpaa", sum := "4dbeced87ff9a378f326826687f68771696b8ae83068c7af0d092ba4592e2d04", checked := Try.checked }
namespace Rows
def none {H : Type} : Left H := { results := [], args := [] }

/-- 'hansomlaw11.SweepTells': WHATEVER THE INPUT: true; the input reads as it did. -/
def sweepTellsSpec : ChangeSpec := { name := "sweepTells", fn := fun _ => fun
  | [d1, d2, d3, d4] => { results := [.lit (.bool true)], args := [d1, d2, d3, d4] }
  | _ => none }
def sweepTellsRow : OpenClaim := { program := "ytombpfpfeebnpaa", sum := "4dbeced87ff9a378f326826687f68771696b8ae83068c7af0d092ba4592e2d04", func := "hansom/hansomlaw11.SweepTells", spec := "sweepTells", unfollowed := true, recurses := true, plainKeys := false, apart := false }
def SweepTellsSaid : Prop := sweepTellsRow.holds Try.pinned (OpenSpec.ofChange sweepTellsSpec)

/-- ITS FALSE NEIGHBOUR: 'it returns false'. Refute it at one input. -/
def sweepTellsWrong : ChangeSpec := { name := "sweepTells", fn := fun _ => fun
  | [d1, d2, d3, d4] => { results := [.lit (.bool false)], args := [d1, d2, d3, d4] }
  | _ => none }
def SweepTellsWrongFalsely : Prop := sweepTellsRow.holds Try.pinned (OpenSpec.ofChange sweepTellsWrong)

/-- 'hansomlaw11.SweepThree': WHATEVER THE INPUT: true; the input reads as it did. -/
def sweepThreeSpec : ChangeSpec := { name := "sweepThree", fn := fun _ => fun
  | [d1, d2, d3] => { results := [.lit (.bool true)], args := [d1, d2, d3] }
  | _ => none }
def sweepThreeRow : OpenClaim := { program := "ytombpfpfeebnpaa", sum := "4dbeced87ff9a378f326826687f68771696b8ae83068c7af0d092ba4592e2d04", func := "hansom/hansomlaw11.SweepThree", spec := "sweepThree", unfollowed := true, recurses := true, plainKeys := false, apart := false }
def SweepThreeSaid : Prop := sweepThreeRow.holds Try.pinned (OpenSpec.ofChange sweepThreeSpec)

/-- ITS FALSE NEIGHBOUR: 'it returns false'. Refute it at one input. -/
def sweepThreeWrong : ChangeSpec := { name := "sweepThree", fn := fun _ => fun
  | [d1, d2, d3] => { results := [.lit (.bool false)], args := [d1, d2, d3] }
  | _ => none }
def SweepThreeWrongFalsely : Prop := sweepThreeRow.holds Try.pinned (OpenSpec.ofChange sweepThreeWrong)

/-- 'hansomlaw11.SweepNil': WHATEVER THE INPUT: true; the input reads as it did. -/
def sweepNilSpec : ChangeSpec := { name := "sweepNil", fn := fun _ => fun
  | [d1, d2, d3] => { results := [.lit (.bool true)], args := [d1, d2, d3] }
  | _ => none }
def sweepNilRow : OpenClaim := { program := "ytombpfpfeebnpaa", sum := "4dbeced87ff9a378f326826687f68771696b8ae83068c7af0d092ba4592e2d04", func := "hansom/hansomlaw11.SweepNil", spec := "sweepNil", unfollowed := true, recurses := true, plainKeys := false, apart := false }
def SweepNilSaid : Prop := sweepNilRow.holds Try.pinned (OpenSpec.ofChange sweepNilSpec)

/-- ITS FALSE NEIGHBOUR: 'it returns false'. Refute it at one input. -/
def sweepNilWrong : ChangeSpec := { name := "sweepNil", fn := fun _ => fun
  | [d1, d2, d3] => { results := [.lit (.bool false)], args := [d1, d2, d3] }
  | _ => none }
def SweepNilWrongFalsely : Prop := sweepNilRow.holds Try.pinned (OpenSpec.ofChange sweepNilWrong)

/-- 'hansomlaw11.SweepTurned': WHATEVER THE INPUT: true; the input reads as it did. -/
def sweepTurnedSpec : ChangeSpec := { name := "sweepTurned", fn := fun _ => fun
  | [d1, d2] => { results := [.lit (.bool true)], args := [d1, d2] }
  | _ => none }
def sweepTurnedRow : OpenClaim := { program := "ytombpfpfeebnpaa", sum := "4dbeced87ff9a378f326826687f68771696b8ae83068c7af0d092ba4592e2d04", func := "hansom/hansomlaw11.SweepTurned", spec := "sweepTurned", unfollowed := true, recurses := true, plainKeys := false, apart := false }
def SweepTurnedSaid : Prop := sweepTurnedRow.holds Try.pinned (OpenSpec.ofChange sweepTurnedSpec)

/-- ITS FALSE NEIGHBOUR: 'it returns false'. Refute it at one input. -/
def sweepTurnedWrong : ChangeSpec := { name := "sweepTurned", fn := fun _ => fun
  | [d1, d2] => { results := [.lit (.bool false)], args := [d1, d2] }
  | _ => none }
def SweepTurnedWrongFalsely : Prop := sweepTurnedRow.holds Try.pinned (OpenSpec.ofChange sweepTurnedWrong)

/-- 'hansomlaw11.SweepMore': WHATEVER THE INPUT: true; the input reads as it did. -/
def sweepMoreSpec : ChangeSpec := { name := "sweepMore", fn := fun _ => fun
  | [d1, d2, d3] => { results := [.lit (.bool true)], args := [d1, d2, d3] }
  | _ => none }
def sweepMoreRow : OpenClaim := { program := "ytombpfpfeebnpaa", sum := "4dbeced87ff9a378f326826687f68771696b8ae83068c7af0d092ba4592e2d04", func := "hansom/hansomlaw11.SweepMore", spec := "sweepMore", unfollowed := true, recurses := true, plainKeys := false, apart := false }
def SweepMoreSaid : Prop := sweepMoreRow.holds Try.pinned (OpenSpec.ofChange sweepMoreSpec)

/-- ITS FALSE NEIGHBOUR: 'it returns false'. Refute it at one input. -/
def sweepMoreWrong : ChangeSpec := { name := "sweepMore", fn := fun _ => fun
  | [d1, d2, d3] => { results := [.lit (.bool false)], args := [d1, d2, d3] }
  | _ => none }
def SweepMoreWrongFalsely : Prop := sweepMoreRow.holds Try.pinned (OpenSpec.ofChange sweepMoreWrong)

/-- 'hansomlaw11.SweepTimes': WHATEVER THE INPUT: true; the input reads as it did. -/
def sweepTimesSpec : ChangeSpec := { name := "sweepTimes", fn := fun _ => fun
  | [d1, d2, d3, d4] => { results := [.lit (.bool true)], args := [d1, d2, d3, d4] }
  | _ => none }
def sweepTimesRow : OpenClaim := { program := "ytombpfpfeebnpaa", sum := "4dbeced87ff9a378f326826687f68771696b8ae83068c7af0d092ba4592e2d04", func := "hansom/hansomlaw11.SweepTimes", spec := "sweepTimes", unfollowed := true, recurses := true, plainKeys := false, apart := false }
def SweepTimesSaid : Prop := sweepTimesRow.holds Try.pinned (OpenSpec.ofChange sweepTimesSpec)

/-- ITS FALSE NEIGHBOUR: 'it returns false'. Refute it at one input. -/
def sweepTimesWrong : ChangeSpec := { name := "sweepTimes", fn := fun _ => fun
  | [d1, d2, d3, d4] => { results := [.lit (.bool false)], args := [d1, d2, d3, d4] }
  | _ => none }
def SweepTimesWrongFalsely : Prop := sweepTimesRow.holds Try.pinned (OpenSpec.ofChange sweepTimesWrong)

/- THE SECOND FORM. 'bulk': how many values and letters a reading holds, each counted each time it is reached (what is shared counts as often as it is met; a slice's spare places count too). A statement '..UptoSaid' is the law's where the arguments, and the package variables that the reading takes, are together of bulk at most 1048576: NARROWER than '..Said'. Prove '..Said' where nothing that the law and all that it calls make is longer than what came in: it says more and counts as full. Else prove '..UptoSaid'. A law counts once. -/
mutual
def uptoBulk {H : Type} : DataW H → Nat
  | .lit (.string bytes) => bytes.length + 1
  | .lit _ => 1
  | .nil => 1
  | .ptr d => uptoBulk d + 1
  | .slice elems spare => uptoBulkAll elems + uptoBulkAll spare + 1
  | .agg parts => uptoBulkAll parts + 1
  | .iface _ d => uptoBulk d + 1
  | .map entries => uptoBulkEntries entries + 1
  | .held _ => 1
def uptoBulkAll {H : Type} : List (DataW H) → Nat
  | [] => 0
  | d :: r => uptoBulk d + uptoBulkAll r
def uptoBulkEntries {H : Type} : List (Lit × DataW H) → Nat
  | [] => 0
  | x :: r => uptoBulkEntry x + uptoBulkEntries r
def uptoBulkEntry {H : Type} : Lit × DataW H → Nat
  | (.string bytes, d) => bytes.length + uptoBulk d + 1
  | (_, d) => uptoBulk d + 1
 end
def uptoSmall : (H : Type) → List (DataW H) → Bool := fun _ ds => decide (uptoBulkAll ds ≤ 1048576)
def OpenSpec.upto (s : _root_.Go.ChangeSpec) : _root_.Go.OpenSpec := { _root_.Go.OpenSpec.ofChange s with cond := some uptoSmall }

/-- 'hansomlaw11.SweepTells', WHERE WHAT IT READS IS OF BULK AT MOST 1048576: true; the input reads as it did. -/
def sweepTellsUptoRow : OpenClaim := { program := "ytombpfpfeebnpaa", sum := "4dbeced87ff9a378f326826687f68771696b8ae83068c7af0d092ba4592e2d04", func := "hansom/hansomlaw11.SweepTells", spec := "sweepTells", unfollowed := true, recurses := true, plainKeys := false, apart := false, narrowed := true }
def SweepTellsUptoSaid : Prop := sweepTellsUptoRow.holds Try.pinned (OpenSpec.upto sweepTellsSpec)

/-- 'hansomlaw11.SweepThree', WHERE WHAT IT READS IS OF BULK AT MOST 1048576: true; the input reads as it did. -/
def sweepThreeUptoRow : OpenClaim := { program := "ytombpfpfeebnpaa", sum := "4dbeced87ff9a378f326826687f68771696b8ae83068c7af0d092ba4592e2d04", func := "hansom/hansomlaw11.SweepThree", spec := "sweepThree", unfollowed := true, recurses := true, plainKeys := false, apart := false, narrowed := true }
def SweepThreeUptoSaid : Prop := sweepThreeUptoRow.holds Try.pinned (OpenSpec.upto sweepThreeSpec)

/-- 'hansomlaw11.SweepNil', WHERE WHAT IT READS IS OF BULK AT MOST 1048576: true; the input reads as it did. -/
def sweepNilUptoRow : OpenClaim := { program := "ytombpfpfeebnpaa", sum := "4dbeced87ff9a378f326826687f68771696b8ae83068c7af0d092ba4592e2d04", func := "hansom/hansomlaw11.SweepNil", spec := "sweepNil", unfollowed := true, recurses := true, plainKeys := false, apart := false, narrowed := true }
def SweepNilUptoSaid : Prop := sweepNilUptoRow.holds Try.pinned (OpenSpec.upto sweepNilSpec)

/-- 'hansomlaw11.SweepTurned', WHERE WHAT IT READS IS OF BULK AT MOST 1048576: true; the input reads as it did. -/
def sweepTurnedUptoRow : OpenClaim := { program := "ytombpfpfeebnpaa", sum := "4dbeced87ff9a378f326826687f68771696b8ae83068c7af0d092ba4592e2d04", func := "hansom/hansomlaw11.SweepTurned", spec := "sweepTurned", unfollowed := true, recurses := true, plainKeys := false, apart := false, narrowed := true }
def SweepTurnedUptoSaid : Prop := sweepTurnedUptoRow.holds Try.pinned (OpenSpec.upto sweepTurnedSpec)

/-- 'hansomlaw11.SweepMore', WHERE WHAT IT READS IS OF BULK AT MOST 1048576: true; the input reads as it did. -/
def sweepMoreUptoRow : OpenClaim := { program := "ytombpfpfeebnpaa", sum := "4dbeced87ff9a378f326826687f68771696b8ae83068c7af0d092ba4592e2d04", func := "hansom/hansomlaw11.SweepMore", spec := "sweepMore", unfollowed := true, recurses := true, plainKeys := false, apart := false, narrowed := true }
def SweepMoreUptoSaid : Prop := sweepMoreUptoRow.holds Try.pinned (OpenSpec.upto sweepMoreSpec)

/-- 'hansomlaw11.SweepTimes', WHERE WHAT IT READS IS OF BULK AT MOST 1048576: true; the input reads as it did. -/
def sweepTimesUptoRow : OpenClaim := { program := "ytombpfpfeebnpaa", sum := "4dbeced87ff9a378f326826687f68771696b8ae83068c7af0d092ba4592e2d04", func := "hansom/hansomlaw11.SweepTimes", spec := "sweepTimes", unfollowed := true, recurses := true, plainKeys := false, apart := false, narrowed := true }
def SweepTimesUptoSaid : Prop := sweepTimesUptoRow.holds Try.pinned (OpenSpec.upto sweepTimesSpec)

end Rows
end Go.Proofs.Ytombpfpfeebnpaa
