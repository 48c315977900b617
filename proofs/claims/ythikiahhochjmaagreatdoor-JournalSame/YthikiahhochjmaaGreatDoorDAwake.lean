/- awake. -/
import Derived.Test.YthikiahhochjmaaGreatDoorDCalls
import Derived.Lib.SlBytesConst
import Derived.Laws.BytesArg
namespace Go.Proofs.YthikiahhochjmaaGreatDoor
open Go.RowKit Go.Maps
set_option linter.unusedVariables false

theorem wf_i64 {a : Int} (h : (Lit.int .i64 a).wf = true) : -9223372036854775808 ≤ a ∧ a ≤ 9223372036854775807 := by
  simp [Lit.wf, IntKind.min, IntKind.max, IntKind.signed, IntKind.bits] at h
  omega
theorem DAt.base {w w' : World} {B b : Nat} {S : Dk} (h : DAt w' B (NF w (fun j => b ≤ j)) S) (hb : b ≤ w.heap.size) : DAt w' B (fun j => b ≤ j) S :=
  h.mono (fun j hj _ => by rcases hj with hj | hj; exact hj; exact Nat.le_trans hb hj)
theorem Turn.fresh {w w' : World} {b : Nat} (h : Turn (fun j => b ≤ j) w w') (hb : w.heap.size ≤ b) : Turn (fun _ => False) w w' :=
  ⟨h.os, h.tape, h.output, h.size, fun k hk _ => h.block k hk (by omega)⟩

def nA : ByteArray := ⟨#[97]⟩
theorem nA_len : (⟨#[97]⟩ : ByteArray).size ≤ maxLen := by decide

end Go.Proofs.YthikiahhochjmaaGreatDoor
