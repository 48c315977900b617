/- Keys of this program's two maps: pairs of nodes, and a node with a side. -/
import Derived.Test.YtffchlpefhldhaaChecked
import Derived.WalkKit
import Derived.WalkLawsBesides
import Derived.Maps.OwnSet
import Derived.DeepKeys4
import Derived.WideKeyPair
namespace Go.Proofs.Ytffchlpefhldhaa
open Go.RowKit Go.Maps
set_option linter.unusedVariables false

theorem mLaid : laidOutB Try.prog = true := by kernel_rfl
theorem mLawP : Keyed Try.prog 30 := Keyed.of_law (deep_law_laid mLaid (m := 3) (by omega) (of_decide_eq_true (by kernel_rfl)) (by kernel_rfl) (by rw [Try.underlying30]))
theorem mLawA : Keyed Try.prog 60 := Keyed.of_law (deep_law_laid mLaid (m := 3) (by omega) (of_decide_eq_true (by kernel_rfl)) (by kernel_rfl) (by rw [Try.underlying60]))

/-- a number that an int32 holds -/
def I32 (a : Int) : Prop := (Lit.int .i32 a).wf = true
/-- what two numbers read as, as a key -/
def kl (a b : Int) : Lit := .string (keyBytes [.int .i32 a, .int .i32 b])

theorem keyOf_two {P : Program} {k e : TypeId} {q : IntKind} {f0 f1 : Field} (hu : P.underlying k = some (.struct #[f0, f1])) (he : P.underlying e = some (.int q)) (hk : P.keyType k = true) (hc : P.cellsOf k = 2) (hc1 : P.cellsOf e = 1)
    (t0 : f0.type = e) (t1 : f1.type = e) (o0 : f0.offset = 0) (o1 : f1.offset = 1) (n0 : (f0.name != "_") = true) (n1 : (f1.name != "_") = true) (hm : ∃ m, P.types.size = m + 1) {a b : Int} (wa : (Lit.int q a).wf = true) (wb : (Lit.int q b).wf = true) :
    keyOf P k (.agg #[.int q a, .int q b]) = some (.string (keyBytes [.int q a, .int q b])) := by
  obtain ⟨m, hm⟩ := hm
  unfold keyOf
  simp only [hu]
  rw [if_pos (by simp [hk, Value.formed, hu, hc]), hm]
  unfold Program.keyLits
  simp only [hu, Value.cells]
  rw [if_pos (by simp [hc, n0, n1])]
  simp only [List.mapM_cons, List.mapM_nil, t0, t1, o0, o1, hc1]
  unfold Program.keyLits
  simp [he, wa, wb]
theorem keyOf_P {a b : Int} (wa : I32 a) (wb : I32 b) : keyOf Try.prog 30 (.agg #[.int .i32 a, .int .i32 b]) = some (kl a b) :=
  keyOf_two Try.underlying30 Try.underlying21 (by kernel_rfl) (by kernel_rfl) (by kernel_rfl) rfl rfl rfl rfl (by decide) (by decide) ⟨Try.prog.types.size - 1, by have : 0 < Try.prog.types.size := of_decide_eq_true (by kernel_rfl); omega⟩ wa wb
theorem keyOf_A {a b : Int} (wa : I32 a) (wb : I32 b) : keyOf Try.prog 60 (.agg #[.int .i32 a, .int .i32 b]) = some (kl a b) :=
  WideMaps.keyOf_pair (e := 21) (q := .i32) ⟨Try.underlying60, by kernel_rfl, by kernel_rfl, by kernel_rfl⟩ Try.underlying21 ⟨Try.prog.types.size - 1, by have : 0 < Try.prog.types.size := of_decide_eq_true (by kernel_rfl); omega⟩ wa wb
theorem kl_inj {a b c d : Int} (wa : I32 a) (wb : I32 b) (wc : I32 c) (wd : I32 d) (h : kl a b = kl c d) : a = c ∧ b = d := by
  have h1 := keyOf_A wa wb
  have h2 := keyOf_A wc wd
  rw [← h] at h2
  have := mLawA.inj h1 h2
  simpa using this
theorem kl_key (a b : Int) : WideAt.IsKeyLit (kl a b) := trivial
theorem mZero2 (w : World) : (zeroValue 2).run Try.prog w = .ok (.int .i64 0) w := by kernel_rfl
theorem mZero3 (w : World) : (zeroValue 3).run Try.prog w = .ok (.int .i64 0) w := by kernel_rfl
end Go.Proofs.Ytffchlpefhldhaa
