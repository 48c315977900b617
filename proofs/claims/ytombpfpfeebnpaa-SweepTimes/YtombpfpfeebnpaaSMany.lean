/- Two, or three, operations of a region of which any may come up; an append of which it is known that it ends well. -/
import Derived.Test.YtombpfpfeebnpaaSTurn
namespace Go.Proofs.Ytombpfpfeebnpaa
open Go.RowKit Go.Maps
set_option linter.unusedVariables false
set_option linter.unusedSimpArgs false

section
variable {P : Program} {ops : Array Oper} {Q : Exit → Act → World → Prop} {md : Region.Mode} {S : World → Prop} {z : Nat}
/-- what one of them has to show -/
abbrev OneOf (P : Program) (md : Region.Mode) (ops : Array Oper) (Q : Exit → Act → World → Prop) (S : World → Prop) (z fuel : Nat) (listed : Array Bool) (a : Act) (w : World) (i : Nat) (o : Oper) : Prop :=
  ∀ K' : Act → World → Prop, (∀ a w, (i ≠ z → S w) → wpAnyT P md ops Q S z fuel (listed.setIfInBounds i true) a w → K' a w) → if Region.wanted o (yielded ops a.tmps) = true then Oper.wp P o a w K' Q else K' (a.put o.dst undef) w
theorem oneOf_op {i : Nat} {o : Oper} {fuel : Nat} {listed : Array Bool} {a : Act} {w : World} (ho : ops[i]? = some o) (h : OneOf P md ops Q S z fuel listed a w i o) :
    wpOp P ops Q i (fun a' w' => (i ≠ z → S w') ∧ wpAnyT P md ops Q S z fuel (listed.setIfInBounds i true) a' w') a w :=
  wpOp_step ho (fun K' hK => h K' (fun a w h1 h2 => hK a w ⟨h1, h2⟩))
theorem wpAnyT_two {i1 i2 : Nat} {o1 o2 : Oper} {fuel : Nat} {listed : Array Bool} {a : Act} {w : World} (hr : Region.ready md ops listed = [i1, i2])
    (ho1 : ops[i1]? = some o1) (h1 : OneOf P md ops Q S z fuel listed a w i1 o1) (ho2 : ops[i2]? = some o2) (h2 : OneOf P md ops Q S z fuel listed a w i2 o2) : wpAnyT P md ops Q S z (fuel + 1) listed a w := by
  refine ⟨fun h0 => (by rw [hr] at h0; cases h0), fun j hj => ?_⟩
  rw [hr] at hj
  rcases List.mem_cons.1 hj with rfl | hj
  · exact oneOf_op ho1 h1
  · obtain rfl : j = i2 := by simpa using hj
    exact oneOf_op ho2 h2
theorem wpAnyT_three {i1 i2 i3 : Nat} {o1 o2 o3 : Oper} {fuel : Nat} {listed : Array Bool} {a : Act} {w : World} (hr : Region.ready md ops listed = [i1, i2, i3])
    (ho1 : ops[i1]? = some o1) (h1 : OneOf P md ops Q S z fuel listed a w i1 o1) (ho2 : ops[i2]? = some o2) (h2 : OneOf P md ops Q S z fuel listed a w i2 o2) (ho3 : ops[i3]? = some o3) (h3 : OneOf P md ops Q S z fuel listed a w i3 o3) : wpAnyT P md ops Q S z (fuel + 1) listed a w := by
  refine ⟨fun h0 => (by rw [hr] at h0; cases h0), fun j hj => ?_⟩
  rw [hr] at hj
  rcases List.mem_cons.1 hj with rfl | hj
  · exact oneOf_op ho1 h1
  · rcases List.mem_cons.1 hj with rfl | hj
    · exact oneOf_op ho2 h2
    · obtain rfl : j = i3 := by simpa using hj
      exact oneOf_op ho3 h3
end
theorem step_append_new {P : Program} {ops : Array Oper} {o : Oper} {a : Act} {w : World} {K : Act → World → Prop} {Q : Exit → Act → World → Prop} {E : Prop}
    (hg : o.guard = none) (s x : Operand) (t : TypeId) (hop : o.op = Op.call { callee := Callee.builtin Builtin.append, args := #[s, x], argTypes := #[t, t] }) (v xv : Value) (hs : a.eval s = v) (hx : a.eval x = xv) {R : Value → World → Prop}
    (hex : ∃ v' w', (Builtin.append_ #[t, t] o.type #[v, xv]).run P w = .ok v' w' ∧ R v' w') (hK : ∀ v' w', R v' w' → K (a.put o.dst v') w') :
    if Region.wanted o (yielded ops a.tmps) = true then Oper.wp P o a w K Q else E := by
  obtain ⟨v', w', hrun, hR⟩ := hex
  exact step_append_run hg s x t hop v xv v' w' hs hx hrun (hK v' w' hR)
theorem src_at {w : World} {b : Nat} {a : Ar} (h : w.heap[b]? = some (.cells #[.int .i64 a.1, .int .i64 a.2.1, .int .i64 a.2.2] 46 (0, 0))) : Src 3 w (.slice (some ⟨b, 0, none⟩) 1 1) [a].length (arCs [a]) := by
  refine ⟨by rw [arCs_len], .inr ⟨_, _, rfl, by simp, fun j u hu => ?_⟩⟩
  rw [arCs_one1] at hu
  rw [Addr.add_lit, Nat.zero_add, cell_obj h j]
  simpa [arC] using hu
end Go.Proofs.Ytombpfpfeebnpaa
