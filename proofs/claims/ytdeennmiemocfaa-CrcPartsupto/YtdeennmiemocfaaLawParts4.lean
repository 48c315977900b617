/- The sum of two parts is that of the second, behind the first's. -/
import Derived.Test.YtdeennmiemocfaaLawSums4
namespace Go.Proofs.Ytdeennmiemocfaa
open Go.RowKit
set_option linter.unusedVariables false

theorem nat_append (xs zs : List Int) : nat (xs ++ zs) = nat xs ++ nat zs := by simp [nat]

/-- append, of which the run is known, behind a guard that lets it by -/
theorem list_append_run_g {P : Program} {ops : Array Oper} {rest : List Oper} {o : Oper} {a : Act} {w : World} {Q : Exit → Act → World → Prop}
    (hw : Region.wanted o (yielded ops a.tmps) = true) (s x : Operand) (t : TypeId) (hop : o.op = Op.call { callee := Callee.builtin Builtin.append, args := #[s, x], argTypes := #[t, t] }) (v xv v' : Value) (w' : World) (hs : a.eval s = v) (hx : a.eval x = xv)
    (hrun : (Builtin.append_ #[t, t] o.type #[v, xv]).run P w = .ok v' w') (hK : wpList P ops Q rest (a.put o.dst v') w') : wpList P ops Q (o :: rest) a w := by
  refine wpList_step fun K' hK' => ?_
  rw [if_pos hw]
  unfold Oper.wp
  simp [execOp, hop, resolve, invoke, builtin, hs, hx, hrun, Result.andThen]
  exact hK' _ _ hK

set_option maxHeartbeats 2000000 in
theorem CrcParts_law (w : World) (a : Value) (xs : List Int) (hx : Row .u8 any w a xs) (hwx : ∀ n ∈ xs, (Lit.int .u8 n).wf = true) (b : Value) (zs : List Int) (hr : Row .u8 any w b zs) (hwf : ∀ n ∈ zs, (Lit.int .u8 n).wf = true) (hz : xs.length + zs.length ≤ 1048576) :
    Calls Try.prog 4 #[a, b] w fun e w' => e = .returned (.bool true) ∧ Below w.heap.size w w' := by
  obtain ⟨i0, hi, hz0, hz1, hz2⟩ := info_parts info_u8
  have hbx := bytes_wf hwx
  have hbz := bytes_wf hwf
  have hsum : sumAdd 0 (nat (xs ++ zs)) = sumAdd (sumAdd 0 (nat xs)) (nat zs) := by rw [nat_append, sumAdd_append _ _ _ (nat_byte hbx)]
  have hnil : sumAdd (sumAdd 0 (nat xs)) (nat []) = sumAdd 0 (nat xs) := sumAdd_nil _ (sumAdd_lt _ _)
  have hS : sumAdd 0 (nat xs) < 4294967296 := sumAdd_lt _ _
  generalize hA : sumAdd 0 (nat xs) = S at *
  go_enter Try.func4, Try.ntmps4
  go_wp2_with fail
  refine (awake_walk _).mono ?_
  rintro e w1 ⟨rfl, b1⟩
  have hx1 := hx.below b1
  have hr1 := hr.below b1
  go_wp2_with fail
  refine (copy_walk any _ xs _ hx1 (by omega)).mono ?_
  rintro e w2 ⟨x2, rfl, h2, k2⟩
  have hx2 := hx1.below k2
  have hr2 := hr1.below k2
  have hb2 := below_then b1 k2
  have hs2 := k2.size
  obtain ⟨x3, w3, hrun, h3, k3⟩ := append_row (P := Try.prog) (ty := 22) Try.underlying22 hi hz0 hz1 hz2 rfl h2 hr2 (by unfold maxLen; omega) (by omega) hs2
  have k23 : Below w1.heap.size w1 w3 := k2.trans k3
  have hx3 := hx1.below k23
  have hr3 := hr1.below k23
  have hb3 := below_then b1 k23
  have hrow3 := (row_of_owns h3).mono (B' := any) (fun _ _ => trivial)
  clear h2 h3 k2 k3 hx1 hr1 hx2 hr2 hx hr hb2 k23 hs2 b1
  go_wp2_with (first | (at_builtin; refine list_append_run_g (by simp [Region.wanted, yielded]) _ _ 22 rfl _ _ _ _ rfl rfl hrun ?_) | fail)
  refine (sum_walk any _ (xs ++ zs) _ (hbx.append hbz) hrow3).mono ?_
  rintro e w4 ⟨rfl, rfl⟩
  clear hrun hrow3
  go_wp2_with fail
  refine (sum_walk any _ xs _ hbx hx3).mono ?_
  rintro e w5 ⟨rfl, rfl⟩
  try rw [hA]
  go_wp2_with fail
  refine (add_walk any _ zs S _ hS hbz hr3).mono ?_
  rintro e w5 ⟨rfl, rfl⟩
  try rw [hsum]
  go_wp2_with fail
  refine (sum_walk any _ xs _ hbx hx3).mono ?_
  rintro e w5 ⟨rfl, rfl⟩
  try rw [hA]
  go_wp2_with fail
  refine (add_walk any _ [] S _ hS (by intro x hx; cases hx) (row_none _ _ _)).mono ?_
  rintro e w5 ⟨rfl, rfl⟩
  try rw [hnil]
  go_wp2_with fail
  refine (sum_walk any _ xs _ hbx hx3).mono ?_
  rintro e w5 ⟨rfl, rfl⟩
  try rw [hA]
  go_wp2
  go_ret
  exact ⟨rfl, hb3⟩
end Go.Proofs.Ytdeennmiemocfaa
