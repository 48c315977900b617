/- A network with all weights so many times greater: plain. -/
import Derived.Test.YtombpfpfeebnpaaSOther
import Derived.Test.YtombpfpfeebnpaaSRun
import Derived.Test.YtombpfpfeebnpaaGSmall
namespace Go.Proofs.Ytombpfpfeebnpaa
open Go.RowKit
set_option linter.unusedVariables false
set_option linter.unusedSimpArgs false

/-- all weights k times greater -/
def tims (k : Int) (l : List Ar) : List Ar := l.map (fun a => (a.1, a.2.1, a.2.2 * k))
theorem tims_len (k : Int) (l : List Ar) : (tims k l).length = l.length := List.length_map _
theorem tims_more {k : Int} {l : List Ar} {i : Nat} {a : Ar} (h : l[i]? = some a) : tims k (l.take (i + 1)) = tims k (l.take i) ++ [(a.1, a.2.1, a.2.2 * k)] := by
  unfold tims
  rw [List.take_add_one, h, Option.toList_some, List.map_append]; rfl
theorem goes_tims {k : Int} {l : List Ar} : (∀ u t x, goesF l u t x → goesF (tims k l) u t (x * k)) ∧ (∀ u t x, goesF (tims k l) u t x → ∃ x0, goesF l u t x0 ∧ x = x0 * k) := by
  unfold goesF tims
  refine ⟨fun u t x h => List.mem_map.2 ⟨(u, t, x), h, rfl⟩, fun u t x h => ?_⟩
  obtain ⟨⟨u', t', x'⟩, h1, h2⟩ := List.mem_map.1 h
  simp only [Prod.mk.injEq] at h2
  obtain ⟨rfl, rfl, rfl⟩ := h2
  exact ⟨x', h1, rfl⟩
/-- a distance is not far where weights are small -/
theorem dist_small {n : Nat} {E : Goes} {s u d m : Int} (hE : Fair n E) (hm : ∀ u t y, E u t y → y ≤ m) (hm0 : 0 ≤ m) (h : IsD n E s u d) (h1 : d < INF) : d ≤ n * m := by
  obtain ⟨D, hD⟩ := all_dists hE s
  have hu := (h.walk h1).nonneg hE
  obtain ⟨u', rfl⟩ : ∃ u' : Nat, u = u' := ⟨u.toNat, by omega⟩
  have he := h.uniq (hD u')
  subst he
  exact dist_bound hE hm hm0 hD n u' (by omega) (nearer_le D n _) h1
theorem mask40 (x : Int) : 0 ≤ bits BinOp.and IntKind.i64 x 1099511627775 ∧ bits BinOp.and IntKind.i64 x 1099511627775 ≤ 1099511627775 := by
  have h : (BitVec.ofInt 64 x &&& BitVec.ofInt 64 1099511627775).toNat ≤ 1099511627775 := by
    rw [BitVec.toNat_and]
    exact Nat.le_trans Nat.and_le_right (by decide)
  have e : bits BinOp.and IntKind.i64 x 1099511627775 = IntKind.i64.wrap ((BitVec.ofInt 64 x &&& BitVec.ofInt 64 1099511627775).toNat : Int) := rfl
  rw [e, IntKind.wrap_i64]
  omega
theorem nine_of (a : Int) : ∃ r : Nat, r < 9 ∧ (IntKind.u64.wrap a).tmod 9 = (r : Int) := by
  have h0 : 0 ≤ IntKind.u64.wrap a := by rw [IntKind.wrap_u64]; omega
  rw [Int.tmod_eq_emod_of_nonneg h0]
  exact ⟨((IntKind.u64.wrap a) % 9).toNat, by omega, by omega⟩
end Go.Proofs.Ytombpfpfeebnpaa
