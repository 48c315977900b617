/- A network's bytes: appendNums, Encode. -/
import Derived.Test.YtombpfpfeebnpaaGRise
namespace Go.Proofs.Ytombpfpfeebnpaa
open Go.RowKit Go.Maps
set_option linter.unusedVariables false
set_option linter.unusedSimpArgs false
set_option maxRecDepth 100000

/-- a slice of bytes that owns its row -/
def OB (w : World) (v : Value) (zs : List Int) : Prop := OwnSl w 5 1 v zs.length (zs.map (Value.int .u8))
theorem OB.turn {F : Nat → Prop} {w w' : World} {v : Value} {l : List Int} (h : OB w v l) (ht : Turn F w w') (hn : ∀ k, v.ownBlock = some k → ¬ F k) : OB w' v l := OwnSl.turn h ht hn
theorem OB.lt {w : World} {v : Value} {l : List Int} (h : OB w v l) : ∀ k, v.ownBlock = some k → k < w.heap.size := by
  intro k hk
  obtain ⟨cur, hc⟩ := OwnSl.lt h k hk
  exact (Array.getElem?_eq_some_iff.1 hc).1
theorem OB.row {w : World} {v : Value} {l : List Int} (h : OB w v l) : Row .u8 (fun b => v.ownBlock = some b) w v l := row_of_sl h
theorem ob_none (w : World) : OB w (.slice none 0 0) [] := ⟨rfl, .inl ⟨rfl, rfl⟩⟩
def numsB (ns : List Int) : List Int := ns.flatMap (fun n => numB n.toNat)
theorem numsB_take {ns : List Int} {k : Nat} {x : Int} (h : ns[k]? = some x) : numsB (ns.take (k + 1)) = numsB (ns.take k) ++ numB x.toNat := by
  unfold numsB
  rw [List.take_add_one, h]
  simp
theorem numsB_len (ns : List Int) (h : ∀ n ∈ ns, 0 ≤ n ∧ n ≤ 9223372036854775807) : (numsB ns).length ≤ 10 * ns.length := by
  unfold numsB
  induction ns with
  | nil => simp
  | cons n r ih =>
    have h1 := numB_ten n.toNat (by have := h n (by simp); omega)
    have h2 := ih (fun x hx => h x (by simp [hx]))
    rw [List.flatMap_cons, List.length_append, List.length_cons]
    omega

end Go.Proofs.Ytombpfpfeebnpaa
