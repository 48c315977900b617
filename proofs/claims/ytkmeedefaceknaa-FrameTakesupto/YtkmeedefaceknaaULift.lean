/- From a reading of a slice of integers, of a bulk, to what the walks ask of it. -/
import Derived.Test.YtkmeedefaceknaaCLift
import Derived.JoinedCond
namespace Go.Proofs.Ytkmeedefaceknaa
open Go.ChangeShapes Go.WideShapes Go.ChangeAt Go.RowKit
set_option linter.unusedVariables false

/-- integers one by one: as many as they are -/
theorem bulk_ints {H : Type} (k : IntKind) (zs : List Int) : Rows.uptoBulkAll (zs.map fun z => DataW.lit (H := H) (.int k z)) = zs.length := by
  induction zs with
  | nil => rfl
  | cons z r ih => rw [List.map_cons, List.length_cons, Rows.uptoBulkAll, ih]; simp only [Rows.uptoBulk]; omega

/-- a slice of integers that came in: its numbers, each of which fits its kind; they are no more than its bulk -/
theorem open_row_upto {H : Type} {enc : TypeId × Value → H} {W : World} {t e : TypeId} {k : IntKind} {a : Option Addr} {len cap : Nat} {d : DataW H} {p : List MemPlace}
    (ht : Try.prog.underlying t = some (.slice e)) (he : Try.prog.underlying e = some (.int k)) (hc : Try.prog.cellsOf e = 1)
    (h : DataW.Trod enc Try.prog W 0 (fun _ => true) true t (.slice a len cap) d p) :
    ∃ zs : List Int, Row k any W (.slice a len cap) zs ∧ (∀ n ∈ zs, (Lit.int k n).wf = true) ∧ zs.length ≤ Rows.uptoBulk d := by
  obtain ⟨fuel, hf⟩ := h
  rcases open_ints ht he hc hf with ⟨hcs, hx⟩ | ⟨x, l, c, zs, hcs, _, hl, hm, hz, hx, hcell, hwz⟩
  · simp [Value.cells] at hcs
    obtain ⟨rfl, rfl, rfl⟩ := hcs
    exact ⟨[], .inl ⟨_, _, rfl, fun _ => rfl, Nat.zero_le _, rfl⟩, by simp, Nat.zero_le _⟩
  · simp [Value.cells] at hcs
    obtain ⟨rfl, rfl, rfl⟩ := hcs
    simp only [Prod.mk.injEq] at hx
    obtain ⟨rfl, rfl⟩ := hx
    have hz' : zs.length = cap := by simpa using hz
    have hlen : (zs.take len).length = len := by rw [List.length_take]; omega
    refine ⟨zs.take len, ?_, fun n hn => hwz n (List.mem_of_mem_take hn), ?_⟩
    · by_cases h0 : len = 0
      · subst h0
        exact .inl ⟨_, _, rfl, (fun h => by cases h), hm, by simp⟩
      · obtain ⟨b, off, spot⟩ := x
        have hspot : spot = none := by simpa [Addr.add] using World.cell?_spot (hcell 0 (by omega))
        subst hspot
        refine .inr ⟨b, off, cap, by rw [hlen], by omega, hm, trivial, fun i hi => ?_⟩
        rw [hlen] at hi
        have := hcell i (by omega)
        rw [show (zs.take len).getD i 0 = zs.getD i 0 by simp [hi]]
        by_cases h0i : i = 0
        · subst h0i; simpa [Addr.add] using this
        · simpa [Addr.add, h0i] using this
    · simp only [Rows.uptoBulk]
      have h1 := bulk_ints (H := H) k (zs.take len)
      rw [hlen] at h1 ⊢
      simp only [lits] at *
      omega
end Go.Proofs.Ytkmeedefaceknaa
