/- From a reading of a slice of byte lists to what the walks ask of it. -/
import Derived.Test.YthikiahhochjmaaGreatDoorFArg
import Derived.Test.YthikiahhochjmaaGreatDoorBWf
import Derived.Test.YthikiahhochjmaaGreatDoorCLift
import Derived.Deep.Slices
namespace Go.Proofs.YthikiahhochjmaaGreatDoor
open Go.ChangeShapes Go.WideShapes Go.ChangeAt Go.RowKit
set_option linter.unusedVariables false

/-- a slice of bytes, from its cells -/
theorem open_bytes_at {H : Type} {enc : TypeId × Value → H} {W : World} {fuel : Nat} {cs : List Value} {x : DataW H × List MemPlace} (h : DataW.trod enc Tryz.prog W 0 (fun _ => true) true fuel 33 cs = some x) :
    ∃ v zs, cs = [v] ∧ Row .u8 any W v zs ∧ Bytes zs := by
  rcases open_ints Tryz.underlying33 Tryz.underlying5 (by kernel_rfl) h with ⟨hcs, hx⟩ | ⟨y, l, c, zs, hcs, _, hl, hm, hz, hx, hcell, hwz⟩
  · exact ⟨_, [], hcs, .inl ⟨_, _, rfl, fun _ => rfl, Nat.zero_le _, rfl⟩, fun x hx => by cases hx⟩
  · have hz' : zs.length = c := by simpa using hz
    have hlen : (zs.take l).length = l := by rw [List.length_take]; omega
    refine ⟨_, zs.take l, hcs, ?_, bytes_wf (fun n hn => hwz n (List.mem_of_mem_take hn))⟩
    by_cases h0 : l = 0
    · subst h0
      exact .inl ⟨_, _, rfl, (fun h => by cases h), hm, by simp⟩
    · obtain ⟨b, off, spot⟩ := y
      have hspot : spot = none := by simpa [Addr.add] using World.cell?_spot (hcell 0 (by omega))
      subst hspot
      refine .inr ⟨b, off, c, by rw [hlen], by omega, hm, trivial, fun i hi => ?_⟩
      rw [hlen] at hi
      have := hcell i (by omega)
      rw [show (zs.take l).getD i 0 = zs.getD i 0 by simp [hi]]
      by_cases h0i : i = 0
      · subst h0i; simpa [Addr.add] using this
      · simpa [Addr.add, h0i] using this

/-- a slice of byte lists that came in -/
theorem open_bargs {H : Type} {enc : TypeId × Value → H} {W : World} {v : Value} {d : DataW H} {p : List MemPlace} (h : DataW.Trod enc Tryz.prog W 0 (fun _ => true) true 29 v d p) (hv : ∃ a l c, v = .slice a l c) : ∃ zss, BArgs W v zss := by
  obtain ⟨a, l, c, rfl⟩ := hv
  obtain ⟨fuel, hf⟩ := h
  have ce : Tryz.prog.cellsOf 33 = 1 := by kernel_rfl
  have none_case : ∀ (a : Option Addr) (c : Nat), BArgs W (.slice a 0 c) [] := fun a c => ⟨Nat.zero_le _, ⟨a, c, rfl⟩, fun i hi => by simp at hi, fun z hz => by cases hz⟩
  rcases Deep.open_slice Tryz.underlying29 hf with ⟨h0, _⟩ | ⟨a', len, cap, m, n, D, Pl, h0, _, hl, hm, hmm, hxx, hx⟩
  · simp [Value.cells] at h0
    obtain ⟨rfl, rfl, rfl⟩ := h0
    exact ⟨[], none_case _ _⟩
  · simp [Value.cells] at h0
    obtain ⟨rfl, rfl, rfl⟩ := h0
    have hlm : l ≤ m := by rw [hmm]; simpa using hl
    by_cases h0 : l = 0
    · subst h0
      exact ⟨[], none_case _ _⟩
    have each0 : ∀ i, i < l → ∃ q : Value × List Int, W.cell? (a'.add i) = some q.1 ∧ Row .u8 any W q.1 q.2 ∧ Bytes q.2 := by
      intro i hi
      obtain ⟨cs', h1, h2⟩ := hx i (by omega)
      rw [ce] at h1
      obtain ⟨u, zs, rfl, hr, hb⟩ := open_bytes_at h2
      obtain ⟨_, _, hc⟩ := World.cells?_some h1
      have q0 := hc 0 (by omega)
      rw [Deep.add_add] at q0
      exact ⟨(u, zs), by simpa using q0, hr, hb⟩
    obtain ⟨b, off, spot⟩ := a'
    have hspot : spot = none := by
      obtain ⟨q, h1, _⟩ := each0 0 (by omega)
      simpa [Addr.add] using World.cell?_spot h1
    subst hspot
    obtain ⟨q, hq⟩ := Deep.choose_lt each0
    have hlr : ((List.range l).map fun i => (q i).2).length = l := by simp
    refine ⟨(List.range l).map fun i => (q i).2, ⟨by rw [hlr]; omega, ⟨_, _, by rw [hlr]⟩, fun i hi => ?_, fun z hz => ?_⟩⟩
    · rw [hlr] at hi
      obtain ⟨g1, g2, _⟩ := hq i hi
      rw [Addr.add_lit] at g1
      refine ⟨b, off, c, (q i).1, by rw [hlr], g1, ?_⟩
      have e : (((List.range l).map fun i => (q i).2)).getD i [] = (q i).2 := by simp [hi]
      rw [e]; exact g2
    · obtain ⟨i, hi, rfl⟩ := List.mem_map.1 hz
      exact (hq i (List.mem_range.1 hi)).2.2
end Go.Proofs.YthikiahhochjmaaGreatDoor
