/- What the listed variables give: the cell of strconv's ErrSyntax. -/
import Derived.Test.YthikiahhochjmaaGreatDoorRows
import Derived.LaidLaws
import Derived.ProofKit
namespace Go.Proofs.YthikiahhochjmaaGreatDoor
open Go.ChangeShapes Go.WideShapes Go.RowKit
set_option linter.unusedVariables false

theorem syntax_at : Tryz.prog.globalNamed "strconv.ErrSyntax" = some 1 := by kernel_rfl
theorem syntax_type : (Tryz.prog.globals[1]?).map (·.type) = some 125 := by kernel_rfl
theorem laid_all (W : World) (h : laidMetH Tryz.prog Rows.journalBadRow.laid W) : laidMet Tryz.prog Rows.journalBadRow.laid W := h
theorem syntax_cell {W : World} (h : laidMetH Tryz.prog Rows.journalBadRow.laid W) : ∃ ev, W.cell? ⟨1, 0, none⟩ = some ev ∧ (ev = .nilIface ∨ ∃ te pe, ev = .iface te pe) := by
  obtain ⟨ps, hl, _, _⟩ := laid_all W h
  obtain ⟨_, _, _, _, _, _, _, _, _, _, hl, _⟩ := hl
  obtain ⟨_, _, _, _, _, _, _, _, _, _, hl, _⟩ := hl
  obtain ⟨_, _, _, _, _, _, _, _, _, _, hl, _⟩ := hl
  obtain ⟨_, _, _, _, _, _, _, _, _, _, hl, _⟩ := hl
  obtain ⟨g, t, cs, fu, p, q, hg, ht, hv, hd, _, _⟩ := hl
  obtain rfl := Option.some.inj (syntax_at.symm.trans hg)
  obtain rfl := Option.some.inj (syntax_type.symm.trans ht)
  obtain ⟨f1, u, v, hcs, _⟩ := iface_of_trod Tryz.underlying125 hd
  have hc := World.var?_cell syntax_at hv 0
  have : cs[0]? = some (.iface u v) := by rw [← Array.getElem?_toList, hcs]; rfl
  rw [this] at hc
  exact ⟨_, by simpa using hc, .inr ⟨u, v, rfl⟩⟩
end Go.Proofs.YthikiahhochjmaaGreatDoor
