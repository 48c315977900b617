/- Spoil: whoever kept the bytes tells it. -/
import Derived.Test.YthikiahhochjmaaGreatDoorPack7
namespace Go.Proofs.YthikiahhochjmaaGreatDoor
open Go.RowKit Go.Maps
set_option linter.unusedVariables false
set_option linter.unusedSimpArgs false

theorem setRow (w : World) (g j : Nat) (u : Value) : Turn (fun k => k = g) w (w.setCell ⟨g, j, none⟩ u) := (Turn.refl (fun k => k = g) w).setCell (p := ⟨g, j, none⟩) (.inl rfl) _

set_option maxHeartbeats 400000 in
theorem spoil_some (b off n c : Nat) (w : World) (hc : ∃ cur T, w.heap[b]? = some (.cells cur T (0, 0)) ∧ ∀ j, j < n → ∃ z, cur[off + j]? = some (.int .u8 z)) (hn : n ≤ maxLen) :
    Calls Tryz.prog 33 #[.slice (some ⟨b, off, none⟩) n c] w fun e w' => (∃ v, e = .returned v) ∧ Turn (fun j => j = b) w w' := by
  unfold maxLen at hn
  go_enter Tryz.func33, Tryz.ntmps33
  go_wp2_with fail
  go_loopw [2] (fun i wr => ∃ k : Nat, k ≤ n ∧ i = .int .i64 (k : Int) ∧ Hid (∃ cur T, wr.heap[b]? = some (.cells cur T (0, 0)) ∧ ∀ j, j < n → ∃ z, cur[off + j]? = some (.int .u8 z)) ∧ Hid (Turn (fun j => j = b) w wr)) (fun i _ => n - (intOf i).toNat)
  case atStart => exact ⟨0, Nat.zero_le _, rfl, hide hc, hide (Turn.refl _ _)⟩
  case round =>
    obtain ⟨k, hk, rfl, hcur, hturn⟩ := hrel
    by_cases hlt : k < n
    · obtain ⟨cur, T, hg, hz⟩ := unhide hcur
      obtain ⟨z, hzk⟩ := hz k hlt
      have hcell : wr.cell? ⟨b, off + k, none⟩ = some (.int .u8 z) := (cell_obj hg _).trans hzk
      have hfr := frozen_obj hg (off + k)
      have hnext : Hid (∃ cur T, (wr.setCell ⟨b, off + k, none⟩ (.int .u8 (bits .xor .u8 z 85))).heap[b]? = some (.cells cur T (0, 0)) ∧ ∀ j, j < n → ∃ z, cur[off + j]? = some (.int .u8 z)) := by
        refine hide ⟨_, T, heap_setCell_obj hg _, fun j hj => ?_⟩
        by_cases e : j = k
        · subst e
          have hlt2 := (Array.getElem?_eq_some_iff.1 hzk).1
          exact ⟨bits .xor .u8 z 85, by simp [hlt2]⟩
        · obtain ⟨y, hy⟩ := hz j hj
          refine ⟨y, ?_⟩
          rw [Array.getElem?_setIfInBounds_ne (by omega)]; exact hy
      have hturn2 : Hid (Turn (fun j => j = b) w (wr.setCell ⟨b, off + k, none⟩ (.int .u8 (bits .xor .u8 z 85)))) := hide ((unhide hturn).then (setRow wr b (off + k) _))
      clear hg hz hcur hturn hzk
      go_wp2
      exact ⟨⟨k + 1, by omega, by go_num, hnext, hturn2⟩, by simp [intOf]; omega⟩
    · go_wp2
      go_end0
      exact ⟨⟨_, rfl⟩, unhide hturn⟩
set_option maxHeartbeats 400000 in
theorem spoil_none (a : Option Addr) (c : Nat) (w : World) :
    Calls Tryz.prog 33 #[.slice a 0 c] w fun e w' => (∃ v, e = .returned v) ∧ w' = w := by
  go_enter Tryz.func33, Tryz.ntmps33
  go_wp2_with fail
  refine wp_loop_rounds 1 ?_; rw [rounds_succ]
  go_wp2
  go_end0
  exact ⟨⟨_, rfl⟩, rfl⟩
theorem spoil_any (P : Nat → Prop) (v : Value) (zs : List Int) (w : World) (hr : Row .u8 (fun b => P b ∧ Free w b) w v zs) :
    Calls Tryz.prog 33 #[v] w fun e w' => (∃ v, e = .returned v) ∧ Turn P w w' := by
  rcases hr with ⟨a, c, rfl, _, _, rfl⟩ | ⟨b, off, c, rfl, h1, h2, ⟨hB, cur, T, hg⟩, h4⟩
  · exact (spoil_none a c w).mono fun e w' ⟨he, hw⟩ => ⟨he, by rw [hw]; exact Turn.refl _ _⟩
  · refine (spoil_some b off zs.length c w ⟨cur, T, hg, fun j hj => ⟨zs.getD j 0, ?_⟩⟩ (by omega)).mono fun e w' ⟨he, hw⟩ => ⟨he, hw.mono (fun j h => by subst h; exact hB)⟩
    rw [← cell_obj hg]; exact h4 j hj
theorem free_of_sl {w : World} {e : TypeId} {v : Value} {k : IntKind} {ys : List Int} (h : OwnSl w e 1 v ys.length (ys.map (Value.int k))) : Row k (fun b => v.ownBlock = some b ∧ Free w b) w v ys := by
  rcases row_of_sl h with h' | ⟨b, off, c, hv, h1, h2, h3, h4⟩
  · exact .inl h'
  · obtain ⟨cur, hc⟩ := h.lt b h3
    exact .inr ⟨b, off, c, hv, h1, h2, ⟨h3, cur, e, hc⟩, h4⟩
theorem spoil_sl (v : Value) (zs : List Int) (w : World) (h : OwnSl w 5 1 v zs.length (zs.map (Value.int .u8))) :
    Calls Tryz.prog 33 #[v] w fun e w' => (∃ v, e = .returned v) ∧ Turn (fun j => v.ownBlock = some j) w w' := by
  refine spoil_any _ v zs w ?_
  rcases row_of_sl h with ⟨a, c, rfl, h1, h2, rfl⟩ | ⟨b, off, c, rfl, h1, h2, h3, h4⟩
  · exact .inl ⟨a, c, rfl, h1, h2, rfl⟩
  · obtain ⟨cur, hc⟩ := h.lt b h3
    exact .inr ⟨b, off, c, rfl, h1, h2, ⟨h3, cur, _, hc⟩, h4⟩
end Go.Proofs.YthikiahhochjmaaGreatDoor
