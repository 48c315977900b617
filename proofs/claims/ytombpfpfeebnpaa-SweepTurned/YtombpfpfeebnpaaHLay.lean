/- Heap: place, lay, firstBelow. -/
import Derived.Test.YtombpfpfeebnpaaHMem
namespace Go.Proofs.Ytombpfpfeebnpaa
open Go.RowKit Go.Maps
set_option linter.unusedVariables false
set_option linter.unusedSimpArgs false

set_option maxHeartbeats 1000000 in
theorem lay_walk (w : World) (B : Nat) (tv pv : Value) (T : List It) (P : List Int) (h : HMem w B tv pv T P) (k : Nat) (x : It) (hk : k < T.length) (hk2 : k < 4194304) (hx : x.1 < P.length) (hp : P.length ≤ 4194304) :
    Calls Try.prog 71 #[.pointer (some ⟨B, 0, none⟩), .int .i64 (k : Int), itV x] w fun e w' => e = .returned (.tuple #[]) ∧ HMem w' B tv pv (T.set k x) (P.set x.1 ((k : Int) + 1)) ∧ Turn (HFoot B tv pv) w w' := by
  obtain ⟨g, off, cap, rfl⟩ := h.tform (by omega)
  obtain ⟨gp, offp, capp, rfl⟩ := h.pform (by omega)
  obtain ⟨a, r⟩ := x
  simp only at hx ⊢
  unfold itV
  simp only
  have TW := (Turn.refl (HFoot B (.slice (some ⟨g, off, none⟩) T.length cap) (.slice (some ⟨gp, offp, none⟩) P.length capp)) w).alloc (.cells #[.int .i64 (a : Int), .int .i64 r] 71)
  have hB0 := h.lt B (.inl rfl)
  have k0 : (w.alloc (.cells #[.int .i64 (a : Int), .int .i64 r] 71)).heap[w.heap.size]? = some (.cells #[.int .i64 (a : Int), .int .i64 r] 71 (0, 0)) := heap_alloc_new w _
  have hM := h.quiet ((Turn.refl (fun _ => False) w).alloc (.cells #[.int .i64 (a : Int), .int .i64 r] 71))
  have hlt := h.lt
  go_enter Try.func71, Try.ntmps71
  go_wp2
  generalize w.alloc (.cells #[.int .i64 (a : Int), .int .i64 r] 71) = W at *
  generalize hb : w.heap.size = b at *
  have gb : g ≠ b := by have := hlt g (.inr (.inl rfl)); omega
  have gpb : gp ≠ b := by have := hlt gp (.inr (.inr rfl)); omega
  have gB : g ≠ B := hM.t.neObj hM.obj (by decide) g rfl
  have gpB : gp ≠ B := hM.p.neObj hM.obj (by decide) gp rfl
  have ggp : g ≠ gp := by
    rintro rfl
    obtain ⟨c1, e1⟩ := hM.t.lt g rfl
    obtain ⟨c2, e2⟩ := hM.p.lt g rfl
    rw [e1] at e2; simp at e2
  have f0 : W.cell? ⟨B, 0, none⟩ = some (.slice (some ⟨g, off, none⟩) T.length cap) := cell_obj hM.obj 0
  have f1 : W.cell? ⟨B, 1, none⟩ = some (.slice (some ⟨gp, offp, none⟩) P.length capp) := cell_obj hM.obj 1
  have x0 : W.cell? ⟨b, 0, none⟩ = some (.int .i64 (a : Int)) := cell_obj k0 0
  have x1 : W.cell? ⟨b, 1, none⟩ = some (.int .i64 r) := cell_obj k0 1
  obtain ⟨y, hy⟩ : ∃ y, T[k]? = some y := ⟨T[k], by simp [hk]⟩
  obtain ⟨t0, t1⟩ := hM.tcell hy
  obtain ⟨cur, hg⟩ := hM.t.lt g rfl
  have z0 : W.frozen? ⟨g, off + k * 2, none⟩ = false := frozen_obj hg _
  have z1 : W.frozen? ⟨g, off + k * 2 + 1, none⟩ = false := frozen_obj hg _
  go_region
  have hT2 := (hM.t.set (k * 2) (by omega) (.int .i64 (a : Int))).1
  have hT3 := (hT2.set (k * 2 + 1) (by omega) (.int .i64 r)).1
  rw [← tCells_set T k (a, r) hk] at hT3
  have T3 : Turn (HFoot B (.slice (some ⟨g, off, none⟩) T.length cap) (.slice (some ⟨gp, offp, none⟩) P.length capp)) W ((W.setCell ⟨g, off + k * 2, none⟩ (.int .i64 (a : Int))).setCell ⟨g, off + k * 2 + 1, none⟩ (.int .i64 r)).drew := ((((Turn.refl _ W).setCell (p := ⟨g, off + k * 2, none⟩) (.inl (.inr (.inl rfl))) _).setCell (p := ⟨g, off + k * 2 + 1, none⟩) (.inl (.inr (.inl rfl))) _)).drew
  have T3' : Turn (fun j => j = g) W ((W.setCell ⟨g, off + k * 2, none⟩ (.int .i64 (a : Int))).setCell ⟨g, off + k * 2 + 1, none⟩ (.int .i64 r)).drew := ((((Turn.refl (fun j => j = g) W).setCell (p := ⟨g, off + k * 2, none⟩) (.inl rfl) _).setCell (p := ⟨g, off + k * 2 + 1, none⟩) (.inl rfl) _)).drew
  have hT4 : OwnSl ((W.setCell ⟨g, off + k * 2, none⟩ (.int .i64 (a : Int))).setCell ⟨g, off + k * 2 + 1, none⟩ (.int .i64 r)).drew 71 2 (.slice (some ⟨g, off, none⟩) T.length cap) T.length (tCells (T.set k (a, r))) := by
    rw [Nat.add_assoc]; exact hT3.kept (fun _ _ => rfl)
  have hP4 := hM.p.turn T3' (fun j hj e => by simp [Value.ownBlock] at hj; omega)
  have hB4 := T3'.same hM.obj (fun e => gB e.symm)
  have hb4 := T3'.same k0 (fun e => gb e.symm)
  have TW4 := TW.then T3
  clear t0 t1 z0 z1 x0 x1 f0 f1 hT2 hT3 T3 T3' hM TW k0 hg
  generalize ((W.setCell ⟨g, off + k * 2, none⟩ (.int .i64 (a : Int))).setCell ⟨g, off + k * 2 + 1, none⟩ (.int .i64 r)).drew = W4 at *
  have f1 : W4.cell? ⟨B, 1, none⟩ = some (.slice (some ⟨gp, offp, none⟩) P.length capp) := cell_obj hB4 1
  have x0 : W4.cell? ⟨b, 0, none⟩ = some (.int .i64 (a : Int)) := cell_obj hb4 0
  obtain ⟨p, hpa⟩ : ∃ p, P[a]? = some p := ⟨P[a], by simp [hx]⟩
  have q0 : W4.cell? ⟨gp, offp + a, none⟩ = some (.int .i32 p) := hP4.cells _ _ (by simp [pCells, hpa])
  obtain ⟨curp, hgp⟩ := hP4.lt gp rfl
  have z0 : W4.frozen? ⟨gp, offp + a, none⟩ = false := frozen_obj hgp _
  go_wp2_with fail
  go_region
  have hP5 := (hP4.set a (by omega) (.int .i32 ((k : Int) + 1))).1
  have T5' : Turn (fun j => j = gp) W4 (W4.setCell ⟨gp, offp + a, none⟩ (.int .i32 ((k : Int) + 1))).drew := ((Turn.refl (fun j => j = gp) W4).setCell (p := ⟨gp, offp + a, none⟩) (.inl rfl) _).drew
  have hB5 := T5'.same hB4 (fun e => gpB e.symm)
  have hT5 := hT4.turn T5' (fun j hj e => by simp [Value.ownBlock] at hj; omega)
  have TW5 := TW4.then (T5'.mono (fun j hj => (show HFoot B (.slice (some ⟨g, off, none⟩) T.length cap) (.slice (some ⟨gp, offp, none⟩) P.length capp) j from .inr (.inr (by rw [hj]; rfl)))))
  go_wp2
  go_end0
  refine ⟨rfl, ⟨hB5, by rw [List.length_set]; exact hT5, ?_⟩, TW5⟩
  rw [List.length_set, show pCells (P.set a ((k : Int) + 1)) = (pCells P).set a (.int .i32 ((k : Int) + 1)) by simp [pCells, List.map_set]]
  exact hP5.kept (fun _ _ => rfl)

set_option maxHeartbeats 400000 in
theorem place_walk (w : World) (B : Nat) (tv pv : Value) (T : List It) (P : List Int) (h : HMem w B tv pv T P) (hw : ∃ n, Well n T P) (id : Int) (hp : P.length ≤ 4194304) :
    Calls Try.prog 68 #[.pointer (some ⟨B, 0, none⟩), .int .i64 id] w fun e w' => w' = w ∧
      ((∃ (i k : Nat) (r : Int), id = i ∧ T[k]? = some (i, r) ∧ e = .returned (.tuple #[.int .i64 (k : Int), .bool true])) ∨
       ((∀ (i : Nat) (r : Int), id = i → (i, r) ∉ T) ∧ e = .returned (.tuple #[.int .i64 0, .bool false]))) := by
  obtain ⟨n, hw⟩ := hw
  by_cases h0 : 0 ≤ id ∧ id < P.length
  · obtain ⟨i, rfl⟩ : ∃ i : Nat, id = i := ⟨id.toNat, by omega⟩
    obtain ⟨gp, offp, capp, rfl⟩ := h.pform (by omega)
    have c1 : w.cell? ⟨B, 1, none⟩ = some (.slice (some ⟨gp, offp, none⟩) P.length capp) := cell_obj h.obj 1
    have hi : i < P.length := by omega
    obtain ⟨p, hpi⟩ : ∃ p, P[i]? = some p := ⟨P[i], by simp [hi]⟩
    have q0 := h.pcell hpi
    have hd : decide (0 ≤ (i : Int) ∧ (i : Int) < P.length) = true := decide_eq_true h0
    have hh := has_walk w B tv _ T P h (i : Int) hp
    rw [hd] at hh
    by_cases hz : p = 0
    · subst hz
      have Hn : Hid (∀ (j : Nat) (r : Int), (i : Int) = j → (j, r) ∉ T) := hide (by
        rintro j r e hm
        obtain rfl : i = j := by omega
        obtain ⟨k, hk⟩ := List.mem_iff_getElem?.1 hm
        have := hw.idx k _ hk
        simp only at this
        rw [hpi] at this; simp at this; omega)
      clear hw hpi h0 hd
      go_enter Try.func68, Try.ntmps68
      go_wp2_with (go_at_call 67; refine hh.mono ?_; rintro e w1 ⟨rfl, rfl⟩)
      go_ret2
      exact ⟨rfl, .inr ⟨unhide Hn, rfl⟩⟩
    · rcases hw.back i p hpi with e | ⟨k, r, hk⟩
      · exact absurd e hz
      have hpk := hw.idx k _ hk
      simp only at hpk
      rw [hpi] at hpk
      cases hpk
      have hkl := (List.getElem?_eq_some_iff.1 hk).1
      have hlen := hw.len
      rw [← hw.pl] at hlen
      have hz' : (((k : Int) + 1) == 0) = false := by rw [beq_eq_false_iff_ne]; omega
      clear hw hpi h0 hd hz
      go_enter Try.func68, Try.ntmps68
      go_wp2_with (go_at_call 67; refine hh.mono ?_; rintro e w1 ⟨rfl, rfl⟩)
      go_ret2
      exact ⟨rfl, .inl ⟨i, k, r, rfl, hk, by simp⟩⟩
  · have hd : decide (0 ≤ (id : Int) ∧ (id : Int) < P.length) = false := decide_eq_false h0
    have hh := has_walk w B tv pv T P h id hp
    rw [hd] at hh
    have Hn : Hid (∀ (j : Nat) (r : Int), id = j → (j, r) ∉ T) := hide (by
        rintro j r e hm
        obtain ⟨k, hk⟩ := List.mem_iff_getElem?.1 hm
        have h1 := hw.idx k _ hk
        have := (List.getElem?_eq_some_iff.1 h1).1
        simp only at this
        omega)
    clear hw h0 hd
    go_enter Try.func68, Try.ntmps68
    go_wp2_with (go_at_call 67; refine hh.mono ?_; rintro e w1 ⟨rfl, rfl⟩)
    go_ret2
    exact ⟨rfl, .inr ⟨unhide Hn, rfl⟩⟩
end Go.Proofs.Ytombpfpfeebnpaa
