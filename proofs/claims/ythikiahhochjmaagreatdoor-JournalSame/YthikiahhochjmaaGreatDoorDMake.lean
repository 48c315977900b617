/- create: a new file in a disk's map. -/
import Derived.Test.YthikiahhochjmaaGreatDoorDCut
import Derived.Test.YthikiahhochjmaaGreatDoorBAfter
namespace Go.Proofs.YthikiahhochjmaaGreatDoor
open Go.RowKit Go.Maps
set_option linter.unusedVariables false

set_option maxHeartbeats 400000 in
theorem sclone_walk (s : ByteArray) (w : World) (hs : s.size ≤ 281474976710656) : Calls Tryz.prog 64 #[.string s] w fun e w' => e = .returned (.string s) ∧ Turn (fun _ => False) w w' := by
  go_enter Tryz.func64, Tryz.ntmps64
  go_wp2_with (go_at_call 80; refine (Tryz.stringslite_Clone s _ hs).mono ?_; rintro e w' ⟨rfl, hb⟩)
  go_ret
  exact ⟨rfl, Turn.of_below hb⟩

set_option maxRecDepth 100000 in
theorem eq_nilmap (w : World) (a : Option Nat) : (binOp .eql 64 (.map a) (.map none)).run Tryz.prog w = .ok (.bool a.isNone) w := by cases a <;> rfl

set_option maxRecDepth 100000 in
set_option maxHeartbeats 2000000 in
theorem create_some (w : World) (B b : Nat) (E : List Ent) (S S' : Dk) (e : Ent) (p : Option Addr) (n c : Nat) (s : ByteArray) (hs : s.size ≤ 16) (m : DMem w B (some b) E S) (hn : e.n = s.data.toList) (hv : e.v = .slice p n c)
    (he : OwnSl w 5 1 e.v e.d.length (e.d.map (Value.int .u8))) (hap : ∀ x ∈ E, x.n ≠ e.n → apartR x e) (hfs : S' = { S with fs := putK Fl.n e.fl S.fs }) (hw : Well S') :
    Calls Tryz.prog 49 #[.pointer (some ⟨B, 0, none⟩), .string s, .agg #[.slice p n c, .int .i64 (e.s : Int)]] w fun x w' => x = .returned (.tuple #[]) ∧ Turn (fun j => j = B ∨ j = b) w w' ∧ DMem w' B (some b) (putK Ent.n e E) S' := by
  have tA : Turn (fun _ => False) w (w.alloc (.cells #[.slice p n c, .int .i64 (e.s : Int)] 84)) := (Turn.refl _ w).alloc _
  have k0 : (w.alloc (.cells #[.slice p n c, .int .i64 (e.s : Int)] 84)).heap[w.heap.size]? = some (.cells #[.slice p n c, .int .i64 (e.s : Int)] 84 (0, 0)) := heap_alloc_new w _
  have mA := m.turn tA (fun _ _ => id)
  have heA := he.turn tA (fun _ _ => id)
  have hq := eq_nilmap
  go_enter Tryz.func49, Tryz.ntmps49
  have cB : (w.alloc (.cells #[.slice p n c, .int .i64 (e.s : Int)] 84)).cell? ⟨B, 1, none⟩ = some (.map (some b)) := cell_obj mA.obj 1
  go_wp2
  generalize w.alloc (.cells #[.slice p n c, .int .i64 (e.s : Int)] 84) = W at *
  generalize hgg : w.heap.size = g at *
  clear hgg
  have c0 : W.cell? ⟨g, 0, none⟩ = some (.slice p n c) := cell_obj k0 0
  have c1 : W.cell? ⟨g, 1, none⟩ = some (.int .i64 (e.s : Int)) := cell_obj k0 1
  have tD : Turn (fun _ => False) W W.drew := (Turn.refl _ _).drew
  have hcl := sclone_walk s W.drew (by omega)
  have hup : ∀ (w5 : World), Turn (fun _ => False) W.drew w5 → ∃ w6, (Instr.mapUpdate 64 (.map (some b)) (.string s) (.agg #[.slice p n c, .int .i64 (e.s : Int)])).run Tryz.prog w5 = .ok () w6 ∧ Turn (fun j => j = b) w5 w6 ∧ DMem w6 B (some b) (putK Ent.n e E) S' := by
    intro w5 h3
    have m5 := mA.turn (tD.then h3) (fun _ _ => id)
    have := m5.updateAt e (s := s) (by unfold maxLen; omega) hn m5.ofMap (heA.turn (tD.then h3) (fun _ _ => id)) hap hfs hw
    rw [hv] at this
    exact this
  clear heA he hap hfs hw mA m k0
  go_region_with (go_at_call 64; refine hcl.mono ?_; rintro x w5 ⟨rfl, h53⟩; have cB5 := (tD.then h53).cell cB id; have c05 := (tD.then h53).cell c0 id; have c15 := (tD.then h53).cell c1 id; obtain ⟨w6, hu, t6, m6⟩ := hup w5 h53)
  all_goals
    go_wp2
    go_end0
    exact ⟨rfl, ((tA.then (tD.then h53)).mono (fun _ h => h.elim)).then (t6.mono (fun j hj => .inr hj)), m6⟩

set_option maxRecDepth 100000 in
set_option maxHeartbeats 2000000 in
theorem create_none (w : World) (B : Nat) (E : List Ent) (S S' : Dk) (e : Ent) (p : Option Addr) (n c : Nat) (s : ByteArray) (hs : s.size ≤ 16) (m : DMem w B none E S) (hn : e.n = s.data.toList) (hv : e.v = .slice p n c)
    (he : OwnSl w 5 1 e.v e.d.length (e.d.map (Value.int .u8))) (hfs : S' = { S with fs := putK Fl.n e.fl S.fs }) (hw : Well S') :
    Calls Tryz.prog 49 #[.pointer (some ⟨B, 0, none⟩), .string s, .agg #[.slice p n c, .int .i64 (e.s : Int)]] w fun x w' => x = .returned (.tuple #[]) ∧ Turn (fun j => j = B) w w' ∧ ∃ b, w.heap.size ≤ b ∧ DMem w' B (some b) (putK Ent.n e E) S' := by
  have hmm := @run_makeMap Tryz.prog
  have hE : E = [] := by
    rcases m.map with ⟨_, h1⟩ | ⟨b, h1, _⟩
    · exact h1
    · cases h1
  have hBl := m.lt B (.inl rfl)
  have hsz0 : (w.setCell ⟨B, 1, none⟩ (.map (some (w.heap.size + 1)))).heap.size = w.heap.size := by simp [World.setCell]
  have t0 : Turn (fun j => j = B) w (w.setCell ⟨B, 1, none⟩ (.map (some (w.heap.size + 1)))) := (Turn.refl (fun j => j = B) _).setCell (p := ⟨B, 1, none⟩) (.inl rfl) _
  have hB0 := heap_setCell_obj (j := 1) m.obj (.map (some (w.heap.size + 1)))
  have t1 : Turn (fun _ => False) (w.setCell ⟨B, 1, none⟩ (.map (some (w.heap.size + 1)))) (((w.setCell ⟨B, 1, none⟩ (.map (some (w.heap.size + 1)))).alloc (.cells #[.slice p n c, .int .i64 (e.s : Int)] 84)).alloc (.map #[] 0)) := ((Turn.refl _ _).alloc _).alloc _
  have tW := t0.trans t1 (fun _ h => h.elim)
  have kW : (((w.setCell ⟨B, 1, none⟩ (.map (some (w.heap.size + 1)))).alloc (.cells #[.slice p n c, .int .i64 (e.s : Int)] 84)).alloc (.map #[] 0)).heap[w.heap.size]? = some (.cells #[.slice p n c, .int .i64 (e.s : Int)] 84 (0, 0)) := by
    have h1 := heap_alloc_new (w.setCell ⟨B, 1, none⟩ (.map (some (w.heap.size + 1)))) (.cells #[.slice p n c, .int .i64 (e.s : Int)] 84)
    rw [hsz0] at h1
    exact Turn.same (F := fun _ => False) ((Turn.refl _ _).alloc (.map #[] 0)) h1 id
  have oW := World.ownsMap_made ((w.setCell ⟨B, 1, none⟩ (.map (some (w.heap.size + 1)))).alloc (.cells #[.slice p n c, .int .i64 (e.s : Int)] 84)) Tryz.prog 9 rawR
  rw [show ((w.setCell ⟨B, 1, none⟩ (.map (some (w.heap.size + 1)))).alloc (.cells #[.slice p n c, .int .i64 (e.s : Int)] 84)).heap.size = w.heap.size + 1 by simp [hsz0]] at oW
  subst hE
  have mA : DMem (((w.setCell ⟨B, 1, none⟩ (.map (some (w.heap.size + 1)))).alloc (.cells #[.slice p n c, .int .i64 (e.s : Int)] 84)).alloc (.map #[] 0)) B (some (w.heap.size + 1)) [] S :=
    ⟨t1.same hB0 id, .inr ⟨_, rfl, oW⟩, by simp, List.Pairwise.nil, m.fs, m.well⟩
  have heA := he.turn tW (he.neObj m.obj (by decide))
  have c1 : w.cell? ⟨B, 1, none⟩ = some (.map none) := cell_obj m.obj 1
  have f1 : w.frozen? ⟨B, 1, none⟩ = false := frozen_obj m.obj 1
  have Hb : Hid (w.heap.size ≤ w.heap.size + 1) := hide (by omega)
  have hq := eq_nilmap
  clear t0 t1 hB0 oW hsz0 he m
  go_enter Tryz.func49, Tryz.ntmps49
  go_wp2
  generalize ((w.setCell ⟨B, 1, none⟩ (.map (some (w.heap.size + 1)))).alloc (.cells #[.slice p n c, .int .i64 (e.s : Int)] 84)).alloc (.map #[] 0) = W at *
  generalize hbb : w.heap.size + 1 = b at *
  generalize hgg : w.heap.size = g at *
  have Hgg := hide hgg
  clear hgg hbb c1 f1
  have cB : W.cell? ⟨B, 1, none⟩ = some (.map (some b)) := cell_obj mA.obj 1
  have c0 : W.cell? ⟨g, 0, none⟩ = some (.slice p n c) := cell_obj kW 0
  have c1 : W.cell? ⟨g, 1, none⟩ = some (.int .i64 (e.s : Int)) := cell_obj kW 1
  have tD : Turn (fun _ => False) W W.drew := (Turn.refl _ _).drew
  have hcl := sclone_walk s W.drew (by omega)
  have hup : ∀ (w5 : World), Turn (fun _ => False) W.drew w5 → ∃ w6, (Instr.mapUpdate 64 (.map (some b)) (.string s) (.agg #[.slice p n c, .int .i64 (e.s : Int)])).run Tryz.prog w5 = .ok () w6 ∧ Turn (fun j => j = b) w5 w6 ∧ DMem w6 B (some b) (putK Ent.n e []) S' := by
    intro w5 h3
    have m5 := mA.turn (tD.then h3) (fun _ _ => id)
    have := m5.updateAt e (s := s) (by unfold maxLen; omega) hn m5.ofMap (heA.turn (tD.then h3) (fun _ _ => id)) (by simp) hfs hw
    rw [hv] at this
    exact this
  clear heA hfs hw mA kW
  go_region_with (go_at_call 64; refine hcl.mono ?_; rintro x w5 ⟨rfl, h53⟩; have cB5 := (tD.then h53).cell cB id; have c05 := (tD.then h53).cell c0 id; have c15 := (tD.then h53).cell c1 id; obtain ⟨w6, hu, t6, m6⟩ := hup w5 h53)
  all_goals
    go_wp2
    go_end0
    have h1 := unhide Hb
    rw [← unhide Hgg] at h1
    exact ⟨rfl, (tW.trans (tD.then h53) (fun _ h => h.elim)).trans t6 (fun j hj => .inr (by subst hj; exact h1)), b, h1, m6⟩

end Go.Proofs.YthikiahhochjmaaGreatDoor
