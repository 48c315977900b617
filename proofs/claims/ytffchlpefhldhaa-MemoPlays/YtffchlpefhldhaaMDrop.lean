/- Drop. -/
import Derived.Test.YtffchlpefhldhaaMDelW
import Derived.Deep.RegionWith
namespace Go.Proofs.Ytffchlpefhldhaa
open Go.RowKit Go.Maps
set_option linter.unusedVariables false

theorem ends_sum (node : Int) (e : Ent) : (if ends node 0 e then 1 else 0) + (if ends node 1 e then 1 else 0) = if keep node e then 0 else 1 := by
  obtain ⟨a, b, d⟩ := e
  by_cases h1 : a = node <;> by_cases h2 : b = node <;> simp [ends, keep, h1, h2] <;> omega
theorem drop_count (L : List Ent) (node : Int) : cnt L node 0 + cnt L node 1 = ((L.length : Nat) : Int) - ((dropL L node).length : Nat) := by
  induction L with
  | nil => rfl
  | cons e L ih =>
    have h := ends_sum node e
    unfold cnt dropL at *
    rw [List.countP_cons, List.countP_cons, List.filter_cons, List.length_cons]
    cases h0 : ends node 0 e <;> cases h1 : ends node 1 e <;> cases hk : keep node e <;> simp [h0, h1, hk] at h ⊢ <;> omega
theorem dropL_le (L : List Ent) (node : Int) : (dropL L node).length ≤ L.length := List.length_filter_le _ _
theorem dropL_all {L : List Ent} {node : Int} (h : (dropL L node).length = L.length) : dropL L node = L := by
  unfold dropL at *
  rw [List.filter_eq_self]
  exact List.length_filter_eq_length_iff.1 h
theorem Good.dropL {L : List Ent} (h : Good L) (node : Int) : Good (dropL L node) :=
  ⟨fun e he => h.1 e (List.mem_filter.1 he).1, h.2.sublist List.filter_sublist⟩

theorem look_cnt {w : World} {b n : Nat} {C : DataW Unit} {f : Int → Int → Int} (ho : w.ownsMap Try.prog 60 (plainElem Try.prog 3) b n C) (hf : Tells C f) {a s : Int} (wa : I32 a) (ws : I32 s) (m : Nat) :
    (Instr.lookup 55 (.map (some b)) (.agg #[.int .i32 a, .int .i32 s]) false).run Try.prog (w.drewN m) = .ok (.int .i64 (f a s)) (w.drewN m) := by
  obtain ⟨x0, l0, e0, _⟩ := World.ownsMap.lookup_int (w := w.drewN m) (((Turn.refl (fun _ => False) w).drewN m).map ho id) mLawA Try.underlying55 Try.underlying3 (mZero3 _) (keyOf_A wa ws)
  have : x0 = f a s := by have := hf.2 a s wa ws; rw [e0] at this; simpa using this
  rw [← this]; exact l0

set_option maxHeartbeats 4000000 in
theorem drop_walk (w : World) (B bd bc k most : Nat) (qv : Value) (L : List Ent) (node : Int) (wn : I32 node) (h : Mem w B bd bc qv k most L) (hr : k + 2 * L.length + 10 < 1000000000000) :
    Calls Try.prog 12 #[.pointer (some ⟨B, 0, none⟩), .int .i32 node] w fun e w' => e = .returned (.int .i64 (((L.length : Nat) : Int) - ((dropL L node).length : Nat))) ∧ Turn (Foot B bd bc qv) w w' ∧
      ∃ qv', Mem w' B bd bc qv' (k + 2 * L.length) most (dropL L node) ∧ ∀ j, qv'.ownBlock = some j → qv.ownBlock = some j := by
  have hlen := h.len
  have hm1 := h.m1
  have hm2 := h.m2
  have hcnt := drop_count L node
  have hle := dropL_le L node
  have b0 := cnt_bd L node 0
  have b1 := cnt_bd L node 1
  obtain ⟨⟨D, od, fd, hd⟩, ⟨C, oc, fc⟩⟩ := h.told
  obtain ⟨hBd, hBc⟩ := h.told.neB h.obj
  go_enter Try.func12, Try.ntmps12
  have tW : Turn (fun _ => False) w ((w.alloc (.cells #[.pointer (some ⟨B, 0, none⟩)] 23)).alloc (.cells #[.int .i32 node] 21)) := ((Turn.refl _ w).alloc _).alloc _
  have kb : ((w.alloc (.cells #[.pointer (some ⟨B, 0, none⟩)] 23)).alloc (.cells #[.int .i32 node] 21)).heap[w.heap.size]? = some (.cells #[.pointer (some ⟨B, 0, none⟩)] 23 (0, 0)) := (Below.heap_alloc _ _ _ (by simp)).trans (heap_alloc_new w _)
  have kn : ((w.alloc (.cells #[.pointer (some ⟨B, 0, none⟩)] 23)).alloc (.cells #[.int .i32 node] 21)).heap[w.heap.size + 1]? = some (.cells #[.int .i32 node] 21 (0, 0)) := by
    have := heap_alloc_new (w.alloc (.cells #[.pointer (some ⟨B, 0, none⟩)] 23)) (.cells #[.int .i32 node] 21)
    simpa using this
  have cm0 : ((w.alloc (.cells #[.pointer (some ⟨B, 0, none⟩)] 23)).alloc (.cells #[.int .i32 node] 21)).cell? ⟨w.heap.size, 0, none⟩ = some (.pointer (some ⟨B, 0, none⟩)) := cell_obj kb 0
  go_wp2_with fail
  generalize (w.alloc (.cells #[.pointer (some ⟨B, 0, none⟩)] 23)).alloc (.cells #[.int .i32 node] 21) = W at *
  have hW := h.turn tW (fun _ _ => id)
  have cn0 : W.cell? ⟨w.heap.size + 1, 0, none⟩ = some (.int .i32 node) := cell_obj kn 0
  have c3 : W.cell? ⟨B, 3, none⟩ = some (.map (some bc)) := cell_obj hW.obj 3
  have oc1 := tW.map oc id
  have l0 := look_cnt oc1 fc wn i32_0
  have l1 := look_cnt oc1 fc wn i32_1
  generalize cnt L node 0 = x0 at *
  generalize cnt L node 1 = x1 at *
  have Hcnt := hide hcnt
  clear hcnt
  by_cases hz : x0 + x1 = 0
  · have hzb : (x0 + x1 == 0) = true := by simp [hz]
    have Hz := hide hz
    clear hz
    go_quiet (fail)
    go_wp2_with fail
    go_ret
    have hall : (dropL L node).length = L.length := by have := unhide Hcnt; have := unhide Hz; omega
    refine ⟨ret_int (by have := unhide Hcnt; have := unhide Hz; omega), (tW.drewN _).mono (fun j hj => hj.elim), qv, ?_, fun j hj => hj⟩
    rw [dropL_all hall]
    have := hW.turn ((Turn.refl (fun _ => False) W).drewN nq) (fun _ _ => id)
    exact ⟨this.obj, this.ne, this.told.mono (by omega), this.q, this.good, hm1, hm2, hlen, by omega⟩
  · have hzb : (x0 + x1 == 0) = false := by simp [hz]
    obtain ⟨g, off, cap, rfl⟩ : ∃ g off cap, qv = .slice (some ⟨g, off, none⟩) L.length cap := by
      rcases h.q.2 with ⟨_, h0⟩ | ⟨g, off, cap, cur, h0, _⟩
      · have := unhide Hcnt; omega
      · exact ⟨g, off, cap, h0⟩
    clear hz
    go_quiet (fail)
    have tD := (Turn.refl (fun _ => False) W).drewN nq
    have hW := hW.turn tD (fun _ _ => id)
    have kb := tD.same kb id
    have kn := tD.same kn id
    have cm0 := tD.cell cm0 id
    have tW := tW.then tD
    clear cn0 c3 oc1 l0 l1 tD
    generalize W.drewN nq = W at *
    go_wp2_with fail
    have c2 : W.cell? ⟨B, 2, none⟩ = some (.slice (some ⟨g, off, none⟩) L.length cap) := cell_obj hW.obj 2
    have tE := (Turn.refl (fun _ => False) W).drew
    have hE := hW.turn tE (fun _ _ => id)
    have hclos : Clos W.drew (w.heap.size + 1) w.heap.size B bd bc k node (.int .i64 most) (.slice (some ⟨g, off, none⟩) L.length cap) L := ⟨tE.same kn id, tE.same kb id, hE.obj, hE.ne, hE.told⟩
    go_region_with (go_at_call 21; refine (delete_walk W.drew (w.heap.size + 1) w.heap.size B bd bc k node _ g off cap L hclos hE.q hE.good (by omega) (by unfold maxLen; omega)).mono ?_; rintro e w2 ⟨rfl, t2, q2, c2'⟩; have cmz := cell_obj c2'.b2 0; have cBz := cell_obj c2'.obj 2; have fBz := frozen_obj c2'.obj 2; simp at cmz cBz)
    all_goals
      go_wp2_with fail
      go_ret
      have nq := q2.neObj c2'.obj (by decide)
      have t3 : Turn (fun j => j = B) w2 (w2.setCell ⟨B, 2, none⟩ (.slice (some ⟨g, off, none⟩) (dropL L node).length cap)) := (Turn.refl (fun j => j = B) w2).setCell (p := ⟨B, 2, none⟩) (.inl rfl) _
      have o3 := heap_setCell_obj (j := 2) c2'.obj (.slice (some ⟨g, off, none⟩) (dropL L node).length cap)
      simp at o3
      refine ⟨ret_int (unhide Hcnt), ?_, .slice (some ⟨g, off, none⟩) (dropL L node).length cap, ⟨o3, h.ne, c2'.told.turn t3 (fun e => hBd e.symm) (fun e => hBc e.symm), q2.turn t3 nq, h.good.dropL node, hm1, hm2, by omega, by omega⟩, fun j hj => hj⟩
      have e1 : Turn (Foot B bd bc (.slice (some ⟨g, off, none⟩) L.length cap)) w W.drew := (tW.drew).mono (fun j hj => hj.elim)
      exact (e1.then (t2.mono (fun j hj => by
        rcases hj with rfl | rfl | rfl
        · exact .inr (.inr (.inr rfl))
        · exact .inr (.inl rfl)
        · exact .inr (.inr (.inl rfl))))).then (t3.mono (fun j hj => .inl hj))
end Go.Proofs.Ytffchlpefhldhaa
