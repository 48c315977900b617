/- bytes.Clone; Read; appending to a slice; a file put into a disk's map. -/
import Derived.Test.YthpfdgjpmooclaaDFind
namespace Go.Proofs.Ythpfdgjpmooclaa
open Go.RowKit Go.Maps
set_option linter.unusedVariables false

theorem row_of_sl {w : World} {e : TypeId} {v : Value} {k : IntKind} {ys : List Int} (h : OwnSl w e 1 v ys.length (ys.map (Value.int k))) : Row k (fun b => v.ownBlock = some b) w v ys := by
  rcases h.2 with ⟨rfl, h0⟩ | ⟨g, off, cap, cur, rfl, hg, hn, hm, hs, ht⟩
  · have : ys = [] := List.eq_nil_of_length_eq_zero h0
    exact .inl ⟨none, 0, rfl, fun _ => rfl, Nat.zero_le _, this⟩
  · refine .inr ⟨g, off, cap, rfl, hn, hm, rfl, fun i hi => ?_⟩
    refine h.cells i _ ?_
    simp [hi]

set_option maxRecDepth 10000 in
set_option maxHeartbeats 1000000 in
theorem clone_walk (B : Nat → Prop) (v : Value) (zs : List Int) (w : World) (hr : Row .u8 B w v zs) (hl : zs.length ≤ 140737488355328) :
    Calls Try.prog 30 #[v] w fun e w' => ∃ x, e = .returned x ∧ OwnSl w' 5 1 x zs.length (zs.map (Value.int .u8)) ∧ (∀ j, x.ownBlock = some j → w.heap.size ≤ j) ∧ Turn (fun _ => False) w w' := by
  obtain ⟨i0, hi, hz0, hz1, hz2⟩ := info_parts info_u8
  have q : ∀ (w : World) (a : Option Addr) (n c n' c' : Nat), (binOp .eql 32 (.slice a n c) (.slice none n' c')).run Try.prog w = .ok (.bool a.isNone) w := fun w a n c n' c' => by cases a <;> rfl
  obtain ⟨a, c, rfl⟩ := hr.slice
  cases a with
  | none =>
    have h0 : zs = [] := by
      rcases hr with ⟨a, c, h, _, _, rfl⟩ | ⟨b, off, c, h, _⟩
      · rfl
      · simp at h
    subst h0
    go_enter Try.func30, Try.ntmps30
    go_wp2
    go_ret
    exact ⟨_, rfl, ⟨rfl, .inl ⟨rfl, rfl⟩⟩, fun j hj => by simp [Value.ownBlock] at hj, Turn.refl _ _⟩
  | some a =>
    have hown0 : (w.alloc (.cells #[] 5)).ownsRow w.heap.size 5 1 (.slice (some ⟨w.heap.size, 0, none⟩) 0 0) ([] : List Int).length (([] : List Int).map (Value.int .u8)) :=
      World.ownsRow_lit w #[] 0 (Nat.le_refl _) (Nat.zero_le _) rfl
    have hb0 : Below w.heap.size w (w.alloc (.cells #[] 5)) := (Below.refl _ _).alloc (Nat.le_refl _) _
    obtain ⟨x2, w2, hrun, hx2, hb2⟩ := append_row (P := Try.prog) (ty := 32) Try.underlying32 hi hz0 hz1 hz2 rfl hown0 (hr.below hb0) (by unfold maxLen; simp; omega) (by simp; omega) hb0.size
    rw [List.nil_append] at hx2
    go_enter Try.func30, Try.ntmps30
    go_wp2_with (at_builtin; refine list_append_run rfl _ _ 32 rfl _ _ _ _ rfl rfl hrun ?_)
    go_ret
    exact ⟨x2, rfl, OwnSl.of_owns hx2, own_base hx2, Turn.of_below (hb0.trans hb2)⟩

theorem DMem.bound {w : World} {B : Nat} {mv : Option Nat} {E : List Ent} {S : Dk} (h : DMem w B mv E S) {e : Ent} (he : e ∈ E) : e.d.length ≤ 16777216 := by
  have h1 := used_mem (l := S.fs) (f := e.fl) (by rw [h.fs]; exact List.mem_map.2 ⟨e, he, rfl⟩)
  have h2 := h.well.room
  have h3 := h.well.size
  have h4 : e.fl.d.length = e.d.length := rfl
  omega

set_option maxHeartbeats 1000000 in
theorem Read_walk (w : World) (B : Nat) (F : Nat → Prop) (S : Dk) (s : ByteArray) (hs : s.size ≤ maxLen) (h : DAt w B F S) :
    Calls Try.prog 22 #[.pointer (some ⟨B, 0, none⟩), .string s] w fun e w' => ∃ v, e = .returned (.tuple #[v, .int .i64 (readC S s.data.toList)]) ∧ OwnSl w' 5 1 v (readD S s.data.toList).length ((readD S s.data.toList).map (Value.int .u8)) ∧ (∀ j, v.ownBlock = some j → w.heap.size ≤ j) ∧ Turn (fun _ => False) w w' := by
  obtain ⟨mv, E, m, _⟩ := h
  by_cases hr : refuse S s.data.toList = 0
  · cases hg : getK Ent.n s.data.toList E with
    | none =>
      have hf := find_none w B mv E S s hs m hr hg
      have e1 : readC S s.data.toList = 6 := by unfold readC; rw [hr, m.get, hg]; rfl
      have e2 : readD S s.data.toList = [] := by unfold readD; rw [hr, m.get, hg]; rfl
      rw [e1, e2]
      clear e1 e2 hg hr m
      go_enter Try.func22, Try.ntmps22
      go_wp2_with (go_at_call 50; refine hf.mono ?_; rintro e w' ⟨rfl, ht⟩)
      go_ret2
      exact ⟨_, rfl, ⟨rfl, .inl ⟨rfl, rfl⟩⟩, fun j hj => by simp [Value.ownBlock] at hj, ht.alloc _⟩
    | some e =>
      have hf := find_some w B mv E S s hs m hr e hg
      have e1 : readC S s.data.toList = 0 := by unfold readC; rw [hr, m.get, hg]; rfl
      have e2 : readD S s.data.toList = e.d := by unfold readD; rw [hr, m.get, hg]; rfl
      rw [e1, e2]
      have hem := (getK_some hg).1
      have hbd := m.bound hem
      obtain ⟨p, c, hv⟩ := m.form hem
      have ho := m.own e hem
      rw [hv] at hf ho
      clear e1 e2 hg hr
      go_enter Try.func22, Try.ntmps22
      go_wp2_with (go_at_call 50; refine hf.mono ?_; rintro e w' ⟨rfl, ht⟩)
      have tA := ht.alloc (.cells #[.slice p e.d.length c, .int .i64 (e.s : Int)] 64)
      have hrow := row_of_sl (ho.turn tA (fun _ _ => id))
      refine (clone_walk _ _ e.d _ hrow (by omega)).mono ?_
      rintro x w2 ⟨v, rfl, hov, hbv, ht2⟩
      go_wp2
      go_ret2
      exact ⟨v, rfl, hov, fun j hj => Nat.le_trans tA.size (hbv j hj), tA.then ht2⟩
  · have hf := find_no w B mv E S s hs m hr
    have e1 : readC S s.data.toList = refuse S s.data.toList := by unfold readC; rw [if_pos hr]
    have e2 : readD S s.data.toList = [] := by unfold readD; rw [if_pos hr]
    rw [e1, e2]
    have hne : (refuse S s.data.toList != 0) = true := by simpa using hr
    clear e1 e2 hr m
    generalize refuse S s.data.toList = x at *
    go_enter Try.func22, Try.ntmps22
    go_wp2_with (go_at_call 50; refine hf.mono ?_; rintro e w' ⟨rfl, ht⟩)
    go_ret2
    exact ⟨_, rfl, ⟨rfl, .inl ⟨rfl, rfl⟩⟩, fun j hj => by simp [Value.ownBlock] at hj, ht.alloc _⟩
end Go.Proofs.Ythpfdgjpmooclaa
