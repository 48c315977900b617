/- bytes.Clone; Read; appending to a slice; a file put into a disk's map. -/
import Derived.Test.YthikiahhochjmaaGreatDoorDFind
import Derived.Test.YthikiahhochjmaaGreatDoorPack2
namespace Go.Proofs.YthikiahhochjmaaGreatDoor
open Go.RowKit Go.Maps
set_option linter.unusedVariables false

theorem DMem.bound {w : World} {B : Nat} {mv : Option Nat} {E : List Ent} {S : Dk} (h : DMem w B mv E S) {e : Ent} (he : e ∈ E) : e.d.length ≤ 16777216 := by
  have h1 := used_mem (l := S.fs) (f := e.fl) (by rw [h.fs]; exact List.mem_map.2 ⟨e, he, rfl⟩)
  have h2 := h.well.room
  have h3 := h.well.size
  have h4 : e.fl.d.length = e.d.length := rfl
  omega

set_option maxHeartbeats 1000000 in
theorem Read_walk (w : World) (B : Nat) (F : Nat → Prop) (S : Dk) (s : ByteArray) (hs : s.size ≤ maxLen) (h : DAt w B F S) :
    Calls Tryz.prog 84 #[.pointer (some ⟨B, 0, none⟩), .string s] w fun e w' => ∃ v, e = .returned (.tuple #[v, .int .i64 (readC S s.data.toList)]) ∧ OwnSl w' 5 1 v (readD S s.data.toList).length ((readD S s.data.toList).map (Value.int .u8)) ∧ (∀ j, v.ownBlock = some j → w.heap.size ≤ j) ∧ Turn (fun _ => False) w w' := by
  obtain ⟨mv, E, m, _⟩ := h
  by_cases hr : refuse S s.data.toList = 0
  · cases hg : getK Ent.n s.data.toList E with
    | none =>
      have hf := find_none w B mv E S s hs m hr hg
      have e1 : readC S s.data.toList = 6 := by unfold readC; rw [hr, m.get, hg]; rfl
      have e2 : readD S s.data.toList = [] := by unfold readD; rw [hr, m.get, hg]; rfl
      rw [e1, e2]
      clear e1 e2 hg hr m
      go_enter Tryz.func84, Tryz.ntmps84
      go_wp2_with (go_at_call 45; refine hf.mono ?_; rintro e w' ⟨rfl, ht⟩)
      go_ret2
      exact ⟨_, rfl, ⟨rfl, .inl ⟨rfl, rfl⟩⟩, fun j hj => by simp [Value.ownBlock] at hj, ht.alloc _⟩
    | some e =>
      have hf := find_some w B mv E S s hs m hr e hg
      have e1 : readC S s.data.toList = 0 := by unfold readC; rw [hr, m.get, hg]; rfl
      have e2 : readD S s.data.toList = e.d := by unfold readD; rw [hr, m.get, hg]; rfl
      rw [e1, e2]
      have hem := (getK_some hg).1
      have hbd := m.bound hem
      obtain ⟨p, c, hv⟩ := m.form hem
      have ho := m.own e hem
      rw [hv] at hf ho
      clear e1 e2 hg hr
      go_enter Tryz.func84, Tryz.ntmps84
      go_wp2_with (go_at_call 45; refine hf.mono ?_; rintro e w' ⟨rfl, ht⟩)
      have tA := ht.alloc (.cells #[.slice p e.d.length c, .int .i64 (e.s : Int)] 84)
      have hrow := row_of_sl (ho.turn tA (fun _ _ => id))
      refine (clone_walk _ _ e.d _ hrow (by omega)).mono ?_
      rintro x w2 ⟨v, rfl, hov, hbv, ht2⟩
      go_wp2
      go_ret2
      exact ⟨v, rfl, hov, fun j hj => Nat.le_trans tA.size (hbv j hj), tA.then ht2⟩
  · have hf := find_no w B mv E S s hs m hr
    have e1 : readC S s.data.toList = refuse S s.data.toList := by unfold readC; rw [if_pos hr]
    have e2 : readD S s.data.toList = [] := by unfold readD; rw [if_pos hr]
    rw [e1, e2]
    have hne : (refuse S s.data.toList != 0) = true := by simpa using hr
    clear e1 e2 hr m
    generalize refuse S s.data.toList = x at *
    go_enter Tryz.func84, Tryz.ntmps84
    go_wp2_with (go_at_call 45; refine hf.mono ?_; rintro e w' ⟨rfl, ht⟩)
    go_ret2
    exact ⟨_, rfl, ⟨rfl, .inl ⟨rfl, rfl⟩⟩, fun j hj => by simp [Value.ownBlock] at hj, ht.alloc _⟩
end Go.Proofs.YthikiahhochjmaaGreatDoor
