/- Remove, Cut. -/
import Derived.Test.YtodnnblnchjeiaaDPut
namespace Go.Proofs.Ytodnnblnchjeiaa
open Go.RowKit Go.Maps
set_option linter.unusedVariables false

/-- 'delete(d.files, name)' -/
theorem DMem.drop {w : World} {B b : Nat} {E : List Ent} {S S' : Dk} (m : DMem w B (some b) E S) {s : ByteArray} (hs : s.size ≤ maxLen) (hfs : S' = { S with fs := delK Fl.n s.data.toList S.fs }) (hw : Well S') :
    ∃ w', (∀ ty, (Builtin.delete_ #[50, 9] ty #[.map (some b), .string s]).run Try.prog w = .ok (.tuple #[]) w') ∧ Turn (fun j => j = b) w w' ∧ DMem w' B (some b) (delK Ent.n s.data.toList E) S' := by
  have hneB : B ≠ b := fun q => m.neB (by rw [q])
  obtain ⟨w4, hu, o4, g4⟩ := World.ownsMap.drop m.ofMap dLaw Try.underlying50 (dKey hs) 0
  have t4 : Turn (fun j => j = b) w w4 := Turn.grown (F := fun j => j = b) g4.grown (fun k e => by cases e; rfl)
  refine ⟨w4, fun ty => hu, t4, DMem.mk_del (k := E.length) ?_ o4 ?_ m.apart ?_ hw⟩
  · rw [hfs]; exact t4.same m.obj hneB
  · exact fun x hx _ => (m.own x hx).turn t4 (fun j hj => m.apartM x hx j hj)
  · rw [hfs, ← m.fs]

set_option maxHeartbeats 1000000 in
theorem Remove_walk (w : World) (B : Nat) (F : Nat → Prop) (S : Dk) (s : ByteArray) (hs : s.size ≤ maxLen) (h : DAt w B F S) :
    Calls Try.prog 40 #[.pointer (some ⟨B, 0, none⟩), .string s] w fun e w' => e = .returned (.int .i64 (removeC S s.data.toList)) ∧ Turn F w w' ∧ DAt w' B (NF w F) (removeS S s.data.toList) := by
  obtain ⟨mv, E, m, hF⟩ := h
  have hFB := hF B (.inl rfl)
  by_cases hr : refuse S s.data.toList = 0
  · cases hg : getK Ent.n s.data.toList E with
    | none =>
      have hf := find_none w B mv E S s hs m hr hg
      have e1 : removeC S s.data.toList = 6 := by unfold removeC; rw [hr, m.get, hg]; rfl
      have e2 : removeS S s.data.toList = S := by unfold removeS; rw [hr, m.get, hg]; rfl
      rw [e1, e2]
      clear e1 e2 hg hr
      go_enter Try.func40, Try.ntmps40
      go_wp2_with (go_at_call 46; refine hf.mono ?_; rintro e w' ⟨rfl, ht⟩)
      go_ret
      exact ⟨rfl, (ht.alloc _).mono (fun _ h => h.elim), mv, E, m.turn (ht.alloc _) (fun _ _ => id), fun j hj => .inl (hF j hj)⟩
    | some e =>
      have hf := find_some w B mv E S s hs m hr e hg
      have hem := (getK_some hg).1
      have hen := (getK_some hg).2
      obtain ⟨p, c, hv⟩ := m.form hem
      rw [hv] at hf
      have hd := (refuse_up hr).1
      have hbd := m.bound hem
      cases hh : hitB S
      · have e1 : removeC S s.data.toList = 0 := by unfold removeC; rw [hr, m.get, hg]; simp [hh]
        have e2 : removeS S s.data.toList = { hitS S with fs := delK Fl.n s.data.toList S.fs } := by unfold removeS; rw [hr, m.get, hg]; simp [hh]
        have hwell : Well (removeS S s.data.toList) := by
          rw [e2]
          exact well_del m.well rfl (hitS_fs S).2 (well_hit m.well).arm
        rw [e1]
        rw [e2] at hwell ⊢
        obtain ⟨b, hmv, _⟩ := m.entry hem
        subst hmv
        clear e1 e2
        go_enter Try.func40, Try.ntmps40
        go_wp2_with (go_at_call 46; refine hf.mono ?_; rintro e w1 ⟨rfl, ht⟩)
        have tA : Turn (fun _ => False) w (w1.alloc (.cells #[.slice p e.d.length c, .int .i64 (e.s : Int)] 62)) := ht.alloc _
        have mA := m.turn tA (fun _ _ => id)
        generalize w1.alloc (.cells #[.slice p e.d.length c, .int .i64 (e.s : Int)] 62) = W at *
        refine (hit_walk W B _ E S hd mA).mono ?_
        rw [hh]
        rintro x w2 ⟨rfl, t2, m2⟩
        have cB : w2.cell? ⟨B, 1, none⟩ = some (.map (some b)) := cell_obj m2.obj 1
        obtain ⟨w4, hu, t4, m4⟩ := m2.drop hs (S' := { hitS S with fs := delK Fl.n s.data.toList S.fs }) (by rw [(hitS_fs S).1]) hwell
        go_wp2
        go_ret
        have hfb : F b := hF b (.inr (.inl rfl))
        exact ⟨rfl, ((tA.mono (fun _ h => h.elim)).then (t2.mono (fun j hj => by subst hj; exact hFB))).then (t4.mono (fun j hj => by subst hj; exact hfb)), _, _, m4, fun j hj => .inl (hF j (foot_del hj))⟩
      · have e1 : removeC S s.data.toList = 3 := by unfold removeC; rw [hr, m.get, hg]; simp [hh]
        have e2 : removeS S s.data.toList = hitS S := by unfold removeS; rw [hr, m.get, hg]; simp [hh]
        rw [e1, e2]
        clear e1 e2
        go_enter Try.func40, Try.ntmps40
        go_wp2_with (go_at_call 46; refine hf.mono ?_; rintro e w1 ⟨rfl, ht⟩)
        have tA : Turn (fun _ => False) w (w1.alloc (.cells #[.slice p e.d.length c, .int .i64 (e.s : Int)] 62)) := ht.alloc _
        have mA := m.turn tA (fun _ _ => id)
        generalize w1.alloc (.cells #[.slice p e.d.length c, .int .i64 (e.s : Int)] 62) = W at *
        refine (hit_walk W B _ E S hd mA).mono ?_
        rw [hh]
        rintro x w2 ⟨rfl, t2, m2⟩
        go_wp2
        go_ret
        exact ⟨rfl, (tA.mono (fun _ h => h.elim)).then (t2.mono (fun j hj => by subst hj; exact hFB)), _, _, m2, fun j hj => .inl (hF j hj)⟩
  · have hf := find_no w B mv E S s hs m hr
    have e1 : removeC S s.data.toList = refuse S s.data.toList := by unfold removeC; rw [if_pos hr]
    have e2 : removeS S s.data.toList = S := by unfold removeS; rw [if_pos hr]
    rw [e1, e2]
    have hne : (refuse S s.data.toList != 0) = true := by simpa using hr
    clear e1 e2 hr
    generalize refuse S s.data.toList = x at *
    go_enter Try.func40, Try.ntmps40
    go_wp2_with (go_at_call 46; refine hf.mono ?_; rintro e w' ⟨rfl, ht⟩)
    go_ret
    exact ⟨rfl, (ht.alloc _).mono (fun _ h => h.elim), mv, E, m.turn (ht.alloc _) (fun _ _ => id), fun j hj => .inl (hF j hj)⟩

end Go.Proofs.Ytodnnblnchjeiaa
