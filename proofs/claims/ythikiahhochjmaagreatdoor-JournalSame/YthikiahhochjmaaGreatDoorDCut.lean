/- Remove, Cut. -/
import Derived.Test.YthikiahhochjmaaGreatDoorDPut
namespace Go.Proofs.YthikiahhochjmaaGreatDoor
open Go.RowKit Go.Maps
set_option linter.unusedVariables false

/-- 'delete(d.files, name)' -/
theorem DMem.drop {w : World} {B b : Nat} {E : List Ent} {S S' : Dk} (m : DMem w B (some b) E S) {s : ByteArray} (hs : s.size ≤ maxLen) (hfs : S' = { S with fs := delK Fl.n s.data.toList S.fs }) (hw : Well S') :
    ∃ w', (∀ ty, (Builtin.delete_ #[64, 9] ty #[.map (some b), .string s]).run Tryz.prog w = .ok (.tuple #[]) w') ∧ Turn (fun j => j = b) w w' ∧ DMem w' B (some b) (delK Ent.n s.data.toList E) S' := by
  have hneB : B ≠ b := fun q => m.neB (by rw [q])
  obtain ⟨w4, hu, o4, g4⟩ := World.ownsMap.drop m.ofMap dLaw Tryz.underlying64 (dKey hs) 0
  have t4 : Turn (fun j => j = b) w w4 := Turn.grown (F := fun j => j = b) g4.grown (fun k e => by cases e; rfl)
  refine ⟨w4, fun ty => hu, t4, DMem.mk_del (k := E.length) ?_ o4 ?_ m.apart ?_ hw⟩
  · rw [hfs]; exact t4.same m.obj hneB
  · exact fun x hx _ => (m.own x hx).turn t4 (fun j hj => m.apartM x hx j hj)
  · rw [hfs, ← m.fs]

set_option maxHeartbeats 1000000 in
theorem Remove_walk (w : World) (B : Nat) (F : Nat → Prop) (S : Dk) (s : ByteArray) (hs : s.size ≤ maxLen) (h : DAt w B F S) :
    Calls Tryz.prog 21 #[.pointer (some ⟨B, 0, none⟩), .string s] w fun e w' => e = .returned (.int .i64 (removeC S s.data.toList)) ∧ Turn F w w' ∧ DAt w' B (NF w F) (removeS S s.data.toList) := by
  obtain ⟨mv, E, m, hF⟩ := h
  have hFB := hF B (.inl rfl)
  by_cases hr : refuse S s.data.toList = 0
  · cases hg : getK Ent.n s.data.toList E with
    | none =>
      have hf := find_none w B mv E S s hs m hr hg
      have e1 : removeC S s.data.toList = 6 := by unfold removeC; rw [hr, m.get, hg]; rfl
      have e2 : removeS S s.data.toList = S := by unfold removeS; rw [hr, m.get, hg]; rfl
      rw [e1, e2]
      clear e1 e2 hg hr
      go_enter Tryz.func21, Tryz.ntmps21
      go_wp2_with (go_at_call 45; refine hf.mono ?_; rintro e w' ⟨rfl, ht⟩)
      go_ret
      exact ⟨rfl, (ht.alloc _).mono (fun _ h => h.elim), mv, E, m.turn (ht.alloc _) (fun _ _ => id), fun j hj => .inl (hF j hj)⟩
    | some e =>
      have hf := find_some w B mv E S s hs m hr e hg
      have hem := (getK_some hg).1
      have hen := (getK_some hg).2
      obtain ⟨p, c, hv⟩ := m.form hem
      rw [hv] at hf
      have hd := (refuse_up hr).1
      have hbd := m.bound hem
      cases hh : hitB S
      · have e1 : removeC S s.data.toList = 0 := by unfold removeC; rw [hr, m.get, hg]; simp [hh]
        have e2 : removeS S s.data.toList = { hitS S with fs := delK Fl.n s.data.toList S.fs } := by unfold removeS; rw [hr, m.get, hg]; simp [hh]
        have hwell : Well (removeS S s.data.toList) := by
          rw [e2]
          exact well_del m.well rfl (hitS_fs S).2 (well_hit m.well).arm
        rw [e1]
        rw [e2] at hwell ⊢
        obtain ⟨b, hmv, _⟩ := m.entry hem
        subst hmv
        clear e1 e2
        go_enter Tryz.func21, Tryz.ntmps21
        go_wp2_with (go_at_call 45; refine hf.mono ?_; rintro e w1 ⟨rfl, ht⟩)
        have tA : Turn (fun _ => False) w (w1.alloc (.cells #[.slice p e.d.length c, .int .i64 (e.s : Int)] 84)) := ht.alloc _
        have mA := m.turn tA (fun _ _ => id)
        generalize w1.alloc (.cells #[.slice p e.d.length c, .int .i64 (e.s : Int)] 84) = W at *
        refine (hit_walk W B _ E S hd mA).mono ?_
        rw [hh]
        rintro x w2 ⟨rfl, t2, m2⟩
        have cB : w2.cell? ⟨B, 1, none⟩ = some (.map (some b)) := cell_obj m2.obj 1
        obtain ⟨w4, hu, t4, m4⟩ := m2.drop hs (S' := { hitS S with fs := delK Fl.n s.data.toList S.fs }) (by rw [(hitS_fs S).1]) hwell
        go_wp2
        go_ret
        have hfb : F b := hF b (.inr (.inl rfl))
        exact ⟨rfl, ((tA.mono (fun _ h => h.elim)).then (t2.mono (fun j hj => by subst hj; exact hFB))).then (t4.mono (fun j hj => by subst hj; exact hfb)), _, _, m4, fun j hj => .inl (hF j (foot_del hj))⟩
      · have e1 : removeC S s.data.toList = 3 := by unfold removeC; rw [hr, m.get, hg]; simp [hh]
        have e2 : removeS S s.data.toList = hitS S := by unfold removeS; rw [hr, m.get, hg]; simp [hh]
        rw [e1, e2]
        clear e1 e2
        go_enter Tryz.func21, Tryz.ntmps21
        go_wp2_with (go_at_call 45; refine hf.mono ?_; rintro e w1 ⟨rfl, ht⟩)
        have tA : Turn (fun _ => False) w (w1.alloc (.cells #[.slice p e.d.length c, .int .i64 (e.s : Int)] 84)) := ht.alloc _
        have mA := m.turn tA (fun _ _ => id)
        generalize w1.alloc (.cells #[.slice p e.d.length c, .int .i64 (e.s : Int)] 84) = W at *
        refine (hit_walk W B _ E S hd mA).mono ?_
        rw [hh]
        rintro x w2 ⟨rfl, t2, m2⟩
        go_wp2
        go_ret
        exact ⟨rfl, (tA.mono (fun _ h => h.elim)).then (t2.mono (fun j hj => by subst hj; exact hFB)), _, _, m2, fun j hj => .inl (hF j hj)⟩
  · have hf := find_no w B mv E S s hs m hr
    have e1 : removeC S s.data.toList = refuse S s.data.toList := by unfold removeC; rw [if_pos hr]
    have e2 : removeS S s.data.toList = S := by unfold removeS; rw [if_pos hr]
    rw [e1, e2]
    have hne : (refuse S s.data.toList != 0) = true := by simpa using hr
    clear e1 e2 hr
    generalize refuse S s.data.toList = x at *
    go_enter Tryz.func21, Tryz.ntmps21
    go_wp2_with (go_at_call 45; refine hf.mono ?_; rintro e w' ⟨rfl, ht⟩)
    go_ret
    exact ⟨rfl, (ht.alloc _).mono (fun _ h => h.elim), mv, E, m.turn (ht.alloc _) (fun _ _ => id), fun j hj => .inl (hF j hj)⟩

set_option maxRecDepth 100000 in
set_option maxHeartbeats 2000000 in
theorem Cut_walk (w : World) (B : Nat) (F : Nat → Prop) (S : Dk) (s : ByteArray) (z : Int) (hs : s.size ≤ maxLen) (h : DAt w B F S) :
    Calls Tryz.prog 22 #[.pointer (some ⟨B, 0, none⟩), .string s, .int .i64 z] w fun e w' => e = .returned (.int .i64 (cutC S s.data.toList z)) ∧ Turn F w w' ∧ DAt w' B (NF w F) (cutS S s.data.toList z) := by
  obtain ⟨mv, E, m, hF⟩ := h
  have hFB := hF B (.inl rfl)
  by_cases hr : refuse S s.data.toList = 0
  · cases hg : getK Ent.n s.data.toList E with
    | none =>
      have hf := find_none w B mv E S s hs m hr hg
      have e1 : cutC S s.data.toList z = 6 := by unfold cutC; rw [hr, m.get, hg]; rfl
      have e2 : cutS S s.data.toList z = S := by unfold cutS; rw [hr, m.get, hg]; rfl
      rw [e1, e2]
      clear e1 e2 hg hr
      go_enter Tryz.func22, Tryz.ntmps22
      go_wp2_with (go_at_call 45; refine hf.mono ?_; rintro e w' ⟨rfl, ht⟩)
      go_ret
      exact ⟨rfl, (ht.alloc _).mono (fun _ h => h.elim), mv, E, m.turn (ht.alloc _) (fun _ _ => id), fun j hj => .inl (hF j hj)⟩
    | some e =>
      have hf := find_some w B mv E S s hs m hr e hg
      have hem := (getK_some hg).1
      have hen := (getK_some hg).2
      obtain ⟨p, c, hv⟩ := m.form hem
      rw [hv] at hf
      have hd := (refuse_up hr).1
      have hbd := m.bound hem
      by_cases hz : z < 0 ∨ (e.d.length : Int) < z
      · have e1 : cutC S s.data.toList z = 1 := by unfold cutC; rw [hr, m.get, hg]; simp only [Option.map_some, Ent.fl]; rw [if_neg (by simp), if_pos hz]
        have e2 : cutS S s.data.toList z = S := by unfold cutS; rw [hr, m.get, hg]; simp only [Option.map_some, Ent.fl]; rw [if_neg (by simp), if_pos hz]
        rw [e1, e2]
        clear e1 e2
        by_cases hz0 : z < 0
        · go_enter Tryz.func22, Tryz.ntmps22
          go_wp2_with (go_at_call 45; refine hf.mono ?_; rintro e w1 ⟨rfl, ht⟩)
          go_ret
          exact ⟨rfl, (ht.alloc _).mono (fun _ h => h.elim), mv, E, m.turn (ht.alloc _) (fun _ _ => id), fun j hj => .inl (hF j hj)⟩
        · have hz1 : (e.d.length : Int) < z := by omega
          have hz2 : 0 ≤ z := by omega
          go_enter Tryz.func22, Tryz.ntmps22
          go_wp2_with (go_at_call 45; refine hf.mono ?_; rintro e w1 ⟨rfl, ht⟩)
          go_ret
          exact ⟨rfl, (ht.alloc _).mono (fun _ h => h.elim), mv, E, m.turn (ht.alloc _) (fun _ _ => id), fun j hj => .inl (hF j hj)⟩
      · obtain ⟨k, rfl⟩ : ∃ k : Nat, z = k := ⟨z.toNat, by omega⟩
        have hk : k ≤ e.d.length := by omega
        have c1 : cutC S s.data.toList k = if hitB S then 3 else 0 := by unfold cutC; rw [hr, m.get, hg]; simp only [Option.map_some, Ent.fl]; rw [if_neg (by simp), if_neg hz]
        have c2 : cutS S s.data.toList k = if hitB S then hitS S else { hitS S with fs := putK Fl.n ⟨s.data.toList, e.d.take k, k⟩ S.fs } := by unfold cutS; rw [hr, m.get, hg]; simp only [Option.map_some, Ent.fl, Int.toNat_natCast]; rw [if_neg (by simp), if_neg hz]
        rw [c1]
        clear c1 hz
        cases hh : hitB S
        · rw [hh] at c2
          have hwell : Well (cutS S s.data.toList k) := by
            rw [c2]
            exact well_put (f := ⟨s.data.toList, e.d.take k, k⟩) (g := e.fl) m.well (by rw [m.get, hg]; rfl) (by have := m.well.room; simp [Ent.fl]; omega) (by simp; omega) rfl (hitS_fs S).2 (well_hit m.well).arm
          rw [c2] at hwell ⊢
          clear c2
          obtain ⟨b, hmv, _⟩ := m.entry hem
          subst hmv
          go_enter Tryz.func22, Tryz.ntmps22
          go_wp2_with (go_at_call 45; refine hf.mono ?_; rintro e w1 ⟨rfl, ht⟩)
          have tA : Turn (fun _ => False) w (w1.alloc (.cells #[.slice p e.d.length c, .int .i64 (e.s : Int)] 84)) := ht.alloc _
          have k0 : (w1.alloc (.cells #[.slice p e.d.length c, .int .i64 (e.s : Int)] 84)).heap[w1.heap.size]? = some (.cells #[.slice p e.d.length c, .int .i64 (e.s : Int)] 84 (0, 0)) := heap_alloc_new w1 _
          have hw1 : w.heap.size ≤ w1.heap.size := ht.size
          have mA := m.turn tA (fun _ _ => id)
          generalize w1.alloc (.cells #[.slice p e.d.length c, .int .i64 (e.s : Int)] 84) = W at *
          have ngB : w1.heap.size ≠ B := fun q => by have := m.lt B (.inl rfl); omega
          have cW : W.cell? ⟨w1.heap.size, 0, none⟩ = some (.slice p e.d.length c) := cell_obj k0 0
          have hk' : (k : Int) ≤ (e.d.length : Int) := by omega
          generalize hgg : w1.heap.size = g at *
          clear hgg
          refine (hit_walk W B _ E S hd mA).mono ?_
          rw [hh]
          rintro x w2 ⟨rfl, t2, m2⟩
          have k2 := t2.same k0 ngB
          have cB : w2.cell? ⟨B, 1, none⟩ = some (.map (some b)) := cell_obj m2.obj 1
          have c0 : w2.cell? ⟨g, 0, none⟩ = some (.slice p e.d.length c) := cell_obj k2 0
          obtain ⟨i0, hi, hz0, hz1, hz2⟩ := info_parts info_u8
          have ho2 := m2.own e hem
          rw [hv] at ho2
          obtain ⟨x', hsl, hrow⟩ := cut_to (ki := .i64) Tryz.underlying33 hi hz1 (row_of_sl ho2) k hk
          clear cW k0 mA
          go_wp2
          have hld : (e.d.take k).length = k := by simp; omega
          have tD : Turn (fun _ => False) w2 w2.drew := (Turn.refl _ _).drew
          have hcl := clone_walk _ _ _ w2.drew (hrow.turn tD (fun _ _ => id)) (by rw [hld]; omega)
          rw [hld] at hcl
          have hup : ∀ (v : Value) (w5 : World), OwnSl w5 5 1 v k ((e.d.take k).map (Value.int .u8)) → (∀ j, v.ownBlock = some j → w2.drew.heap.size ≤ j) → Turn (fun _ => False) w2.drew w5 →
              ∃ w6, (Instr.mapUpdate 64 (.map (some b)) (.string s) (.agg #[v, .int .i64 (k : Int)])).run Tryz.prog w5 = .ok () w6 ∧ Turn (fun j => j = b) w5 w6 ∧ DMem w6 B (some b) (putK Ent.n ⟨s.data.toList, v, e.d.take k, k⟩ E) { hitS S with fs := putK Fl.n ⟨s.data.toList, e.d.take k, k⟩ S.fs } := by
            intro v w5 h1 h2 h3
            have m5 := m2.turn (tD.then h3) (fun _ _ => id)
            refine m5.updateAt ⟨s.data.toList, v, e.d.take k, k⟩ hs rfl m5.ofMap (by rw [hld]; exact h1) (fun x hx hn j hj1 hj2 => ?_) (by rw [(hitS_fs S).1]; rfl) hwell
            have q1 := m2.lt j (.inr (.inr ⟨x, hx, hj1⟩))
            have q2 := h2 j hj2
            have q3 : w2.drew.heap.size = w2.heap.size := rfl
            omega
          have Hl := hide hld
          clear hld
          go_region_with (go_at_call 40; refine hcl.mono ?_; rintro x w5 ⟨v, rfl, h51, h52, h53⟩; have cB5 := (tD.then h53).cell cB id; obtain ⟨w6, hu, t6, m6⟩ := hup v w5 h51 h52 h53; obtain ⟨p5, c5, rfl⟩ := h51.form)
          all_goals
            go_wp2
            go_ret
            have hfb : F b := hF b (.inr (.inl rfl))
            refine ⟨rfl, (((tA.mono (fun _ h => h.elim)).then (t2.mono (fun j hj => by subst hj; exact hFB))).then ((tD.then h53).mono (fun _ h => h.elim))).then (t6.mono (fun j hj => by subst hj; exact hfb)), _, _, m6, fun j hj => ?_⟩
            rcases foot_put hj with hj | hj
            · exact .inl (hF j hj)
            · have q1 := h52 j hj
              have q2 := tA.size
              have q3 := t2.size
              have q4 : w2.drew.heap.size = w2.heap.size := rfl
              exact .inr (by omega)
        · rw [hh] at c2
          rw [c2]
          clear c2
          go_enter Tryz.func22, Tryz.ntmps22
          go_wp2_with (go_at_call 45; refine hf.mono ?_; rintro e w1 ⟨rfl, ht⟩)
          have tA : Turn (fun _ => False) w (w1.alloc (.cells #[.slice p e.d.length c, .int .i64 (e.s : Int)] 84)) := ht.alloc _
          have mA := m.turn tA (fun _ _ => id)
          generalize w1.alloc (.cells #[.slice p e.d.length c, .int .i64 (e.s : Int)] 84) = W at *
          refine (hit_walk W B _ E S hd mA).mono ?_
          rw [hh]
          rintro x w2 ⟨rfl, t2, m2⟩
          go_wp2
          go_ret
          exact ⟨rfl, (tA.mono (fun _ h => h.elim)).then (t2.mono (fun j hj => by subst hj; exact hFB)), _, _, m2, fun j hj => .inl (hF j hj)⟩
  · have hf := find_no w B mv E S s hs m hr
    have e1 : cutC S s.data.toList z = refuse S s.data.toList := by unfold cutC; rw [if_pos hr]
    have e2 : cutS S s.data.toList z = S := by unfold cutS; rw [if_pos hr]
    rw [e1, e2]
    have hne : (refuse S s.data.toList != 0) = true := by simpa using hr
    clear e1 e2 hr
    generalize refuse S s.data.toList = x at *
    go_enter Tryz.func22, Tryz.ntmps22
    go_wp2_with (go_at_call 45; refine hf.mono ?_; rintro e w' ⟨rfl, ht⟩)
    go_ret
    exact ⟨rfl, (ht.alloc _).mono (fun _ h => h.elim), mv, E, m.turn (ht.alloc _) (fun _ _ => id), fun j hj => .inl (hF j hj)⟩
end Go.Proofs.YthikiahhochjmaaGreatDoor
