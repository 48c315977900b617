/- Remove, Cut. A region that draws its order, whose operations only read and whose callees make new memory alone: walked once, in the order of its text. create: a new file in a disk's map. Append. Append to a new file; where there is no room; Append whole. The calls of a disk that read or arm, over its footprint; New. -/
import Derived.Test.YthikiahhochjmaaGreatDoorPack3
namespace Go.Proofs.YthikiahhochjmaaGreatDoor
open Go.RowKit Go.Maps
set_option linter.unusedVariables false

/-- 'delete(d.files, name)' -/
theorem DMem.drop {w : World} {B b : Nat} {E : List Ent} {S S' : Dk} (m : DMem w B (some b) E S) {s : ByteArray} (hs : s.size ≤ maxLen) (hfs : S' = { S with fs := delK Fl.n s.data.toList S.fs }) (hw : Well S') :
    ∃ w', (∀ ty, (Builtin.delete_ #[64, 9] ty #[.map (some b), .string s]).run Tryz.prog w = .ok (.tuple #[]) w') ∧ Turn (fun j => j = b) w w' ∧ DMem w' B (some b) (delK Ent.n s.data.toList E) S' := by
  have hneB : B ≠ b := fun q => m.neB (by rw [q])
  obtain ⟨w4, hu, o4, g4⟩ := World.ownsMap.drop m.ofMap dLaw Tryz.underlying64 (dKey hs) 0
  have t4 : Turn (fun j => j = b) w w4 := Turn.grown (F := fun j => j = b) g4.grown (fun k e => by cases e; rfl)
  refine ⟨w4, fun ty => hu, t4, DMem.mk_del (k := E.length) ?_ o4 ?_ m.apart ?_ hw⟩
  · rw [hfs]; exact t4.same m.obj hneB
  · exact fun x hx _ => (m.own x hx).turn t4 (fun j hj => m.apartM x hx j hj)
  · rw [hfs, ← m.fs]

set_option maxHeartbeats 1000000 in
theorem Remove_walk (w : World) (B : Nat) (F : Nat → Prop) (S : Dk) (s : ByteArray) (hs : s.size ≤ maxLen) (h : DAt w B F S) :
    Calls Tryz.prog 21 #[.pointer (some ⟨B, 0, none⟩), .string s] w fun e w' => e = .returned (.int .i64 (removeC S s.data.toList)) ∧ Turn F w w' ∧ DAt w' B (NF w F) (removeS S s.data.toList) := by
  obtain ⟨mv, E, m, hF⟩ := h
  have hFB := hF B (.inl rfl)
  by_cases hr : refuse S s.data.toList = 0
  · cases hg : getK Ent.n s.data.toList E with
    | none =>
      have hf := find_none w B mv E S s hs m hr hg
      have e1 : removeC S s.data.toList = 6 := by unfold removeC; rw [hr, m.get, hg]; rfl
      have e2 : removeS S s.data.toList = S := by unfold removeS; rw [hr, m.get, hg]; rfl
      rw [e1, e2]
      clear e1 e2 hg hr
      go_enter Tryz.func21, Tryz.ntmps21
      go_wp2_with (go_at_call 45; refine hf.mono ?_; rintro e w' ⟨rfl, ht⟩)
      go_ret
      exact ⟨rfl, (ht.alloc _).mono (fun _ h => h.elim), mv, E, m.turn (ht.alloc _) (fun _ _ => id), fun j hj => .inl (hF j hj)⟩
    | some e =>
      have hf := find_some w B mv E S s hs m hr e hg
      have hem := (getK_some hg).1
      have hen := (getK_some hg).2
      obtain ⟨p, c, hv⟩ := m.form hem
      rw [hv] at hf
      have hd := (refuse_up hr).1
      have hbd := m.bound hem
      cases hh : hitB S
      · have e1 : removeC S s.data.toList = 0 := by unfold removeC; rw [hr, m.get, hg]; simp [hh]
        have e2 : removeS S s.data.toList = { hitS S with fs := delK Fl.n s.data.toList S.fs } := by unfold removeS; rw [hr, m.get, hg]; simp [hh]
        have hwell : Well (removeS S s.data.toList) := by
          rw [e2]
          exact well_del m.well rfl (hitS_fs S).2 (well_hit m.well).arm
        rw [e1]
        rw [e2] at hwell ⊢
        obtain ⟨b, hmv, _⟩ := m.entry hem
        subst hmv
        clear e1 e2
        go_enter Tryz.func21, Tryz.ntmps21
        go_wp2_with (go_at_call 45; refine hf.mono ?_; rintro e w1 ⟨rfl, ht⟩)
        have tA : Turn (fun _ => False) w (w1.alloc (.cells #[.slice p e.d.length c, .int .i64 (e.s : Int)] 84)) := ht.alloc _
        have mA := m.turn tA (fun _ _ => id)
        generalize w1.alloc (.cells #[.slice p e.d.length c, .int .i64 (e.s : Int)] 84) = W at *
        refine (hit_walk W B _ E S hd mA).mono ?_
        rw [hh]
        rintro x w2 ⟨rfl, t2, m2⟩
        have cB : w2.cell? ⟨B, 1, none⟩ = some (.map (some b)) := cell_obj m2.obj 1
        obtain ⟨w4, hu, t4, m4⟩ := m2.drop hs (S' := { hitS S with fs := delK Fl.n s.data.toList S.fs }) (by rw [(hitS_fs S).1]) hwell
        go_wp2
        go_ret
        have hfb : F b := hF b (.inr (.inl rfl))
        exact ⟨rfl, ((tA.mono (fun _ h => h.elim)).then (t2.mono (fun j hj => by subst hj; exact hFB))).then (t4.mono (fun j hj => by subst hj; exact hfb)), _, _, m4, fun j hj => .inl (hF j (foot_del hj))⟩
      · have e1 : removeC S s.data.toList = 3 := by unfold removeC; rw [hr, m.get, hg]; simp [hh]
        have e2 : removeS S s.data.toList = hitS S := by unfold removeS; rw [hr, m.get, hg]; simp [hh]
        rw [e1, e2]
        clear e1 e2
        go_enter Tryz.func21, Tryz.ntmps21
        go_wp2_with (go_at_call 45; refine hf.mono ?_; rintro e w1 ⟨rfl, ht⟩)
        have tA : Turn (fun _ => False) w (w1.alloc (.cells #[.slice p e.d.length c, .int .i64 (e.s : Int)] 84)) := ht.alloc _
        have mA := m.turn tA (fun _ _ => id)
        generalize w1.alloc (.cells #[.slice p e.d.length c, .int .i64 (e.s : Int)] 84) = W at *
        refine (hit_walk W B _ E S hd mA).mono ?_
        rw [hh]
        rintro x w2 ⟨rfl, t2, m2⟩
        go_wp2
        go_ret
        exact ⟨rfl, (tA.mono (fun _ h => h.elim)).then (t2.mono (fun j hj => by subst hj; exact hFB)), _, _, m2, fun j hj => .inl (hF j hj)⟩
  · have hf := find_no w B mv E S s hs m hr
    have e1 : removeC S s.data.toList = refuse S s.data.toList := by unfold removeC; rw [if_pos hr]
    have e2 : removeS S s.data.toList = S := by unfold removeS; rw [if_pos hr]
    rw [e1, e2]
    have hne : (refuse S s.data.toList != 0) = true := by simpa using hr
    clear e1 e2 hr
    generalize refuse S s.data.toList = x at *
    go_enter Tryz.func21, Tryz.ntmps21
    go_wp2_with (go_at_call 45; refine hf.mono ?_; rintro e w' ⟨rfl, ht⟩)
    go_ret
    exact ⟨rfl, (ht.alloc _).mono (fun _ h => h.elim), mv, E, m.turn (ht.alloc _) (fun _ _ => id), fun j hj => .inl (hF j hj)⟩

set_option maxRecDepth 100000 in
set_option maxHeartbeats 2000000 in
theorem Cut_walk (w : World) (B : Nat) (F : Nat → Prop) (S : Dk) (s : ByteArray) (z : Int) (hs : s.size ≤ maxLen) (h : DAt w B F S) :
    Calls Tryz.prog 22 #[.pointer (some ⟨B, 0, none⟩), .string s, .int .i64 z] w fun e w' => e = .returned (.int .i64 (cutC S s.data.toList z)) ∧ Turn F w w' ∧ DAt w' B (NF w F) (cutS S s.data.toList z) := by
  obtain ⟨mv, E, m, hF⟩ := h
  have hFB := hF B (.inl rfl)
  by_cases hr : refuse S s.data.toList = 0
  · cases hg : getK Ent.n s.data.toList E with
    | none =>
      have hf := find_none w B mv E S s hs m hr hg
      have e1 : cutC S s.data.toList z = 6 := by unfold cutC; rw [hr, m.get, hg]; rfl
      have e2 : cutS S s.data.toList z = S := by unfold cutS; rw [hr, m.get, hg]; rfl
      rw [e1, e2]
      clear e1 e2 hg hr
      go_enter Tryz.func22, Tryz.ntmps22
      go_wp2_with (go_at_call 45; refine hf.mono ?_; rintro e w' ⟨rfl, ht⟩)
      go_ret
      exact ⟨rfl, (ht.alloc _).mono (fun _ h => h.elim), mv, E, m.turn (ht.alloc _) (fun _ _ => id), fun j hj => .inl (hF j hj)⟩
    | some e =>
      have hf := find_some w B mv E S s hs m hr e hg
      have hem := (getK_some hg).1
      have hen := (getK_some hg).2
      obtain ⟨p, c, hv⟩ := m.form hem
      rw [hv] at hf
      have hd := (refuse_up hr).1
      have hbd := m.bound hem
      by_cases hz : z < 0 ∨ (e.d.length : Int) < z
      · have e1 : cutC S s.data.toList z = 1 := by unfold cutC; rw [hr, m.get, hg]; simp only [Option.map_some, Ent.fl]; rw [if_neg (by simp), if_pos hz]
        have e2 : cutS S s.data.toList z = S := by unfold cutS; rw [hr, m.get, hg]; simp only [Option.map_some, Ent.fl]; rw [if_neg (by simp), if_pos hz]
        rw [e1, e2]
        clear e1 e2
        by_cases hz0 : z < 0
        · go_enter Tryz.func22, Tryz.ntmps22
          go_wp2_with (go_at_call 45; refine hf.mono ?_; rintro e w1 ⟨rfl, ht⟩)
          go_ret
          exact ⟨rfl, (ht.alloc _).mono (fun _ h => h.elim), mv, E, m.turn (ht.alloc _) (fun _ _ => id), fun j hj => .inl (hF j hj)⟩
        · have hz1 : (e.d.length : Int) < z := by omega
          have hz2 : 0 ≤ z := by omega
          go_enter Tryz.func22, Tryz.ntmps22
          go_wp2_with (go_at_call 45; refine hf.mono ?_; rintro e w1 ⟨rfl, ht⟩)
          go_ret
          exact ⟨rfl, (ht.alloc _).mono (fun _ h => h.elim), mv, E, m.turn (ht.alloc _) (fun _ _ => id), fun j hj => .inl (hF j hj)⟩
      · obtain ⟨k, rfl⟩ : ∃ k : Nat, z = k := ⟨z.toNat, by omega⟩
        have hk : k ≤ e.d.length := by omega
        have c1 : cutC S s.data.toList k = if hitB S then 3 else 0 := by unfold cutC; rw [hr, m.get, hg]; simp only [Option.map_some, Ent.fl]; rw [if_neg (by simp), if_neg hz]
        have c2 : cutS S s.data.toList k = if hitB S then hitS S else { hitS S with fs := putK Fl.n ⟨s.data.toList, e.d.take k, k⟩ S.fs } := by unfold cutS; rw [hr, m.get, hg]; simp only [Option.map_some, Ent.fl, Int.toNat_natCast]; rw [if_neg (by simp), if_neg hz]
        rw [c1]
        clear c1 hz
        cases hh : hitB S
        · rw [hh] at c2
          have hwell : Well (cutS S s.data.toList k) := by
            rw [c2]
            exact well_put (f := ⟨s.data.toList, e.d.take k, k⟩) (g := e.fl) m.well (by rw [m.get, hg]; rfl) (by have := m.well.room; simp [Ent.fl]; omega) (by simp; omega) rfl (hitS_fs S).2 (well_hit m.well).arm
          rw [c2] at hwell ⊢
          clear c2
          obtain ⟨b, hmv, _⟩ := m.entry hem
          subst hmv
          go_enter Tryz.func22, Tryz.ntmps22
          go_wp2_with (go_at_call 45; refine hf.mono ?_; rintro e w1 ⟨rfl, ht⟩)
          have tA : Turn (fun _ => False) w (w1.alloc (.cells #[.slice p e.d.length c, .int .i64 (e.s : Int)] 84)) := ht.alloc _
          have k0 : (w1.alloc (.cells #[.slice p e.d.length c, .int .i64 (e.s : Int)] 84)).heap[w1.heap.size]? = some (.cells #[.slice p e.d.length c, .int .i64 (e.s : Int)] 84 (0, 0)) := heap_alloc_new w1 _
          have hw1 : w.heap.size ≤ w1.heap.size := ht.size
          have mA := m.turn tA (fun _ _ => id)
          generalize w1.alloc (.cells #[.slice p e.d.length c, .int .i64 (e.s : Int)] 84) = W at *
          have ngB : w1.heap.size ≠ B := fun q => by have := m.lt B (.inl rfl); omega
          have cW : W.cell? ⟨w1.heap.size, 0, none⟩ = some (.slice p e.d.length c) := cell_obj k0 0
          have hk' : (k : Int) ≤ (e.d.length : Int) := by omega
          generalize hgg : w1.heap.size = g at *
          clear hgg
          refine (hit_walk W B _ E S hd mA).mono ?_
          rw [hh]
          rintro x w2 ⟨rfl, t2, m2⟩
          have k2 := t2.same k0 ngB
          have cB : w2.cell? ⟨B, 1, none⟩ = some (.map (some b)) := cell_obj m2.obj 1
          have c0 : w2.cell? ⟨g, 0, none⟩ = some (.slice p e.d.length c) := cell_obj k2 0
          obtain ⟨i0, hi, hz0, hz1, hz2⟩ := info_parts info_u8
          have ho2 := m2.own e hem
          rw [hv] at ho2
          obtain ⟨x', hsl, hrow⟩ := cut_to (ki := .i64) Tryz.underlying33 hi hz1 (row_of_sl ho2) k hk
          clear cW k0 mA
          go_wp2
          have hld : (e.d.take k).length = k := by simp; omega
          have tD : Turn (fun _ => False) w2 w2.drew := (Turn.refl _ _).drew
          have hcl := clone_walk _ _ _ w2.drew (hrow.turn tD (fun _ _ => id)) (by rw [hld]; omega)
          rw [hld] at hcl
          have hup : ∀ (v : Value) (w5 : World), OwnSl w5 5 1 v k ((e.d.take k).map (Value.int .u8)) → (∀ j, v.ownBlock = some j → w2.drew.heap.size ≤ j) → Turn (fun _ => False) w2.drew w5 →
              ∃ w6, (Instr.mapUpdate 64 (.map (some b)) (.string s) (.agg #[v, .int .i64 (k : Int)])).run Tryz.prog w5 = .ok () w6 ∧ Turn (fun j => j = b) w5 w6 ∧ DMem w6 B (some b) (putK Ent.n ⟨s.data.toList, v, e.d.take k, k⟩ E) { hitS S with fs := putK Fl.n ⟨s.data.toList, e.d.take k, k⟩ S.fs } := by
            intro v w5 h1 h2 h3
            have m5 := m2.turn (tD.then h3) (fun _ _ => id)
            refine m5.updateAt ⟨s.data.toList, v, e.d.take k, k⟩ hs rfl m5.ofMap (by rw [hld]; exact h1) (fun x hx hn j hj1 hj2 => ?_) (by rw [(hitS_fs S).1]; rfl) hwell
            have q1 := m2.lt j (.inr (.inr ⟨x, hx, hj1⟩))
            have q2 := h2 j hj2
            have q3 : w2.drew.heap.size = w2.heap.size := rfl
            omega
          have Hl := hide hld
          clear hld
          go_region_with (go_at_call 40; refine hcl.mono ?_; rintro x w5 ⟨v, rfl, h51, h52, h53⟩; have cB5 := (tD.then h53).cell cB id; obtain ⟨w6, hu, t6, m6⟩ := hup v w5 h51 h52 h53; obtain ⟨p5, c5, rfl⟩ := h51.form)
          all_goals
            go_wp2
            go_ret
            have hfb : F b := hF b (.inr (.inl rfl))
            refine ⟨rfl, (((tA.mono (fun _ h => h.elim)).then (t2.mono (fun j hj => by subst hj; exact hFB))).then ((tD.then h53).mono (fun _ h => h.elim))).then (t6.mono (fun j hj => by subst hj; exact hfb)), _, _, m6, fun j hj => ?_⟩
            rcases foot_put hj with hj | hj
            · exact .inl (hF j hj)
            · have q1 := h52 j hj
              have q2 := tA.size
              have q3 := t2.size
              have q4 : w2.drew.heap.size = w2.heap.size := rfl
              exact .inr (by omega)
        · rw [hh] at c2
          rw [c2]
          clear c2
          go_enter Tryz.func22, Tryz.ntmps22
          go_wp2_with (go_at_call 45; refine hf.mono ?_; rintro e w1 ⟨rfl, ht⟩)
          have tA : Turn (fun _ => False) w (w1.alloc (.cells #[.slice p e.d.length c, .int .i64 (e.s : Int)] 84)) := ht.alloc _
          have mA := m.turn tA (fun _ _ => id)
          generalize w1.alloc (.cells #[.slice p e.d.length c, .int .i64 (e.s : Int)] 84) = W at *
          refine (hit_walk W B _ E S hd mA).mono ?_
          rw [hh]
          rintro x w2 ⟨rfl, t2, m2⟩
          go_wp2
          go_ret
          exact ⟨rfl, (tA.mono (fun _ h => h.elim)).then (t2.mono (fun j hj => by subst hj; exact hFB)), _, _, m2, fun j hj => .inl (hF j hj)⟩
  · have hf := find_no w B mv E S s hs m hr
    have e1 : cutC S s.data.toList z = refuse S s.data.toList := by unfold cutC; rw [if_pos hr]
    have e2 : cutS S s.data.toList z = S := by unfold cutS; rw [if_pos hr]
    rw [e1, e2]
    have hne : (refuse S s.data.toList != 0) = true := by simpa using hr
    clear e1 e2 hr
    generalize refuse S s.data.toList = x at *
    go_enter Tryz.func22, Tryz.ntmps22
    go_wp2_with (go_at_call 45; refine hf.mono ?_; rintro e w' ⟨rfl, ht⟩)
    go_ret
    exact ⟨rfl, (ht.alloc _).mono (fun _ h => h.elim), mv, E, m.turn (ht.alloc _) (fun _ _ => id), fun j hj => .inl (hF j hj)⟩
end Go.Proofs.YthikiahhochjmaaGreatDoor


namespace Go.Proofs.YthikiahhochjmaaGreatDoor
open Go.RowKit
set_option linter.unusedVariables false

/-- a world in which nothing of W has turned -/
structure After (W : World) where
  w : World
  bel : Below W.heap.size W w

/-- lay it ahead of such a walk -/
theorem after_ne (W : World) : Nonempty (After W) := ⟨⟨W, Below.refl _ _⟩⟩

theorem wp_region_after {P : Program} {id : Nat} {Q : Exit → Act → World → Prop} {a : Act} {w : World} {l : List Oper} (hm : P.follows .mixedOrders = true) (hB : Region.lexB .any l.toArray = true)
    (h : wpQuiet P l.toArray (fun w' => ∃ p : After w, w' = p.w) (fun a' => ∀ w', (∃ p : After w, w' = p.w) → Q .normal a' w') l a) : (Code.region id l.toArray true).wp P Q a w :=
  wp_region_quiet (C := fun w' => ∃ p : After w, w' = p.w) hm hB ⟨⟨w.drew, (Below.refl _ _).drew⟩, rfl⟩ (by simpa using h)

theorem after_of {P : Program} {f : FuncId} {args : Array Value} {W : World} (p : After W) {v : Value}
    (h : Calls P f args p.w fun e w' => e = .returned v ∧ Below p.w.heap.size p.w w') : Calls P f args p.w fun e w'' => e = .returned v ∧ ∃ q : After W, w'' = q.w :=
  h.mono fun _ w' ⟨he, hb⟩ => ⟨he, ⟨w', below_then p.bel hb⟩, rfl⟩
theorem after_same {P : Program} {f : FuncId} {args : Array Value} {W : World} (p : After W) {v : Value}
    (h : Calls P f args p.w fun e w' => e = .returned v ∧ w' = p.w) : Calls P f args p.w fun e w'' => e = .returned v ∧ ∃ q : After W, w'' = q.w :=
  h.mono fun _ w' ⟨he, hb⟩ => ⟨he, p, hb⟩
end Go.Proofs.YthikiahhochjmaaGreatDoor


namespace Go.Proofs.YthikiahhochjmaaGreatDoor
open Go.RowKit Go.Maps
set_option linter.unusedVariables false

set_option maxHeartbeats 400000 in
theorem sclone_walk (s : ByteArray) (w : World) (hs : s.size ≤ 281474976710656) : Calls Tryz.prog 64 #[.string s] w fun e w' => e = .returned (.string s) ∧ Turn (fun _ => False) w w' := by
  go_enter Tryz.func64, Tryz.ntmps64
  go_wp2_with (go_at_call 80; refine (Tryz.stringslite_Clone s _ hs).mono ?_; rintro e w' ⟨rfl, hb⟩)
  go_ret
  exact ⟨rfl, Turn.of_below hb⟩

set_option maxRecDepth 100000 in
theorem eq_nilmap (w : World) (a : Option Nat) : (binOp .eql 64 (.map a) (.map none)).run Tryz.prog w = .ok (.bool a.isNone) w := by cases a <;> rfl

set_option maxRecDepth 100000 in
set_option maxHeartbeats 2000000 in
theorem create_some (w : World) (B b : Nat) (E : List Ent) (S S' : Dk) (e : Ent) (p : Option Addr) (n c : Nat) (s : ByteArray) (hs : s.size ≤ 16) (m : DMem w B (some b) E S) (hn : e.n = s.data.toList) (hv : e.v = .slice p n c)
    (he : OwnSl w 5 1 e.v e.d.length (e.d.map (Value.int .u8))) (hap : ∀ x ∈ E, x.n ≠ e.n → apartR x e) (hfs : S' = { S with fs := putK Fl.n e.fl S.fs }) (hw : Well S') :
    Calls Tryz.prog 49 #[.pointer (some ⟨B, 0, none⟩), .string s, .agg #[.slice p n c, .int .i64 (e.s : Int)]] w fun x w' => x = .returned (.tuple #[]) ∧ Turn (fun j => j = B ∨ j = b) w w' ∧ DMem w' B (some b) (putK Ent.n e E) S' := by
  have tA : Turn (fun _ => False) w (w.alloc (.cells #[.slice p n c, .int .i64 (e.s : Int)] 84)) := (Turn.refl _ w).alloc _
  have k0 : (w.alloc (.cells #[.slice p n c, .int .i64 (e.s : Int)] 84)).heap[w.heap.size]? = some (.cells #[.slice p n c, .int .i64 (e.s : Int)] 84 (0, 0)) := heap_alloc_new w _
  have mA := m.turn tA (fun _ _ => id)
  have heA := he.turn tA (fun _ _ => id)
  have hq := eq_nilmap
  go_enter Tryz.func49, Tryz.ntmps49
  have cB : (w.alloc (.cells #[.slice p n c, .int .i64 (e.s : Int)] 84)).cell? ⟨B, 1, none⟩ = some (.map (some b)) := cell_obj mA.obj 1
  go_wp2
  generalize w.alloc (.cells #[.slice p n c, .int .i64 (e.s : Int)] 84) = W at *
  generalize hgg : w.heap.size = g at *
  clear hgg
  have c0 : W.cell? ⟨g, 0, none⟩ = some (.slice p n c) := cell_obj k0 0
  have c1 : W.cell? ⟨g, 1, none⟩ = some (.int .i64 (e.s : Int)) := cell_obj k0 1
  have tD : Turn (fun _ => False) W W.drew := (Turn.refl _ _).drew
  have hcl := sclone_walk s W.drew (by omega)
  have hup : ∀ (w5 : World), Turn (fun _ => False) W.drew w5 → ∃ w6, (Instr.mapUpdate 64 (.map (some b)) (.string s) (.agg #[.slice p n c, .int .i64 (e.s : Int)])).run Tryz.prog w5 = .ok () w6 ∧ Turn (fun j => j = b) w5 w6 ∧ DMem w6 B (some b) (putK Ent.n e E) S' := by
    intro w5 h3
    have m5 := mA.turn (tD.then h3) (fun _ _ => id)
    have := m5.updateAt e (s := s) (by unfold maxLen; omega) hn m5.ofMap (heA.turn (tD.then h3) (fun _ _ => id)) hap hfs hw
    rw [hv] at this
    exact this
  clear heA he hap hfs hw mA m k0
  go_region_with (go_at_call 64; refine hcl.mono ?_; rintro x w5 ⟨rfl, h53⟩; have cB5 := (tD.then h53).cell cB id; have c05 := (tD.then h53).cell c0 id; have c15 := (tD.then h53).cell c1 id; obtain ⟨w6, hu, t6, m6⟩ := hup w5 h53)
  all_goals
    go_wp2
    go_end0
    exact ⟨rfl, ((tA.then (tD.then h53)).mono (fun _ h => h.elim)).then (t6.mono (fun j hj => .inr hj)), m6⟩

set_option maxRecDepth 100000 in
set_option maxHeartbeats 2000000 in
theorem create_none (w : World) (B : Nat) (E : List Ent) (S S' : Dk) (e : Ent) (p : Option Addr) (n c : Nat) (s : ByteArray) (hs : s.size ≤ 16) (m : DMem w B none E S) (hn : e.n = s.data.toList) (hv : e.v = .slice p n c)
    (he : OwnSl w 5 1 e.v e.d.length (e.d.map (Value.int .u8))) (hfs : S' = { S with fs := putK Fl.n e.fl S.fs }) (hw : Well S') :
    Calls Tryz.prog 49 #[.pointer (some ⟨B, 0, none⟩), .string s, .agg #[.slice p n c, .int .i64 (e.s : Int)]] w fun x w' => x = .returned (.tuple #[]) ∧ Turn (fun j => j = B) w w' ∧ ∃ b, w.heap.size ≤ b ∧ DMem w' B (some b) (putK Ent.n e E) S' := by
  have hmm := @run_makeMap Tryz.prog
  have hE : E = [] := by
    rcases m.map with ⟨_, h1⟩ | ⟨b, h1, _⟩
    · exact h1
    · cases h1
  have hBl := m.lt B (.inl rfl)
  have hsz0 : (w.setCell ⟨B, 1, none⟩ (.map (some (w.heap.size + 1)))).heap.size = w.heap.size := by simp [World.setCell]
  have t0 : Turn (fun j => j = B) w (w.setCell ⟨B, 1, none⟩ (.map (some (w.heap.size + 1)))) := (Turn.refl (fun j => j = B) _).setCell (p := ⟨B, 1, none⟩) (.inl rfl) _
  have hB0 := heap_setCell_obj (j := 1) m.obj (.map (some (w.heap.size + 1)))
  have t1 : Turn (fun _ => False) (w.setCell ⟨B, 1, none⟩ (.map (some (w.heap.size + 1)))) (((w.setCell ⟨B, 1, none⟩ (.map (some (w.heap.size + 1)))).alloc (.cells #[.slice p n c, .int .i64 (e.s : Int)] 84)).alloc (.map #[] 0)) := ((Turn.refl _ _).alloc _).alloc _
  have tW := t0.trans t1 (fun _ h => h.elim)
  have kW : (((w.setCell ⟨B, 1, none⟩ (.map (some (w.heap.size + 1)))).alloc (.cells #[.slice p n c, .int .i64 (e.s : Int)] 84)).alloc (.map #[] 0)).heap[w.heap.size]? = some (.cells #[.slice p n c, .int .i64 (e.s : Int)] 84 (0, 0)) := by
    have h1 := heap_alloc_new (w.setCell ⟨B, 1, none⟩ (.map (some (w.heap.size + 1)))) (.cells #[.slice p n c, .int .i64 (e.s : Int)] 84)
    rw [hsz0] at h1
    exact Turn.same (F := fun _ => False) ((Turn.refl _ _).alloc (.map #[] 0)) h1 id
  have oW := World.ownsMap_made ((w.setCell ⟨B, 1, none⟩ (.map (some (w.heap.size + 1)))).alloc (.cells #[.slice p n c, .int .i64 (e.s : Int)] 84)) Tryz.prog 9 rawR
  rw [show ((w.setCell ⟨B, 1, none⟩ (.map (some (w.heap.size + 1)))).alloc (.cells #[.slice p n c, .int .i64 (e.s : Int)] 84)).heap.size = w.heap.size + 1 by simp [hsz0]] at oW
  subst hE
  have mA : DMem (((w.setCell ⟨B, 1, none⟩ (.map (some (w.heap.size + 1)))).alloc (.cells #[.slice p n c, .int .i64 (e.s : Int)] 84)).alloc (.map #[] 0)) B (some (w.heap.size + 1)) [] S :=
    ⟨t1.same hB0 id, .inr ⟨_, rfl, oW⟩, by simp, List.Pairwise.nil, m.fs, m.well⟩
  have heA := he.turn tW (he.neObj m.obj (by decide))
  have c1 : w.cell? ⟨B, 1, none⟩ = some (.map none) := cell_obj m.obj 1
  have f1 : w.frozen? ⟨B, 1, none⟩ = false := frozen_obj m.obj 1
  have Hb : Hid (w.heap.size ≤ w.heap.size + 1) := hide (by omega)
  have hq := eq_nilmap
  clear t0 t1 hB0 oW hsz0 he m
  go_enter Tryz.func49, Tryz.ntmps49
  go_wp2
  generalize ((w.setCell ⟨B, 1, none⟩ (.map (some (w.heap.size + 1)))).alloc (.cells #[.slice p n c, .int .i64 (e.s : Int)] 84)).alloc (.map #[] 0) = W at *
  generalize hbb : w.heap.size + 1 = b at *
  generalize hgg : w.heap.size = g at *
  have Hgg := hide hgg
  clear hgg hbb c1 f1
  have cB : W.cell? ⟨B, 1, none⟩ = some (.map (some b)) := cell_obj mA.obj 1
  have c0 : W.cell? ⟨g, 0, none⟩ = some (.slice p n c) := cell_obj kW 0
  have c1 : W.cell? ⟨g, 1, none⟩ = some (.int .i64 (e.s : Int)) := cell_obj kW 1
  have tD : Turn (fun _ => False) W W.drew := (Turn.refl _ _).drew
  have hcl := sclone_walk s W.drew (by omega)
  have hup : ∀ (w5 : World), Turn (fun _ => False) W.drew w5 → ∃ w6, (Instr.mapUpdate 64 (.map (some b)) (.string s) (.agg #[.slice p n c, .int .i64 (e.s : Int)])).run Tryz.prog w5 = .ok () w6 ∧ Turn (fun j => j = b) w5 w6 ∧ DMem w6 B (some b) (putK Ent.n e []) S' := by
    intro w5 h3
    have m5 := mA.turn (tD.then h3) (fun _ _ => id)
    have := m5.updateAt e (s := s) (by unfold maxLen; omega) hn m5.ofMap (heA.turn (tD.then h3) (fun _ _ => id)) (by simp) hfs hw
    rw [hv] at this
    exact this
  clear heA hfs hw mA kW
  go_region_with (go_at_call 64; refine hcl.mono ?_; rintro x w5 ⟨rfl, h53⟩; have cB5 := (tD.then h53).cell cB id; have c05 := (tD.then h53).cell c0 id; have c15 := (tD.then h53).cell c1 id; obtain ⟨w6, hu, t6, m6⟩ := hup w5 h53)
  all_goals
    go_wp2
    go_end0
    have h1 := unhide Hb
    rw [← unhide Hgg] at h1
    exact ⟨rfl, (tW.trans (tD.then h53) (fun _ h => h.elim)).trans t6 (fun j hj => .inr (by subst hj; exact h1)), b, h1, m6⟩

end Go.Proofs.YthikiahhochjmaaGreatDoor


namespace Go.Proofs.YthikiahhochjmaaGreatDoor
open Go.RowKit Go.Maps
set_option linter.unusedVariables false

/-- append onto a slice of one's own, of a row of bytes -/
theorem append_sl {P : Program} {w : World} {t ty e : TypeId} {i : TypeInfo} {z : Value} (ht : P.underlying t = some (.slice e)) (hi : P.info? e = some i) (hz : i.zero = some z)
    (hsize : i.size = 1) (hby : i.bytes = 1) (hzs : z.cells.size = 1) {v x : Value} {k : IntKind} {Bk : Nat → Prop} {xs zs : List Int} (h : OwnSl w e 1 v xs.length (xs.map (Value.int k))) (hx : Row k Bk w x zs) (hm : xs.length + zs.length ≤ 140737488355328) :
    ∃ v' w', (Builtin.append_ #[t, t] ty #[v, x]).run P w = .ok v' w' ∧ OwnSl w' e 1 v' (xs ++ zs).length ((xs ++ zs).map (Value.int k)) ∧ Turn (fun j => v.ownBlock = some j) w w' ∧ (∀ j, v'.ownBlock = some j → v.ownBlock = some j ∨ w.heap.size ≤ j) := by
  have none_case : ∀ (a : Option Addr) (c : Nat), (a = none → c = 0) → zs = [] → x = .slice a 0 c → ∃ v' w', (Builtin.append_ #[t, t] ty #[v, x]).run P w = .ok v' w' ∧ OwnSl w' e 1 v' (xs ++ zs).length ((xs ++ zs).map (Value.int k)) ∧ Turn (fun j => v.ownBlock = some j) w w' ∧ (∀ j, v'.ownBlock = some j → v.ownBlock = some j ∨ w.heap.size ≤ j) := by
    rintro a c ha rfl rfl
    refine ⟨v, w, ?_, by simpa using h, Turn.refl _ _, fun j hj => .inl hj⟩
    rcases h.2 with ⟨rfl, h0⟩ | ⟨g, off, cap, cur, rfl, hg, hnc, hcm, hfit, htk⟩
    · cases a <;> simp [Builtin.append_, run_underlying ht, sizeOf, typeInfo, hi, Builtin.lenOf, Builtin.firstCells, loadCells, loadCellsFrom, Result.andThen]
    · cases a <;> simp [Builtin.append_, run_underlying ht, sizeOf, typeInfo, hi, Builtin.lenOf, Builtin.firstCells, hnc, storeCells, loadCells, loadCellsFrom, Result.andThen]
  rcases hx with ⟨a, c, hx, ha, _, hzs0⟩ | ⟨b, off, c, rfl, h1, h2, h3, h4⟩
  · exact none_case a c ha hzs0 hx
  · by_cases h0 : zs.length = 0
    · have hz0 := List.eq_nil_of_length_eq_zero h0
      exact none_case (some ⟨b, off, none⟩) c (fun h => by cases h) hz0 (by rw [h0])
    · obtain ⟨g, off', cap, w', hrun, q, gr, hl⟩ := run_append_sl (P := P) (w := w) (t := t) (ty := ty) ht hi hz hsize hby hzs (by omega) h ⟨b, off, none⟩ zs.length c (zs.map (Value.int k)) (by simp) (fun j u hu => by
          obtain ⟨hj, rfl⟩ := getD_map hu
          rw [Addr.add_lit]
          exact h4 j hj) (ints_oneCell _ _) (by unfold maxLen; omega) (by omega) (by omega)
      refine ⟨_, w', hrun, by rw [List.length_append, List.map_append]; exact q, Turn.grown gr (fun j hj => hj), fun j hj => ?_⟩
      simp [Value.ownBlock] at hj
      subst hj
      exact hl

theorem Turn.bel {w w' : World} (h : Turn (fun _ => False) w w') : Below w.heap.size w w' := h.below (fun _ h => h.elim) (Nat.le_refl _)
/-- what the size is asked for, in whatever world behind -/
theorem DMem.afters {W : World} {B : Nat} {mv : Option Nat} {E : List Ent} {S : Dk} (m : DMem W B mv E S) :
    (∀ p : After W, p.w.cell? ⟨B, 0, none⟩ = some (.int .i64 (S.size : Int))) ∧ (∀ p : After W, p.w.cell? ⟨B, 1, none⟩ = some (.map mv)) ∧
    (∀ (p : After W) (ty : TypeId), (Builtin.len_ #[64] ty #[.map mv]).run Tryz.prog p.w = .ok (.int .i64 (E.length : Int)) p.w) ∧
    (∀ p : After W, Calls Tryz.prog 48 #[.pointer (some ⟨B, 0, none⟩)] p.w fun e w' => e = .returned (.int .i64 (used S.fs : Nat)) ∧ Below p.w.heap.size p.w w') := by
  have key : ∀ p : After W, DMem p.w B mv E S := fun p => m.turn (Turn.of_below (F := fun _ => False) p.bel) (fun _ _ => id)
  refine ⟨fun p => cell_obj (key p).obj 0, fun p => cell_obj (key p).obj 1, fun p ty => ?_, fun p => (used_walk _ B mv E S (key p)).mono (fun e w' h => ⟨h.1, h.2.bel⟩)⟩
  rcases (key p).map with ⟨rfl, rfl⟩ | ⟨b, rfl, ho⟩
  · exact Maps.len_nil Tryz.underlying64 ty
  · have := ho.len (ty := ty) Tryz.underlying64
    rwa [DD_size] at this

/-- 'd.files[name] = f', where the old file's own bytes may have turned -/
theorem updateBut {w : World} {B b : Nat} {E : List Ent} {S S' : Dk} (e : Ent) {s : ByteArray} (hs : s.size ≤ maxLen) (hn : e.n = s.data.toList)
    (hobj : w.heap[B]? = some (.cells #[.int .i64 (S.size : Int), .map (some b), .bool S.down, .int .u64 (S.arm : Int)] 66 (0, 0)))
    (ho : w.ownsMap Tryz.prog 9 rawR b E.length (DD E)) (hcount : E.length ≤ 64)
    (hown : ∀ x ∈ E, x.n ≠ e.n → OwnSl w 5 1 x.v x.d.length (x.d.map (Value.int .u8)))
    (he : OwnSl w 5 1 e.v e.d.length (e.d.map (Value.int .u8))) (hapE : E.Pairwise apartR) (hap : ∀ x ∈ E, x.n ≠ e.n → apartR x e) (hfsE : S.fs = E.map Ent.fl) (hfs : S' = { S with fs := putK Fl.n e.fl S.fs }) (hw : Well S') :
    ∃ w', (Instr.mapUpdate 64 (.map (some b)) (.string s) (.agg #[e.v, .int .i64 (e.s : Int)])).run Tryz.prog w = .ok () w' ∧ Turn (fun j => j = b) w w' ∧ DMem w' B (some b) (putK Ent.n e E) S' := by
  have hneB : B ≠ b := fun q => by obtain ⟨es, cl, hb, _⟩ := ho; rw [← q, hobj] at hb; cases hb
  obtain ⟨w4, hu, o4, g4⟩ := World.ownsMap.update (w := w) ho dLaw Tryz.underlying64 (by unfold maxLen; omega) (dKey hs) (rawR_eq (.agg #[e.v, .int .i64 (e.s : Int)]))
  have t4 : Turn (fun j => j = b) w w4 := Turn.grown (F := fun j => j = b) g4 (fun k e => by cases e; rfl)
  refine ⟨w4, hu, t4, DMem.mk_put (k := E.length + 1) ?_ ?_ ?_ ?_ hapE hap ?_ hw⟩
  · rw [hfs]; exact t4.same hobj hneB
  · rw [hn]; exact o4
  · exact fun x hx hxn => (hown x hx hxn).turn t4 ((hown x hx hxn).neMap ho)
  · exact he.turn t4 (he.neMap ho)
  · rw [hfs, ← hfsE]
theorem appS_old {S : Dk} {n : Nm} {zs : List Int} {f : Fl} (h : getK Fl.n n S.fs = some f) : appS S n zs = { S with fs := putK Fl.n ⟨n, f.d ++ zs, f.s⟩ S.fs } := by
  unfold appS fileOf; rw [h]; rfl
theorem appS_new {S : Dk} {n : Nm} {zs : List Int} (h : getK Fl.n n S.fs = none) : appS S n zs = { S with fs := putK Fl.n ⟨n, zs, 0⟩ S.fs } := by
  unfold appS fileOf; rw [h]; rfl
def hitC (S : Dk) : Int := if hitB S then 3 else 0
theorem hit_app (S : Dk) (n : Nm) (zs : List Int) : hitB (appS S n zs) = hitB S ∧ (appS S n zs).down = S.down := ⟨rfl, rfl⟩
theorem info_u8' : ∃ i, Tryz.prog.info? 5 = some i ∧ i.zero = some (.int .u8 0) ∧ i.size = 1 ∧ i.bytes = 1 := by
  obtain ⟨i0, hi, hz0, hz1, hz2⟩ := info_parts info_u8
  exact ⟨i0, hi, hz0, hz1, hz2⟩

set_option maxRecDepth 100000 in
set_option maxHeartbeats 1000000 in
theorem append_old (w : World) (B : Nat) (F : Nat → Prop) (Bk : Nat → Prop) (mv : Option Nat) (E : List Ent) (S : Dk) (s : ByteArray) (bv : Value) (zs : List Int) (hs : s.size ≤ maxLen) (m : DMem w B mv E S) (hF : ∀ j, DFoot B mv E j → F j) (hrow : Row .u8 Bk w bv zs)
    (hr : refuse S s.data.toList = 0) (e : Ent) (hg : getK Ent.n s.data.toList E = some e) (hful : fullB S s.data.toList zs = false) :
    Calls Tryz.prog 23 #[.pointer (some ⟨B, 0, none⟩), .string s, bv] w fun x w' => x = .returned (.int .i64 (hitC S)) ∧ Turn F w w' ∧ DAt w' B (NF w F) (hitS (appS S s.data.toList zs)) := by
  have hrf := refusal_walk w B mv E S s hs m
  rw [hr] at hrf
  have hl := (m.look hs).2 e hg
  have hem := (getK_some hg).1
  have hen := (getK_some hg).2
  obtain ⟨p, c, hv⟩ := m.form hem
  rw [hv] at hl
  obtain ⟨a', c', hbv⟩ := hrow.slice
  subst hbv
  have cB : w.cell? ⟨B, 1, none⟩ = some (.map mv) := cell_obj m.obj 1
  have tA : Turn (fun _ => False) w (w.alloc (.cells #[.slice p e.d.length c, .int .i64 (e.s : Int)] 84)) := (Turn.refl _ w).alloc _
  have k0 : (w.alloc (.cells #[.slice p e.d.length c, .int .i64 (e.s : Int)] 84)).heap[w.heap.size]? = some (.cells #[.slice p e.d.length c, .int .i64 (e.s : Int)] 84 (0, 0)) := heap_alloc_new w _
  have mA := m.turn tA (fun _ _ => id)
  have hrowA := hrow.turn tA (fun _ _ => id)
  have hsz := m.well.size
  have hroom := m.well.room
  have hzl := hrow.len
  unfold maxLen at hzl
  obtain ⟨ac0, ac1, ac2, ac3⟩ := mA.afters
  have hA : decide ((S.size : Int) - (used S.fs : Nat) < (zs.length : Int)) = false := by
    simp [fullB] at hful
    simp
    omega
  go_enter Tryz.func23, Tryz.ntmps23
  go_wp2_with (go_at_call 47; refine hrf.mono ?_; rintro x w0 ⟨rfl, hw0⟩; have hw0 := hw0.symm; subst hw0)
  generalize w.alloc (.cells #[.slice p e.d.length c, .int .i64 (e.s : Int)] 84) = W at *
  have hne := after_ne W
  refine wp_region_after (by kernel_rfl) (by kernel_rfl) ?_
  repeat (go_big_quiet_step ((go_at_call 48; exact after_of _ (ac3 _))))
  refine wpQuiet_nil ?_
  rintro _ ⟨q, rfl⟩
  have tQ : Turn (fun _ => False) W q.w := Turn.of_below q.bel
  have mQ := mA.turn tQ (fun _ _ => id)
  have kQ := tQ.same k0 id
  have rowQ := hrowA.turn tQ (fun _ _ => id)
  have oQ := mQ.own e hem
  rw [hv] at oQ
  have hbd := m.bound hem
  have hzb : zs.length ≤ 16777216 := by
    simp at hA
    omega
  obtain ⟨b, hmv, _⟩ := m.entry hem
  subst hmv
  have tq : Turn (fun _ => False) w q.w := tA.then tQ
  generalize q.w = u at *
  clear ac0 ac1 ac2 ac3 hne mA hrowA k0 hA
  obtain ⟨i0, hi, hz0, hz1, hz2⟩ := info_u8'
  obtain ⟨v', w3, hrun, o3, t3, hl3⟩ := append_sl (P := Tryz.prog) (ty := 33) Tryz.underlying33 hi hz0 hz1 hz2 rfl oQ rowQ (by omega)
  obtain ⟨p3, c3, hv3⟩ := o3.form
  subst hv3
  generalize hnl : (e.d ++ zs).length = nl at *
  have Hnl := hide hnl
  clear hnl
  have hgnew : ∀ x ∈ E, ∀ j, x.v.ownBlock = some j → j ≠ w.heap.size := fun x hx j hj q => by have := m.lt j (.inr (.inr ⟨x, hx, hj⟩)); omega
  have k3 := t3.same kQ (fun q => hgnew e hem _ (by rw [hv]; exact q) rfl)
  have c0 : u.cell? ⟨w.heap.size, 0, none⟩ = some (.slice p e.d.length c) := cell_obj kQ 0
  have d0 : w3.cell? ⟨w.heap.size, 0, none⟩ = some (.slice p e.d.length c) := cell_obj k3 0
  have f0 : w3.frozen? ⟨w.heap.size, 0, none⟩ = false := frozen_obj k3 0
  go_wp2_with (at_builtin; refine list_append_run rfl _ _ 33 rfl _ _ _ _ rfl rfl hrun ?_)
  have k4 := heap_setCell_obj (j := 0) k3 (.slice p3 nl c3)
  have t4 : Turn (fun j => j = w.heap.size) w3 (w3.setCell ⟨w.heap.size, 0, none⟩ (.slice p3 nl c3)) := (Turn.refl (fun j => j = w.heap.size) w3).setCell (p := ⟨w.heap.size, 0, none⟩) (.inl rfl) _
  have hbk : ∀ j, (Value.slice p e.d.length c).ownBlock = some j → DFoot B (some b) E j := fun j hj => .inr (.inr ⟨e, hem, by rw [hv]; exact hj⟩)
  have hneB : ¬ (Value.slice p e.d.length c).ownBlock = some B := fun q => oQ.neObj mQ.obj (by decide) B q rfl
  have hneb : ¬ (Value.slice p e.d.length c).ownBlock = some b := fun q => oQ.neMap mQ.ofMap b q rfl
  have hBl := m.lt B (.inl rfl)
  have hbl := m.lt b (.inr (.inl rfl))
  have obj4 := t4.same (t3.same mQ.obj hneB) (by omega)
  have own4 := t4.map (t3.map mQ.ofMap hneb) (by omega)
  have oth4 : ∀ x ∈ E, x.n ≠ s.data.toList → OwnSl (w3.setCell ⟨w.heap.size, 0, none⟩ (.slice p3 nl c3)) 5 1 x.v x.d.length (x.d.map (Value.int .u8)) := fun x hx hn =>
    ((mQ.own x hx).turn t3 (fun j hj hj2 => apart_of m.apart hx hem (by rw [hen]; exact hn) j hj (by rw [hv]; exact hj2))).turn t4 (hgnew x hx)
  have hl3' : ∀ j, (Value.slice p3 nl c3).ownBlock = some j → j ≠ w.heap.size := fun j hj q => by
    rcases hl3 j hj with h | h
    · have := m.lt j (hbk j h); omega
    · have h1 := (Array.getElem?_eq_some_iff.1 kQ).1; omega
  have o4 := o3.turn t4 hl3'
  have hwell : Well (appS S s.data.toList zs) := by
    rw [appS_old (f := e.fl) (by rw [m.get, hg]; rfl)]
    refine well_put (f := ⟨s.data.toList, e.fl.d ++ zs, e.fl.s⟩) (g := e.fl) m.well (by rw [m.get, hg]; rfl) ?_ ?_ rfl rfl m.well.arm
    · simp [fullB] at hful
      simp; omega
    · have := m.well.good e.fl (by rw [m.fs]; exact List.mem_map.2 ⟨e, hem, rfl⟩)
      simp; omega
  have hap4 : ∀ x ∈ E, x.n ≠ s.data.toList → apartR x ⟨s.data.toList, .slice p3 nl c3, e.d ++ zs, e.s⟩ := fun x hx hn j h1 h2 => by
    rcases hl3 j h2 with h | h
    · exact apart_of m.apart hx hem (by rw [hen]; exact hn) j h1 (by rw [hv]; exact h)
    · have := mQ.lt j (.inr (.inr ⟨x, hx, h1⟩)); omega
  obtain ⟨w5, hu, t5, m5⟩ := updateBut (w := (w3.setCell ⟨w.heap.size, 0, none⟩ (.slice p3 nl c3)).drew) (S := S) (S' := appS S s.data.toList zs) ⟨s.data.toList, .slice p3 nl c3, e.d ++ zs, e.s⟩ hs rfl obj4 own4 m.count oth4 (by rw [unhide Hnl]; exact o4) m.apart hap4 m.fs (appS_old (f := e.fl) (by rw [m.get, hg]; rfl)) hwell
  have cB4 : (w3.setCell ⟨w.heap.size, 0, none⟩ (.slice p3 nl c3)).cell? ⟨B, 1, none⟩ = some (.map (some b)) := cell_obj obj4 1
  have b0 : (w3.setCell ⟨w.heap.size, 0, none⟩ (.slice p3 nl c3)).cell? ⟨w.heap.size, 0, none⟩ = some (.slice p3 nl c3) := cell_obj k4 0
  have b1 : (w3.setCell ⟨w.heap.size, 0, none⟩ (.slice p3 nl c3)).cell? ⟨w.heap.size, 1, none⟩ = some (.int .i64 (e.s : Int)) := cell_obj k4 1
  have t45 : Turn F w w5 := by
    have a1 : Turn F w w3 := (tq.mono (fun _ h => h.elim)).then (t3.mono (fun j hj => hF j (hbk j hj)))
    exact (a1.trans t4 (fun j hj => .inr (by omega))).trans (t5.undrew) (fun j hj => .inl (by subst hj; exact hF j (.inr (.inl rfl))))
  have hszq : w.heap.size ≤ u.heap.size := tq.size
  simp only at hu
  clear obj4 own4 oth4 o4 hap4 k4 t4 t5
  generalize w3.setCell ⟨w.heap.size, 0, none⟩ (.slice p3 nl c3) = w4 at *
  have hd := (refuse_up hr).1
  go_region
  go_wp2_with fail
  cases hh : hitB S
  all_goals
    have hw5 := hit_walk w5 B _ _ (appS S s.data.toList zs) hd m5
    rw [(hit_app S s.data.toList zs).1, hh] at hw5
    refine hw5.mono ?_
    rintro x w6 ⟨rfl, t6, m6⟩
    have ht : Turn F w w6 := t45.then (t6.mono (fun j hj => by subst hj; exact hF j (.inl rfl)))
    have hfin : DAt w6 B (NF w F) (hitS (appS S s.data.toList zs)) := by
      refine ⟨_, _, m6, fun j hj => ?_⟩
      rcases foot_put hj with hj | hj
      · exact .inl (hF j hj)
      · rcases hl3 j hj with h | h
        · exact .inl (hF j (hbk j h))
        · exact .inr (by omega)
    have Hh := hide hh
    clear hw5 hh
    go_wp2
    go_ret
    exact ⟨ret_int (by unfold hitC; rw [unhide Hh]; rfl), ht, hfin⟩
end Go.Proofs.YthikiahhochjmaaGreatDoor


namespace Go.Proofs.YthikiahhochjmaaGreatDoor
open Go.RowKit Go.Maps
set_option linter.unusedVariables false

theorem well_new_file {S : Dk} {n : Nm} {zs : List Int} (h : Well S) (hg : getK Fl.n n S.fs = none) (hgood : goodB n = true) (hful : fullB S n zs = false) : Well (appS S n zs) := by
  rw [appS_new hg]
  simp [fullB, hg] at hful
  obtain ⟨u1, u2⟩ := used_new (f := ⟨n, zs, 0⟩) hg
  have hroom := h.room
  have hfiles := h.files
  refine ⟨h.rise.put, fun x hx => ?_, by simp only; rw [u1]; simp; omega, h.size, by simp only; rw [u2]; omega, h.arm⟩
  simp only at hx
  rcases mem_putK.1 hx with rfl | ⟨hx, _⟩
  · exact ⟨hgood, Nat.zero_le _⟩
  · exact h.good x hx

set_option maxRecDepth 100000 in
set_option maxHeartbeats 1000000 in
theorem append_new (w : World) (B : Nat) (F : Nat → Prop) (Bk : Nat → Prop) (mv : Option Nat) (E : List Ent) (S : Dk) (s : ByteArray) (bv : Value) (zs : List Int) (hs : s.size ≤ maxLen) (m : DMem w B mv E S) (hF : ∀ j, DFoot B mv E j → F j) (hrow : Row .u8 Bk w bv zs)
    (hr : refuse S s.data.toList = 0) (hg : getK Ent.n s.data.toList E = none) (hful : fullB S s.data.toList zs = false) :
    Calls Tryz.prog 23 #[.pointer (some ⟨B, 0, none⟩), .string s, bv] w fun x w' => x = .returned (.int .i64 (hitC S)) ∧ Turn F w w' ∧ DAt w' B (NF w F) (hitS (appS S s.data.toList zs)) := by
  have hgS : getK Fl.n s.data.toList S.fs = none := by rw [m.get, hg]; rfl
  have hwell := well_new_file m.well hgS (refuse_up hr).2 hful
  have hs16 : s.size ≤ 16 := by have := (goodB_len (refuse_up hr).2).2; have h2 : s.data.toList.length = s.size := Array.length_toList; omega
  have hrf := refusal_walk w B mv E S s hs m
  rw [hr] at hrf
  have hl := (m.look hs).1 hg
  obtain ⟨a', c', hbv⟩ := hrow.slice
  subst hbv
  have cB : w.cell? ⟨B, 1, none⟩ = some (.map mv) := cell_obj m.obj 1
  have tA : Turn (fun _ => False) w (w.alloc (.cells #[.slice none 0 0, .int .i64 0] 84)) := (Turn.refl _ w).alloc _
  have k0 : (w.alloc (.cells #[.slice none 0 0, .int .i64 0] 84)).heap[w.heap.size]? = some (.cells #[.slice none 0 0, .int .i64 0] 84 (0, 0)) := heap_alloc_new w _
  have mA := m.turn tA (fun _ _ => id)
  have hrowA := hrow.turn tA (fun _ _ => id)
  have hsz := m.well.size
  have hroom := m.well.room
  have hzl := hrow.len
  unfold maxLen at hzl
  obtain ⟨ac0, ac1, ac2, ac3⟩ := mA.afters
  have hful' := hful
  simp [fullB, hgS] at hful'
  have hfl : S.fs.length = E.length := by rw [m.fs]; simp
  have hA : decide ((S.size : Int) - (used S.fs : Nat) < (zs.length : Int)) = false := by simp; omega
  have hE64 : decide ((64 : Int) ≤ (E.length : Int)) = false := by simp; omega
  have Hful := hide hful'
  clear hful'
  go_enter Tryz.func23, Tryz.ntmps23
  go_wp2_with (go_at_call 47; refine hrf.mono ?_; rintro x w0 ⟨rfl, hw0⟩; have hw0 := hw0.symm; subst hw0)
  generalize w.alloc (.cells #[.slice none 0 0, .int .i64 0] 84) = W at *
  have hne := after_ne W
  refine wp_region_after (by kernel_rfl) (by kernel_rfl) ?_
  repeat (go_big_quiet_step ((go_at_call 48; exact after_of _ (ac3 _))))
  refine wpQuiet_nil ?_
  rintro _ ⟨q, rfl⟩
  have tQ : Turn (fun _ => False) W q.w := Turn.of_below q.bel
  have mQ := mA.turn tQ (fun _ _ => id)
  have kQ := tQ.same k0 id
  have rowQ := hrowA.turn tQ (fun _ _ => id)
  have hzb : zs.length ≤ 16777216 := by have := (unhide Hful).1; omega
  have tq : Turn (fun _ => False) w q.w := tA.then tQ
  generalize q.w = u at *
  clear ac0 ac1 ac2 ac3 hne mA hrowA k0 hA hE64
  obtain ⟨i0, hi, hz0, hz1, hz2⟩ := info_u8'
  have oN : OwnSl u 5 1 (.slice none 0 0) ([] : List Int).length (([] : List Int).map (Value.int .u8)) := ⟨rfl, .inl ⟨rfl, rfl⟩⟩
  obtain ⟨v', w3, hrun, o3, t3, hl3⟩ := append_sl (P := Tryz.prog) (ty := 33) Tryz.underlying33 hi hz0 hz1 hz2 rfl oN rowQ (by simp; omega)
  rw [List.nil_append] at o3
  obtain ⟨p3, c3, hv3⟩ := o3.form
  subst hv3
  have t3' : Turn (fun _ => False) u w3 := t3.mono (fun j hj => by simp [Value.ownBlock] at hj)
  have hl3' : ∀ j, (Value.slice p3 zs.length c3).ownBlock = some j → u.heap.size ≤ j := fun j hj => by
    rcases hl3 j hj with h | h
    · simp [Value.ownBlock] at h
    · exact h
  clear hl3 t3
  have k3 := t3'.same kQ id
  have c0 : u.cell? ⟨w.heap.size, 0, none⟩ = some (.slice none 0 0) := cell_obj kQ 0
  have d0 : w3.cell? ⟨w.heap.size, 0, none⟩ = some (.slice none 0 0) := cell_obj k3 0
  have f0 : w3.frozen? ⟨w.heap.size, 0, none⟩ = false := frozen_obj k3 0
  have k4 := heap_setCell_obj (j := 0) k3 (.slice p3 zs.length c3)
  have t4 : Turn (fun j => j = w.heap.size) w3 (w3.setCell ⟨w.heap.size, 0, none⟩ (.slice p3 zs.length c3)) := (Turn.refl (fun j => j = w.heap.size) w3).setCell (p := ⟨w.heap.size, 0, none⟩) (.inl rfl) _
  have m4 := (mQ.turn t3' (fun _ _ => id)).turn t4 (fun j hj q => by have := m.lt j hj; omega)
  have hszq : w.heap.size < u.heap.size := (Array.getElem?_eq_some_iff.1 kQ).1
  have o4 := o3.turn t4 (fun j hj q => by have := hl3' j hj; omega)
  have b0 : (w3.setCell ⟨w.heap.size, 0, none⟩ (.slice p3 zs.length c3)).cell? ⟨w.heap.size, 0, none⟩ = some (.slice p3 zs.length c3) := cell_obj k4 0
  have b1 : (w3.setCell ⟨w.heap.size, 0, none⟩ (.slice p3 zs.length c3)).cell? ⟨w.heap.size, 1, none⟩ = some (.int .i64 0) := cell_obj k4 1
  have t04 : Turn F w (w3.setCell ⟨w.heap.size, 0, none⟩ (.slice p3 zs.length c3)) := ((tq.then t3').mono (fun _ h => h.elim)).trans t4 (fun j hj => .inr (by omega))
  have hcr : Calls Tryz.prog 49 #[.pointer (some ⟨B, 0, none⟩), .string s, .agg #[.slice p3 zs.length c3, .int .i64 0]] (w3.setCell ⟨w.heap.size, 0, none⟩ (.slice p3 zs.length c3)) fun x w' => x = .returned (.tuple #[]) ∧ Turn F w w' ∧ ∃ b, DMem w' B (some b) (putK Ent.n ⟨s.data.toList, .slice p3 zs.length c3, zs, 0⟩ E) (appS S s.data.toList zs) ∧ (mv = some b ∨ w.heap.size ≤ b) := by
    have hszw := t04.size
    cases mv with
    | none =>
      refine (create_none _ B E S (appS S s.data.toList zs) ⟨s.data.toList, .slice p3 zs.length c3, zs, 0⟩ p3 zs.length c3 s hs16 m4 rfl rfl o4 (appS_new hgS) hwell).mono ?_
      rintro x w' ⟨h1, h2, b, h3, h4⟩
      exact ⟨h1, t04.then (h2.mono (fun j hj => by subst hj; exact hF j (.inl rfl))), b, h4, .inr (by omega)⟩
    | some b =>
      refine (create_some _ B b E S (appS S s.data.toList zs) ⟨s.data.toList, .slice p3 zs.length c3, zs, 0⟩ p3 zs.length c3 s hs16 m4 rfl rfl o4 (fun x hx _ j h1 h2 => ?_) (appS_new hgS) hwell).mono ?_
      · have q1 := m.lt j (.inr (.inr ⟨x, hx, h1⟩)); have q2 := hl3' j h2; omega
      · rintro x w' ⟨h1, h2, h4⟩
        exact ⟨h1, t04.then (h2.mono (fun j hj => by rcases hj with rfl | rfl; exact hF _ (.inl rfl); exact hF _ (.inr (.inl rfl)))), b, h4, .inl rfl⟩
  clear m4 t4 t04 o4 k4 hwell mQ
  have hd := (refuse_up hr).1
  go_wp2_with (first | (at_builtin; refine list_append_run rfl _ _ 33 rfl _ _ _ _ rfl rfl hrun ?_) | (go_at_call 49; refine hcr.mono ?_; rintro x w5 ⟨rfl, t5, b, m5, hb5⟩))
  cases hh : hitB S
  all_goals
    have hw5 := hit_walk w5 B _ _ (appS S s.data.toList zs) hd m5
    rw [(hit_app S s.data.toList zs).1, hh] at hw5
    refine hw5.mono ?_
    rintro x w6 ⟨rfl, t6, m6⟩
    have ht : Turn F w w6 := t5.then (t6.mono (fun j hj => by subst hj; exact hF j (.inl rfl)))
    have hfin : DAt w6 B (NF w F) (hitS (appS S s.data.toList zs)) := by
      refine ⟨_, _, m6, fun j hj => ?_⟩
      rcases foot_put hj with hj | hj
      · rcases hj with rfl | hj | hj
        · exact .inl (hF _ (.inl rfl))
        · rcases hb5 with h | h
          · exact .inl (hF j (.inr (.inl (by rw [h]; exact hj))))
          · cases hj; exact .inr h
        · exact .inl (hF j (.inr (.inr hj)))
      · have := hl3' j hj; exact .inr (by omega)
    have Hh := hide hh
    clear hw5 hh
    go_wp2
    go_ret
    exact ⟨ret_int (by unfold hitC; rw [unhide Hh]; rfl), ht, hfin⟩

set_option maxRecDepth 100000 in
set_option maxHeartbeats 1000000 in
theorem append_full (w : World) (B : Nat) (Bk : Nat → Prop) (mv : Option Nat) (E : List Ent) (S : Dk) (s : ByteArray) (bv : Value) (zs : List Int) (hs : s.size ≤ maxLen) (m : DMem w B mv E S) (hrow : Row .u8 Bk w bv zs)
    (hr : refuse S s.data.toList = 0) (hful : fullB S s.data.toList zs = true) :
    Calls Tryz.prog 23 #[.pointer (some ⟨B, 0, none⟩), .string s, bv] w fun x w' => x = .returned (.int .i64 4) ∧ Turn (fun _ => False) w w' := by
  have hrf := refusal_walk w B mv E S s hs m
  rw [hr] at hrf
  obtain ⟨a', c', hbv⟩ := hrow.slice
  subst hbv
  have cB : w.cell? ⟨B, 1, none⟩ = some (.map mv) := cell_obj m.obj 1
  have hsz := m.well.size
  have hroom := m.well.room
  have hzl := hrow.len
  unfold maxLen at hzl
  have hfl : S.fs.length = E.length := by rw [m.fs]; simp
  have key : ∀ (p : Option Addr) (n c : Nat) (z : Int) (is : Bool), (Instr.lookup 64 (.map mv) (.string s) true).run Tryz.prog w = .ok (.tuple #[.agg #[.slice p n c, .int .i64 z], .bool is]) w →
      (S.size < used S.fs + zs.length ∨ (is = false ∧ 64 ≤ E.length)) →
      Calls Tryz.prog 23 #[.pointer (some ⟨B, 0, none⟩), .string s, .slice a' zs.length c'] w fun x w' => x = .returned (.int .i64 4) ∧ Turn (fun _ => False) w w' := by
    intro p n c z is hl hcase
    have tA : Turn (fun _ => False) w (w.alloc (.cells #[.slice p n c, .int .i64 z] 84)) := (Turn.refl _ w).alloc _
    obtain ⟨ac0, ac1, ac2, ac3⟩ := (m.turn tA (fun _ _ => id)).afters
    by_cases hbig : S.size < used S.fs + zs.length
    · have hA : decide ((S.size : Int) - (used S.fs : Nat) < (zs.length : Int)) = true := by simp; omega
      clear hcase m hful hrow hr hbig
      go_enter Tryz.func23, Tryz.ntmps23
      go_wp2_with (go_at_call 47; refine hrf.mono ?_; rintro x w0 ⟨rfl, hw0⟩; have hw0 := hw0.symm; subst hw0)
      generalize w.alloc (.cells #[.slice p n c, .int .i64 z] 84) = W at *
      have hne := after_ne W
      refine wp_region_after (by kernel_rfl) (by kernel_rfl) ?_
      repeat (go_big_quiet_step ((go_at_call 48; exact after_of _ (ac3 _))))
      refine wpQuiet_nil ?_
      rintro _ ⟨q, rfl⟩
      have tq : Turn (fun _ => False) w q.w := tA.then (Turn.of_below q.bel)
      go_wp2
      go_ret
      exact ⟨rfl, tq⟩
    · obtain ⟨his, h64⟩ : is = false ∧ 64 ≤ E.length := by
        rcases hcase with h | h
        · exact absurd h hbig
        · exact h
      subst his
      have hA : decide ((S.size : Int) - (used S.fs : Nat) < (zs.length : Int)) = false := by simp; omega
      have hE64 : decide ((64 : Int) ≤ (E.length : Int)) = true := by simp; omega
      clear hcase m hful hrow hr hbig h64 hfl
      go_enter Tryz.func23, Tryz.ntmps23
      go_wp2_with (go_at_call 47; refine hrf.mono ?_; rintro x w0 ⟨rfl, hw0⟩; have hw0 := hw0.symm; subst hw0)
      generalize w.alloc (.cells #[.slice p n c, .int .i64 z] 84) = W at *
      have hne := after_ne W
      refine wp_region_after (by kernel_rfl) (by kernel_rfl) ?_
      repeat (go_big_quiet_step ((go_at_call 48; exact after_of _ (ac3 _))))
      refine wpQuiet_nil ?_
      rintro _ ⟨q, rfl⟩
      have tq : Turn (fun _ => False) w q.w := tA.then (Turn.of_below q.bel)
      go_wp2
      go_ret
      exact ⟨rfl, tq⟩
  cases hg : getK Ent.n s.data.toList E with
  | none =>
    refine key _ _ _ _ _ ((m.look hs).1 hg) ?_
    simp [fullB, m.get, hg] at hful
    rcases hful with h | h
    · exact .inl h
    · exact .inr ⟨rfl, by omega⟩
  | some e =>
    have hl := (m.look hs).2 e hg
    obtain ⟨p, c, hv⟩ := m.form (getK_some hg).1
    rw [hv] at hl
    refine key _ _ _ _ _ hl ?_
    simp [fullB, m.get, hg] at hful
    exact .inl hful

set_option maxHeartbeats 400000 in
theorem append_no (w : World) (B : Nat) (mv : Option Nat) (E : List Ent) (S : Dk) (s : ByteArray) (bv : Value) (hs : s.size ≤ maxLen) (m : DMem w B mv E S) (hr : refuse S s.data.toList ≠ 0) :
    Calls Tryz.prog 23 #[.pointer (some ⟨B, 0, none⟩), .string s, bv] w fun x w' => x = .returned (.int .i64 (refuse S s.data.toList)) ∧ w' = w := by
  have hrf := refusal_walk w B mv E S s hs m
  have hne : (refuse S s.data.toList != 0) = true := by simpa using hr
  clear hr m
  generalize refuse S s.data.toList = x at *
  go_enter Tryz.func23, Tryz.ntmps23
  go_wp2_with (go_at_call 47; refine hrf.mono ?_; rintro x w0 ⟨rfl, hw0⟩; have hw0 := hw0.symm; subst hw0)
  go_ret
  exact ⟨rfl, rfl⟩

/-- Append -/
theorem Append_walk (w : World) (B : Nat) (F : Nat → Prop) (Bk : Nat → Prop) (S : Dk) (s : ByteArray) (bv : Value) (zs : List Int) (hs : s.size ≤ maxLen) (h : DAt w B F S) (hrow : Row .u8 Bk w bv zs) :
    Calls Tryz.prog 23 #[.pointer (some ⟨B, 0, none⟩), .string s, bv] w fun x w' => x = .returned (.int .i64 (appendC S s.data.toList zs)) ∧ Turn F w w' ∧ DAt w' B (NF w F) (appendS S s.data.toList zs) := by
  obtain ⟨mv, E, m, hF⟩ := h
  by_cases hr : refuse S s.data.toList = 0
  · cases hful : fullB S s.data.toList zs
    · have e1 : appendC S s.data.toList zs = hitC S := by unfold appendC hitC; rw [hr, hful]; simp
      have e2 : appendS S s.data.toList zs = hitS (appS S s.data.toList zs) := by unfold appendS; rw [hr, hful]; simp
      rw [e1, e2]
      cases hg : getK Ent.n s.data.toList E with
      | none => exact append_new w B F Bk mv E S s bv zs hs m hF hrow hr hg hful
      | some e => exact append_old w B F Bk mv E S s bv zs hs m hF hrow hr e hg hful
    · have e1 : appendC S s.data.toList zs = 4 := by unfold appendC; rw [hr, hful]; simp
      have e2 : appendS S s.data.toList zs = S := by unfold appendS; rw [hr, hful]; simp
      rw [e1, e2]
      refine (append_full w B Bk mv E S s bv zs hs m hrow hr hful).mono ?_
      rintro x w' ⟨h1, h2⟩
      exact ⟨h1, h2.mono (fun _ h => h.elim), mv, E, m.turn h2 (fun _ _ => id), fun j hj => .inl (hF j hj)⟩
  · have e1 : appendC S s.data.toList zs = refuse S s.data.toList := by unfold appendC; rw [if_pos hr]
    have e2 : appendS S s.data.toList zs = S := by unfold appendS; rw [if_pos hr]
    rw [e1, e2]
    refine (append_no w B mv E S s bv hs m hr).mono ?_
    rintro x w' ⟨h1, rfl⟩
    exact ⟨h1, Turn.refl _ _, mv, E, m, fun j hj => .inl (hF j hj)⟩
end Go.Proofs.YthikiahhochjmaaGreatDoor


namespace Go.Proofs.YthikiahhochjmaaGreatDoor
open Go.RowKit Go.Maps
set_option linter.unusedVariables false

theorem Down_walk (w : World) (B : Nat) (F : Nat → Prop) (S : Dk) (h : DAt w B F S) : Calls Tryz.prog 10 #[.pointer (some ⟨B, 0, none⟩)] w fun e w' => e = .returned (.bool S.down) ∧ w' = w := by
  obtain ⟨mv, E, m, _⟩ := h
  exact down_walk w B mv E S m
theorem Used_walk (w : World) (B : Nat) (F : Nat → Prop) (S : Dk) (h : DAt w B F S) : Calls Tryz.prog 48 #[.pointer (some ⟨B, 0, none⟩)] w fun e w' => e = .returned (.int .i64 (used S.fs : Nat)) ∧ Turn (fun _ => False) w w' := by
  obtain ⟨mv, E, m, _⟩ := h
  exact used_walk w B mv E S m
theorem Arm_walk (w : World) (B : Nat) (F : Nat → Prop) (S : Dk) (x : Int) (hx : x ≤ 9223372036854775807) (h : DAt w B F S) : Calls Tryz.prog 13 #[.pointer (some ⟨B, 0, none⟩), .int .i64 x] w fun e w' => e = .returned (.int .i64 0) ∧ Turn F w w' ∧ DAt w' B F (armS S x) := by
  obtain ⟨mv, E, m, hF⟩ := h
  refine (arm_mem w B mv E S x hx m).mono ?_
  rintro e w' ⟨h1, t, m'⟩
  exact ⟨h1, t.mono (fun j hj => by subst hj; exact hF j (.inl rfl)), mv, E, m', hF⟩
theorem New_walk (n : Nat) (w : World) (h1 : 1 ≤ n) (h2 : n ≤ 16777216) : Calls Tryz.prog 26 #[.int .i64 (n : Int)] w fun e w' => e = .returned (.tuple #[.pointer (some ⟨w.heap.size, 0, none⟩), .int .i64 0]) ∧ Turn (fun _ => False) w w' ∧ DAt w' w.heap.size (fun j => w.heap.size ≤ j) (newS n) := by
  refine (new_mem n w h1 h2).mono ?_
  rintro e w' ⟨h1, t, m'⟩
  refine ⟨h1, t, none, [], m', ?_⟩
  rintro j (rfl | h | ⟨e, he, _⟩)
  · exact Nat.le_refl _
  · cases h
  · cases he

end Go.Proofs.YthikiahhochjmaaGreatDoor
