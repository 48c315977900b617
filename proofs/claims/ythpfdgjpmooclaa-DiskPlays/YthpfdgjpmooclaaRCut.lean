/- The reference's Read, Cut. -/
import Derived.Test.YthpfdgjpmooclaaRSync
import Derived.Deep.RegionLaw
namespace Go.Proofs.Ythpfdgjpmooclaa
open Go.RowKit Go.Maps
set_option linter.unusedVariables false
set_option linter.unusedSimpArgs false

/-- append, of which the run is known, as one step of a region that draws -/
theorem step_append_run {P : Program} {ops : Array Oper} {o : Oper} {a : Act} {w : World} {K : Act → World → Prop} {Q : Exit → Act → World → Prop} {E : Prop}
    (hg : o.guard = none) (s x : Operand) (t : TypeId) (hop : o.op = Op.call { callee := Callee.builtin Builtin.append, args := #[s, x], argTypes := #[t, t] }) (v xv v' : Value) (w' : World) (hs : a.eval s = v) (hx : a.eval x = xv)
    (hrun : (Builtin.append_ #[t, t] o.type #[v, xv]).run P w = .ok v' w') (hK : K (a.put o.dst v') w') :
    if Region.wanted o (yielded ops a.tmps) = true then Oper.wp P o a w K Q else E := by
  have hw : Region.wanted o (yielded ops a.tmps) = true := by simp [Region.wanted, hg]
  rw [if_pos hw]
  unfold Oper.wp
  simp [execOp, hop, resolve, invoke, builtin, hs, hx, hrun, Result.andThen]
  exact hK

/-- a copy of bytes: append([]byte(nil), x...) -/
theorem copy_run {w : World} {x : Value} {zs : List Int} {B : Nat → Prop} (h : Row .u8 B w x zs) (hm : zs.length ≤ 140737488355328) :
    ∃ v' w', (Builtin.append_ #[32, 32] 32 #[.slice none 0 0, x]).run Try.prog w = .ok v' w' ∧ OwnSl w' 5 1 v' zs.length (zs.map (Value.int .u8)) ∧ Turn (fun _ => False) w w' ∧ (∀ j, v'.ownBlock = some j → w.heap.size ≤ j) := by
  obtain ⟨i0, hi, hz0, hz1, hz2⟩ := info_u8'
  obtain ⟨v', w', hrun, o, t, l⟩ := append_src (P := Try.prog) (w := w) (ty := 32) (v := .slice none 0 0) (n := 0) (xs := []) Try.underlying32 hi hz0 hz1 hz2 rfl (by omega) ⟨rfl, .inl ⟨rfl, rfl⟩⟩ (src_row h) (ints_oneCell _ _) (by unfold maxLen; omega) (by omega)
  refine ⟨v', w', hrun, by simpa using o, t.mono (fun j hj => by simp [Value.ownBlock] at hj), fun j hj => ?_⟩
  rcases l j hj with h | h
  · simp [Value.ownBlock] at h
  · exact h

set_option maxRecDepth 100000 in
set_option maxHeartbeats 2000000 in
theorem rRead_walk (w : World) (R : Nat) (F : Nat → Prop) (S : Dk) (s : ByteArray) (hs : s.size ≤ maxLen) (h : RAt w R F S) :
    Calls Try.prog 23 #[.pointer (some ⟨R, 0, none⟩), .string s] w fun e w' => ∃ v, e = .returned (.tuple #[v, .int .i64 (readC S s.data.toList)]) ∧ OwnSl w' 5 1 v (readD S s.data.toList).length ((readD S s.data.toList).map (Value.int .u8)) ∧ (∀ j, v.ownBlock = some j → w.heap.size ≤ j) ∧ Turn (fun _ => False) w w' := by
  obtain ⟨lv, E, m, hF⟩ := h
  have hf := fine_walk w R lv E S s hs m
  by_cases hr : refuse S s.data.toList = 0
  · rw [hr] at hf
    cases hg : getK Ent.n s.data.toList E with
    | none =>
      have ha := at_none m hg
      have e1 : readC S s.data.toList = 6 := by unfold readC; rw [hr, m.get, hg]; rfl
      have e2 : readD S s.data.toList = [] := by unfold readD; rw [hr, m.get, hg]; rfl
      rw [e1, e2]
      clear e1 e2 hg hr m
      go_enter Try.func23, Try.ntmps23
      go_wp2_with (first | (go_at_call 51; refine hf.mono ?_; rintro x w0 ⟨rfl, hw0⟩; have hw0 := hw0.symm; subst hw0) | (go_at_call 52; refine ha.mono ?_; rintro x w0 ⟨rfl, hw0⟩; have hw0 := hw0.symm; subst hw0))
      go_ret2
      exact ⟨_, rfl, ⟨rfl, .inl ⟨rfl, rfl⟩⟩, fun j hj => by simp [Value.ownBlock] at hj, Turn.refl _ _⟩
    | some e =>
      obtain ⟨X, Y, hE, hen, hat⟩ := at_some m hg
      have ha := hat w m
      have e1 : readC S s.data.toList = 0 := by unfold readC; rw [hr, m.get, hg]; rfl
      have e2 : readD S s.data.toList = e.d := by unfold readD; rw [hr, m.get, hg]; rfl
      rw [e1, e2]
      have hem := (getK_some hg).1
      have hbd := m.bound hem
      obtain ⟨p, c, hv⟩ := m.form hem
      have ho := m.own e hem
      have hcnt := m.count
      subst hE
      obtain ⟨g, off, cap, hlv, q0, q1, q2⟩ := m.at
      have c1 : w.cell? ⟨R, 1, none⟩ = some lv := cell_obj m.obj 1
      subst hlv
      rw [hv] at q1 ho
      have hlen : (X ++ e :: Y).length = X.length + (Y.length + 1) := by simp
      have hxl : X.length < (X ++ e :: Y).length := by omega
      obtain ⟨v', w', hrun, o', t', l'⟩ := copy_run (row_of_sl ho) (by omega)
      clear e1 e2 hg hr m hat hlen
      generalize (X ++ e :: Y).length = nE at *
      generalize hX : X.length = nX at *
      clear hX
      go_enter Try.func23, Try.ntmps23
      go_wp2_with (first | (go_at_call 51; refine hf.mono ?_; rintro x w0 ⟨rfl, hw0⟩; have hw0 := hw0.symm; subst hw0) | (go_at_call 52; refine ha.mono ?_; rintro x w0 ⟨rfl, hw0⟩; have hw0 := hw0.symm; subst hw0) | (at_builtin; refine list_append_run rfl _ _ 32 rfl _ _ _ _ rfl rfl hrun ?_))
      go_ret2
      exact ⟨v', rfl, o', l', t'⟩
  · have e1 : readC S s.data.toList = refuse S s.data.toList := by unfold readC; rw [if_pos hr]
    have e2 : readD S s.data.toList = [] := by unfold readD; rw [if_pos hr]
    rw [e1, e2]
    have hne : (refuse S s.data.toList != 0) = true := by simpa using hr
    clear e1 e2 hr m
    generalize refuse S s.data.toList = x at *
    go_enter Try.func23, Try.ntmps23
    go_wp2_with (go_at_call 51; refine hf.mono ?_; rintro y w0 ⟨rfl, hw0⟩; have hw0 := hw0.symm; subst hw0)
    go_ret2
    exact ⟨_, rfl, ⟨rfl, .inl ⟨rfl, rfl⟩⟩, fun j hj => by simp [Value.ownBlock] at hj, Turn.refl _ _⟩

/-- one file of a list told anew -/
theorem put_fs {w : World} {R : Nat} {lv : Value} {X Y : List Ent} {e e' : Ent} {S : Dk} {n : Nm} {d : List Int} {k : Nat} (m : RMem w R lv (X ++ e :: Y) S) (hn : e.n = n) (h1 : e'.n = e.n) (h2 : e'.d = d) (h3 : e'.s = k) : putK Fl.n ⟨n, d, k⟩ S.fs = (X ++ e' :: Y).map Ent.fl := by
  rw [m.fs, List.map_append, List.map_cons, List.map_append, List.map_cons]
  have hri := m.well.rise
  rw [m.fs, List.map_append, List.map_cons] at hri
  rw [putK_mid (x := e.fl) hri hn.symm]
  simp [Ent.fl, hn, h1, h2, h3]
theorem mid_foot {w : World} {R : Nat} {F : Nat → Prop} {lv : Value} {X Y : List Ent} {e e' : Ent} (hF : ∀ j, RFoot R lv (X ++ e :: Y) j → F j) (he : ∀ j, e'.v.ownBlock = some j → w.heap.size ≤ j) : ∀ j, RFoot R lv (X ++ e' :: Y) j → NF w F j :=
  RMem.foot (w := w) hF (fun j hj => .inl hj) (fun x hx => by
    rcases List.mem_append.1 hx with hx | hx
    · exact .inl ⟨x, by simp [hx], rfl⟩
    · rcases List.mem_cons.1 hx with rfl | hx
      · exact .inr he
      · exact .inl ⟨x, by simp [hx], rfl⟩)

set_option maxRecDepth 100000 in
set_option maxHeartbeats 2000000 in
theorem rCut_walk (w : World) (R : Nat) (F : Nat → Prop) (S : Dk) (s : ByteArray) (z : Int) (hs : s.size ≤ maxLen) (h : RAt w R F S) :
    Calls Try.prog 39 #[.pointer (some ⟨R, 0, none⟩), .string s, .int .i64 z] w fun e w' => e = .returned (.int .i64 (cutC S s.data.toList z)) ∧ Turn F w w' ∧ RAt w' R (NF w F) (cutS S s.data.toList z) := by
  obtain ⟨lv, E, m, hF⟩ := h
  have hf := fine_walk w R lv E S s hs m
  have fin : RAt w R (NF w F) S := ⟨lv, E, m, fun j hj => .inl (hF j hj)⟩
  by_cases hr : refuse S s.data.toList = 0
  · rw [hr] at hf
    have hd := (refuse_up hr).1
    cases hg : getK Ent.n s.data.toList E with
    | none =>
      have ha := at_none m hg
      have e1 : cutC S s.data.toList z = 6 := by unfold cutC; rw [hr, m.get, hg]; rfl
      have e2 : cutS S s.data.toList z = S := by unfold cutS; rw [hr, m.get, hg]; rfl
      rw [e1, e2]
      clear e1 e2 hg hr m hd
      go_enter Try.func39, Try.ntmps39
      go_wp2_with (first | (go_at_call 51; refine hf.mono ?_; rintro x w0 ⟨rfl, hw0⟩; have hw0 := hw0.symm; subst hw0) | (go_at_call 52; refine ha.mono ?_; rintro x w0 ⟨rfl, hw0⟩; have hw0 := hw0.symm; subst hw0))
      go_ret
      exact ⟨rfl, Turn.refl _ _, fin⟩
    | some e =>
      obtain ⟨X, Y, hE, hen, hat⟩ := at_some m hg
      have ha := hat w m
      have hem := (getK_some hg).1
      have hbd := m.bound hem
      obtain ⟨p, c, hv⟩ := m.form hem
      have hcnt := m.count
      have hh := rhit_walk w R lv E S hd m
      have hgf : getK Fl.n s.data.toList S.fs = some e.fl := by rw [m.get, hg]; rfl
      have eC : cutC S s.data.toList z = if z < 0 ∨ (e.d.length : Int) < z then 1 else if hitB S then 3 else 0 := by unfold cutC; rw [hr, hgf]; rfl
      have eS : cutS S s.data.toList z = if z < 0 ∨ (e.d.length : Int) < z then S else if hitB S then hitS S else { hitS S with fs := putK Fl.n ⟨s.data.toList, e.d.take z.toNat, z.toNat⟩ S.fs } := by unfold cutS; rw [hr, hgf]; rfl
      rw [eC, eS]
      clear eC eS hat hg
      subst hE
      have hlen : (X ++ e :: Y).length = X.length + (Y.length + 1) := by simp
      have hxl : X.length < (X ++ e :: Y).length := by omega
      have Hlen := hide hlen
      by_cases hz : z < 0
      · rw [if_pos (.inl hz), if_pos (.inl hz)]
        clear hgf hlen Hlen hh m hF
        go_enter Try.func39, Try.ntmps39
        go_wp2_with (first | (go_at_call 51; refine hf.mono ?_; rintro x w0 ⟨rfl, hw0⟩; have hw0 := hw0.symm; subst hw0) | (go_at_call 52; refine ha.mono ?_; rintro x w0 ⟨rfl, hw0⟩; have hw0 := hw0.symm; subst hw0))
        go_ret
        exact ⟨rfl, Turn.refl _ _, fin⟩
      · obtain ⟨g, off, cap, hlv, q0, q1, q2⟩ := m.at
        have c1 : w.cell? ⟨R, 1, none⟩ = some lv := cell_obj m.obj 1
        subst hlv
        rw [hv] at q1
        by_cases hz2 : (e.d.length : Int) < z
        · rw [if_pos (.inr hz2), if_pos (.inr hz2)]
          clear hgf hlen Hlen hh m hF
          generalize (X ++ e :: Y).length = nE at *
          generalize hX : X.length = nX at *
          clear hX
          go_enter Try.func39, Try.ntmps39
          go_wp2_with (first | (go_at_call 51; refine hf.mono ?_; rintro x w0 ⟨rfl, hw0⟩; have hw0 := hw0.symm; subst hw0) | (go_at_call 52; refine ha.mono ?_; rintro x w0 ⟨rfl, hw0⟩; have hw0 := hw0.symm; subst hw0))
          go_ret
          exact ⟨rfl, Turn.refl _ _, fin⟩
        · have hno : ¬ (z < 0 ∨ (e.d.length : Int) < z) := by omega
          rw [if_neg hno, if_neg hno]
          cases hb : hitB S
          · rw [hb] at hh
            simp only [Bool.false_eq_true, if_false]
            obtain ⟨k, rfl⟩ : ∃ k : Nat, z = (k : Int) := ⟨z.toNat, by omega⟩
            have hkl : k ≤ e.d.length := by omega
            rw [Int.toNat_natCast]
            have hw2 : Well { hitS S with fs := putK Fl.n ⟨s.data.toList, e.d.take k, k⟩ S.fs } := well_put (f := ⟨s.data.toList, e.d.take k, k⟩) (g := e.fl) m.well hgf (by have := m.well.room; simp [Ent.fl]; omega) (by simp; omega) rfl (hitS_fs S).2 (well_hit m.well).arm
            have Hw2 := hide hw2
            have Hm := hide m
            clear hw2 hgf hr hb hno hz hz2 fin
            go_enter Try.func39, Try.ntmps39
            generalize (X ++ e :: Y).length = nE at *
            generalize hX : X.length = nX at *
            have HX := hide hX
            clear hX hlen
            go_wp2_with (first | (go_at_call 51; refine hf.mono ?_; rintro x w0 ⟨rfl, hw0⟩; have hw0 := hw0.symm; subst hw0) | (go_at_call 52; refine ha.mono ?_; rintro x w0 ⟨rfl, hw0⟩; have hw0 := hw0.symm; subst hw0) | (go_at_call 57; refine hh.mono ?_; rintro x w1 ⟨rfl, t1, m1⟩))
            obtain ⟨i0, hi, hz0, hz1, hz2⟩ := info_u8'
            have hxL := unhide HX
            have hlL := unhide Hlen
            obtain ⟨g', off', cap', hlv', q0', q1', q2'⟩ := m1.at
            simp only [Value.slice.injEq, Option.some.injEq, Addr.mk.injEq, and_true] at hlv'
            obtain ⟨⟨rfl, rfl⟩, hn1, rfl⟩ := hlv'
            have Hn1 := hide hn1
            rw [hv] at q1'
            rw [hxL] at q0' q1' q2'
            have c1' : w1.cell? ⟨R, 1, none⟩ = some (.slice (some ⟨g, off, none⟩) nE cap) := cell_obj m1.obj 1
            have ho1 := m1.own e (by simp)
            rw [hv] at ho1
            obtain ⟨x', hsl, hrx⟩ := cut_to (ki := .i64) Try.underlying32 hi hz1 (row_of_sl ho1) k hkl
            have hrxd : Row .u8 _ w1.drew x' (e.d.take k) := hrx.turn (F := fun _ => False) ((Turn.refl _ _).drew) (fun _ _ => id)
            obtain ⟨v', w2, hrun, o2, t2, l2⟩ := copy_run hrxd (by simp; omega)
            obtain ⟨a3, c3, hx'⟩ := hrx.slice
            subst hx'
            have m2 := m1.turn t2.undrew (fun _ _ => id)
            have c2' : w2.cell? ⟨R, 1, none⟩ = some (.slice (some ⟨g, off, none⟩) nE cap) := cell_obj m2.obj 1
            have q2 := t2.undrew.cell q1' id
            obtain ⟨p2, cc2, hv2⟩ := o2.form
            have hlt : (e.d.take k).length = k := by simp; omega
            rw [hlt] at hv2 o2 hsl hrun
            have r2 : OwnSl w2 77 3 (.slice (some ⟨g, off, none⟩) nE cap) nE (rcs (X ++ e :: Y)) := by have := m2.row; rwa [← hn1] at this
            obtain ⟨o3, f3⟩ := r2.set (nX * 3 + 1) (by omega) v'
            rw [← hxL, rcs_set X Y e { e with v := v' } 1 (by omega) _ (by simp [rc]), hxL] at o3
            rw [← Nat.add_assoc] at o3 f3
            obtain ⟨o4, f4⟩ := o3.set (nX * 3 + 2) (by omega) (.int .i64 (k : Int))
            rw [← hxL, rcs_set X Y { e with v := v' } { e with v := v', d := e.d.take k, s := k } 2 (by omega) _ (by simp [rc]), hxL] at o4
            rw [← Nat.add_assoc] at o4 f4
            have t3 := setRow w2 g (off + nX * 3 + 1) v'
            have t4 := setRow (w2.setCell ⟨g, off + nX * 3 + 1, none⟩ v') g (off + nX * 3 + 2) (.int .i64 (k : Int))
            have o2' : OwnSl w2 5 1 v' (e.d.take k).length ((e.d.take k).map (Value.int .u8)) := by rw [hlt]; exact o2
            have m4 := m2.put (e' := { e with v := v', d := e.d.take k, s := k }) (S' := { hitS S with fs := putK Fl.n ⟨s.data.toList, e.d.take k, k⟩ S.fs }) (t3.then t4) hn1 o4 o2' rfl rfl rfl (put_fs (unhide Hm) hen rfl rfl rfl) (unhide Hw2)
            have hgR : R ≠ g := fun q => m1.row.neObj m1.obj (by decide) g rfl q.symm
            have c3' : (w2.setCell ⟨g, off + nX * 3 + 1, none⟩ v').cell? ⟨R, 1, none⟩ = some (.slice (some ⟨g, off, none⟩) nE cap) := t3.cell c2' hgR
            have q3 : ((w2.setCell ⟨g, off + nX * 3 + 1, none⟩ v').cell? ⟨g, off + nX * 3 + 2, none⟩) = some (.int .i64 (e.s : Int)) := by
              have := o3.cells (nX * 3 + 2) _ (by have := rcs_at X Y { e with v := v' } 2 (by omega); rw [hxL] at this; simpa [rc] using this)
              rwa [← Nat.add_assoc] at this
            have tt : Turn F w ((w2.setCell ⟨g, off + nX * 3 + 1, none⟩ v').setCell ⟨g, off + nX * 3 + 2, none⟩ (.int .i64 (k : Int))) :=
              ((t1.mono (fun j hj => by subst hj; exact hF j (.inl rfl))).then (t2.undrew.mono (fun j hj => hj.elim))).then ((t3.then t4).mono (fun j hj => by subst hj; exact hF j (.inr (.inl rfl))))
            have s1 := t1.size
            have ffin : RAt ((w2.setCell ⟨g, off + nX * 3 + 1, none⟩ v').setCell ⟨g, off + nX * 3 + 2, none⟩ (.int .i64 (k : Int))) R (NF w F) { hitS S with fs := putK Fl.n ⟨s.data.toList, e.d.take k, k⟩ S.fs } :=
              ⟨_, _, m4, mid_foot (w := w) hF (fun j hj => by have := l2 j hj; have h0 : w1.drew.heap.size = w1.heap.size := rfl; omega)⟩
            clear m4 t3 t4 o4 o3 r2 m2 m1 hrx hrxd ho1 o2 o2' hxL hlL hn1 hlt Hm Hw2
            subst hv2
            go_region_law (refine step_append_run rfl _ _ 32 rfl _ _ _ _ rfl rfl hrun ?_)
            all_goals
              go_wp2
              go_ret
              exact ⟨rfl, tt, ffin⟩
          · rw [hb] at hh
            rw [if_pos rfl, if_pos rfl]
            clear hgf hlen Hlen fin
            generalize (X ++ e :: Y).length = nE at *
            generalize hX : X.length = nX at *
            clear hX
            go_enter Try.func39, Try.ntmps39
            go_wp2_with (first | (go_at_call 51; refine hf.mono ?_; rintro x w0 ⟨rfl, hw0⟩; have hw0 := hw0.symm; subst hw0) | (go_at_call 52; refine ha.mono ?_; rintro x w0 ⟨rfl, hw0⟩; have hw0 := hw0.symm; subst hw0) | (go_at_call 57; refine hh.mono ?_; rintro x w1 ⟨rfl, t1, m1⟩))
            go_ret
            exact ⟨rfl, t1.mono (fun j hj => by subst hj; exact hF j (.inl rfl)), _, _, m1, fun j hj => .inl (hF j hj)⟩
  · have e1 : cutC S s.data.toList z = refuse S s.data.toList := by unfold cutC; rw [if_pos hr]
    have e2 : cutS S s.data.toList z = S := by unfold cutS; rw [if_pos hr]
    rw [e1, e2]
    have hne : (refuse S s.data.toList != 0) = true := by simpa using hr
    clear e1 e2 hr m
    generalize refuse S s.data.toList = x at *
    go_enter Try.func39, Try.ntmps39
    go_wp2_with (go_at_call 51; refine hf.mono ?_; rintro y w0 ⟨rfl, hw0⟩; have hw0 := hw0.symm; subst hw0)
    go_ret
    exact ⟨rfl, Turn.refl _ _, fin⟩
end Go.Proofs.Ythpfdgjpmooclaa
