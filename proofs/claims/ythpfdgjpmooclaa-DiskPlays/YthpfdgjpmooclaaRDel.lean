/- The reference's Remove. -/
import Derived.Test.YthpfdgjpmooclaaRCut
namespace Go.Proofs.Ythpfdgjpmooclaa
open Go.RowKit Go.Maps
set_option linter.unusedVariables false
set_option linter.unusedSimpArgs false

theorem info_file' : ∃ i, Try.prog.info? 77 = some i ∧ i.zero = some (.agg #[.string ⟨#[]⟩, .slice none 0 0, .int .i64 0]) ∧ i.size = 3 ∧ i.bytes = 48 := by
  obtain ⟨i0, hi, hz0, hz1, hz2⟩ := info_parts info_file
  exact ⟨i0, hi, hz0, hz1, hz2⟩
/-- files appended to a list of one's own -/
theorem app_files {w : World} {v x : Value} {n : Nat} {xs : List Value} {E : List Ent} (h : OwnSl w 77 3 v n xs) (hx : Src 3 w x E.length (rcs E)) (hs : ∀ e ∈ E, isSl e.v) (hm : n + E.length ≤ 1000000) :
    ∃ v' w', (Builtin.append_ #[29, 29] 29 #[v, x]).run Try.prog w = .ok v' w' ∧ OwnSl w' 77 3 v' (n + E.length) (xs ++ rcs E) ∧ Turn (fun j => v.ownBlock = some j) w w' ∧ (∀ j, v'.ownBlock = some j → v.ownBlock = some j ∨ w.heap.size ≤ j) := by
  obtain ⟨i0, hi, hz0, hz1, hz2⟩ := info_file'
  exact append_src (P := Try.prog) (ty := 29) Try.underlying29 hi hz0 hz1 hz2 rfl (by omega) h hx (rc_one hs) (by unfold maxLen; omega) (by omega)
/-- a list told anew -/
theorem RMem.list {w : World} {R : Nat} {lv lv' : Value} {E' : List Ent} {S S' : Dk} (hobj : w.heap[R]? = some (.cells #[.int .i64 (S.size : Int), lv, .int .i64 (S.arm : Int), .bool S.down] 31 (0, 0)))
    (h1 : S'.size = S.size) (h2 : S'.arm = S.arm) (h3 : S'.down = S.down) (hrow : OwnSl w 77 3 lv' E'.length (rcs E')) (hown : ∀ e ∈ E', OwnSl w 5 1 e.v e.d.length (e.d.map (Value.int .u8))) (hfs : S'.fs = E'.map Ent.fl) (hw : Well S') : RMem (w.setCell ⟨R, 1, none⟩ lv') R lv' E' S' := by
  have t := setRow w R 1 lv'
  refine ⟨?_, hrow.turn t (hrow.neObj hobj (by decide)), fun e he => (hown e he).turn t ((hown e he).neObj hobj (by decide)), hfs, hw⟩
  rw [h1, h2, h3]
  exact heap_setCell_obj (j := 1) hobj lv'

set_option maxRecDepth 100000 in
set_option maxHeartbeats 2000000 in
theorem rRemove_walk (w : World) (R : Nat) (F : Nat → Prop) (S : Dk) (s : ByteArray) (hs : s.size ≤ maxLen) (h : RAt w R F S) :
    Calls Try.prog 40 #[.pointer (some ⟨R, 0, none⟩), .string s] w fun e w' => e = .returned (.int .i64 (removeC S s.data.toList)) ∧ Turn F w w' ∧ RAt w' R (NF w F) (removeS S s.data.toList) := by
  obtain ⟨lv, E, m, hF⟩ := h
  have hf := fine_walk w R lv E S s hs m
  have fin : RAt w R (NF w F) S := ⟨lv, E, m, fun j hj => .inl (hF j hj)⟩
  by_cases hr : refuse S s.data.toList = 0
  · rw [hr] at hf
    have hd := (refuse_up hr).1
    cases hg : getK Ent.n s.data.toList E with
    | none =>
      have ha := at_none m hg
      have e1 : removeC S s.data.toList = 6 := by unfold removeC; rw [hr, m.get, hg]; rfl
      have e2 : removeS S s.data.toList = S := by unfold removeS; rw [hr, m.get, hg]; rfl
      rw [e1, e2]
      clear e1 e2 hg hr m hd
      go_enter Try.func40, Try.ntmps40
      go_wp2_with (first | (go_at_call 51; refine hf.mono ?_; rintro x w0 ⟨rfl, hw0⟩; have hw0 := hw0.symm; subst hw0) | (go_at_call 52; refine ha.mono ?_; rintro x w0 ⟨rfl, hw0⟩; have hw0 := hw0.symm; subst hw0))
      go_ret
      exact ⟨rfl, Turn.refl _ _, fin⟩
    | some e =>
      obtain ⟨X, Y, hE, hen, hat⟩ := at_some m hg
      have ha := hat w m
      have hcnt := m.count
      have hh := rhit_walk w R lv E S hd m
      have hgf : getK Fl.n s.data.toList S.fs = some e.fl := by rw [m.get, hg]; rfl
      have eC : removeC S s.data.toList = if hitB S then 3 else 0 := by unfold removeC; rw [hr, hgf]; rfl
      have eS : removeS S s.data.toList = if hitB S then hitS S else { hitS S with fs := delK Fl.n s.data.toList S.fs } := by unfold removeS; rw [hr, hgf]; rfl
      rw [eC, eS]
      clear eC eS hat hg
      subst hE
      have hlen : (X ++ e :: Y).length = X.length + (Y.length + 1) := by simp
      have hxl : X.length < (X ++ e :: Y).length := by omega
      have Hlen := hide hlen
      cases hb : hitB S
      · rw [hb] at hh
        simp only [Bool.false_eq_true, if_false]
        have hw2 : Well { hitS S with fs := delK Fl.n s.data.toList S.fs } := well_del m.well rfl (hitS_fs S).2 (well_hit m.well).arm
        have hfs2 : delK Fl.n s.data.toList S.fs = (X ++ Y).map Ent.fl := by
          have hri := m.well.rise
          rw [m.fs, List.map_append, List.map_cons] at hri ⊢
          rw [← hen, show e.n = Fl.n e.fl from rfl, delK_mid hri, List.map_append]
        have Hw2 := hide hw2
        have Hfs2 := hide hfs2
        have Hm := hide m
        clear hw2 hgf hr hb fin hfs2
        go_enter Try.func40, Try.ntmps40
        generalize hnE : (X ++ e :: Y).length = nE at *
        generalize hX : X.length = nX at *
        have HX := hide hX
        have HnE := hide hnE
        clear hX hlen hnE
        go_wp2_with (first | (go_at_call 51; refine hf.mono ?_; rintro x w0 ⟨rfl, hw0⟩; have hw0 := hw0.symm; subst hw0) | (go_at_call 52; refine ha.mono ?_; rintro x w0 ⟨rfl, hw0⟩; have hw0 := hw0.symm; subst hw0) | (go_at_call 57; refine hh.mono ?_; rintro x w1 ⟨rfl, t1, m1⟩))
        obtain ⟨i0, hi, hz0, hz1, hz2⟩ := info_file'
        have hxL := unhide HX
        have hnL := unhide HnE
        have hlL := unhide Hlen
        have r1 := m1.row
        rw [hnL] at r1
        have hsl := m1.slices
        obtain ⟨x1, hs1, sr1, b1⟩ := cutS_to (ki := .i64) Try.underlying29 hi hz1 r1 nX (by omega)
        obtain ⟨x2, hs2, sr2, b2⟩ := cutS_from (ki := .i64) Try.underlying29 hi hz1 r1 (nX + 1) (by omega)
        rw [← hxL, rcs_take] at sr1
        have e2 : X ++ e :: Y = (X ++ [e]) ++ Y := by simp
        have e3 : (nX + 1) * 3 = (X ++ [e]).length * 3 := by simp [hxL]
        rw [e3, e2, rcs_drop, show nE - (nX + 1) = Y.length by omega] at sr2
        have sr1d : Src 3 w1.drew x1 X.length (rcs X) := sr1.turn (F := fun _ => False) ((Turn.refl _ _).drew) (fun _ _ => id)
        obtain ⟨v2, w2, run2, o2, t2, l2⟩ := app_files (w := w1.drew) (v := .slice none 0 0) (n := 0) (xs := []) ⟨rfl, .inl ⟨rfl, rfl⟩⟩ sr1d (fun x hx => hsl x (by simp [hx])) (by omega)
        rw [List.nil_append, Nat.zero_add] at o2
        have t2 : Turn (fun _ => False) w1 w2 := (t2.mono (fun j hj => by simp [Value.ownBlock] at hj)).undrew
        have l2 : ∀ j, v2.ownBlock = some j → w1.heap.size ≤ j := fun j hj => by
          rcases l2 j hj with h | h
          · simp [Value.ownBlock] at h
          · exact h
        have m2 := m1.turn t2 (fun _ _ => id)
        obtain ⟨v3, w3, run3, o3, t3, l3⟩ := app_files o2 (sr2.turn t2 (fun _ _ => id)) (fun x hx => hsl x (by simp [hx])) (by omega)
        have n3 : ∀ j, RFoot R lv (X ++ e :: Y) j → ¬ v2.ownBlock = some j := fun j hj q => by have := l2 j q; have := m1.lt j hj; omega
        have m3 := m2.turn t3 n3
        rw [← rcs_append, ← List.length_append] at o3
        have m4 := RMem.list (S' := { hitS S with fs := delK Fl.n s.data.toList S.fs }) m3.obj rfl rfl rfl o3 (fun x hx => m3.own x (by rcases List.mem_append.1 hx with h | h <;> simp [h])) (unhide Hfs2) (unhide Hw2)
        have t4 := setRow w3 R 1 v3
        have tt : Turn F w (w3.setCell ⟨R, 1, none⟩ v3) := by
          have a1 : Turn F w w1 := t1.mono (fun j hj => by subst hj; exact hF j (.inl rfl))
          have a2 : Turn F w w2 := a1.then (t2.mono (fun j hj => hj.elim))
          have s1 := t1.size
          have a3 : Turn F w w3 := a2.trans t3 (fun j hj => .inr (by have := l2 j hj; omega))
          exact a3.then (t4.mono (fun j hj => by subst hj; exact hF j (.inl rfl)))
        have ffin : RAt (w3.setCell ⟨R, 1, none⟩ v3) R (NF w F) { hitS S with fs := delK Fl.n s.data.toList S.fs } := by
          have s1 := t1.size
          have s2 := t2.size
          refine ⟨_, _, m4, RMem.foot (w := w) hF (fun j hj => .inr ?_) (fun x hx => .inl ⟨x, by rcases List.mem_append.1 hx with h | h <;> simp [h], rfl⟩)⟩
          rcases l3 j hj with h | h
          · have := l2 j h; omega
          · omega
        have c1 : w1.cell? ⟨R, 1, none⟩ = some lv := cell_obj m1.obj 1
        have c2 : w2.cell? ⟨R, 1, none⟩ = some lv := cell_obj m2.obj 1
        have c3 : w3.cell? ⟨R, 1, none⟩ = some lv := cell_obj m3.obj 1
        have f3 : w3.frozen? ⟨R, 1, none⟩ = false := frozen_obj m3.obj 1
        have hwr : IntKind.i64.wrap ((nX : Int) + 1) = (nX : Int) + 1 := by rw [IntKind.wrap_i64]; omega
        rw [show ((nX + 1 : Nat) : Int) = (nX : Int) + 1 by omega] at hs2
        obtain ⟨pl, cl, hlv⟩ := r1.form
        obtain ⟨px1, nx1, cx1, hx1⟩ : ∃ a n c, x1 = .slice a n c := by rcases sr1.2 with ⟨a, c, h, _⟩ | ⟨a, c, h, _⟩ <;> exact ⟨_, _, _, h⟩
        obtain ⟨px2, nx2, cx2, hx2⟩ : ∃ a n c, x2 = .slice a n c := by rcases sr2.2 with ⟨a, c, h, _⟩ | ⟨a, c, h, _⟩ <;> exact ⟨_, _, _, h⟩
        obtain ⟨p2, cc2, hv2⟩ := o2.form
        obtain ⟨p3, cc3, hv3⟩ := o3.form
        rw [hxL] at hv2
        have e4 : (X ++ Y).length = nX + Y.length := by rw [List.length_append, hxL]
        rw [e4] at hv3
        clear m4 t4 o3 m3 m2 m1 sr1 sr2 sr1d o2 hxL hlL hnL Hm Hw2 t1 t2 t3 r1 b1 b2 e4 e3 e2 n3
        subst hlv hx1 hx2 hv2 hv3
        go_region_law (first | (refine step_append_run rfl (.tmp 27) (.tmp 34) 29 rfl _ _ _ _ rfl rfl run3 ?_) | (refine step_append_run rfl (.const (.slice none 0 0)) (.tmp 26) 29 rfl _ _ _ _ rfl rfl run2 ?_))
        all_goals
          go_wp2
          go_ret
          exact ⟨rfl, tt, ffin⟩
      · rw [hb] at hh
        rw [if_pos rfl, if_pos rfl]
        clear hgf hlen Hlen fin
        generalize X.length = nX at *
        go_enter Try.func40, Try.ntmps40
        go_wp2_with (first | (go_at_call 51; refine hf.mono ?_; rintro x w0 ⟨rfl, hw0⟩; have hw0 := hw0.symm; subst hw0) | (go_at_call 52; refine ha.mono ?_; rintro x w0 ⟨rfl, hw0⟩; have hw0 := hw0.symm; subst hw0) | (go_at_call 57; refine hh.mono ?_; rintro x w1 ⟨rfl, t1, m1⟩))
        go_ret
        exact ⟨rfl, t1.mono (fun j hj => by subst hj; exact hF j (.inl rfl)), _, _, m1, fun j hj => .inl (hF j hj)⟩
  · have e1 : removeC S s.data.toList = refuse S s.data.toList := by unfold removeC; rw [if_pos hr]
    have e2 : removeS S s.data.toList = S := by unfold removeS; rw [if_pos hr]
    rw [e1, e2]
    have hne : (refuse S s.data.toList != 0) = true := by simpa using hr
    clear e1 e2 hr m
    generalize refuse S s.data.toList = x at *
    go_enter Try.func40, Try.ntmps40
    go_wp2_with (go_at_call 51; refine hf.mono ?_; rintro y w0 ⟨rfl, hw0⟩; have hw0 := hw0.symm; subst hw0)
    go_ret
    exact ⟨rfl, Turn.refl _ _, fin⟩
end Go.Proofs.Ythpfdgjpmooclaa
