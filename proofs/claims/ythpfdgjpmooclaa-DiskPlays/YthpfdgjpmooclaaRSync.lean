/- The reference's Sync, Read. -/
import Derived.Test.YthpfdgjpmooclaaRSmall
namespace Go.Proofs.Ythpfdgjpmooclaa
open Go.RowKit Go.Maps
set_option linter.unusedVariables false
set_option linter.unusedSimpArgs false

theorem at_some {w : World} {R : Nat} {lv : Value} {E : List Ent} {S : Dk} {s : ByteArray} (m : RMem w R lv E S) {e : Ent} (hg : getK Ent.n s.data.toList E = some e) :
    ∃ X Y, E = X ++ e :: Y ∧ e.n = s.data.toList ∧ ∀ u, RMem u R lv E S → Calls Try.prog 52 #[.pointer (some ⟨R, 0, none⟩), .string s] u fun e w' => e = .returned (.int .i64 (X.length : Int)) ∧ w' = u := by
  have hr := m.rise
  obtain ⟨he, hn⟩ := getK_some hg
  obtain ⟨X, Y, rfl⟩ := split_of_mem he
  refine ⟨X, Y, rfl, hn, fun u mu => at_walk u R lv _ S s X.length _ mu (by simp) (fun k h hk => ?_) (fun h => by simp; exact hn) (by simp)⟩
  rw [← hn]
  unfold Rise at hr
  rw [List.pairwise_append] at hr
  rw [List.getElem_append_left hk]
  exact before_ne (hr.2.2 _ (List.getElem_mem hk) e (by simp))
theorem at_none {w : World} {R : Nat} {lv : Value} {E : List Ent} {S : Dk} {s : ByteArray} (m : RMem w R lv E S) (hg : getK Ent.n s.data.toList E = none) :
    Calls Try.prog 52 #[.pointer (some ⟨R, 0, none⟩), .string s] w fun e w' => e = .returned (.int .i64 (-1)) ∧ w' = w :=
  at_walk w R lv E S s E.length _ m (Nat.le_refl _) (fun k h _ => getK_none hg _ (List.getElem_mem h)) (fun h => absurd h (by omega)) (by simp)

theorem RMem.foot {w : World} {R : Nat} {F : Nat → Prop} {lv lv' : Value} {E E' : List Ent} (hF : ∀ j, RFoot R lv E j → F j) (h1 : ∀ j, lv'.ownBlock = some j → lv.ownBlock = some j ∨ w.heap.size ≤ j) (h2 : ∀ e ∈ E', (∃ e0 ∈ E, e0.v = e.v) ∨ ∀ j, e.v.ownBlock = some j → w.heap.size ≤ j) : ∀ j, RFoot R lv' E' j → NF w F j := by
  rintro j (rfl | hj | ⟨e, he, hj⟩)
  · exact .inl (hF _ (.inl rfl))
  · rcases h1 j hj with h | h
    · exact .inl (hF j (.inr (.inl h)))
    · exact .inr h
  · rcases h2 e he with ⟨e0, he0, hv⟩ | h
    · exact .inl (hF j (.inr (.inr ⟨e0, he0, by rw [hv]; exact hj⟩)))
    · exact .inr (h j hj)

/-- one file's cells written in their place -/
theorem RMem.put {w w' : World} {R g off n cap : Nat} {X Y : List Ent} {e e' : Ent} {S S' : Dk} (m : RMem w R (.slice (some ⟨g, off, none⟩) n cap) (X ++ e :: Y) S) (t : Turn (fun j => j = g) w w')
    (hn : n = (X ++ e :: Y).length) (hrow : OwnSl w' 77 3 (.slice (some ⟨g, off, none⟩) n cap) n (rcs (X ++ e' :: Y))) (he : OwnSl w 5 1 e'.v e'.d.length (e'.d.map (Value.int .u8)))
    (h1 : S'.size = S.size) (h2 : S'.arm = S.arm) (h3 : S'.down = S.down) (hfs : S'.fs = (X ++ e' :: Y).map Ent.fl) (hw : Well S') : RMem w' R (.slice (some ⟨g, off, none⟩) n cap) (X ++ e' :: Y) S' := by
  obtain ⟨cur, hc⟩ := m.row.lt g rfl
  refine ⟨?_, ?_, ?_, hfs, hw⟩
  · rw [h1, h2, h3]; exact t.same m.obj (fun q => m.row.neObj m.obj (by decide) g rfl q.symm)
  · have : (X ++ e' :: Y).length = n := by rw [hn]; simp
    rw [this]; exact hrow
  · have key : ∀ x : Ent, OwnSl w 5 1 x.v x.d.length (x.d.map (Value.int .u8)) → OwnSl w' 5 1 x.v x.d.length (x.d.map (Value.int .u8)) := fun x hx => hx.turn t (hx.neObj hc (by decide))
    intro x hx
    rcases List.mem_append.1 hx with hx | hx
    · exact key x (m.own x (by simp [hx]))
    · rcases List.mem_cons.1 hx with rfl | hx
      · exact key x he
      · exact key x (m.own x (by simp [hx]))
theorem setRow (w : World) (g j : Nat) (u : Value) : Turn (fun k => k = g) w (w.setCell ⟨g, j, none⟩ u) := (Turn.refl (fun k => k = g) w).setCell (p := ⟨g, j, none⟩) (.inl rfl) _

set_option maxRecDepth 100000 in
set_option maxHeartbeats 2000000 in
theorem rSync_walk (w : World) (R : Nat) (F : Nat → Prop) (S : Dk) (s : ByteArray) (hs : s.size ≤ maxLen) (h : RAt w R F S) :
    Calls Try.prog 37 #[.pointer (some ⟨R, 0, none⟩), .string s] w fun e w' => e = .returned (.int .i64 (syncC S s.data.toList)) ∧ Turn F w w' ∧ RAt w' R (NF w F) (syncS S s.data.toList) := by
  obtain ⟨lv, E, m, hF⟩ := h
  have hf := fine_walk w R lv E S s hs m
  by_cases hr : refuse S s.data.toList = 0
  · rw [hr] at hf
    have hd := (refuse_up hr).1
    cases hg : getK Ent.n s.data.toList E with
    | none =>
      have ha := at_none m hg
      have e1 : syncC S s.data.toList = 6 := by unfold syncC; rw [hr, m.get, hg]; rfl
      have e2 : syncS S s.data.toList = S := by unfold syncS; rw [hr, m.get, hg]; rfl
      rw [e1, e2]
      have fin : RAt w R (NF w F) S := ⟨lv, E, m, fun j hj => .inl (hF j hj)⟩
      clear e1 e2 hg hr m hd
      go_enter Try.func37, Try.ntmps37
      go_wp2_with (first | (go_at_call 51; refine hf.mono ?_; rintro x w0 ⟨rfl, hw0⟩; have hw0 := hw0.symm; subst hw0) | (go_at_call 52; refine ha.mono ?_; rintro x w0 ⟨rfl, hw0⟩; have hw0 := hw0.symm; subst hw0))
      go_ret
      exact ⟨rfl, Turn.refl _ _, fin⟩
    | some e =>
      obtain ⟨X, Y, hE, hen, hat⟩ := at_some m hg
      have ha := hat w m
      have hh := rhit_walk w R lv E S hd m
      have eC : syncC S s.data.toList = if hitB S then 3 else 0 := by unfold syncC; rw [hr, m.get, hg]; rfl
      have eS : syncS S s.data.toList = if hitB S then hitS S else { hitS S with fs := putK Fl.n ⟨s.data.toList, e.d, e.d.length⟩ S.fs } := by unfold syncS; rw [hr, m.get, hg]; rfl
      rw [eC, eS]
      cases hb : hitB S
      · rw [hb] at hh
        simp only [Bool.false_eq_true, if_false]
        have hem := (getK_some hg).1
        have hbd := m.bound hem
        obtain ⟨p, c, hv⟩ := m.form hem
        have hgf : getK Fl.n s.data.toList S.fs = some e.fl := by rw [m.get, hg]; rfl
        have hw2 : Well { hitS S with fs := putK Fl.n ⟨s.data.toList, e.d, e.d.length⟩ S.fs } := well_put (f := ⟨s.data.toList, e.d, e.d.length⟩) (g := e.fl) m.well hgf (by have := m.well.room; simp [Ent.fl]; omega) (Nat.le_refl _) rfl (hitS_fs S).2 (well_hit m.well).arm
        have hfs2 : putK Fl.n ⟨s.data.toList, e.d, e.d.length⟩ S.fs = (X ++ { e with s := e.d.length } :: Y).map Ent.fl := by
          rw [m.fs, hE, List.map_append, List.map_cons, List.map_append, List.map_cons]
          have hri := m.well.rise
          rw [m.fs, hE, List.map_append, List.map_cons] at hri
          rw [putK_mid (x := e.fl) hri hen.symm]
          simp [Ent.fl, hen]
        have Hw2 := hide hw2
        have Hfs2 := hide hfs2
        clear hw2 hfs2 hgf hg hr eC eS hb
        go_enter Try.func37, Try.ntmps37
        go_wp2_with (first | (go_at_call 51; refine hf.mono ?_; rintro x w0 ⟨rfl, hw0⟩; have hw0 := hw0.symm; subst hw0) | (go_at_call 52; refine ha.mono ?_; rintro x w0 ⟨rfl, hw0⟩; have hw0 := hw0.symm; subst hw0) | (go_at_call 57; refine hh.mono ?_; rintro e w1 ⟨rfl, t1, m1⟩))
        subst hE
        obtain ⟨g, off, cap, hlv, q0, q1, q2⟩ := m1.at
        have c1 : w1.cell? ⟨R, 1, none⟩ = some lv := cell_obj m1.obj 1
        subst hlv
        rw [hv] at q1
        have hlen : (X ++ e :: Y).length = X.length + (Y.length + 1) := by simp
        have hxl : X.length < (X ++ e :: Y).length := by omega
        have hcnt := m.count
        obtain ⟨o2, f2⟩ := m1.row.set (X.length * 3 + 2) (by omega) (.int .i64 (e.d.length : Int))
        rw [rcs_set X Y e { e with s := e.d.length } 2 (by omega) _ (by simp [rc])] at o2
        rw [← Nat.add_assoc] at o2 f2
        have Ho2 := hide o2
        have Hlen := hide hlen
        clear o2 hlen
        generalize (X ++ e :: Y).length = nE at *
        generalize hX : X.length = nX at *
        have t2 := setRow w1 g (off + nX * 3 + 2) (.int .i64 (e.d.length : Int))
        have m2 := m1.put (e' := { e with s := e.d.length }) (S' := { hitS S with fs := putK Fl.n ⟨s.data.toList, e.d, e.d.length⟩ S.fs }) t2 (by have := unhide Hlen; simp; rw [hX, this]) (unhide Ho2) (m1.own e (by simp)) rfl rfl rfl (unhide Hfs2) (unhide Hw2)
        have t12 : Turn F w (w1.setCell ⟨g, off + nX * 3 + 2, none⟩ (.int .i64 (e.d.length : Int))) := (t1.mono (fun j hj => by subst hj; exact hF j (.inl rfl))).then (t2.mono (fun j hj => by subst hj; exact hF j (.inr (.inl rfl))))
        have hfoot := RMem.foot (w := w) (E' := X ++ { e with s := e.d.length } :: Y) hF (fun j hj => .inl hj) (fun x hx => by
          rcases List.mem_append.1 hx with hx | hx
          · exact .inl ⟨x, by simp [hx], rfl⟩
          · rcases List.mem_cons.1 hx with rfl | hx
            · exact .inl ⟨e, by simp, rfl⟩
            · exact .inl ⟨x, by simp [hx], rfl⟩)
        have fin : RAt (w1.setCell ⟨g, off + nX * 3 + 2, none⟩ (.int .i64 (e.d.length : Int))).drew R (NF w F) { hitS S with fs := putK Fl.n ⟨s.data.toList, e.d, e.d.length⟩ S.fs } :=
          ⟨_, _, m2.turn (F := fun _ => False) ((Turn.refl _ _).drew) (fun _ _ => id), hfoot⟩
        clear m2 hfoot t2
        go_region
        go_wp2
        go_ret
        exact ⟨rfl, t12.drew, fin⟩
      · rw [hb] at hh
        rw [if_pos rfl, if_pos rfl]
        clear eC eS hb hg hr hat
        go_enter Try.func37, Try.ntmps37
        go_wp2_with (first | (go_at_call 51; refine hf.mono ?_; rintro x w0 ⟨rfl, hw0⟩; have hw0 := hw0.symm; subst hw0) | (go_at_call 52; refine ha.mono ?_; rintro x w0 ⟨rfl, hw0⟩; have hw0 := hw0.symm; subst hw0) | (go_at_call 57; refine hh.mono ?_; rintro e w1 ⟨rfl, t1, m1⟩))
        go_ret
        exact ⟨rfl, t1.mono (fun j hj => by subst hj; exact hF j (.inl rfl)), lv, E, m1, fun j hj => .inl (hF j hj)⟩
  · have e1 : syncC S s.data.toList = refuse S s.data.toList := by unfold syncC; rw [if_pos hr]
    have e2 : syncS S s.data.toList = S := by unfold syncS; rw [if_pos hr]
    rw [e1, e2]
    have hne : (refuse S s.data.toList != 0) = true := by simpa using hr
    have fin : RAt w R (NF w F) S := ⟨lv, E, m, fun j hj => .inl (hF j hj)⟩
    clear e1 e2 hr m
    generalize refuse S s.data.toList = x at *
    go_enter Try.func37, Try.ntmps37
    go_wp2_with (go_at_call 51; refine hf.mono ?_; rintro x w0 ⟨rfl, hw0⟩; have hw0 := hw0.symm; subst hw0)
    go_ret
    exact ⟨rfl, Turn.refl _ _, fin⟩
end Go.Proofs.Ythpfdgjpmooclaa
