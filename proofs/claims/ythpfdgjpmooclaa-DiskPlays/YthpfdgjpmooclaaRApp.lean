/- The reference's Append: what is written; where it is refused, or there is no room; onto a file that is there. -/
import Derived.Test.YthpfdgjpmooclaaRDel
namespace Go.Proofs.Ythpfdgjpmooclaa
open Go.RowKit Go.Maps
set_option linter.unusedVariables false
set_option linter.unusedSimpArgs false

/-- 'd.L[i].B = append(append([]byte(nil), d.L[i].B...), b...)': what is run, and what is there then -/
theorem write_facts {w1 : World} {R g off nE cap nX : Nat} {X Y : List Ent} {e : Ent} {S1 S2 : Dk} {zs : List Int} {bv : Value} {Bk : Nat → Prop}
    (m1 : RMem w1 R (.slice (some ⟨g, off, none⟩) nE cap) (X ++ e :: Y) S1) (hn : nE = (X ++ e :: Y).length) (hX : X.length = nX) (hrow : Row .u8 Bk w1 bv zs) (hl : e.d.length + zs.length ≤ 140737488355328)
    (h1 : S2.size = S1.size) (h2 : S2.arm = S1.arm) (h3 : S2.down = S1.down) (hfs : S2.fs = (X ++ { e with d := e.d ++ zs } :: Y).map Ent.fl) (hw : Well S2) :
    ∃ p2 c2 w2 p3 c3 w3, (Builtin.append_ #[32, 32] 32 #[.slice none 0 0, e.v]).run Try.prog w1.drew = .ok (.slice p2 e.d.length c2) w2 ∧
      (Builtin.append_ #[32, 32] 32 #[.slice p2 e.d.length c2, bv]).run Try.prog w2 = .ok (.slice p3 (e.d.length + zs.length) c3) w3 ∧
      w1.cell? ⟨R, 1, none⟩ = some (.slice (some ⟨g, off, none⟩) nE cap) ∧ w2.cell? ⟨R, 1, none⟩ = some (.slice (some ⟨g, off, none⟩) nE cap) ∧ w3.cell? ⟨R, 1, none⟩ = some (.slice (some ⟨g, off, none⟩) nE cap) ∧
      w1.cell? ⟨g, off + nX * 3 + 1, none⟩ = some e.v ∧ w2.cell? ⟨g, off + nX * 3 + 1, none⟩ = some e.v ∧ w3.cell? ⟨g, off + nX * 3 + 1, none⟩ = some e.v ∧ w3.frozen? ⟨g, off + nX * 3 + 1, none⟩ = false ∧
      RMem (w3.setCell ⟨g, off + nX * 3 + 1, none⟩ (.slice p3 (e.d.length + zs.length) c3)) R (.slice (some ⟨g, off, none⟩) nE cap) (X ++ { e with v := .slice p3 (e.d.length + zs.length) c3, d := e.d ++ zs } :: Y) S2 ∧
      Turn (fun j => j = g) w1 (w3.setCell ⟨g, off + nX * 3 + 1, none⟩ (.slice p3 (e.d.length + zs.length) c3)) ∧ (∀ j, (Value.slice p3 (e.d.length + zs.length) c3).ownBlock = some j → w1.heap.size ≤ j) := by
  obtain ⟨i0, hi, hz0, hz1, hz2⟩ := info_u8'
  obtain ⟨g', off', cap', hlv', q0, q1, _⟩ := m1.at
  simp only [Value.slice.injEq, Option.some.injEq, Addr.mk.injEq, and_true] at hlv'
  obtain ⟨⟨rfl, rfl⟩, _, rfl⟩ := hlv'
  have ho1 := m1.own e (by simp)
  have hr1 : Row .u8 _ w1.drew e.v e.d := (row_of_sl ho1).turn (F := fun _ => False) ((Turn.refl _ _).drew) (fun _ _ => id)
  obtain ⟨v2, w2, run2, o2, t2, l2⟩ := copy_run hr1 (by omega)
  have t2 := t2.undrew
  have l2 : ∀ j, v2.ownBlock = some j → w1.heap.size ≤ j := l2
  have m2 := m1.turn t2 (fun _ _ => id)
  obtain ⟨v3, w3, run3, o3, t3, l3⟩ := append_sl (P := Try.prog) (ty := 32) Try.underlying32 hi hz0 hz1 hz2 rfl o2 (hrow.turn t2 (fun _ _ => id)) (by omega)
  have n3 : ∀ j, RFoot R (.slice (some ⟨g, off, none⟩) nE cap) (X ++ e :: Y) j → ¬ v2.ownBlock = some j := fun j hj q => by have := l2 j q; have := m1.lt j hj; omega
  have m3 := m2.turn t3 n3
  obtain ⟨p2, c2, hv2⟩ := o2.form
  obtain ⟨p3, c3, hv3⟩ := o3.form
  rw [List.length_append] at hv3
  subst hv2 hv3
  have r3 : OwnSl w3 77 3 (.slice (some ⟨g, off, none⟩) nE cap) nE (rcs (X ++ e :: Y)) := by have := m3.row; rwa [← hn] at this
  obtain ⟨o4, f4⟩ := r3.set (nX * 3 + 1) (by simp at hn; omega) (.slice p3 (e.d.length + zs.length) c3)
  rw [← hX, rcs_set X Y e { e with v := .slice p3 (e.d.length + zs.length) c3, d := e.d ++ zs } 1 (by omega) _ (by simp [rc]), hX] at o4
  rw [← Nat.add_assoc] at o4 f4
  have t4 := setRow w3 g (off + nX * 3 + 1) (.slice p3 (e.d.length + zs.length) c3)
  have q1' : w1.cell? ⟨g, off + nX * 3 + 1, none⟩ = some e.v := by rw [← hX]; exact q1
  have q2 := t2.cell q1' id
  have q3 := t3.cell q2 (n3 g (.inr (.inl rfl)))
  refine ⟨p2, c2, w2, p3, c3, w3, run2, run3, cell_obj m1.obj 1, cell_obj m2.obj 1, cell_obj m3.obj 1, q1', q2, q3, f4, ?_, ?_, ?_⟩
  · refine m3.put t4 hn o4 ?_ h1 h2 h3 (by rw [hfs]; simp [Ent.fl]) hw
    simp only
    rw [← List.length_append] at o3 ⊢
    exact o3
  · have a2 : Turn (fun j => j = g) w1 w2 := t2.mono (fun j hj => hj.elim)
    exact (a2.trans t3 (fun j hj => .inr (l2 j hj))).then t4
  · intro j hj
    have s2 := t2.size
    rcases l3 j hj with h | h
    · exact l2 j h
    · omega

theorem hit_appS (S : Dk) (n : Nm) (zs : List Int) : hitS (appS S n zs) = { hitS S with fs := (appS S n zs).fs } := by
  unfold hitS
  by_cases h : S.arm = 0
  · rw [if_pos h, if_pos (show (appS S n zs).arm = 0 from h)]; rfl
  · rw [if_neg h, if_neg (show ¬ (appS S n zs).arm = 0 from h)]; rfl

set_option maxRecDepth 100000 in
set_option maxHeartbeats 2000000 in
theorem rapp_no (w : World) (R : Nat) (lv : Value) (E : List Ent) (S : Dk) (s : ByteArray) (bv : Value) (hs : s.size ≤ maxLen) (m : RMem w R lv E S) (hr : refuse S s.data.toList ≠ 0) :
    Calls Try.prog 45 #[.pointer (some ⟨R, 0, none⟩), .string s, bv] w fun x w' => x = .returned (.int .i64 (refuse S s.data.toList)) ∧ w' = w := by
  have hf := fine_walk w R lv E S s hs m
  have hne : (refuse S s.data.toList != 0) = true := by simpa using hr
  clear hr m
  generalize refuse S s.data.toList = x at *
  go_enter Try.func45, Try.ntmps45
  go_wp2_with (go_at_call 51; refine hf.mono ?_; rintro y w0 ⟨rfl, hw0⟩; have hw0 := hw0.symm; subst hw0)
  go_ret
  exact ⟨rfl, rfl⟩

theorem RMem.drewN {w : World} {R : Nat} {lv : Value} {E : List Ent} {S : Dk} (m : RMem w R lv E S) (n : Nat) : RMem (w.drewN n) R lv E S := m.turn (F := fun _ => False) ((Turn.refl _ _).drewN n) (fun _ _ => id)

set_option maxRecDepth 100000 in
set_option maxHeartbeats 2000000 in
theorem rapp_full (w : World) (R : Nat) (lv : Value) (E : List Ent) (S : Dk) (s : ByteArray) (bv : Value) (zs : List Int) (Bk : Nat → Prop) (hs : s.size ≤ maxLen) (m : RMem w R lv E S) (hrow : Row .u8 Bk w bv zs) (hr : refuse S s.data.toList = 0) (hful : fullB S s.data.toList zs = true) :
    Calls Try.prog 45 #[.pointer (some ⟨R, 0, none⟩), .string s, bv] w fun x w' => x = .returned (.int .i64 4) ∧ ∃ n, w' = w.drewN n := by
  have hf := fine_walk w R lv E S s hs m
  rw [hr] at hf
  have hu : ∀ n, Calls Try.prog 16 #[.pointer (some ⟨R, 0, none⟩)] (w.drewN n) fun e w' => e = .returned (.int .i64 (used S.fs : Nat)) ∧ w' = w.drewN n := fun n => rused_walk _ R lv E S (m.drewN n)
  have c0 : w.cell? ⟨R, 0, none⟩ = some (.int .i64 (S.size : Int)) := cell_obj m.obj 0
  have c1 : w.cell? ⟨R, 1, none⟩ = some lv := cell_obj m.obj 1
  have hzl := hrow.len
  unfold maxLen at hzl
  have hroom := m.well.room
  have hsize := m.well.size
  have hcnt := m.count
  obtain ⟨pl, cl, hlv⟩ := m.row.form
  obtain ⟨ab, cb, hbv⟩ := hrow.slice
  obtain ⟨i, hi, ha⟩ : ∃ i : Int, ((getK Fl.n s.data.toList S.fs).isNone = decide (i < 0) ∧ -1 ≤ i ∧ i ≤ 1000) ∧ Calls Try.prog 52 #[.pointer (some ⟨R, 0, none⟩), .string s] w fun e w' => e = .returned (.int .i64 i) ∧ w' = w := by
    rw [m.get]
    cases hg : getK Ent.n s.data.toList E with
    | none => exact ⟨-1, ⟨by rfl, by omega, by omega⟩, at_none m hg⟩
    | some e =>
      obtain ⟨X, Y, hE, hen, hat⟩ := at_some m hg
      have : X.length ≤ E.length := by rw [hE]; simp
      exact ⟨_, ⟨by simp, by omega, by omega⟩, hat w m⟩
  obtain ⟨hi1, hi2, hi3⟩ := hi
  have hfl : S.fs.length = E.length := by rw [m.fs]; simp
  unfold fullB at hful
  rw [hi1, hfl] at hful
  clear hi1 m hrow hr hfl
  subst hlv hbv
  generalize used S.fs = U at *
  generalize hzn : zs.length = zn at *
  clear hzn
  by_cases hA : S.size < U + zn
  · have hA' : decide ((S.size : Int) - (U : Int) < (zn : Int)) = true := by simp; omega
    clear hful hA
    go_enter Try.func45, Try.ntmps45
    go_wp2_with (first | (go_at_call 51; refine hf.mono ?_; rintro y w0 ⟨rfl, hw0⟩; have hw0 := hw0.symm; subst hw0) | (go_at_call 52; refine ha.mono ?_; rintro x w0 ⟨rfl, hw0⟩; have hw0 := hw0.symm; subst hw0))
    go_quiet ((go_at_call 16; exact Calls.quiet_of_same (hu _)))
    go_wp2
    go_ret
    exact ⟨rfl, _, rfl⟩
  · have hA' : decide ((S.size : Int) - (U : Int) < (zn : Int)) = false := by simp; omega
    rw [decide_eq_false hA, Bool.false_or, Bool.and_eq_true] at hful
    have hB' := hful.1
    have hC : 64 ≤ E.length := by simpa using hful.2
    have hC' : decide ((64 : Int) ≤ (E.length : Int)) = true := by simp; omega
    have hC2 : decide (64 ≤ E.length) = true := by simp; omega
    clear hful hA
    go_enter Try.func45, Try.ntmps45
    go_wp2_with (first | (go_at_call 51; refine hf.mono ?_; rintro y w0 ⟨rfl, hw0⟩; have hw0 := hw0.symm; subst hw0) | (go_at_call 52; refine ha.mono ?_; rintro x w0 ⟨rfl, hw0⟩; have hw0 := hw0.symm; subst hw0))
    go_quiet ((go_at_call 16; exact Calls.quiet_of_same (hu _)))
    go_wp2
    go_ret
    exact ⟨rfl, _, rfl⟩

set_option maxRecDepth 100000 in
set_option maxHeartbeats 4000000 in
theorem rapp_old (w : World) (R : Nat) (F Bk : Nat → Prop) (lv : Value) (E : List Ent) (S : Dk) (s : ByteArray) (bv : Value) (zs : List Int) (hs : s.size ≤ maxLen) (m : RMem w R lv E S) (hF : ∀ j, RFoot R lv E j → F j) (hrow : Row .u8 Bk w bv zs) (hBk : ∀ b, Bk b → ¬ F b) (hr : refuse S s.data.toList = 0)
    (e : Ent) (hg : getK Ent.n s.data.toList E = some e) (hful : fullB S s.data.toList zs = false) :
    Calls Try.prog 45 #[.pointer (some ⟨R, 0, none⟩), .string s, bv] w fun x w' => x = .returned (.int .i64 (hitC S)) ∧ Turn F w w' ∧ RAt w' R (NF w F) (hitS (appS S s.data.toList zs)) := by
  have hf := fine_walk w R lv E S s hs m
  rw [hr] at hf
  have hu : ∀ n, Calls Try.prog 16 #[.pointer (some ⟨R, 0, none⟩)] (w.drewN n) fun e w' => e = .returned (.int .i64 (used S.fs : Nat)) ∧ w' = w.drewN n := fun n => rused_walk _ R lv E S (m.drewN n)
  have c0 : w.cell? ⟨R, 0, none⟩ = some (.int .i64 (S.size : Int)) := cell_obj m.obj 0
  have c1 : w.cell? ⟨R, 1, none⟩ = some lv := cell_obj m.obj 1
  have hzl := hrow.len
  unfold maxLen at hzl
  have hroom := m.well.room
  have hsize := m.well.size
  have hcnt := m.count
  have hd := (refuse_up hr).1
  obtain ⟨X, Y, hE, hen, hat⟩ := at_some m hg
  have ha := hat w m
  have hem := (getK_some hg).1
  have hbd := m.bound hem
  obtain ⟨p, c, hv⟩ := m.form hem
  obtain ⟨ab, cb, hbv⟩ := hrow.slice
  have hgf : getK Fl.n s.data.toList S.fs = some e.fl := by rw [m.get, hg]; rfl
  have hA : S.size ≥ used S.fs + zs.length := by
    simp [fullB] at hful; omega
  have hA' : decide ((S.size : Int) - (used S.fs : Int) < (zs.length : Int)) = false := by simp; omega
  have hzb : zs.length ≤ 16777216 := by omega
  have hwell : Well (hitS (appS S s.data.toList zs)) := by
    refine well_hit ?_
    rw [appS_old hgf]
    refine well_put (f := ⟨s.data.toList, e.fl.d ++ zs, e.fl.s⟩) (g := e.fl) m.well hgf ?_ ?_ rfl rfl m.well.arm
    · simp; omega
    · have := m.well.good e.fl (by rw [m.fs]; exact List.mem_map.2 ⟨e, hem, rfl⟩)
      simp; omega
  have hfs : (hitS (appS S s.data.toList zs)).fs = (X ++ { e with d := e.d ++ zs } :: Y).map Ent.fl := by
    rw [(hitS_fs _).1, appS_old hgf]
    have m' := m
    rw [hE] at m'
    exact put_fs m' hen rfl rfl rfl
  have hh := fun n => rhit_walk (w.drewN n) R lv E S hd (m.drewN n)
  have hsame : (hitS (appS S s.data.toList zs)).size = (hitS S).size ∧ (hitS (appS S s.data.toList zs)).arm = (hitS S).arm ∧ (hitS (appS S s.data.toList zs)).down = (hitS S).down := by rw [hit_appS]; exact ⟨rfl, rfl, rfl⟩
  have hX : decide ((X.length : Int) < 0) = false := by simp
  have Hw := hide hwell
  have Hfs := hide hfs
  have Hsame := hide hsame
  have hlen : E.length = X.length + (Y.length + 1) := by rw [hE]; simp
  have hxl : X.length < E.length := by omega
  have Hlen := hide hlen
  have Hm := hide m
  generalize hS2 : hitS (appS S s.data.toList zs) = S2 at *
  clear hful hA hwell hfs hsame hlen hr hg hgf hat hS2
  subst hE hbv
  obtain ⟨g, off, cap, hlv, _⟩ := m.at
  subst hlv
  have rowD : ∀ n, Row .u8 Bk (w.drewN n) (.slice ab zs.length cb) zs := fun n => hrow.turn (F := fun _ => False) ((Turn.refl _ _).drewN n) (fun _ _ => id)
  have HrowD := hide rowD
  have hFR := hF R (.inl rfl)
  clear m rowD hrow
  generalize hnE : (X ++ e :: Y).length = nE at *
  generalize hnX : X.length = nX at *
  generalize hU : used S.fs = U at *
  have HnE := hide hnE
  have HnX := hide hnX
  clear hnE hnX hU
  go_enter Try.func45, Try.ntmps45
  go_wp2_with (first | (go_at_call 51; refine hf.mono ?_; rintro y w0 ⟨rfl, hw0⟩; have hw0 := hw0.symm; subst hw0) | (go_at_call 52; refine ha.mono ?_; rintro x w0 ⟨rfl, hw0⟩; have hw0 := hw0.symm; subst hw0))
  go_quiet ((go_at_call 16; exact Calls.quiet_of_same (hu _)))
  go_wp2_with fail
  refine (hh nq).mono ?_
  rintro x w1 ⟨rfl, t1, m1⟩
  have row1 := (unhide HrowD nq).turn t1 (fun b hb q => by subst q; exact hBk b hb hFR)
  obtain ⟨p2, c2, w2, p3, c3, w3, run2, run3, a1, a2, a3, b1, b2, b3, fz, m4, t4, l4⟩ := write_facts m1 (unhide HnE).symm (unhide HnX) row1 (by omega) (unhide Hsame).1 (unhide Hsame).2.1 (unhide Hsame).2.2 (unhide Hfs) (unhide Hw)
  rw [hv] at run2 b1 b2 b3
  have tt : Turn F w (w3.setCell ⟨g, off + nX * 3 + 1, none⟩ (.slice p3 (e.d.length + zs.length) c3)) :=
    (((Turn.refl F w).drewN nq).then (t1.mono (fun j hj => by subst hj; exact hFR))).then (t4.mono (fun j hj => by subst hj; exact hF j (.inr (.inl rfl))))
  have s1 := t1.size
  have s0 : (w.drewN nq).heap.size = w.heap.size := by simp
  have ffin : RAt (w3.setCell ⟨g, off + nX * 3 + 1, none⟩ (.slice p3 (e.d.length + zs.length) c3)) R (NF w F) S2 :=
    ⟨_, _, m4, mid_foot (w := w) hF (fun j hj => by have := l4 j hj; omega)⟩
  have hhb : hitC S = if hitB S then 3 else 0 := rfl
  clear m4 t4 row1 t1 m1 hh hu hf ha
  cases hb : hitB S
  all_goals
    rw [hb] at hhb
    simp only [Bool.false_eq_true, if_false, if_true] at hhb
    have Hhb := hide hhb
    clear hhb
    go_wp2
    go_region_law (first | (refine step_append_run rfl (.tmp 106) (.tmp 107) 32 rfl _ _ _ _ rfl rfl run3 ?_) | (refine step_append_run rfl (.const (.slice none 0 0)) (.tmp 105) 32 rfl _ _ _ _ rfl rfl run2 ?_))
    all_goals
      go_wp2
      go_ret
      exact ⟨ret_int (unhide Hhb).symm, tt, ffin⟩
end Go.Proofs.Ythpfdgjpmooclaa
