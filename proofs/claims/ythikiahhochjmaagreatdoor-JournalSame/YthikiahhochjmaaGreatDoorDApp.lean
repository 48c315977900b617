/- Append. -/
import Derived.Test.YthikiahhochjmaaGreatDoorDMake
namespace Go.Proofs.YthikiahhochjmaaGreatDoor
open Go.RowKit Go.Maps
set_option linter.unusedVariables false

/-- append onto a slice of one's own, of a row of bytes -/
theorem append_sl {P : Program} {w : World} {t ty e : TypeId} {i : TypeInfo} {z : Value} (ht : P.underlying t = some (.slice e)) (hi : P.info? e = some i) (hz : i.zero = some z)
    (hsize : i.size = 1) (hby : i.bytes = 1) (hzs : z.cells.size = 1) {v x : Value} {k : IntKind} {Bk : Nat → Prop} {xs zs : List Int} (h : OwnSl w e 1 v xs.length (xs.map (Value.int k))) (hx : Row k Bk w x zs) (hm : xs.length + zs.length ≤ 140737488355328) :
    ∃ v' w', (Builtin.append_ #[t, t] ty #[v, x]).run P w = .ok v' w' ∧ OwnSl w' e 1 v' (xs ++ zs).length ((xs ++ zs).map (Value.int k)) ∧ Turn (fun j => v.ownBlock = some j) w w' ∧ (∀ j, v'.ownBlock = some j → v.ownBlock = some j ∨ w.heap.size ≤ j) := by
  have none_case : ∀ (a : Option Addr) (c : Nat), (a = none → c = 0) → zs = [] → x = .slice a 0 c → ∃ v' w', (Builtin.append_ #[t, t] ty #[v, x]).run P w = .ok v' w' ∧ OwnSl w' e 1 v' (xs ++ zs).length ((xs ++ zs).map (Value.int k)) ∧ Turn (fun j => v.ownBlock = some j) w w' ∧ (∀ j, v'.ownBlock = some j → v.ownBlock = some j ∨ w.heap.size ≤ j) := by
    rintro a c ha rfl rfl
    refine ⟨v, w, ?_, by simpa using h, Turn.refl _ _, fun j hj => .inl hj⟩
    rcases h.2 with ⟨rfl, h0⟩ | ⟨g, off, cap, cur, rfl, hg, hnc, hcm, hfit, htk⟩
    · cases a <;> simp [Builtin.append_, run_underlying ht, sizeOf, typeInfo, hi, Builtin.lenOf, Builtin.firstCells, loadCells, loadCellsFrom, Result.andThen]
    · cases a <;> simp [Builtin.append_, run_underlying ht, sizeOf, typeInfo, hi, Builtin.lenOf, Builtin.firstCells, hnc, storeCells, loadCells, loadCellsFrom, Result.andThen]
  rcases hx with ⟨a, c, hx, ha, _, hzs0⟩ | ⟨b, off, c, rfl, h1, h2, h3, h4⟩
  · exact none_case a c ha hzs0 hx
  · by_cases h0 : zs.length = 0
    · have hz0 := List.eq_nil_of_length_eq_zero h0
      exact none_case (some ⟨b, off, none⟩) c (fun h => by cases h) hz0 (by rw [h0])
    · obtain ⟨g, off', cap, w', hrun, q, gr, hl⟩ := run_append_sl (P := P) (w := w) (t := t) (ty := ty) ht hi hz hsize hby hzs (by omega) h ⟨b, off, none⟩ zs.length c (zs.map (Value.int k)) (by simp) (fun j u hu => by
          obtain ⟨hj, rfl⟩ := getD_map hu
          rw [Addr.add_lit]
          exact h4 j hj) (ints_oneCell _ _) (by unfold maxLen; omega) (by omega) (by omega)
      refine ⟨_, w', hrun, by rw [List.length_append, List.map_append]; exact q, Turn.grown gr (fun j hj => hj), fun j hj => ?_⟩
      simp [Value.ownBlock] at hj
      subst hj
      exact hl

theorem Turn.bel {w w' : World} (h : Turn (fun _ => False) w w') : Below w.heap.size w w' := h.below (fun _ h => h.elim) (Nat.le_refl _)
/-- what the size is asked for, in whatever world behind -/
theorem DMem.afters {W : World} {B : Nat} {mv : Option Nat} {E : List Ent} {S : Dk} (m : DMem W B mv E S) :
    (∀ p : After W, p.w.cell? ⟨B, 0, none⟩ = some (.int .i64 (S.size : Int))) ∧ (∀ p : After W, p.w.cell? ⟨B, 1, none⟩ = some (.map mv)) ∧
    (∀ (p : After W) (ty : TypeId), (Builtin.len_ #[64] ty #[.map mv]).run Tryz.prog p.w = .ok (.int .i64 (E.length : Int)) p.w) ∧
    (∀ p : After W, Calls Tryz.prog 48 #[.pointer (some ⟨B, 0, none⟩)] p.w fun e w' => e = .returned (.int .i64 (used S.fs : Nat)) ∧ Below p.w.heap.size p.w w') := by
  have key : ∀ p : After W, DMem p.w B mv E S := fun p => m.turn (Turn.of_below (F := fun _ => False) p.bel) (fun _ _ => id)
  refine ⟨fun p => cell_obj (key p).obj 0, fun p => cell_obj (key p).obj 1, fun p ty => ?_, fun p => (used_walk _ B mv E S (key p)).mono (fun e w' h => ⟨h.1, h.2.bel⟩)⟩
  rcases (key p).map with ⟨rfl, rfl⟩ | ⟨b, rfl, ho⟩
  · exact Maps.len_nil Tryz.underlying64 ty
  · have := ho.len (ty := ty) Tryz.underlying64
    rwa [DD_size] at this

/-- 'd.files[name] = f', where the old file's own bytes may have turned -/
theorem updateBut {w : World} {B b : Nat} {E : List Ent} {S S' : Dk} (e : Ent) {s : ByteArray} (hs : s.size ≤ maxLen) (hn : e.n = s.data.toList)
    (hobj : w.heap[B]? = some (.cells #[.int .i64 (S.size : Int), .map (some b), .bool S.down, .int .u64 (S.arm : Int)] 66 (0, 0)))
    (ho : w.ownsMap Tryz.prog 9 rawR b E.length (DD E)) (hcount : E.length ≤ 64)
    (hown : ∀ x ∈ E, x.n ≠ e.n → OwnSl w 5 1 x.v x.d.length (x.d.map (Value.int .u8)))
    (he : OwnSl w 5 1 e.v e.d.length (e.d.map (Value.int .u8))) (hapE : E.Pairwise apartR) (hap : ∀ x ∈ E, x.n ≠ e.n → apartR x e) (hfsE : S.fs = E.map Ent.fl) (hfs : S' = { S with fs := putK Fl.n e.fl S.fs }) (hw : Well S') :
    ∃ w', (Instr.mapUpdate 64 (.map (some b)) (.string s) (.agg #[e.v, .int .i64 (e.s : Int)])).run Tryz.prog w = .ok () w' ∧ Turn (fun j => j = b) w w' ∧ DMem w' B (some b) (putK Ent.n e E) S' := by
  have hneB : B ≠ b := fun q => by obtain ⟨es, cl, hb, _⟩ := ho; rw [← q, hobj] at hb; cases hb
  obtain ⟨w4, hu, o4, g4⟩ := World.ownsMap.update (w := w) ho dLaw Tryz.underlying64 (by unfold maxLen; omega) (dKey hs) (rawR_eq (.agg #[e.v, .int .i64 (e.s : Int)]))
  have t4 : Turn (fun j => j = b) w w4 := Turn.grown (F := fun j => j = b) g4 (fun k e => by cases e; rfl)
  refine ⟨w4, hu, t4, DMem.mk_put (k := E.length + 1) ?_ ?_ ?_ ?_ hapE hap ?_ hw⟩
  · rw [hfs]; exact t4.same hobj hneB
  · rw [hn]; exact o4
  · exact fun x hx hxn => (hown x hx hxn).turn t4 ((hown x hx hxn).neMap ho)
  · exact he.turn t4 (he.neMap ho)
  · rw [hfs, ← hfsE]
theorem appS_old {S : Dk} {n : Nm} {zs : List Int} {f : Fl} (h : getK Fl.n n S.fs = some f) : appS S n zs = { S with fs := putK Fl.n ⟨n, f.d ++ zs, f.s⟩ S.fs } := by
  unfold appS fileOf; rw [h]; rfl
theorem appS_new {S : Dk} {n : Nm} {zs : List Int} (h : getK Fl.n n S.fs = none) : appS S n zs = { S with fs := putK Fl.n ⟨n, zs, 0⟩ S.fs } := by
  unfold appS fileOf; rw [h]; rfl
def hitC (S : Dk) : Int := if hitB S then 3 else 0
theorem hit_app (S : Dk) (n : Nm) (zs : List Int) : hitB (appS S n zs) = hitB S ∧ (appS S n zs).down = S.down := ⟨rfl, rfl⟩
theorem info_u8' : ∃ i, Tryz.prog.info? 5 = some i ∧ i.zero = some (.int .u8 0) ∧ i.size = 1 ∧ i.bytes = 1 := by
  obtain ⟨i0, hi, hz0, hz1, hz2⟩ := info_parts info_u8
  exact ⟨i0, hi, hz0, hz1, hz2⟩

set_option maxRecDepth 100000 in
set_option maxHeartbeats 1000000 in
theorem append_old (w : World) (B : Nat) (F : Nat → Prop) (Bk : Nat → Prop) (mv : Option Nat) (E : List Ent) (S : Dk) (s : ByteArray) (bv : Value) (zs : List Int) (hs : s.size ≤ maxLen) (m : DMem w B mv E S) (hF : ∀ j, DFoot B mv E j → F j) (hrow : Row .u8 Bk w bv zs)
    (hr : refuse S s.data.toList = 0) (e : Ent) (hg : getK Ent.n s.data.toList E = some e) (hful : fullB S s.data.toList zs = false) :
    Calls Tryz.prog 23 #[.pointer (some ⟨B, 0, none⟩), .string s, bv] w fun x w' => x = .returned (.int .i64 (hitC S)) ∧ Turn F w w' ∧ DAt w' B (NF w F) (hitS (appS S s.data.toList zs)) := by
  have hrf := refusal_walk w B mv E S s hs m
  rw [hr] at hrf
  have hl := (m.look hs).2 e hg
  have hem := (getK_some hg).1
  have hen := (getK_some hg).2
  obtain ⟨p, c, hv⟩ := m.form hem
  rw [hv] at hl
  obtain ⟨a', c', hbv⟩ := hrow.slice
  subst hbv
  have cB : w.cell? ⟨B, 1, none⟩ = some (.map mv) := cell_obj m.obj 1
  have tA : Turn (fun _ => False) w (w.alloc (.cells #[.slice p e.d.length c, .int .i64 (e.s : Int)] 84)) := (Turn.refl _ w).alloc _
  have k0 : (w.alloc (.cells #[.slice p e.d.length c, .int .i64 (e.s : Int)] 84)).heap[w.heap.size]? = some (.cells #[.slice p e.d.length c, .int .i64 (e.s : Int)] 84 (0, 0)) := heap_alloc_new w _
  have mA := m.turn tA (fun _ _ => id)
  have hrowA := hrow.turn tA (fun _ _ => id)
  have hsz := m.well.size
  have hroom := m.well.room
  have hzl := hrow.len
  unfold maxLen at hzl
  obtain ⟨ac0, ac1, ac2, ac3⟩ := mA.afters
  have hA : decide ((S.size : Int) - (used S.fs : Nat) < (zs.length : Int)) = false := by
    simp [fullB] at hful
    simp
    omega
  go_enter Tryz.func23, Tryz.ntmps23
  go_wp2_with (go_at_call 47; refine hrf.mono ?_; rintro x w0 ⟨rfl, hw0⟩; have hw0 := hw0.symm; subst hw0)
  generalize w.alloc (.cells #[.slice p e.d.length c, .int .i64 (e.s : Int)] 84) = W at *
  have hne := after_ne W
  refine wp_region_after (by kernel_rfl) (by kernel_rfl) ?_
  repeat (go_big_quiet_step ((go_at_call 48; exact after_of _ (ac3 _))))
  refine wpQuiet_nil ?_
  rintro _ ⟨q, rfl⟩
  have tQ : Turn (fun _ => False) W q.w := Turn.of_below q.bel
  have mQ := mA.turn tQ (fun _ _ => id)
  have kQ := tQ.same k0 id
  have rowQ := hrowA.turn tQ (fun _ _ => id)
  have oQ := mQ.own e hem
  rw [hv] at oQ
  have hbd := m.bound hem
  have hzb : zs.length ≤ 16777216 := by
    simp at hA
    omega
  obtain ⟨b, hmv, _⟩ := m.entry hem
  subst hmv
  have tq : Turn (fun _ => False) w q.w := tA.then tQ
  generalize q.w = u at *
  clear ac0 ac1 ac2 ac3 hne mA hrowA k0 hA
  obtain ⟨i0, hi, hz0, hz1, hz2⟩ := info_u8'
  obtain ⟨v', w3, hrun, o3, t3, hl3⟩ := append_sl (P := Tryz.prog) (ty := 33) Tryz.underlying33 hi hz0 hz1 hz2 rfl oQ rowQ (by omega)
  obtain ⟨p3, c3, hv3⟩ := o3.form
  subst hv3
  generalize hnl : (e.d ++ zs).length = nl at *
  have Hnl := hide hnl
  clear hnl
  have hgnew : ∀ x ∈ E, ∀ j, x.v.ownBlock = some j → j ≠ w.heap.size := fun x hx j hj q => by have := m.lt j (.inr (.inr ⟨x, hx, hj⟩)); omega
  have k3 := t3.same kQ (fun q => hgnew e hem _ (by rw [hv]; exact q) rfl)
  have c0 : u.cell? ⟨w.heap.size, 0, none⟩ = some (.slice p e.d.length c) := cell_obj kQ 0
  have d0 : w3.cell? ⟨w.heap.size, 0, none⟩ = some (.slice p e.d.length c) := cell_obj k3 0
  have f0 : w3.frozen? ⟨w.heap.size, 0, none⟩ = false := frozen_obj k3 0
  go_wp2_with (at_builtin; refine list_append_run rfl _ _ 33 rfl _ _ _ _ rfl rfl hrun ?_)
  have k4 := heap_setCell_obj (j := 0) k3 (.slice p3 nl c3)
  have t4 : Turn (fun j => j = w.heap.size) w3 (w3.setCell ⟨w.heap.size, 0, none⟩ (.slice p3 nl c3)) := (Turn.refl (fun j => j = w.heap.size) w3).setCell (p := ⟨w.heap.size, 0, none⟩) (.inl rfl) _
  have hbk : ∀ j, (Value.slice p e.d.length c).ownBlock = some j → DFoot B (some b) E j := fun j hj => .inr (.inr ⟨e, hem, by rw [hv]; exact hj⟩)
  have hneB : ¬ (Value.slice p e.d.length c).ownBlock = some B := fun q => oQ.neObj mQ.obj (by decide) B q rfl
  have hneb : ¬ (Value.slice p e.d.length c).ownBlock = some b := fun q => oQ.neMap mQ.ofMap b q rfl
  have hBl := m.lt B (.inl rfl)
  have hbl := m.lt b (.inr (.inl rfl))
  have obj4 := t4.same (t3.same mQ.obj hneB) (by omega)
  have own4 := t4.map (t3.map mQ.ofMap hneb) (by omega)
  have oth4 : ∀ x ∈ E, x.n ≠ s.data.toList → OwnSl (w3.setCell ⟨w.heap.size, 0, none⟩ (.slice p3 nl c3)) 5 1 x.v x.d.length (x.d.map (Value.int .u8)) := fun x hx hn =>
    ((mQ.own x hx).turn t3 (fun j hj hj2 => apart_of m.apart hx hem (by rw [hen]; exact hn) j hj (by rw [hv]; exact hj2))).turn t4 (hgnew x hx)
  have hl3' : ∀ j, (Value.slice p3 nl c3).ownBlock = some j → j ≠ w.heap.size := fun j hj q => by
    rcases hl3 j hj with h | h
    · have := m.lt j (hbk j h); omega
    · have h1 := (Array.getElem?_eq_some_iff.1 kQ).1; omega
  have o4 := o3.turn t4 hl3'
  have hwell : Well (appS S s.data.toList zs) := by
    rw [appS_old (f := e.fl) (by rw [m.get, hg]; rfl)]
    refine well_put (f := ⟨s.data.toList, e.fl.d ++ zs, e.fl.s⟩) (g := e.fl) m.well (by rw [m.get, hg]; rfl) ?_ ?_ rfl rfl m.well.arm
    · simp [fullB] at hful
      simp; omega
    · have := m.well.good e.fl (by rw [m.fs]; exact List.mem_map.2 ⟨e, hem, rfl⟩)
      simp; omega
  have hap4 : ∀ x ∈ E, x.n ≠ s.data.toList → apartR x ⟨s.data.toList, .slice p3 nl c3, e.d ++ zs, e.s⟩ := fun x hx hn j h1 h2 => by
    rcases hl3 j h2 with h | h
    · exact apart_of m.apart hx hem (by rw [hen]; exact hn) j h1 (by rw [hv]; exact h)
    · have := mQ.lt j (.inr (.inr ⟨x, hx, h1⟩)); omega
  obtain ⟨w5, hu, t5, m5⟩ := updateBut (w := (w3.setCell ⟨w.heap.size, 0, none⟩ (.slice p3 nl c3)).drew) (S := S) (S' := appS S s.data.toList zs) ⟨s.data.toList, .slice p3 nl c3, e.d ++ zs, e.s⟩ hs rfl obj4 own4 m.count oth4 (by rw [unhide Hnl]; exact o4) m.apart hap4 m.fs (appS_old (f := e.fl) (by rw [m.get, hg]; rfl)) hwell
  have cB4 : (w3.setCell ⟨w.heap.size, 0, none⟩ (.slice p3 nl c3)).cell? ⟨B, 1, none⟩ = some (.map (some b)) := cell_obj obj4 1
  have b0 : (w3.setCell ⟨w.heap.size, 0, none⟩ (.slice p3 nl c3)).cell? ⟨w.heap.size, 0, none⟩ = some (.slice p3 nl c3) := cell_obj k4 0
  have b1 : (w3.setCell ⟨w.heap.size, 0, none⟩ (.slice p3 nl c3)).cell? ⟨w.heap.size, 1, none⟩ = some (.int .i64 (e.s : Int)) := cell_obj k4 1
  have t45 : Turn F w w5 := by
    have a1 : Turn F w w3 := (tq.mono (fun _ h => h.elim)).then (t3.mono (fun j hj => hF j (hbk j hj)))
    exact (a1.trans t4 (fun j hj => .inr (by omega))).trans (t5.undrew) (fun j hj => .inl (by subst hj; exact hF j (.inr (.inl rfl))))
  have hszq : w.heap.size ≤ u.heap.size := tq.size
  simp only at hu
  clear obj4 own4 oth4 o4 hap4 k4 t4 t5
  generalize w3.setCell ⟨w.heap.size, 0, none⟩ (.slice p3 nl c3) = w4 at *
  have hd := (refuse_up hr).1
  go_region
  go_wp2_with fail
  cases hh : hitB S
  all_goals
    have hw5 := hit_walk w5 B _ _ (appS S s.data.toList zs) hd m5
    rw [(hit_app S s.data.toList zs).1, hh] at hw5
    refine hw5.mono ?_
    rintro x w6 ⟨rfl, t6, m6⟩
    have ht : Turn F w w6 := t45.then (t6.mono (fun j hj => by subst hj; exact hF j (.inl rfl)))
    have hfin : DAt w6 B (NF w F) (hitS (appS S s.data.toList zs)) := by
      refine ⟨_, _, m6, fun j hj => ?_⟩
      rcases foot_put hj with hj | hj
      · exact .inl (hF j hj)
      · rcases hl3 j hj with h | h
        · exact .inl (hF j (hbk j h))
        · exact .inr (by omega)
    have Hh := hide hh
    clear hw5 hh
    go_wp2
    go_ret
    exact ⟨ret_int (by unfold hitC; rw [unhide Hh]; rfl), ht, hfin⟩
end Go.Proofs.YthikiahhochjmaaGreatDoor
