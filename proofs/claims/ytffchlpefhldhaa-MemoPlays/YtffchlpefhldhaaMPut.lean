/- Put. -/
import Derived.Test.YtffchlpefhldhaaMSl
namespace Go.Proofs.Ytffchlpefhldhaa
open Go.RowKit Go.Maps
set_option linter.unusedVariables false

theorem info_pair : (Try.prog.info? 30).map (fun i => (i.zero, i.size, i.bytes)) = some (some (.agg #[.int .i32 0, .int .i32 0]), 2, 8) := by kernel_rfl

set_option maxHeartbeats 1000000 in
theorem put_old (w : World) (B bd bc k most : Nat) (qv : Value) (L : List Ent) (a b d : Int) (wa : I32 a) (wb : I32 b) (wd : (Lit.int .i64 d).wf = true) (h : Mem w B bd bc qv k most L) (hk : keyed L a b = true) (hr : k + 10 < 1000000000000) :
    Calls Try.prog 10 #[.pointer (some ⟨B, 0, none⟩), .agg #[.int .i32 a, .int .i32 b], .int .i64 d] w fun e w' => e = .returned (.bool false) ∧ Turn (Foot B bd bc qv) w w' ∧ Mem w' B bd bc qv (k + 1) most (redo L a b d) := by
  obtain ⟨⟨D, od, fd, hd⟩, ⟨C, oc, fc⟩⟩ := h.told
  obtain ⟨hBd, hBc⟩ := h.told.neB h.obj
  have hB := h.obj
  have hm1 := h.m1
  have hm2 := h.m2
  go_enter Try.func10, Try.ntmps10
  have tW : Turn (fun j => j = bd) w (w.alloc (.cells #[.int .i32 a, .int .i32 b] 30)) := (Turn.refl _ w).alloc _
  have hB1 := tW.same hB hBd
  have k0 : (w.alloc (.cells #[.int .i32 a, .int .i32 b] 30)).heap[w.heap.size]? = some (.cells #[.int .i32 a, .int .i32 b] 30 (0, 0)) := heap_alloc_new w _
  have od1 := od.alloc (.cells #[.int .i32 a, .int .i32 b] 30)
  have c0 : (w.alloc (.cells #[.int .i32 a, .int .i32 b] 30)).cell? ⟨B, 0, none⟩ = some (.int .i64 most) := cell_obj hB1 0
  go_wp2
  generalize w.alloc (.cells #[.int .i32 a, .int .i32 b] 30) = W at *
  generalize w.heap.size = g at *
  have c1 : W.cell? ⟨B, 1, none⟩ = some (.map (some bd)) := cell_obj hB1 1
  have p0 : W.cell? ⟨g, 0, none⟩ = some (.int .i32 a) := cell_obj k0 0
  have p1 : W.cell? ⟨g, 1, none⟩ = some (.int .i32 b) := cell_obj k0 1
  obtain ⟨v, ps, hl, hv⟩ := World.ownsMap.look_ok (w := W.drew) od1 mLawP Try.underlying54 (mZero2 _) (plainElem_int (H := Unit) Try.underlying2 (by decide)) (keyOf_P wa wb)
  rw [fd.2 a b wa wb] at hv
  obtain ⟨c, rfl, hc, _⟩ := plainElem_int_inv Try.underlying2 hv
  rw [hd a b wa wb, hk] at hl
  clear hv hc
  go_region
  go_wp2
  obtain ⟨w4, hu, o4, g4⟩ := World.ownsMap.update (w := W.drew.drew) od1 mLawP Try.underlying54 (by unfold maxLen; have := h.room; omega) (keyOf_P wa wb) (plainElem_int Try.underlying2 wd)
  have t4 : Turn (fun j => j = bd) W w4 := (Turn.grown (F := fun j => j = bd) g4 (fun k e => by cases e; rfl)).undrew.undrew
  go_region
  go_wp2
  go_ret
  have tt := tW.then t4
  have tt' : Turn (Foot B bd bc qv) w w4 := tt.mono (fun j hj => .inr (.inl hj))
  refine ⟨rfl, tt', ⟨tt.same hB hBd, h.ne, ⟨⟨_, o4, ?_, ?_⟩, ⟨C, (tt.map oc (fun e => h.ne e.symm)).mono (by omega), ?_⟩⟩, ?_, h.good.redo wd, h.m1, h.m2, by rw [redo_length]; exact h.len, by omega⟩⟩
  · rw [dist_redo d hk]; exact fd.put wa wb d
  · have := hd.put fd.1 wa wb (.lit (.int .i64 d))
    rw [keyed_redo]
    rwa [← hk, upd_self] at this
  · rw [cnt_redo]; exact fc
  · rw [redo_length, qcells_redo]
    exact h.q.turn tt (fun j hj e => by
      obtain ⟨cur, hcur⟩ := h.q.lt j hj
      subst e
      obtain ⟨es, cl, hb, _⟩ := od; rw [hcur] at hb; cases hb)

theorem OwnSl.neMap {H : Type} {w : World} {e : TypeId} {s : Nat} {v : Value} {n : Nat} {xs : List Value} {P : Program} {kt : TypeId} {R : Value → Option (DataW H × List MemPlace)} {b m : Nat} {D : DataW H}
    (h : OwnSl w e s v n xs) (ho : w.ownsMap P kt R b m D) : ∀ j, v.ownBlock = some j → j ≠ b := by
  rintro j hj rfl
  obtain ⟨cur, hcur⟩ := h.lt j hj
  obtain ⟨es, cl, hb, _⟩ := ho; rw [hcur] at hb; cases hb
theorem OwnSl.neObj {w : World} {e e' : TypeId} {s : Nat} {v : Value} {n : Nat} {xs : List Value} {B : Nat} {cur : Array Value} (h : OwnSl w e s v n xs) (hB : w.heap[B]? = some (.cells cur e' (0, 0))) (he : e ≠ e') : ∀ j, v.ownBlock = some j → j ≠ B := by
  rintro j hj rfl
  obtain ⟨cur, hcur⟩ := h.lt j hj
  rw [hcur] at hB; cases hB; exact he rfl

theorem putL_room {most : Nat} {L : List Ent} {a b d : Int} (hk : keyed L a b = false) (h : L.length + 1 ≤ most) : putL most L a b d = L ++ [(a, b, d)] := by
  unfold putL; rw [hk, if_neg (by simp), if_pos h]
theorem putL_full {most : Nat} {L T : List Ent} {e : Ent} {a b d : Int} (hk : keyed L a b = false) (h : ¬ L.length + 1 ≤ most) (hT : L ++ [(a, b, d)] = e :: T) : putL most L a b d = T := by
  unfold putL; rw [hk, if_neg (by simp), if_neg h, hT]; rfl
theorem putL_old {most : Nat} {L : List Ent} {a b d : Int} (hk : keyed L a b = true) : putL most L a b d = redo L a b d := by
  unfold putL; rw [hk, if_pos rfl]

set_option maxHeartbeats 2000000 in
theorem put_fresh (w : World) (B bd bc k most : Nat) (qv : Value) (L : List Ent) (a b d : Int) (wa : I32 a) (wb : I32 b) (wd : (Lit.int .i64 d).wf = true) (h : Mem w B bd bc qv k most L) (hk : keyed L a b = false) (hr : k + 10 < 1000000000000) :
    Calls Try.prog 10 #[.pointer (some ⟨B, 0, none⟩), .agg #[.int .i32 a, .int .i32 b], .int .i64 d] w fun e w' => e = .returned (.bool true) ∧ Turn (Foot B bd bc qv) w w' ∧
      ∃ qv', Mem w' B bd bc qv' (k + 4) most (putL most L a b d) ∧ ∀ j, qv'.ownBlock = some j → qv.ownBlock = some j ∨ w.heap.size ≤ j := by
  obtain ⟨⟨D, od, fd, hd⟩, ⟨C, oc, fc⟩⟩ := h.told
  obtain ⟨hBd, hBc⟩ := h.told.neB h.obj
  obtain ⟨i0, hi, hz0, hz1, hz2⟩ := info_parts info_pair
  have hB := h.obj
  have hm1 := h.m1
  have hm2 := h.m2
  have hlen := h.len
  go_enter Try.func10, Try.ntmps10
  have tW : Turn (Foot B bd bc qv) w (w.alloc (.cells #[.int .i32 a, .int .i32 b] 30)) := (Turn.refl _ w).alloc _
  have sW : (w.alloc (.cells #[.int .i32 a, .int .i32 b] 30)).heap.size = w.heap.size + 1 := by simp
  have tN : Turn (fun _ => False) w (w.alloc (.cells #[.int .i32 a, .int .i32 b] 30)) := (Turn.refl _ w).alloc _
  have hB1 := tN.same hB id
  have k0 : (w.alloc (.cells #[.int .i32 a, .int .i32 b] 30)).heap[w.heap.size]? = some (.cells #[.int .i32 a, .int .i32 b] 30 (0, 0)) := heap_alloc_new w _
  have od1 := od.alloc (.cells #[.int .i32 a, .int .i32 b] 30)
  have oc1 := oc.alloc (.cells #[.int .i32 a, .int .i32 b] 30)
  have q1 := h.q.turn tN (fun _ _ => id)
  have c0 : (w.alloc (.cells #[.int .i32 a, .int .i32 b] 30)).cell? ⟨B, 0, none⟩ = some (.int .i64 most) := cell_obj hB1 0
  have ngB : w.heap.size ≠ B := fun e => by have := (Array.getElem?_eq_some_iff.1 hB).1; omega
  have ngd : w.heap.size ≠ bd := fun e => by have := od.lt; omega
  have ngc : w.heap.size ≠ bc := fun e => by have := oc.lt; omega
  have ngq : ∀ j, qv.ownBlock = some j → w.heap.size ≠ j := fun j hj e => by obtain ⟨cur, hc⟩ := h.q.lt j hj; have := (Array.getElem?_eq_some_iff.1 hc).1; omega
  go_wp2
  generalize w.alloc (.cells #[.int .i32 a, .int .i32 b] 30) = W at *
  generalize hg0 : w.heap.size = g at *
  have Hg0 := hide hg0
  clear hg0
  have c1 : W.cell? ⟨B, 1, none⟩ = some (.map (some bd)) := cell_obj hB1 1
  have p0 : W.cell? ⟨g, 0, none⟩ = some (.int .i32 a) := cell_obj k0 0
  have p1 : W.cell? ⟨g, 1, none⟩ = some (.int .i32 b) := cell_obj k0 1
  obtain ⟨v, ps, hl, hv⟩ := World.ownsMap.look_ok (w := W.drew) od1 mLawP Try.underlying54 (mZero2 _) (plainElem_int (H := Unit) Try.underlying2 (by decide)) (keyOf_P wa wb)
  rw [fd.2 a b wa wb] at hv
  obtain ⟨c, rfl, hc, _⟩ := plainElem_int_inv Try.underlying2 hv
  rw [hd a b wa wb, hk] at hl
  clear hv hc
  go_region
  go_wp2
  obtain ⟨w4, hu, o4, g4⟩ := World.ownsMap.update (w := W.drew.drew) od1 mLawP Try.underlying54 (by unfold maxLen; have := h.room; omega) (keyOf_P wa wb) (plainElem_int Try.underlying2 wd)
  have t4 : Turn (fun j => j = bd) W w4 := (Turn.grown (F := fun j => j = bd) g4 (fun k e => by cases e; rfl)).undrew.undrew
  go_region
  have hB4 := t4.same hB1 hBd
  have k4 := t4.same k0 ngd
  have oc4 := t4.map oc1 (fun e => h.ne e.symm)
  have q4 := q1.turn t4 (fun j hj e => q1.neMap od1 j hj e)
  clear c0 c1 p0 p1 hl hu g4
  have c2 : w4.cell? ⟨B, 2, none⟩ = some qv := cell_obj hB4 2
  have p0 : w4.cell? ⟨g, 0, none⟩ = some (.int .i32 a) := cell_obj k4 0
  have p1 : w4.cell? ⟨g, 1, none⟩ = some (.int .i32 b) := cell_obj k4 1
  go_wp2
  have tA : Turn (fun _ => False) w4 (w4.alloc (.cells #[.int .i32 a, .int .i32 b] 30)) := (Turn.refl _ w4).alloc _
  have kA : (w4.alloc (.cells #[.int .i32 a, .int .i32 b] 30)).heap[w4.heap.size]? = some (.cells #[.int .i32 a, .int .i32 b] 30 (0, 0)) := heap_alloc_new w4 _
  have cA2 : (w4.alloc (.cells #[.int .i32 a, .int .i32 b] 30)).cell? ⟨B, 2, none⟩ = some qv := tA.cell c2 id
  have cA0 : (w4.alloc (.cells #[.int .i32 a, .int .i32 b] 30)).cell? ⟨g, 0, none⟩ = some (.int .i32 a) := tA.cell p0 id
  have cA1 : (w4.alloc (.cells #[.int .i32 a, .int .i32 b] 30)).cell? ⟨g, 1, none⟩ = some (.int .i32 b) := tA.cell p1 id
  have qA := q4.turn tA (fun _ _ => id)
  obtain ⟨g', off', cap', w7, hrun, q7, g7, hloc⟩ := run_append_sl (P := Try.prog) (w := (w4.alloc (.cells #[.int .i32 a, .int .i32 b] 30)).drew) (t := 45) (ty := 45) Try.underlying45 hi hz0 hz1 hz2 rfl (by decide) qA ⟨w4.heap.size, 0, none⟩ 1 1 [.int .i32 a, .int .i32 b] rfl
    (fun j u hu => by rw [Addr.add_lit, Nat.zero_add]; exact (cell_obj (w := (w4.alloc (.cells #[.int .i32 a, .int .i32 b] 30)).drew) kA j).trans (by simpa using hu)) (by simp [Value.oneCell']) (by unfold maxLen; omega) (by omega) (by omega)
  have t7 : Turn (fun j => qv.ownBlock = some j) (w4.alloc (.cells #[.int .i32 a, .int .i32 b] 30)) w7 := (Turn.grown (F := fun j => qv.ownBlock = some j) g7 (fun k e => e)).undrew
  have hB7 := t7.same (tA.same hB4 id) (fun e => q4.neObj hB4 (by decide) B e rfl)
  have c72 : w7.cell? ⟨B, 2, none⟩ = some qv := cell_obj hB7 2
  have f72 : w7.frozen? ⟨B, 2, none⟩ = false := frozen_obj hB7 2
  go_region_law (refine step_append_run rfl (.tmp 38) (.tmp 40) 45 rfl _ _ _ _ rfl rfl hrun ?_)
  all_goals
    have hB8 := heap_setCell_obj (j := 2) hB7 (.slice (some ⟨g', off', none⟩) (L.length + 1) cap')
    have t8 : Turn (fun j => j = B) w7 (w7.setCell ⟨B, 2, none⟩ (.slice (some ⟨g', off', none⟩) (L.length + 1) cap')) := (Turn.refl (fun j => j = B) w7).setCell (p := ⟨B, 2, none⟩) (.inl rfl) _
    have nq7 : ∀ j, (Value.slice (some ⟨g', off', none⟩) (L.length + 1) cap').ownBlock = some j → j ≠ B := q7.neObj hB7 (by decide)
    have q8 := q7.turn t8 nq7
    have qn4 := q4.neMap o4
    have qn4' := q4.neMap oc4
    have o8 := t8.map (t7.map (tA.map o4 id) (fun e => qn4 _ e rfl)) (fun e => hBd e.symm)
    have oc8 := t8.map (t7.map (tA.map oc4 id) (fun e => qn4' _ e rfl)) (fun e => hBc e.symm)
    have p08 := t8.cell (t7.cell cA0 (fun e => ngq _ e rfl)) ngB
    have p18 := t8.cell (t7.cell cA1 (fun e => ngq _ e rfl)) ngB
    have t48 : Turn (Foot B bd bc qv) w4 (w7.setCell ⟨B, 2, none⟩ (.slice (some ⟨g', off', none⟩) (L.length + 1) cap')) := ((tA.mono (fun j hj => hj.elim)).then (t7.mono (fun j hj => .inr (.inr (.inr hj))))).then (t8.mono (fun j hj => .inl hj))
    have tt8 := (tW.then (t4.mono (fun j hj => .inr (.inl hj)))).then t48
    have hgb : ∀ j, (Value.slice (some ⟨g', off', none⟩) (L.length + 1) cap').ownBlock = some j → qv.ownBlock = some j ∨ g ≤ j := by
      intro j hj
      cases hj
      rcases hloc with e | e
      · exact .inl e
      · refine .inr ?_
        have s4 := t4.size
        have e' : w4.heap.size + 1 ≤ g' := by simpa using e
        show g ≤ g'
        omega
    clear c72 f72 hrun t7 t8 hB7 kA cA0 cA1 cA2 qA q7 g7 hloc tA q4 p0 p1 c2 t48
    generalize w7.setCell ⟨B, 2, none⟩ (.slice (some ⟨g', off', none⟩) (L.length + 1) cap') = w8 at *
    simp at hB8
    go_wp2_with fail
    have b1 := cnt_bd L a 0
    have b2 := cnt_bd L b 1
    refine (count_walk _ B bc k _ _ _ C _ a b 1 wa wb hB8 oc8 (by unfold maxLen; omega) fc (by omega) (by omega) (by omega) (by omega)).mono ?_
    rintro e w9 ⟨rfl, t9, C9, o9, f9⟩
    have hB9 := t9.same hB8 hBc
    have q9 := q8.turn t9 (q8.neMap oc8)
    have od9 := t9.map o8 h.ne
    have tt9 := tt8.then (t9.mono (fun j hj => .inr (.inr (.inl hj))))
    have f9' : Tells C9 (cnt (L ++ [(a, b, d)])) := by rw [cnt_snoc]; exact f9
    have fd9 : Tells (D.put (kl a b) (.lit (.int .i64 d))) (dist (L ++ [(a, b, d)])) := by rw [dist_snoc d hk]; exact fd.put wa wb d
    have hd9 : Haves (D.put (kl a b) (.lit (.int .i64 d))) (keyed (L ++ [(a, b, d)])) := by rw [keyed_snoc]; exact hd.put fd.1 wa wb (.lit (.int .i64 d))
    have td9 : Told w9 bd bc (k + 2) (L ++ [(a, b, d)]) := ⟨⟨_, od9.mono (by omega), fd9, hd9⟩, ⟨C9, o9, f9'⟩⟩
    have gd9 := h.good.snoc hk wa wb wd
    have q9' : OwnSl w9 30 2 (.slice (some ⟨g', off', none⟩) (L.length + 1) cap') (L.length + 1) (qcells (L ++ [(a, b, d)])) := by rw [qcells_append]; exact q9
    clear q9 q8 o8 oc8 t9 tt8 hB8 p08 p18 f9 fd9 hd9 od9 o9 f9'
    have c90 : w9.cell? ⟨B, 0, none⟩ = some (.int .i64 most) := cell_obj hB9 0
    have c92 : w9.cell? ⟨B, 2, none⟩ = some (.slice (some ⟨g', off', none⟩) (L.length + 1) cap') := cell_obj hB9 2
    by_cases hfull : L.length + 1 ≤ most
    · have hd : decide ((most : Int) < ((L.length : Nat) : Int) + 1) = false := by simp; omega
      have Hf := hide hfull
      clear hfull
      go_wp2_with fail
      go_region
      go_wp2
      go_ret
      refine ⟨rfl, tt9.drew, .slice (some ⟨g', off', none⟩) (L.length + 1) cap', ?_, by rw [unhide Hg0]; exact hgb⟩
      rw [putL_room hk (unhide Hf)]
      have tD : Turn (fun _ => False) w9 w9.drew := (Turn.refl _ _).drew
      exact ⟨hB9, h.ne, (td9.turn tD id id).mono (by omega), by rw [List.length_append]; exact q9'.turn tD (fun _ _ => id), gd9, hm1, hm2, by rw [List.length_append]; exact unhide Hf, by omega⟩
    · have hd : decide ((most : Int) < ((L.length : Nat) : Int) + 1) = true := by simp; omega
      have Hf := hide hfull
      clear hfull
      obtain ⟨⟨a0, b0, d0⟩, T, hT⟩ : ∃ e T, L ++ [(a, b, d)] = e :: T := by
        cases hL : L ++ [(a, b, d)] with
        | nil => simp at hL
        | cons e T => exact ⟨e, T, rfl⟩
      have HT := hide hT
      rw [hT] at td9 gd9 q9'
      clear hT
      have x0 : w9.cell? ⟨g', off', none⟩ = some (.int .i32 a0) := q9'.cells 0 _ rfl
      have x1 : w9.cell? ⟨g', off' + 1, none⟩ = some (.int .i32 b0) := q9'.cells 1 _ rfl
      go_wp2_with fail
      go_region
      have tD : Turn (fun _ => False) w9 w9.drew := (Turn.refl _ _).drew
      have tt9 := tt9.drew
      have hB9 := tD.same hB9 id
      have td9 := td9.turn tD id id
      have q9' := q9'.turn tD (fun _ _ => id)
      have x0 := tD.cell x0 id
      have x1 := tD.cell x1 id
      have c92 := tD.cell c92 id
      clear tD c90
      generalize w9.drew = w9 at *
      go_wp2_with fail
      have hTl : ((a0, b0, d0) :: T).length = L.length + 1 := by rw [← unhide HT]; simp
      refine (forget_walk _ B bd bc (k + 2) _ _ [] T a0 b0 d0 hB9 h.ne td9 gd9 (by simp at hTl ⊢; omega) (by unfold maxLen; omega)).mono ?_
      rintro e w10 ⟨rfl, t10, td10⟩
      have hB10 := t10.same hB9 (by omega)
      have q10 := q9'.turn (F := fun j => j = bd ∨ j = bc) t10 (fun j hj e => by
        obtain ⟨⟨D', od', _⟩, ⟨C', oc', _⟩⟩ := td9
        rcases e with e | e
        · exact q9'.neMap od' j hj e
        · exact q9'.neMap oc' j hj e)
      obtain ⟨off2, hsl, q11⟩ := run_tail_sl Try.underlying45 hi hz1 q10
      have c10 : w10.cell? ⟨B, 2, none⟩ = some (.slice (some ⟨g', off', none⟩) (L.length + 1) cap') := cell_obj hB10 2
      have f10 : w10.frozen? ⟨B, 2, none⟩ = false := frozen_obj hB10 2
      have tt10 := tt9.then (t10.mono (fun j hj => by rcases hj with hj | hj; exact .inr (.inl hj); exact .inr (.inr (.inl hj))))
      clear c92 x0 x1 hB9 td9 q9' t10 tt9 q10
      go_wp2_with fail
      go_ret
      have t11 : Turn (fun j => j = B) w10 (w10.setCell ⟨B, 2, none⟩ (.slice (some ⟨g', off2, none⟩) L.length (cap' - 1))) := (Turn.refl (fun j => j = B) w10).setCell (p := ⟨B, 2, none⟩) (.inl rfl) _
      have hB11 := heap_setCell_obj (j := 2) hB10 (.slice (some ⟨g', off2, none⟩) L.length (cap' - 1))
      simp at hB11
      have hTl' : T.length = L.length := by simpa using hTl
      refine ⟨rfl, tt10.then (t11.mono (fun j hj => .inl hj)), .slice (some ⟨g', off2, none⟩) L.length (cap' - 1), ?_, by rw [unhide Hg0]; exact hgb⟩
      rw [putL_full hk (unhide Hf) (unhide HT)]
      exact ⟨hB11, h.ne, td10.turn t11 (fun e => hBd e.symm) (fun e => hBc e.symm), by rw [hTl']; exact q11.turn t11 (fun j hj => nq7 j hj), Good.strike (X := []) gd9, hm1, hm2, by omega, by omega⟩

/-- Put -/
theorem put_walk (w : World) (B bd bc k most : Nat) (qv : Value) (L : List Ent) (a b d : Int) (wa : I32 a) (wb : I32 b) (wd : (Lit.int .i64 d).wf = true) (h : Mem w B bd bc qv k most L) (hr : k + 10 < 1000000000000) :
    Calls Try.prog 10 #[.pointer (some ⟨B, 0, none⟩), .agg #[.int .i32 a, .int .i32 b], .int .i64 d] w fun e w' => e = .returned (.bool (!keyed L a b)) ∧ Turn (Foot B bd bc qv) w w' ∧
      ∃ qv', Mem w' B bd bc qv' (k + 4) most (putL most L a b d) ∧ ∀ j, qv'.ownBlock = some j → qv.ownBlock = some j ∨ w.heap.size ≤ j := by
  cases hk : keyed L a b
  · exact put_fresh w B bd bc k most qv L a b d wa wb wd h hk hr
  · refine (put_old w B bd bc k most qv L a b d wa wb wd h hk hr).mono ?_
    rintro e w' ⟨rfl, t, m⟩
    refine ⟨rfl, t, qv, ?_, fun j hj => .inl hj⟩
    rw [putL_old hk]
    exact ⟨m.obj, m.ne, m.told.mono (by omega), m.q, m.good, m.m1, m.m2, m.len, by omega⟩
end Go.Proofs.Ytffchlpefhldhaa
