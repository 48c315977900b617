/- MemoPlays: for every room and every script the call returns true. -/
import Derived.Test.YtffchlpefhldhaaMPlace
import Derived.Test.YtffchlpefhldhaaMFork
import Derived.Test.YtffchlpefhldhaaMDrop
namespace Go.Proofs.Ytffchlpefhldhaa
open Go.RowKit Go.Maps
set_option linter.unusedVariables false

theorem foot_plays {w : World} {B bd bc m : Nat} {qv qv' : Value} (h : ∀ j, Foot B bd bc qv j → m ≤ j) (hs : m ≤ w.heap.size) (hq : ∀ j, qv'.ownBlock = some j → qv.ownBlock = some j ∨ w.heap.size ≤ j) : ∀ j, Foot B bd bc qv' j → m ≤ j := by
  rintro j (rfl | rfl | rfl | hj)
  · exact h _ (.inl rfl)
  · exact h _ (.inr (.inl rfl))
  · exact h _ (.inr (.inr (.inl rfl)))
  · rcases hq j hj with h1 | h1
    · exact h _ (.inr (.inr (.inr h1)))
    · omega
theorem own_form {w : World} {e : TypeId} {s : Nat} {v : Value} {n : Nat} {xs : List Value} (h : OwnSl w e s v n xs) : (v = .slice none 0 0 ∧ n = 0) ∨ ∃ g off cap, v = .slice (some ⟨g, off, none⟩) n cap := by
  rcases h.2 with h | ⟨g, off, cap, cur, hv, _⟩
  · exact .inl h
  · exact .inr ⟨g, off, cap, hv⟩

/-- a slice of operations that came in -/
def ORow (w : World) (v : Value) (n : Nat) (K A B D : Nat → Int) : Prop :=
  (n = 0 ∧ ∃ a c, v = .slice a 0 c) ∨ ∃ b off c, v = .slice (some ⟨b, off, none⟩) n c ∧ n ≤ maxLen ∧ ∀ i, i < n → w.cell? ⟨b, off + i * 4, none⟩ = some (.int .i64 (K i)) ∧ w.cell? ⟨b, off + i * 4 + 1, none⟩ = some (.int .i32 (A i)) ∧ w.cell? ⟨b, off + i * 4 + 2, none⟩ = some (.int .i32 (B i)) ∧ w.cell? ⟨b, off + i * 4 + 3, none⟩ = some (.int .i64 (D i)) ∧ I32 (A i) ∧ I32 (B i) ∧ (Lit.int .i64 (D i)).wf = true

set_option maxRecDepth 100000 in
set_option maxHeartbeats 1000000 in
theorem plays_no (w : World) (most : Int) (v : Value) (h : ¬ (1 ≤ most ∧ most ≤ 65536)) :
    Calls Try.prog 3 #[.int .i64 most, v] w fun e w' => e = .returned (.bool true) ∧ Below w.heap.size w w' := by
  have two : (most < 1) ∨ (1 ≤ most ∧ 65536 < most) := by omega
  have hno := new_no w most h
  have Hno := hide hno
  clear h hno
  rcases two with h1 | ⟨h1, h2⟩
  all_goals
    go_enter Try.func3, Try.ntmps3
    go_wp2_with fail
    refine (unhide Hno).mono ?_
    rintro e w1 ⟨rfl, hw1⟩
    subst hw1
    go_wp2_with fail
    refine (awake_walk w1).mono ?_
    rintro e w2 ⟨rfl, t2⟩
    go_wp2_with fail
    go_ret
    exact ⟨rfl, t2.below (fun j hj => hj.elim) (Nat.le_refl _)⟩

set_option maxRecDepth 100000 in
set_option maxHeartbeats 8000000 in
theorem plays_some (w : World) (most : Nat) (M1 : 1 ≤ most) (M2 : most ≤ 65536) (ob off c n : Nat) (K A B' D : Nat → Int) (hn : n ≤ maxLen)
    (hc : ∀ i, i < n → w.cell? ⟨ob, off + i * 4, none⟩ = some (.int .i64 (K i)) ∧ w.cell? ⟨ob, off + i * 4 + 1, none⟩ = some (.int .i32 (A i)) ∧ w.cell? ⟨ob, off + i * 4 + 2, none⟩ = some (.int .i32 (B' i)) ∧ w.cell? ⟨ob, off + i * 4 + 3, none⟩ = some (.int .i64 (D i)) ∧ I32 (A i) ∧ I32 (B' i) ∧ (Lit.int .i64 (D i)).wf = true) :
    Calls Try.prog 3 #[.int .i64 most, .slice (some ⟨ob, off, none⟩) n c] w fun e w' => e = .returned (.bool true) ∧ Below w.heap.size w w' := by
  unfold maxLen at hn
  obtain ⟨i0, hi, hz0, hz1, hz2⟩ := info_parts info_cell
  have d1 : decide (1 ≤ (most : Int)) = true := by simp; omega
  have d2 : decide ((most : Int) ≤ 65536) = true := by simp; omega
  go_enter Try.func3, Try.ntmps3
  go_wp2_with fail
  refine (new_yes w most M1 M2).mono ?_
  rintro e w1 ⟨B, bd, bc, qv, rfl, t1, m1, f1⟩
  go_wp2_with fail
  refine (awake_walk w1).mono ?_
  rintro e w2 ⟨rfl, t2⟩
  have m2 := m1.turn t2 (fun _ _ => id)
  have tt2 : Turn (fun j => w.heap.size ≤ j) w w2 := (t1.mono (fun j hj => hj.elim)).then (t2.mono (fun j hj => hj.elim))
  clear t1 t2 m1
  go_wp2_with fail
  go_loopw [5, 7, 8] (fun mv lv i wr => ∃ (z q B bd bc : Nat) (qv : Value) (L : List Ent), mv = .pointer (some ⟨B, 0, none⟩) ∧ z ≤ n ∧ z ≤ 150 ∧ i = .int .i64 z ∧ Mem wr B bd bc qv q most L ∧ L.length ≤ z ∧ q ≤ 1000 * z ∧ OwnSl wr 36 3 lv L.length (ccells L) ∧ Turn (fun j => w.heap.size ≤ j) w wr ∧ (∀ j, Foot B bd bc qv j → w.heap.size ≤ j) ∧ ∀ j, lv.ownBlock = some j → w.heap.size ≤ j) (fun _ _ i _ => n - (intOf i).toNat)
  case atStart => exact ⟨0, 0, B, bd, bc, qv, [], rfl, by omega, by omega, rfl, m2, by simp, by omega, ⟨rfl, .inl ⟨rfl, rfl⟩⟩, tt2, f1, fun j hj => by simp [Value.ownBlock] at hj⟩
  case round =>
    clear m2 tt2 f1
    obtain ⟨z, q, Bm, bdm, bcm, qvm, L, rfl, hz1', hz2', rfl, mm, hLz, hq, ho, tt, nf, nl⟩ := hrel
    by_cases hlt : z < n ∧ z < 150
    · obtain ⟨hlt1, hlt2⟩ := hlt
      obtain ⟨x0, x1, x2, x3, wx, wy, wd⟩ := hc z hlt1
      have nob : ob < w.heap.size := World.block_lt_of_cell? _ _ x0
      have y0 := tt.cell x0 (by show ¬ w.heap.size ≤ ob; omega)
      have y1 := tt.cell x1 (by show ¬ w.heap.size ≤ ob; omega)
      have y2 := tt.cell x2 (by show ¬ w.heap.size ≤ ob; omega)
      have y3 := tt.cell x3 (by show ¬ w.heap.size ≤ ob; omega)
      clear x0 x1 x2 x3
      generalize K z = κ at *
      generalize A z = x at *
      generalize B' z = y at *
      generalize D z = d at *
      go_wp2_with fail
      have tO : Turn (fun _ => False) wr (wr.alloc (.cells #[.int .i64 κ, .int .i32 x, .int .i32 y, .int .i64 d] 32)) := (Turn.refl _ wr).alloc _
      have bO : (wr.alloc (.cells #[.int .i64 κ, .int .i32 x, .int .i32 y, .int .i64 d] 32)).heap[wr.heap.size]? = some (.cells #[.int .i64 κ, .int .i32 x, .int .i32 y, .int .i64 d] 32 (0, 0)) := heap_alloc_new wr _
      have mO := mm.turn tO (fun _ _ => id)
      have oO := ho.turn tO (fun _ _ => id)
      have ttO := tt.then (tO.mono (fun j hj => hj.elim))
      have nO : w.heap.size ≤ wr.heap.size := tt.size
      generalize wr.alloc (.cells #[.int .i64 κ, .int .i32 x, .int .i32 y, .int .i64 d] 32) = wo at *
      generalize wr.heap.size = bo at *
      refine (at_any wo _ L x y (by omega) (CRow.of_own oO)).mono ?_
      rintro e w3 ⟨rfl, t3⟩
      have m3 := mO.turn t3 (fun _ _ => id)
      have o3 := oO.turn t3 (fun _ _ => id)
      have tt3 := ttO.then (t3.mono (fun j hj => hj.elim))
      have b3 := t3.same bO id
      clear t3 mO oO ttO bO tO mm ho tt y0 y1 y2 y3
      have c0 : w3.cell? ⟨bo, 0, none⟩ = some (.int .i64 κ) := cell_obj b3 0
      have c1 : w3.cell? ⟨bo, 1, none⟩ = some (.int .i32 x) := cell_obj b3 1
      have c2 : w3.cell? ⟨bo, 2, none⟩ = some (.int .i32 y) := cell_obj b3 2
      have c3 : w3.cell? ⟨bo, 3, none⟩ = some (.int .i64 d) := cell_obj b3 3
      by_cases k1 : κ = 1
      · subst k1
        go_wp2_with fail
        refine (put_walk w3 Bm bdm bcm q most qvm L x y d wx wy wd m3 (by omega)).mono ?_
        rintro e w4 ⟨rfl, t4, qv4, m4, f4⟩
        have o4 := o3.turn t4 (m3.apart o3)
        have b4 := t4.same b3 (m3.boxApart b3 (by decide) (by decide))
        have tt4 := tt3.then (t4.mono nf)
        have nf4 := foot_plays nf tt3.size f4
        have gd := m3.good
        have lnm := m3.len
        clear c0 c1 c2 c3 b3 t4 f4 m3 o3 tt3
        have c1 : w4.cell? ⟨bo, 1, none⟩ = some (.int .i32 x) := cell_obj b4 1
        have c2 : w4.cell? ⟨bo, 2, none⟩ = some (.int .i32 y) := cell_obj b4 2
        have c3 : w4.cell? ⟨bo, 3, none⟩ = some (.int .i64 d) := cell_obj b4 3
        cases hk : keyed L x y
        · rw [place_none hk]
          have Hk := hide hk
          clear hk
          have tA : Turn (fun _ => False) w4 (w4.alloc (.cells #[.int .i32 x, .int .i32 y, .int .i64 d] 36)) := (Turn.refl _ w4).alloc _
          have kA : (w4.alloc (.cells #[.int .i32 x, .int .i32 y, .int .i64 d] 36)).heap[w4.heap.size]? = some (.cells #[.int .i32 x, .int .i32 y, .int .i64 d] 36 (0, 0)) := heap_alloc_new w4 _
          have oA := o4.turn tA (fun _ _ => id)
          obtain ⟨g', off', cap', w7, hrun, q7, g7, hloc⟩ := run_append_sl (P := Try.prog) (w := w4.alloc (.cells #[.int .i32 x, .int .i32 y, .int .i64 d] 36)) (t := 28) (ty := 28) Try.underlying28 hi hz0 hz1 hz2 rfl (by decide) oA ⟨w4.heap.size, 0, none⟩ 1 1 [.int .i32 x, .int .i32 y, .int .i64 d] rfl
            (fun j u hu => by rw [Addr.add_lit, Nat.zero_add]; exact (cell_obj kA j).trans (by simpa using hu)) (by simp [Value.oneCell']) (by unfold maxLen; omega) (by omega) (by omega)
          have t7 := (tA.mono (fun j hj => hj.elim)).then (Turn.grown g7 (fun k e => e))
          have m7 := m4.turn t7 (fun j hj hv => m4.apart o4 j hv hj)
          have tt7 := tt4.then (t7.mono nl)
          have nl7 : ∀ j, (Value.slice (some ⟨g', off', none⟩) (L.length + 1) cap').ownBlock = some j → w.heap.size ≤ j := by
            intro j hj
            cases hj
            rcases hloc with e | e
            · exact nl _ e
            · have := tt4.size
              simp at e
              show w.heap.size ≤ g'
              omega
          clear t7 kA oA tA g7 hloc m4 o4 tt4 b4
          by_cases hfull : L.length + 1 ≤ most
          · rw [putL_room (unhide Hk) hfull] at m7
            have hd : decide ((most : Int) < ((L.length : Nat) : Int) + 1) = false := by simp; omega
            have q7' : OwnSl w7 36 3 (.slice (some ⟨g', off', none⟩) (L.length + 1) cap') (L ++ [(x, y, d)]).length (ccells (L ++ [(x, y, d)])) := by rw [List.length_append, ccells_append]; exact q7
            have Hf := hide hfull
            clear hfull
            go_wp2_with (at_builtin; refine list_append_run rfl (.tmp 115) (.tmp 121) 28 rfl _ _ _ _ rfl rfl hrun ?_)
            refine (told_walk w7 Bm bdm bcm _ most qv4 _ _ m7 (CRow.of_own q7')).mono ?_
            rintro e w9 ⟨rfl, t9⟩
            go_wp2_with fail
            exact ⟨⟨z + 1, _, Bm, bdm, bcm, qv4, _, rfl, by omega, by omega, by go_num, m7.turn t9 (fun _ _ => id), by simp; omega, by omega, q7'.turn t9 (fun _ _ => id), tt7.then (t9.mono (fun j hj => hj.elim)), nf4, nl7⟩, by simp [intOf]; omega⟩
          · obtain ⟨⟨a0, b0, d0⟩, T, hT⟩ : ∃ e T, L ++ [(x, y, d)] = e :: T := by
              cases hL : L ++ [(x, y, d)] with
              | nil => simp at hL
              | cons e T => exact ⟨e, T, rfl⟩
            rw [putL_full (unhide Hk) hfull hT] at m7
            have hTl : T.length = L.length := by have := congrArg List.length hT; simp at this; omega
            have hd : decide ((most : Int) < ((L.length : Nat) : Int) + 1) = true := by simp; omega
            have q7' : OwnSl w7 36 3 (.slice (some ⟨g', off', none⟩) (L.length + 1) cap') (L.length + 1) (ccells ((a0, b0, d0) :: T)) := by rw [← hT, ccells_append]; exact q7
            obtain ⟨off2, hsl, q8⟩ := run_tail_sl Try.underlying28 hi hz1 q7'
            have q8' : OwnSl w7 36 3 (.slice (some ⟨g', off2, none⟩) L.length (cap' - 1)) T.length (ccells T) := by rw [hTl]; exact q8
            have HT := hide hT
            have Hf := hide hfull
            clear hfull hT q8 q7'
            go_wp2_with (at_builtin; refine list_append_run rfl (.tmp 115) (.tmp 121) 28 rfl _ _ _ _ rfl rfl hrun ?_)
            refine (told_walk w7 Bm bdm bcm _ most qv4 _ _ m7 (CRow.of_own q8')).mono ?_
            rintro e w9 ⟨rfl, t9⟩
            go_wp2_with fail
            exact ⟨⟨z + 1, _, Bm, bdm, bcm, qv4, _, rfl, by omega, by omega, by go_num, m7.turn t9 (fun _ _ => id), by omega, by omega, q8'.turn t9 (fun _ _ => id), tt7.then (t9.mono (fun j hj => hj.elim)), nf4, nl7⟩, by simp [intOf]; omega⟩
        · rw [putL_old hk] at m4
          obtain ⟨kk, d0, hp, hkl, hLk, _⟩ := place_some hk
          rw [hp]
          have hrs := redo_set (d := d) gd hLk
          have hcs := ccells_set (d := d) hLk
          rcases own_form o4 with ⟨_, h0⟩ | ⟨g', off', cap', rfl⟩
          · omega
          have hce := (ccells_get L kk _ hLk).2.2
          have cz : w4.cell? ⟨g', off' + kk * 3 + 2, none⟩ = some (.int .i64 d0) := by rw [Nat.add_assoc]; exact o4.cells _ _ hce
          obtain ⟨cur, hcur⟩ := o4.lt g' rfl
          have fz : w4.frozen? ⟨g', off' + kk * 3 + 2, none⟩ = false := frozen_obj hcur _
          have o5 := o4.stored (j := kk * 3 + 2) (by omega) (.int .i64 d)
          have t5 : Turn (fun j => j = g') w4 (w4.setCell ⟨g', off' + kk * 3 + 2, none⟩ (.int .i64 d)) := (Turn.refl (fun j => j = g') w4).setCell (p := ⟨g', off' + kk * 3 + 2, none⟩) (.inl rfl) _
          rw [← Nat.add_assoc] at o5
          have m5 := m4.turn t5 (fun j hj e => m4.apart o4 j (by rw [e]; rfl) hj)
          have tt5 := tt4.then (t5.mono (fun j hj => by subst hj; exact nl _ rfl))
          have o5' : OwnSl (w4.setCell ⟨g', off' + kk * 3 + 2, none⟩ (.int .i64 d)) 36 3 (.slice (some ⟨g', off', none⟩) L.length cap') (redo L x y d).length (ccells (redo L x y d)) := by rw [redo_length, hrs, hcs]; exact o5
          have Hk := hide hk
          have hd : decide ((most : Int) < ((L.length : Nat) : Int)) = false := by simp; omega
          clear hk hp hrs hcs hLk hce o4 m4 o5 t5
          go_wp2_with fail
          refine (told_walk _ Bm bdm bcm _ most qv4 _ _ m5 (CRow.of_own o5')).mono ?_
          rintro e w9 ⟨rfl, t9⟩
          go_wp2_with fail
          exact ⟨⟨z + 1, _, Bm, bdm, bcm, qv4, _, rfl, by omega, by omega, by go_num, m5.turn t9 (fun _ _ => id), by rw [redo_length]; omega, by omega, o5'.turn t9 (fun _ _ => id), tt5.then (t9.mono (fun j hj => hj.elim)), nf4, nl⟩, by simp [intOf]; omega⟩
      · by_cases k2 : κ = 2
        · subst k2
          clear k1
          go_wp2_with fail
          refine (ldrop_any w3 _ L x (by omega) (CRow.of_own o3)).mono ?_
          rintro e w4 ⟨v', rfl, t4, o4, n4⟩
          have m4 := m3.turn t4 (fun _ _ => id)
          have tt4 := tt3.then (t4.mono (fun j hj => hj.elim))
          have b4 := t4.same b3 id
          have s4 := tt3.size
          have hle := dropL_le L x
          clear c0 c1 c2 c3 b3 t4 m3 o3
          have c1 : w4.cell? ⟨bo, 1, none⟩ = some (.int .i32 x) := cell_obj b4 1
          go_wp2_with fail
          refine (drop_walk w4 Bm bdm bcm q most qvm L x wx m4 (by omega)).mono ?_
          rintro e w5 ⟨rfl, t5, qv5, m5, f5⟩
          have o5 := o4.turn t5 (m4.apart o4)
          have tt5 := tt4.then (t5.mono nf)
          have nf5 := foot_plays nf tt4.size (fun j hj => .inl (f5 j hj))
          have n5 : ∀ j, v'.ownBlock = some j → w.heap.size ≤ j := fun j hj => by have := n4 j hj; omega
          go_wp2_with fail
          refine (told_walk w5 Bm bdm bcm _ most qv5 _ _ m5 (CRow.of_own o5)).mono ?_
          rintro e w9 ⟨rfl, t9⟩
          go_wp2_with fail
          exact ⟨⟨z + 1, _, Bm, bdm, bcm, qv5, _, rfl, by omega, by omega, by go_num, m5.turn t9 (fun _ _ => id), by omega, by omega, o5.turn t9 (fun _ _ => id), tt5.then (t9.mono (fun j hj => hj.elim)), nf5, n5⟩, by simp [intOf]; omega⟩
        · by_cases k3 : κ = 3
          · subst k3
            clear k1 k2
            go_wp2_with fail
            refine (fork_walk w3 Bm bdm bcm q most qvm L m3).mono ?_
            rintro e w4 ⟨B2, bd2, bc2, qv2, rfl, t4, m4, f4⟩
            have m3' := m3.turn t4 (fun _ _ => id)
            have o4 := o3.turn t4 (fun _ _ => id)
            have tt4 := tt3.then (t4.mono (fun j hj => hj.elim))
            have b4 := t4.same b3 id
            have s4 := tt3.size
            have flt := m3.lt
            clear c0 c1 c2 c3 b3 t4
            have c1 : w4.cell? ⟨bo, 1, none⟩ = some (.int .i32 x) := cell_obj b4 1
            go_wp2_with fail
            refine (drop_walk w4 Bm bdm bcm q most qvm L x wx m3' (by omega)).mono ?_
            rintro e w5 ⟨rfl, t5, _, _, _⟩
            have m5 := m4.turn t5 (fun j hj hF => by have := f4 j hj; have := flt j hF; omega)
            have o5 := o4.turn t5 (m3'.apart o4)
            have tt5 := tt4.then (t5.mono nf)
            have nf5 : ∀ j, Foot B2 bd2 bc2 qv2 j → w.heap.size ≤ j := fun j hj => by have := f4 j hj; omega
            go_wp2_with fail
            refine (told_walk w5 B2 bd2 bc2 _ most qv2 _ _ m5 (CRow.of_own o5)).mono ?_
            rintro e w9 ⟨rfl, t9⟩
            go_wp2_with fail
            exact ⟨⟨z + 1, _, B2, bd2, bc2, qv2, _, rfl, by omega, by omega, by go_num, m5.turn t9 (fun _ _ => id), by omega, by omega, o5.turn t9 (fun _ _ => id), tt5.then (t9.mono (fun j hj => hj.elim)), nf5, nl⟩, by simp [intOf]; omega⟩
          · have e1 : (κ == 1) = false := by simp [k1]
            have e2 : (κ == 2) = false := by simp [k2]
            have e3 : (κ == 3) = false := by simp [k3]
            clear k1 k2 k3
            go_wp2_with fail
            refine (get_walk w3 Bm bdm bcm q most qvm L x y wx wy m3).mono ?_
            rintro e w4 ⟨rfl, t4⟩
            have m4 := m3.turn t4 (fun _ _ => id)
            have o4 := o3.turn t4 (fun _ _ => id)
            have tt4 := tt3.then (t4.mono (fun j hj => hj.elim))
            have gd := m3.good
            clear c0 c1 c2 c3 b3 t4 m3 o3
            cases hk : keyed L x y
            · rw [place_none hk, dist_none hk]
              have Hk := hide hk
              clear hk
              go_wp2_with fail
              refine (told_walk w4 Bm bdm bcm _ most qvm _ _ m4 (CRow.of_own o4)).mono ?_
              rintro e w9 ⟨rfl, t9⟩
              go_wp2_with fail
              exact ⟨⟨z + 1, _, Bm, bdm, bcm, qvm, _, rfl, by omega, by omega, by go_num, m4.turn t9 (fun _ _ => id), by omega, by omega, o4.turn t9 (fun _ _ => id), tt4.then (t9.mono (fun j hj => hj.elim)), nf, nl⟩, by simp [intOf]; omega⟩
            · obtain ⟨kk, d0, hp, hkl, hLk, _⟩ := place_some hk
              rw [hp, dist_at gd hLk]
              rcases own_form o4 with ⟨_, h0⟩ | ⟨g', off', cap', rfl⟩
              · omega
              have hce := (ccells_get L kk _ hLk).2.2
              have cz : w4.cell? ⟨g', off' + kk * 3 + 2, none⟩ = some (.int .i64 d0) := by rw [Nat.add_assoc]; exact o4.cells _ _ hce
              have Hk := hide hk
              clear hk hp hLk hce
              go_wp2_with fail
              refine (told_walk w4 Bm bdm bcm _ most qvm _ _ m4 (CRow.of_own o4)).mono ?_
              rintro e w9 ⟨rfl, t9⟩
              go_wp2_with fail
              exact ⟨⟨z + 1, _, Bm, bdm, bcm, qvm, _, rfl, by omega, by omega, by go_num, m4.turn t9 (fun _ _ => id), by omega, by omega, o4.turn t9 (fun _ _ => id), tt4.then (t9.mono (fun j hj => hj.elim)), nf, nl⟩, by simp [intOf]; omega⟩
    · have two : (z < n ∧ ¬ z < 150) ∨ ¬ z < n := by omega
      clear hlt
      rcases two with ⟨h1, h2⟩ | h1
      all_goals
        go_wp2_with fail
        go_ret
        exact ⟨rfl, tt.below (fun j hj => hj) (Nat.le_refl _)⟩

set_option maxRecDepth 100000 in
set_option maxHeartbeats 1000000 in
theorem plays_none (w : World) (most : Nat) (M1 : 1 ≤ most) (M2 : most ≤ 65536) (oa : Option Addr) (c : Nat) :
    Calls Try.prog 3 #[.int .i64 most, .slice oa 0 c] w fun e w' => e = .returned (.bool true) ∧ Below w.heap.size w w' := by
  have d1 : decide (1 ≤ (most : Int)) = true := by simp; omega
  have d2 : decide ((most : Int) ≤ 65536) = true := by simp; omega
  go_enter Try.func3, Try.ntmps3
  go_wp2_with fail
  refine (new_yes w most M1 M2).mono ?_
  rintro e w1 ⟨B, bd, bc, qv, rfl, t1, m1, f1⟩
  go_wp2_with fail
  refine (awake_walk w1).mono ?_
  rintro e w2 ⟨rfl, t2⟩
  go_wp2_with fail
  refine wp_loop_rounds 1 ?_; rw [rounds_succ]
  go_wp2_with fail
  go_ret
  exact ⟨rfl, (t1.then t2).below (fun j hj => hj.elim) (Nat.le_refl _)⟩

theorem MemoPlays_law (w : World) (most : Int) (hm : (Lit.int .i64 most).wf = true) (v : Value) (n : Nat) (K A B D : Nat → Int) (hr : ORow w v n K A B D) :
    Calls Try.prog 3 #[.int .i64 most, v] w fun e w' => e = .returned (.bool true) ∧ Below w.heap.size w w' := by
  by_cases h : 1 ≤ most ∧ most ≤ 65536
  · obtain ⟨m, rfl⟩ := Int.eq_ofNat_of_zero_le (show 0 ≤ most by omega)
    have M1 : 1 ≤ m := by have := h.1; omega
    have M2 : m ≤ 65536 := by have := h.2; omega
    rcases hr with ⟨rfl, oa, c, rfl⟩ | ⟨ob, off, c, rfl, hn, hc⟩
    · exact plays_none w m M1 M2 oa c
    · exact plays_some w m M1 M2 ob off c n K A B D hn hc
  · exact plays_no w most v h
end Go.Proofs.Ytffchlpefhldhaa
