/- MemoDrops: for every list of pairs and every node the call returns true. -/
import Derived.Test.YtffchlpefhldhaaMPlace
namespace Go.Proofs.Ytffchlpefhldhaa
open Go.RowKit Go.Maps
set_option linter.unusedVariables false

theorem foot_new {w : World} {B bd bc m : Nat} {qv qv' : Value} (h : ∀ j, Foot B bd bc qv j → m ≤ j) (hs : m ≤ w.heap.size) (hq : ∀ j, qv'.ownBlock = some j → qv.ownBlock = some j ∨ w.heap.size ≤ j) : ∀ j, Foot B bd bc qv' j → m ≤ j := by
  rintro j (rfl | rfl | rfl | hj)
  · exact h _ (.inl rfl)
  · exact h _ (.inr (.inl rfl))
  · exact h _ (.inr (.inr (.inl rfl)))
  · rcases hq j hj with h1 | h1
    · exact h _ (.inr (.inr (.inr h1)))
    · omega
/-- the law's list: nil, or a row of its own -/
theorem own_shape {w : World} {e : TypeId} {s : Nat} {v : Value} {n : Nat} {xs : List Value} (h : OwnSl w e s v n xs) : (v = .slice none 0 0 ∧ n = 0) ∨ ∃ g off cap, v = .slice (some ⟨g, off, none⟩) n cap := by
  rcases h.2 with h | ⟨g, off, cap, cur, hv, _⟩
  · exact .inl h
  · exact .inr ⟨g, off, cap, hv⟩

set_option maxHeartbeats 4000000 in
theorem drops_some (w : World) (ob off c n : Nat) (A B' : Nat → Int) (node : Int) (wn : I32 node) (hn : n ≤ maxLen)
    (hc : ∀ i, i < n → w.cell? ⟨ob, off + i * 2, none⟩ = some (.int .i32 (A i)) ∧ w.cell? ⟨ob, off + i * 2 + 1, none⟩ = some (.int .i32 (B' i)) ∧ I32 (A i) ∧ I32 (B' i)) :
    Calls Try.prog 6 #[.slice (some ⟨ob, off, none⟩) n c, .int .i32 node] w fun e w' => e = .returned (.bool true) ∧ Below w.heap.size w w' := by
  unfold maxLen at hn
  obtain ⟨i0, hi, hz0, hz1, hz2⟩ := info_parts info_cell
  go_enter Try.func6, Try.ntmps6
  go_wp2_with fail
  refine (new_yes w 100 (by omega) (by omega)).mono ?_
  rintro e w1 ⟨B, bd, bc, qv, rfl, t1, m1, f1⟩
  go_wp2_with fail
  refine (awake_walk w1).mono ?_
  rintro e w2 ⟨rfl, t2⟩
  have m2 := m1.turn t2 (fun _ _ => id)
  have tt2 : Turn (fun j => w.heap.size ≤ j) w w2 := (t1.mono (fun j hj => hj.elim)).then (t2.mono (fun j hj => hj.elim))
  clear t1 t2 m1
  go_wp2_with fail
  go_loopw [7, 8] (fun lv i wr => ∃ (z q : Nat) (qv : Value) (L : List Ent), z ≤ n ∧ z ≤ 60 ∧ i = .int .i64 z ∧ Mem wr B bd bc qv q 100 L ∧ L.length ≤ z ∧ q ≤ 10 * z ∧ OwnSl wr 36 3 lv L.length (ccells L) ∧ Turn (fun j => w.heap.size ≤ j) w wr ∧ (∀ j, Foot B bd bc qv j → w.heap.size ≤ j) ∧ ∀ j, lv.ownBlock = some j → w.heap.size ≤ j) (fun _ i _ => n - (intOf i).toNat)
  case atStart => exact ⟨0, 0, qv, [], by omega, by omega, rfl, m2, by simp, by omega, ⟨rfl, .inl ⟨rfl, rfl⟩⟩, tt2, f1, fun j hj => by simp [Value.ownBlock] at hj⟩
  case round =>
    obtain ⟨z, q, qv, L, hz1', hz2', rfl, mm, hLz, hq, ho, tt, nf, nl⟩ := hrel
    by_cases hlt : z < n ∧ z < 60
    · obtain ⟨hlt1, hlt2⟩ := hlt
      obtain ⟨x0, x1, wx, wy⟩ := hc z hlt1
      have nob : ob < w.heap.size := World.block_lt_of_cell? _ _ x0
      have y0 : wr.cell? ⟨ob, off + z * 2, none⟩ = some (.int .i32 (A z)) := tt.cell x0 (by show ¬ w.heap.size ≤ ob; omega)
      have y1 : wr.cell? ⟨ob, off + z * 2 + 1, none⟩ = some (.int .i32 (B' z)) := tt.cell x1 (by show ¬ w.heap.size ≤ ob; omega)
      clear x0 x1
      generalize A z = x at *
      generalize B' z = y at *
      have wz : (Lit.int .i64 (z : Int)).wf = true := WalkArith.wf_i64 (by omega)
      go_wp2_with fail
      refine (put_walk wr B bd bc q 100 qv L x y (z : Int) wx wy wz mm (by omega)).mono ?_
      rintro e w3 ⟨rfl, t3, qv3, m3, f3⟩
      have ap := mm.apart ho
      have o3 := ho.turn t3 ap
      have t3' : Turn (fun j => w.heap.size ≤ j) wr w3 := t3.mono nf
      have tt3 := tt.then t3'
      have nf3 := foot_new nf tt.size f3
      have y0 := t3'.cell y0 (by show ¬ w.heap.size ≤ ob; omega)
      have y1 := t3'.cell y1 (by show ¬ w.heap.size ≤ ob; omega)
      clear t3 t3' f3 ap ho
      go_wp2_with fail
      refine (at_any w3 _ L x y (by omega) (CRow.of_own o3)).mono ?_
      rintro e w4 ⟨rfl, t4⟩
      have m4 := m3.turn t4 (fun _ _ => id)
      have o4 := o3.turn t4 (fun _ _ => id)
      have tt4 := tt3.then (t4.mono (fun j hj => hj.elim))
      have y0 := t4.cell y0 id
      have y1 := t4.cell y1 id
      clear m3 o3 tt3 t4
      cases hk : keyed L x y
      · rw [putL_room hk (by omega)] at m4
        rw [place_none hk]
        have Hk := hide hk
        clear hk
        have tA : Turn (fun _ => False) w4 (w4.alloc (.cells #[.int .i32 x, .int .i32 y, .int .i64 z] 36)) := (Turn.refl _ w4).alloc _
        have kA : (w4.alloc (.cells #[.int .i32 x, .int .i32 y, .int .i64 z] 36)).heap[w4.heap.size]? = some (.cells #[.int .i32 x, .int .i32 y, .int .i64 z] 36 (0, 0)) := heap_alloc_new w4 _
        have oA := o4.turn tA (fun _ _ => id)
        obtain ⟨g', off', cap', w7, hrun, q7, g7, hloc⟩ := run_append_sl (P := Try.prog) (w := w4.alloc (.cells #[.int .i32 x, .int .i32 y, .int .i64 z] 36)) (t := 28) (ty := 28) Try.underlying28 hi hz0 hz1 hz2 rfl (by decide) oA ⟨w4.heap.size, 0, none⟩ 1 1 [.int .i32 x, .int .i32 y, .int .i64 z] rfl
          (fun j u hu => by rw [Addr.add_lit, Nat.zero_add]; exact (cell_obj kA j).trans (by simpa using hu)) (by simp [Value.oneCell']) (by unfold maxLen; omega) (by omega) (by omega)
        have ap4 := m4.apart o4
        have t7 := (tA.mono (fun j hj => hj.elim)).then (Turn.grown g7 (fun k e => e))
        have m7 := m4.turn t7 (fun j hj hv => ap4 j hv hj)
        have tt7 := tt4.then (t7.mono nl)
        have nl7 : ∀ j, (Value.slice (some ⟨g', off', none⟩) (L.length + 1) cap').ownBlock = some j → w.heap.size ≤ j := by
          intro j hj
          cases hj
          rcases hloc with e | e
          · exact nl _ e
          · have := tt4.size
            simp at e
            show w.heap.size ≤ g'
            omega
        go_wp2_with (at_builtin; refine list_append_run rfl (.tmp 56) (.tmp 63) 28 rfl _ _ _ _ rfl rfl hrun ?_)
        exact ⟨⟨z + 1, q + 4, qv3, _, by omega, by omega, by go_num, m7, by simp; omega, by omega, by rw [List.length_append, ccells_append]; exact q7, tt7, nf3, nl7⟩, by simp [intOf]; omega⟩
      · rw [putL_old hk] at m4
        obtain ⟨kk, d0, hp, hkl, hLk, _⟩ := place_some hk
        rw [hp]
        have hrs := redo_set (d := (z : Int)) mm.good hLk
        have hcs := ccells_set (d := (z : Int)) hLk
        rcases own_shape o4 with ⟨_, h0⟩ | ⟨g', off', cap', rfl⟩
        · omega
        have hce := (ccells_get L kk _ hLk).2.2
        have cz : w4.cell? ⟨g', off' + kk * 3 + 2, none⟩ = some (.int .i64 d0) := by rw [Nat.add_assoc]; exact o4.cells _ _ hce
        obtain ⟨cur, hcur⟩ := o4.lt g' rfl
        have fz : w4.frozen? ⟨g', off' + kk * 3 + 2, none⟩ = false := frozen_obj hcur _
        have o5 := o4.stored (j := kk * 3 + 2) (by omega) (.int .i64 (z : Int))
        have ap4 := m4.apart o4
        have t5 : Turn (fun j => j = g') w4 (w4.setCell ⟨g', off' + kk * 3 + 2, none⟩ (.int .i64 (z : Int))) := (Turn.refl (fun j => j = g') w4).setCell (p := ⟨g', off' + kk * 3 + 2, none⟩) (.inl rfl) _
        rw [← Nat.add_assoc] at o5
        have m5 := m4.turn t5 (fun j hj e => ap4 j (by rw [e]; rfl) hj)
        have tt5 := tt4.then (t5.mono (fun j hj => by subst hj; exact nl _ rfl))
        rw [← hcs, ← hrs] at o5
        have Hk := hide hk
        clear hk hp hrs hcs hLk hce o4 m4
        go_wp2_with fail
        exact ⟨⟨z + 1, q + 4, qv3, _, by omega, by omega, by go_num, m5, by rw [redo_length]; omega, by omega, by rw [redo_length]; exact o5, tt5, nf3, nl⟩, by simp [intOf]; omega⟩
    · have two : (z < n ∧ ¬ z < 60) ∨ ¬ z < n := by omega
      clear hlt
      rcases two with ⟨h1, h2⟩ | h1
      all_goals
        go_wp2_with fail
        refine (ldrop_any wr _ L node (by omega) (CRow.of_own ho)).mono ?_
        rintro e w3 ⟨v', rfl, t3, o3, n3⟩
        have m3 := mm.turn t3 (fun _ _ => id)
        have tt3 := tt.then (t3.mono (fun j hj => hj.elim))
        have hle := dropL_le L node
        go_wp2_with fail
        refine (drop_walk w3 B bd bc q 100 qv L node wn m3 (by omega)).mono ?_
        rintro e w4 ⟨rfl, t4, qv4, m4, f4⟩
        have o4 := o3.turn t4 (fun j hj => m3.apart o3 j hj)
        have tt4 := tt3.then (t4.mono nf)
        have nf4 : ∀ j, Foot B bd bc qv4 j → w.heap.size ≤ j := by
          rintro j (rfl | rfl | rfl | hj)
          · exact nf _ (.inl rfl)
          · exact nf _ (.inr (.inl rfl))
          · exact nf _ (.inr (.inr (.inl rfl)))
          · exact nf _ (.inr (.inr (.inr (f4 j hj))))
        go_wp2_with fail
        refine (told_walk w4 B bd bc _ 100 qv4 v' (dropL L node) m4 (CRow.of_own o4)).mono ?_
        rintro e w5 ⟨rfl, t5⟩
        have m5 := m4.turn t5 (fun _ _ => id)
        have tt5 := tt4.then (t5.mono (fun j hj => hj.elim))
        go_wp2_with fail
        refine (drop_walk w5 B bd bc _ 100 qv4 (dropL L node) node wn m5 (by omega)).mono ?_
        rintro e w6 ⟨rfl, t6, qv6, m6, f6⟩
        have tt6 := tt5.then (t6.mono nf4)
        have hii : dropL (dropL L node) node = dropL L node := by unfold dropL; rw [List.filter_filter]; simp
        rw [hii]
        have h00 : ((((dropL L node).length : Nat) : Int) - (((dropL L node).length : Nat) : Int) == 0) = true := by simp
        go_wp2_with fail
        go_ret
        exact ⟨rfl, tt6.below (fun j hj => hj) (Nat.le_refl _)⟩

set_option maxHeartbeats 4000000 in
theorem drops_none (w : World) (oa : Option Addr) (c : Nat) (node : Int) (wn : I32 node) :
    Calls Try.prog 6 #[.slice oa 0 c, .int .i32 node] w fun e w' => e = .returned (.bool true) ∧ Below w.heap.size w w' := by
  go_enter Try.func6, Try.ntmps6
  go_wp2_with fail
  refine (new_yes w 100 (by omega) (by omega)).mono ?_
  rintro e w1 ⟨B, bd, bc, qv, rfl, t1, m1, nf⟩
  go_wp2_with fail
  refine (awake_walk w1).mono ?_
  rintro e w2 ⟨rfl, t2⟩
  have m2 := m1.turn t2 (fun _ _ => id)
  have tt2 : Turn (fun j => w.heap.size ≤ j) w w2 := (t1.mono (fun j hj => hj.elim)).then (t2.mono (fun j hj => hj.elim))
  clear t1 t2 m1
  go_wp2_with fail
  refine wp_loop_rounds 1 ?_; rw [rounds_succ]
  go_wp2_with fail
  refine (ldrop_none w2 none 0 node).mono ?_
  rintro e w3 ⟨rfl, hw3⟩
  subst hw3
  go_wp2_with fail
  refine (drop_walk w3 B bd bc 0 100 qv [] node wn m2 (by simp)).mono ?_
  rintro e w4 ⟨rfl, t4, qv4, m4, f4⟩
  have tt4 := tt2.then (t4.mono nf)
  have nf4 : ∀ j, Foot B bd bc qv4 j → w.heap.size ≤ j := by
    rintro j (rfl | rfl | rfl | hj)
    · exact nf _ (.inl rfl)
    · exact nf _ (.inr (.inl rfl))
    · exact nf _ (.inr (.inr (.inl rfl)))
    · exact nf _ (.inr (.inr (.inr (f4 j hj))))
  rw [show dropL [] node = [] from rfl] at m4 ⊢
  go_wp2_with fail
  refine (told_walk w4 B bd bc _ 100 qv4 (.slice none 0 0) [] m4 (.inl ⟨rfl, _, _, rfl⟩)).mono ?_
  rintro e w5 ⟨rfl, t5⟩
  have m5 := m4.turn t5 (fun _ _ => id)
  have tt5 := tt4.then (t5.mono (fun j hj => hj.elim))
  go_wp2_with fail
  refine (drop_walk w5 B bd bc _ 100 qv4 [] node wn m5 (by simp)).mono ?_
  rintro e w6 ⟨rfl, t6, qv6, m6, f6⟩
  have tt6 := tt5.then (t6.mono nf4)
  rw [show dropL [] node = [] from rfl]
  go_wp2_with fail
  go_ret
  exact ⟨rfl, tt6.below (fun j hj => hj) (Nat.le_refl _)⟩

theorem MemoDrops_law (w : World) (v : Value) (n : Nat) (A B : Nat → Int) (hr : PRow w v n A B) (node : Int) (wn : I32 node) :
    Calls Try.prog 6 #[v, .int .i32 node] w fun e w' => e = .returned (.bool true) ∧ Below w.heap.size w w' := by
  rcases hr with ⟨rfl, oa, c, rfl⟩ | ⟨ob, off, c, rfl, hn, hc⟩
  · exact drops_none w oa c node wn
  · exact drops_some w ob off c n A B node wn hn hc
end Go.Proofs.Ytffchlpefhldhaa
