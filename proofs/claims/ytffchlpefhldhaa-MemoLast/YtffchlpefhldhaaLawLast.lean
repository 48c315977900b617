/- MemoLast: for every room, pair, distance and list of others the call returns true. -/
import Derived.Test.YtffchlpefhldhaaMNew
import Derived.Test.YtffchlpefhldhaaMSame
namespace Go.Proofs.Ytffchlpefhldhaa
open Go.RowKit Go.Maps
set_option linter.unusedVariables false

theorem room_of (m : Int) : ∃ n : Nat, 1 ≤ n ∧ n ≤ 20 ∧ wrap64 (1 + wrap64 ((IntKind.u64.wrap m).tmod 20)) = (n : Int) := by
  have h0 : 0 ≤ IntKind.u64.wrap m := by simp [IntKind.wrap, IntKind.signed, IntKind.bits]; omega
  generalize IntKind.u64.wrap m = x at *
  refine ⟨(1 + x % 20).toNat, by omega, by omega, ?_⟩
  rw [Int.tmod_eq_emod_of_nonneg h0]
  unfold wrap64
  omega

theorem same2_isAt (x y a b d : Int) : isAt x y (a, b, d) = same2 a b x y := rfl
theorem same2_symm {x y a b : Int} (h : same2 x y a b = false) : same2 a b x y = false := by
  unfold same2 at *
  simp at h ⊢
  omega
theorem keyed_head (a b d : Int) (M : List Ent) : keyed ((a, b, d) :: M) a b = true := by simp [keyed, isAt]
theorem dist_head (a b d : Int) (M : List Ent) : dist ((a, b, d) :: M) a b = d := by simp [dist, isAt]
theorem last_put {N : Nat} {M : List Ent} {a b d x y : Int} (hne : same2 x y a b = false) (hM : M.length < N) (hg : Good ((a, b, d) :: M)) :
    (keyed ((a, b, d) :: M) x y = true ∧ putL N ((a, b, d) :: M) x y 1 = (a, b, d) :: redo M x y 1) ∨
    (keyed ((a, b, d) :: M) x y = false ∧ M.length + 1 < N ∧ putL N ((a, b, d) :: M) x y 1 = (a, b, d) :: (M ++ [(x, y, 1)])) ∨
    (keyed ((a, b, d) :: M) x y = false ∧ M.length + 1 = N ∧ putL N ((a, b, d) :: M) x y 1 = M ++ [(x, y, 1)] ∧ keyed (M ++ [(x, y, 1)]) a b = false) := by
  have h1 : isAt x y (a, b, d) = false := by rw [same2_isAt]; exact same2_symm hne
  have h2 : isAt a b (x, y, 1) = false := by rw [same2_isAt]; exact hne
  cases hk : keyed ((a, b, d) :: M) x y
  · by_cases hr : M.length + 1 < N
    · refine .inr (.inl ⟨rfl, hr, ?_⟩)
      rw [putL_room hk (by simp; omega)]; rfl
    · refine .inr (.inr ⟨rfl, by omega, putL_full hk (by simp; omega) rfl, ?_⟩)
      have := (Good.not (X := []) hg).2
      rw [keyed_append, this]
      simp [keyed, h2]
  · refine .inl ⟨rfl, ?_⟩
    rw [putL_old hk]
    unfold redo
    rw [List.map_cons, h1]
    simp

set_option maxHeartbeats 4000000 in
theorem last_some (w : World) (most a b d : Int) (wa : I32 a) (wb : I32 b) (wd : (Lit.int .i64 d).wf = true) (ob off c n : Nat) (A B' : Nat → Int) (hn : n ≤ maxLen)
    (hc : ∀ i, i < n → w.cell? ⟨ob, off + i * 2, none⟩ = some (.int .i32 (A i)) ∧ w.cell? ⟨ob, off + i * 2 + 1, none⟩ = some (.int .i32 (B' i)) ∧ I32 (A i) ∧ I32 (B' i)) :
    Calls Try.prog 4 #[.int .i64 most, .agg #[.int .i32 a, .int .i32 b], .int .i64 d, .slice (some ⟨ob, off, none⟩) n c] w fun e w' => e = .returned (.bool true) ∧ Below w.heap.size w w' := by
  unfold maxLen at hn
  obtain ⟨N, hN1, hN2, eN⟩ := room_of most
  go_enter Try.func4, Try.ntmps4
  go_wp2_with fail
  have tW : Turn (fun j => w.heap.size ≤ j) w (w.alloc (.cells #[.int .i32 a, .int .i32 b] 30)) := (Turn.refl _ w).alloc _
  have k0 : (w.alloc (.cells #[.int .i32 a, .int .i32 b] 30)).heap[w.heap.size]? = some (.cells #[.int .i32 a, .int .i32 b] 30 (0, 0)) := heap_alloc_new w _
  have s0 : w.heap.size + 1 ≤ (w.alloc (.cells #[.int .i32 a, .int .i32 b] 30)).heap.size := by simp
  generalize w.alloc (.cells #[.int .i32 a, .int .i32 b] 30) = W at *
  refine (new_yes W N hN1 (by omega)).mono ?_
  rintro e w1 ⟨B, bd, bc, qv, rfl, t1, m1, f1⟩
  go_wp2_with fail
  refine (awake_walk w1).mono ?_
  rintro e w2 ⟨rfl, t2⟩
  have m2 := m1.turn t2 (fun _ _ => id)
  have tt2 : Turn (fun j => w.heap.size ≤ j) w w2 := (tW.then (t1.mono (fun j hj => hj.elim))).then (t2.mono (fun j hj => hj.elim))
  have k2 := t2.same (t1.same k0 id) id
  have p0 : w2.cell? ⟨w.heap.size, 0, none⟩ = some (.int .i32 a) := cell_obj k2 0
  have p1 : w2.cell? ⟨w.heap.size, 1, none⟩ = some (.int .i32 b) := cell_obj k2 1
  have nf : ∀ j, Foot B bd bc qv j → w.heap.size + 1 ≤ j := fun j hj => by have := f1 j hj; omega
  clear t1 t2 m1 f1 tW k0
  go_wp2_with fail
  refine (put_walk w2 B bd bc 0 N qv [] a b d wa wb wd m2 (by omega)).mono ?_
  rintro e w3 ⟨rfl, t3, qv3, m3, f3⟩
  have tt3 : Turn (fun j => w.heap.size ≤ j) w w3 := tt2.then (t3.mono (fun j hj => by have := nf j hj; omega))
  have k3 := t3.same k2 (fun hj => by have := nf _ hj; omega)
  have nf3 : ∀ j, Foot B bd bc qv3 j → w.heap.size + 1 ≤ j := by
    rintro j (rfl | rfl | rfl | hj)
    · exact nf _ (.inl rfl)
    · exact nf _ (.inr (.inl rfl))
    · exact nf _ (.inr (.inr (.inl rfl)))
    · rcases f3 j hj with h | h
      · exact nf _ (.inr (.inr (.inr h)))
      · have := (Array.getElem?_eq_some_iff.1 k2).1; omega
  have e3 : putL N [] a b d = [(a, b, d)] := by unfold putL; rw [if_neg (by simp [keyed]), if_pos (by simp; omega)]; rfl
  rw [e3] at m3
  clear e3 t3 m2 tt2 k2 p0 p1 nf f3 eN
  go_wp2_with fail
  go_loopw [12, 13] (fun fr i wr => ∃ f k : Nat, k ≤ n ∧ k ≤ 60 ∧ fr = .int .i64 f ∧ i = .int .i64 k ∧ ∃ (qv : Value) (q : Nat) (M : List Ent), Mem wr B bd bc qv q N ((a, b, d) :: M) ∧ Hid (M.length = f) ∧ f < N ∧ q ≤ 10 + 10 * k ∧ Turn (fun j => w.heap.size ≤ j) w wr ∧
      wr.heap[w.heap.size]? = some (.cells #[.int .i32 a, .int .i32 b] 30 (0, 0)) ∧ ∀ j, Foot B bd bc qv j → w.heap.size + 1 ≤ j) (fun _ i _ => n - (intOf i).toNat)
  case atStart => exact ⟨0, 0, by omega, by omega, rfl, rfl, qv3, 4, [], m3, hide rfl, by omega, by omega, tt3, k3, nf3⟩
  case round =>
    obtain ⟨f, k, hk1, hk2, rfl, rfl, qv, q, M, mm, hM, hf, hq, tt, kb, nf⟩ := hrel
    by_cases hlt : k < n ∧ k < 60
    · obtain ⟨hlt1, hlt2⟩ := hlt
      obtain ⟨x0, x1, wx, wy⟩ := hc k hlt1
      have y0 : wr.cell? ⟨ob, off + k * 2, none⟩ = some (.int .i32 (A k)) := (World.cell?_of_block (w := w) (tt.block ob (World.block_lt_of_cell? _ _ x0) (by have := World.block_lt_of_cell? _ _ x0; simp at this ⊢; omega))).trans x0
      have y1 : wr.cell? ⟨ob, off + k * 2 + 1, none⟩ = some (.int .i32 (B' k)) := (World.cell?_of_block (w := w) (tt.block ob (World.block_lt_of_cell? _ _ x1) (by have := World.block_lt_of_cell? _ _ x1; simp at this ⊢; omega))).trans x1
      have p0 : wr.cell? ⟨w.heap.size, 0, none⟩ = some (.int .i32 a) := cell_obj kb 0
      have p1 : wr.cell? ⟨w.heap.size, 1, none⟩ = some (.int .i32 b) := cell_obj kb 1
      clear x0 x1
      generalize hx : A k = x at *
      generalize hy : B' k = y at *
      clear hx hy
      have hif := same2_if x y a b (fun t => Result.ok (Next.value (Value.bool t)) wr.drew)
      cases hs : same2 x y a b
      · rw [hs] at hif
        go_wp2_with fail
        go_region
        have tD : Turn (fun _ => False) wr wr.drew := (Turn.refl _ _).drew
        have mmD := mm.turn tD (fun _ _ => id)
        have ttD := tt.drew
        have kbD := tD.same kb id
        have y0 := tD.cell y0 id
        have y1 := tD.cell y1 id
        have p0 := tD.cell p0 id
        have p1 := tD.cell p1 id
        clear mm tt kb tD hif
        generalize wr.drew = wd at *
        go_wp2_with fail
        refine (put_walk wd B bd bc q N qv ((a, b, d) :: M) x y 1 wx wy (by decide) mmD (by omega)).mono ?_
        rintro e w4 ⟨rfl, t4, qv4, m4, f4⟩
        have t4' : Turn (fun j => w.heap.size ≤ j) wd w4 := t4.mono (fun j hj => by have := nf j hj; omega)
        have tt4 := ttD.then t4'
        have kb4 := t4.same kbD (fun hj => by have := nf _ hj; omega)
        have nf4 : ∀ j, Foot B bd bc qv4 j → w.heap.size + 1 ≤ j := by
          rintro j (rfl | rfl | rfl | hj)
          · exact nf _ (.inl rfl)
          · exact nf _ (.inr (.inl rfl))
          · exact nf _ (.inr (.inr (.inl rfl)))
          · rcases f4 j hj with h | h
            · exact nf _ (.inr (.inr (.inr h)))
            · have := (Array.getElem?_eq_some_iff.1 kbD).1; omega
        have p0 : w4.cell? ⟨w.heap.size, 0, none⟩ = some (.int .i32 a) := cell_obj kb4 0
        have p1 : w4.cell? ⟨w.heap.size, 1, none⟩ = some (.int .i32 b) := cell_obj kb4 1
        have hML := unhide hM
        clear t4 t4' f4 y0 y1 kbD ttD nf
        rcases last_put hs (by rw [hML]; exact hf) mmD.good with ⟨hk, hp⟩ | ⟨hk, hl, hp⟩ | ⟨hk, hl, hp, hka⟩
        · rw [hp] at m4
          have Hk := hide hk
          clear mmD hML hp
          go_wp2_with fail
          refine (get_walk w4 B bd bc _ N qv4 _ a b wa wb m4).mono ?_
          rintro e w5 ⟨rfl, t5⟩
          rw [keyed_head, dist_head]
          have hfN : decide ((f : Int) < (N : Int)) = true := by simp; omega
          go_wp2_with fail
          refine ⟨⟨f, k + 1, by omega, by omega, rfl, by go_num, qv4, _, _, m4.turn t5 (fun _ _ => id), hide (by rw [redo_length]; exact unhide hM), hf, by omega, tt4.then (t5.mono (fun j hj => hj.elim)), t5.same kb4 id, nf4⟩, by simp [intOf]; omega⟩
        · rw [hp] at m4
          have Hk := hide hk
          clear mmD hp
          go_wp2_with fail
          refine (get_walk w4 B bd bc _ N qv4 _ a b wa wb m4).mono ?_
          rintro e w5 ⟨rfl, t5⟩
          rw [keyed_head, dist_head]
          have hfN : decide ((f : Int) + 1 < (N : Int)) = true := by simp; omega
          have hfN' : f + 1 < N := by omega
          clear hML hl
          go_wp2_with fail
          refine ⟨⟨f + 1, k + 1, by omega, by omega, by go_num, by go_num, qv4, _, _, m4.turn t5 (fun _ _ => id), hide (by simp; exact unhide hM), hfN', by omega, tt4.then (t5.mono (fun j hj => hj.elim)), t5.same kb4 id, nf4⟩, by simp [intOf]; omega⟩
        · rw [hp] at m4
          have Hk := hide hk
          clear mmD hp
          go_wp2_with fail
          refine (get_walk w4 B bd bc _ N qv4 _ a b wa wb m4).mono ?_
          rintro e w5 ⟨rfl, t5⟩
          rw [hka, dist_none hka]
          have hfN : decide ((f : Int) + 1 < (N : Int)) = false := by simp; omega
          have m5 := m4.turn t5 (fun _ _ => id)
          have tt5 := tt4.then (t5.mono (fun j hj => hj.elim))
          have hfN' : f + 1 ≤ N := by omega
          have hle : (M ++ [(x, y, 1)]).length ≤ N := m5.len
          clear hML hl
          go_wp2_with fail
          refine (len_walk w5 B bd bc _ N qv4 _ m5).mono ?_
          rintro e w6 ⟨rfl, hw6⟩
          subst hw6
          have hd : decide (((M ++ [(x, y, 1)]).length : Int) ≤ (N : Int)) = true := by simp only [decide_eq_true_eq]; omega
          generalize (M ++ [(x, y, 1)]).length = z at *
          go_wp2_with fail
          go_ret
          exact ⟨rfl, tt5.below (fun j hj => hj) (Nat.le_refl _)⟩
      · rw [hs] at hif
        go_wp2_with fail
        go_region
        go_wp2_with fail
        have tD : Turn (fun _ => False) wr wr.drew := (Turn.refl _ _).drew
        exact ⟨⟨f, k + 1, by omega, by omega, rfl, by go_num, qv, q, M, mm.turn tD (fun _ _ => id), hM, hf, by omega, tt.drew, kb, nf⟩, by simp [intOf]; omega⟩
    · by_cases h1 : k < n
      · have h2 : ¬ k < 60 := fun h => hlt ⟨h1, h⟩
        clear hlt
        go_wp2_with fail
        go_ret
        exact ⟨rfl, tt.below (fun j hj => hj) (Nat.le_refl _)⟩
      · clear hlt
        go_wp2_with fail
        go_ret
        exact ⟨rfl, tt.below (fun j hj => hj) (Nat.le_refl _)⟩

set_option maxHeartbeats 1000000 in
theorem last_none (w : World) (most a b d : Int) (wa : I32 a) (wb : I32 b) (wd : (Lit.int .i64 d).wf = true) (oa : Option Addr) (c : Nat) :
    Calls Try.prog 4 #[.int .i64 most, .agg #[.int .i32 a, .int .i32 b], .int .i64 d, .slice oa 0 c] w fun e w' => e = .returned (.bool true) ∧ Below w.heap.size w w' := by
  obtain ⟨N, hN1, hN2, eN⟩ := room_of most
  go_enter Try.func4, Try.ntmps4
  go_wp2_with fail
  have tW : Turn (fun j => w.heap.size ≤ j) w (w.alloc (.cells #[.int .i32 a, .int .i32 b] 30)) := (Turn.refl _ w).alloc _
  have k0 : (w.alloc (.cells #[.int .i32 a, .int .i32 b] 30)).heap[w.heap.size]? = some (.cells #[.int .i32 a, .int .i32 b] 30 (0, 0)) := heap_alloc_new w _
  have s0 : w.heap.size + 1 ≤ (w.alloc (.cells #[.int .i32 a, .int .i32 b] 30)).heap.size := by simp
  generalize w.alloc (.cells #[.int .i32 a, .int .i32 b] 30) = W at *
  refine (new_yes W N hN1 (by omega)).mono ?_
  rintro e w1 ⟨B, bd, bc, qv, rfl, t1, m1, f1⟩
  go_wp2_with fail
  refine (awake_walk w1).mono ?_
  rintro e w2 ⟨rfl, t2⟩
  have m2 := m1.turn t2 (fun _ _ => id)
  have tt2 : Turn (fun j => w.heap.size ≤ j) w w2 := (tW.then (t1.mono (fun j hj => hj.elim))).then (t2.mono (fun j hj => hj.elim))
  have k2 := t2.same (t1.same k0 id) id
  have p0 : w2.cell? ⟨w.heap.size, 0, none⟩ = some (.int .i32 a) := cell_obj k2 0
  have p1 : w2.cell? ⟨w.heap.size, 1, none⟩ = some (.int .i32 b) := cell_obj k2 1
  have nf : ∀ j, Foot B bd bc qv j → w.heap.size ≤ j := fun j hj => by have := f1 j hj; omega
  clear t1 t2 m1 f1 tW k0
  go_wp2_with fail
  refine (put_walk w2 B bd bc 0 N qv [] a b d wa wb wd m2 (by omega)).mono ?_
  rintro e w3 ⟨rfl, t3, qv3, m3, f3⟩
  have tt3 : Turn (fun j => w.heap.size ≤ j) w w3 := tt2.then (t3.mono nf)
  clear eN
  go_wp2_with fail
  refine wp_loop_rounds 1 ?_; rw [rounds_succ]
  go_wp2_with fail
  go_ret
  exact ⟨rfl, tt3.below (fun j hj => hj) (Nat.le_refl _)⟩

theorem MemoLast_law (w : World) (most : Int) (hm : (Lit.int .i64 most).wf = true) (a b : Int) (wa : I32 a) (wb : I32 b) (d : Int) (wd : (Lit.int .i64 d).wf = true) (v : Value) (n : Nat) (A B : Nat → Int) (hr : PRow w v n A B) :
    Calls Try.prog 4 #[.int .i64 most, .agg #[.int .i32 a, .int .i32 b], .int .i64 d, v] w fun e w' => e = .returned (.bool true) ∧ Below w.heap.size w w' := by
  rcases hr with ⟨rfl, oa, c, rfl⟩ | ⟨ob, off, c, rfl, hn, hc⟩
  · exact last_none w most a b d wa wb wd oa c
  · exact last_some w most a b d wa wb wd ob off c n A B hn hc
end Go.Proofs.Ytffchlpefhldhaa
