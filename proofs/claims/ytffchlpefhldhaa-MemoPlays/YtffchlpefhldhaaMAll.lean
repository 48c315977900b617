/- All. -/
import Derived.Test.YtffchlpefhldhaaMNew
import Derived.Deep.DeepCutAuto
namespace Go.Proofs.Ytffchlpefhldhaa
open Go.RowKit Go.Maps
set_option linter.unusedVariables false

def dcells (L : List Ent) : List Value := L.map fun e => .int .i64 e.2.2

theorem info_i64 : (Try.prog.info? 2).map (fun i => (i.zero, i.size, i.bytes)) = some (some (.int .i64 0), 1, 8) := by kernel_rfl

theorem make_pairs (n : Nat) (hn : n ≤ 65536) : ∃ cur : Array Value, cur.size = n * 2 ∧ ∀ u : World, (Instr.makeSlice 45 (.int .i64 (n : Int)) (.int .i64 (n : Int))).run Try.prog u = .ok (.slice (some ⟨u.heap.size, 0, none⟩) n n) (u.alloc (.cells cur 30)) := by
  obtain ⟨i0, hi, hz0, hz1, hz2⟩ := info_parts info_pair
  refine ⟨madeCells (Value.agg #[.int .i32 0, .int .i32 0]).cells (n * 2), by simp [madeCells], fun u => ?_⟩
  have := run_make (P := Try.prog) u 45 30 i0 _ Try.underlying45 hi hz0 .i64 .i64 (n : Int) (n : Int) (by omega) (by omega) (by rw [hz2]; omega) (by omega)
  rw [hz1] at this
  simpa using this
theorem make_dists (n : Nat) (hn : n ≤ 65536) : ∃ cur : Array Value, cur.size = n ∧ ∀ u : World, (Instr.makeSlice 63 (.int .i64 (n : Int)) (.int .i64 (n : Int))).run Try.prog u = .ok (.slice (some ⟨u.heap.size, 0, none⟩) n n) (u.alloc (.cells cur 2)) := by
  obtain ⟨i0, hi, hz0, hz1, hz2⟩ := info_parts info_i64
  refine ⟨madeCells (Value.int .i64 0).cells n, by simp [madeCells], fun u => ?_⟩
  have := run_make (P := Try.prog) u 63 2 i0 _ Try.underlying63 hi hz0 .i64 .i64 (n : Int) (n : Int) (by omega) (by omega) (by rw [hz2]; omega) (by omega)
  rw [hz1] at this
  simpa using this

/-- what the blocks of a sequence hold: the two boxes, the two rows -/
structure Laid (w : World) (n0 n bp bs gp gs : Nat) (cp cd : Array Value) : Prop where
  b1 : w.heap[bp]? = some (.cells #[.slice (some ⟨gp, 0, none⟩) n n] 45 (0, 0))
  b2 : w.heap[bs]? = some (.cells #[.slice (some ⟨gs, 0, none⟩) n n] 63 (0, 0))
  r1 : w.heap[gp]? = some (.cells cp 30 (0, 0))
  r2 : w.heap[gs]? = some (.cells cd 2 (0, 0))
  s1 : cp.size = n * 2
  s2 : cd.size = n
  n1 : n0 ≤ bp
  n2 : n0 ≤ bs
  n3 : n0 ≤ gp
  n4 : n0 ≤ gs

theorem dist_at {L : List Ent} (hg : Good L) {k : Nat} {a b d : Int} (h : L[k]? = some (a, b, d)) : dist L a b = d := by
  obtain ⟨hk, he⟩ := List.getElem?_eq_some_iff.1 h
  have hs : L = L.take k ++ (a, b, d) :: L.drop (k + 1) := by
    rw [← he, ← List.drop_eq_getElem_cons hk, List.take_append_drop]
  rw [hs] at hg ⊢
  rw [dist_append, (Good.not hg).1]
  simp [dist, isAt]
theorem Laid.turn {F : Nat → Prop} {w w' : World} {n0 n bp bs gp gs : Nat} {cp cd : Array Value} (h : Laid w n0 n bp bs gp gs cp cd) (t : Turn F w w') (hF : ∀ j, (j = bp ∨ j = bs ∨ j = gp ∨ j = gs) → ¬ F j) : Laid w' n0 n bp bs gp gs cp cd :=
  ⟨t.same h.b1 (hF _ (.inl rfl)), t.same h.b2 (hF _ (.inr (.inl rfl))), t.same h.r1 (hF _ (.inr (.inr (.inl rfl)))), t.same h.r2 (hF _ (.inr (.inr (.inr rfl)))), h.s1, h.s2, h.n1, h.n2, h.n3, h.n4⟩
theorem Laid.apart {w : World} {n0 n bp bs gp gs : Nat} {cp cd : Array Value} (h : Laid w n0 n bp bs gp gs cp cd) : bp ≠ bs ∧ bp ≠ gp ∧ bp ≠ gs ∧ bs ≠ gp ∧ bs ≠ gs ∧ gp ≠ gs := by
  have ne : ∀ {i j : Nat} {c c' : Array Value} {e e' : TypeId}, w.heap[i]? = some (.cells c e (0, 0)) → w.heap[j]? = some (.cells c' e' (0, 0)) → e ≠ e' → i ≠ j := by
    rintro i j c c' e e' h1 h2 hn rfl
    rw [h1] at h2; cases h2; exact hn rfl
  exact ⟨ne h.b1 h.b2 (by decide), ne h.b1 h.r1 (by decide), ne h.b1 h.r2 (by decide), ne h.b2 h.r1 (by decide), ne h.b2 h.r2 (by decide), ne h.r1 h.r2 (by decide)⟩
theorem set2_get {cp : Array Value} {xs : List Value} {k : Nat} {x y : Value} (hs : k * 2 + 1 < cp.size) (h : ∀ j, j < k * 2 → cp[j]? = xs[j]?) (hx : xs[k * 2]? = some x) (hy : xs[k * 2 + 1]? = some y) :
    ∀ j, j < (k + 1) * 2 → ((cp.setIfInBounds (k * 2) x).setIfInBounds (k * 2 + 1) y)[j]? = xs[j]? := by
  intro j hj
  rw [Array.getElem?_setIfInBounds, Array.getElem?_setIfInBounds]
  by_cases h1 : k * 2 + 1 = j
  · subst h1; simp [hy, hs]
  · by_cases h2 : k * 2 = j
    · subst h2; simp [hx, show k * 2 < cp.size by omega]
    · simp [h1, h2]; simpa using h j (by omega)
theorem set1_get {cd : Array Value} {xs : List Value} {k : Nat} {x : Value} (hs : k < cd.size) (h : ∀ j, j < k → cd[j]? = xs[j]?) (hx : xs[k]? = some x) : ∀ j, j < k + 1 → (cd.setIfInBounds k x)[j]? = xs[j]? := by
  intro j hj
  rw [Array.getElem?_setIfInBounds]
  by_cases h2 : k = j
  · subst h2; simp [hx, hs]
  · simp [h2]; simpa using h j (by omega)

set_option maxHeartbeats 4000000 in
theorem all_walk (w : World) (B bd bc k most : Nat) (qv : Value) (L : List Ent) (h : Mem w B bd bc qv k most L) :
    Calls Try.prog 17 #[.pointer (some ⟨B, 0, none⟩)] w fun e w' => ∃ bp bs gp gs cp cd, e = .returned (.func (.func 23) #[] #[.pointer (some ⟨bp, 0, none⟩), .pointer (some ⟨bs, 0, none⟩)]) ∧ Turn (fun _ => False) w w' ∧ Laid w' w.heap.size L.length bp bs gp gs cp cd ∧ cp.toList = qcells L ∧ cd.toList = dcells L := by
  have hlen := h.len
  have hm2 := h.m2
  obtain ⟨cp0, hcp0, hmk1⟩ := make_pairs L.length (by omega)
  obtain ⟨cd0, hcd0, hmk2⟩ := make_dists L.length (by omega)
  go_enter Try.func17, Try.ntmps17
  go_wp2_with fail
  refine (len_walk w B bd bc k most qv L h).mono ?_
  rintro e w1 ⟨rfl, hw1⟩
  subst hw1
  go_wp2_with fail
  go_cut [4, 5] (fun s4 s5 wc => ∃ bp bs gp gs, s4 = .pointer (some ⟨bp, 0, none⟩) ∧ s5 = .pointer (some ⟨bs, 0, none⟩) ∧ Turn (fun _ => False) w1 wc ∧ Laid wc w1.heap.size L.length bp bs gp gs cp0 cd0)
  case first =>
    go_region
    all_goals (go_wp2_with fail)
    all_goals go_meet
    all_goals
      exact ⟨_, _, _, _, rfl, rfl, four_turn _ _ _ _ _, ⟨by first | exact four0 _ _ _ _ _ | exact four1 _ _ _ _ _ | exact four2 _ _ _ _ _ | exact four3 _ _ _ _ _, by first | exact four0 _ _ _ _ _ | exact four1 _ _ _ _ _ | exact four2 _ _ _ _ _ | exact four3 _ _ _ _ _, by first | exact four0 _ _ _ _ _ | exact four1 _ _ _ _ _ | exact four2 _ _ _ _ _ | exact four3 _ _ _ _ _, by first | exact four0 _ _ _ _ _ | exact four1 _ _ _ _ _ | exact four2 _ _ _ _ _ | exact four3 _ _ _ _ _, hcp0, hcd0, by omega, by omega, by omega, by omega⟩⟩
  case rest =>
    obtain ⟨bp, bs, gp, gs, rfl, rfl, t1, l1⟩ := hcut
    go_wp2_with fail
    go_loopw [14] (fun i wr => ∃ z : Nat, z ≤ L.length ∧ i = .int .i64 z ∧ Turn (fun _ => False) w1 wr ∧ ∃ cp cd, Laid wr w1.heap.size L.length bp bs gp gs cp cd ∧ Hid ((∀ j, j < z * 2 → cp[j]? = (qcells L)[j]?) ∧ ∀ j, j < z → cd[j]? = (dcells L)[j]?)) (fun i _ => L.length - (intOf i).toNat)
    case atStart => exact ⟨0, Nat.zero_le _, rfl, t1, cp0, cd0, l1, hide ⟨fun j hj => by omega, fun j hj => by omega⟩⟩
    case round =>
      obtain ⟨z, hz, rfl, tt, cp, cd, ll, hpre⟩ := hrel
      have mm := h.turn tt (fun _ _ => id)
      by_cases hlt : z < L.length
      · obtain ⟨⟨a, b, d⟩, hL⟩ : ∃ e, L[z]? = some e := ⟨_, List.getElem?_eq_getElem hlt⟩
        obtain ⟨y0, y1⟩ := qcells_get L z _ hL
        have yd : (dcells L)[z]? = some (.int .i64 d) := by simp [dcells, hL]
        have hdl := dist_at h.good hL
        obtain ⟨wa, wb, wd⟩ := h.good.1 _ (List.mem_of_getElem? hL)
        simp only at y0 y1 wa wb wd
        obtain ⟨g, off, cap, rfl⟩ : ∃ g off cap, qv = .slice (some ⟨g, off, none⟩) L.length cap := by
          rcases mm.q.2 with ⟨_, h0⟩ | ⟨g, off, cap, cur, h0, _⟩
          · omega
          · exact ⟨g, off, cap, h0⟩
        have x0 := mm.q.cells _ _ y0
        have x1 := mm.q.cells _ _ y1
        rw [← Nat.add_assoc] at x1
        have c2 : wr.cell? ⟨B, 2, none⟩ = some (.slice (some ⟨g, off, none⟩) L.length cap) := cell_obj mm.obj 2
        have c1 : wr.cell? ⟨B, 1, none⟩ = some (.map (some bd)) := cell_obj mm.obj 1
        have cb1 : wr.cell? ⟨bp, 0, none⟩ = some (.slice (some ⟨gp, 0, none⟩) L.length L.length) := cell_obj ll.b1 0
        have cb2 : wr.cell? ⟨bs, 0, none⟩ = some (.slice (some ⟨gs, 0, none⟩) L.length L.length) := cell_obj ll.b2 0
        have hs1 := ll.s1
        have hs2 := ll.s2
        obtain ⟨o0, hO0⟩ : ∃ o, wr.cell? ⟨gp, z * 2, none⟩ = some o := ⟨_, (cell_obj ll.r1 (z * 2)).trans (Array.getElem?_eq_getElem (by omega))⟩
        obtain ⟨o1, hO1⟩ : ∃ o, wr.cell? ⟨gp, z * 2 + 1, none⟩ = some o := ⟨_, (cell_obj ll.r1 (z * 2 + 1)).trans (Array.getElem?_eq_getElem (by omega))⟩
        have fr0 : wr.frozen? ⟨gp, z * 2, none⟩ = false := frozen_obj ll.r1 _
        have fr1 : wr.frozen? ⟨gp, z * 2 + 1, none⟩ = false := frozen_obj ll.r1 _
        have Hd := hide hdl
        have HL := hide hL
        clear hdl hL
        go_wp2_with fail
        go_region
        go_wp2_with fail
        obtain ⟨n1, n2, n3, n4, n5, n6⟩ := ll.apart
        have t6 : Turn (fun j => j = gp) wr ((wr.setCell ⟨gp, z * 2, none⟩ (.int .i32 a)).setCell ⟨gp, z * 2 + 1, none⟩ (.int .i32 b)).drew := (((Turn.refl (fun j => j = gp) wr).setCell (p := ⟨gp, z * 2, none⟩) (.inl rfl) _).setCell (p := ⟨gp, z * 2 + 1, none⟩) (.inl rfl) _).drew
        have tt6 : Turn (fun _ => False) w1 ((wr.setCell ⟨gp, z * 2, none⟩ (.int .i32 a)).setCell ⟨gp, z * 2 + 1, none⟩ (.int .i32 b)).drew := tt.trans t6 (fun j hj => .inr (by subst hj; exact ll.n3))
        have r6 : ((wr.setCell ⟨gp, z * 2, none⟩ (.int .i32 a)).setCell ⟨gp, z * 2 + 1, none⟩ (.int .i32 b)).drew.heap[gp]? = some (.cells ((cp.setIfInBounds (z * 2) (.int .i32 a)).setIfInBounds (z * 2 + 1) (.int .i32 b)) 30 (0, 0)) := heap_setCell_obj (heap_setCell_obj ll.r1 _) _
        have ll6 : Laid ((wr.setCell ⟨gp, z * 2, none⟩ (.int .i32 a)).setCell ⟨gp, z * 2 + 1, none⟩ (.int .i32 b)).drew w1.heap.size L.length bp bs gp gs ((cp.setIfInBounds (z * 2) (.int .i32 a)).setIfInBounds (z * 2 + 1) (.int .i32 b)) cd :=
          ⟨t6.same ll.b1 n2, t6.same ll.b2 n4, r6, t6.same ll.r2 (fun e => n6 e.symm), by simp [hs1], hs2, ll.n1, ll.n2, ll.n3, ll.n4⟩
        have hpre6 : Hid ((∀ j, j < (z + 1) * 2 → ((cp.setIfInBounds (z * 2) (.int .i32 a)).setIfInBounds (z * 2 + 1) (.int .i32 b))[j]? = (qcells L)[j]?) ∧ ∀ j, j < z → cd[j]? = (dcells L)[j]?) :=
          hide ⟨set2_get (by omega) (unhide hpre).1 y0 y1, (unhide hpre).2⟩
        clear c2 c1 cb1 cb2 hO0 hO1 fr0 fr1 x0 x1 t6 r6 ll hpre mm tt hs1
        generalize ((wr.setCell ⟨gp, z * 2, none⟩ (.int .i32 a)).setCell ⟨gp, z * 2 + 1, none⟩ (.int .i32 b)).drew = W6 at *
        have mm := h.turn tt6 (fun _ _ => id)
        have hs1' := ll6.s1
        have y0' : ((cp.setIfInBounds (z * 2) (.int .i32 a)).setIfInBounds (z * 2 + 1) (.int .i32 b))[z * 2]? = some (.int .i32 a) := ((unhide hpre6).1 _ (by omega)).trans y0
        have y1' : ((cp.setIfInBounds (z * 2) (.int .i32 a)).setIfInBounds (z * 2 + 1) (.int .i32 b))[z * 2 + 1]? = some (.int .i32 b) := ((unhide hpre6).1 _ (by omega)).trans y1
        generalize (cp.setIfInBounds (z * 2) (.int .i32 a)).setIfInBounds (z * 2 + 1) (.int .i32 b) = cp6 at *
        have c1 : W6.cell? ⟨B, 1, none⟩ = some (.map (some bd)) := cell_obj mm.obj 1
        have cb1 : W6.cell? ⟨bp, 0, none⟩ = some (.slice (some ⟨gp, 0, none⟩) L.length L.length) := cell_obj ll6.b1 0
        have cb2 : W6.cell? ⟨bs, 0, none⟩ = some (.slice (some ⟨gs, 0, none⟩) L.length L.length) := cell_obj ll6.b2 0
        have x0 : W6.cell? ⟨gp, z * 2, none⟩ = some (.int .i32 a) := (cell_obj ll6.r1 _).trans y0'
        have x1 : W6.cell? ⟨gp, z * 2 + 1, none⟩ = some (.int .i32 b) := (cell_obj ll6.r1 _).trans y1'
        obtain ⟨o0, hO0⟩ : ∃ o, W6.cell? ⟨gs, z, none⟩ = some o := ⟨_, (cell_obj ll6.r2 z).trans (Array.getElem?_eq_getElem (by omega))⟩
        have fr0 : W6.frozen? ⟨gs, z, none⟩ = false := frozen_obj ll6.r2 _
        obtain ⟨⟨D, od, fd, hd⟩, _⟩ := mm.told
        obtain ⟨c', hl, hc', _⟩ := World.ownsMap.lookup_int (w := W6.drew) od mLawP Try.underlying54 Try.underlying2 (mZero2 _) (keyOf_P wa wb)
        have ec : c' = d := by have := fd.2 a b wa wb; rw [hc', unhide Hd] at this; simpa using this
        subst ec
        clear hc' fd hd y0' y1'
        go_region
        go_wp2_with fail
        have t7 : Turn (fun j => j = gs) W6 (W6.setCell ⟨gs, z, none⟩ (.int .i64 c')).drew := ((Turn.refl (fun j => j = gs) W6).setCell (p := ⟨gs, z, none⟩) (.inl rfl) _).drew
        have r7 : (W6.setCell ⟨gs, z, none⟩ (.int .i64 c')).drew.heap[gs]? = some (.cells (cd.setIfInBounds z (.int .i64 c')) 2 (0, 0)) := heap_setCell_obj ll6.r2 _
        refine ⟨⟨z + 1, by omega, by go_num, tt6.trans t7 (fun j hj => .inr (by subst hj; exact ll6.n4)), cp6, _, ⟨t7.same ll6.b1 n3, t7.same ll6.b2 n5, t7.same ll6.r1 n6, r7, ll6.s1, by simp [hs2], ll6.n1, ll6.n2, ll6.n3, ll6.n4⟩, hide ⟨(unhide hpre6).1, set1_get (by omega) (unhide hpre6).2 yd⟩⟩, by simp [intOf]; omega⟩
      · have hzl : z = L.length := by omega
        have hp := unhide hpre
        have e1 : cp.toList = qcells L := by
          apply List.ext_getElem?
          intro j
          by_cases hj : j < z * 2
          · rw [← hp.1 j hj]; simp
          · rw [List.getElem?_eq_none (by simp [ll.s1]; omega), List.getElem?_eq_none (by rw [qcells_length]; omega)]
        have e2 : cd.toList = dcells L := by
          apply List.ext_getElem?
          intro j
          by_cases hj : j < z
          · rw [← hp.2 j hj]; simp
          · rw [List.getElem?_eq_none (by simp [ll.s2]; omega), List.getElem?_eq_none (by simp [dcells]; omega)]
        have E1 := hide e1
        have E2 := hide e2
        clear e1 e2 hp hzl
        go_wp2_with fail
        go_ret
        exact ⟨bp, bs, gp, gs, cp, cd, rfl, tt, ll, unhide E1, unhide E2⟩
end Go.Proofs.Ytffchlpefhldhaa
