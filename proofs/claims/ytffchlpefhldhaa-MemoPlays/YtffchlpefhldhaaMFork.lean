/- Fork. -/
import Derived.Test.YtffchlpefhldhaaMTold
import Derived.Test.YtffchlpefhldhaaMIdx
import Derived.Deep.RegionWith
namespace Go.Proofs.Ytffchlpefhldhaa
open Go.RowKit Go.Maps Go.Shelf
attribute [local go_sem] Oper.semAt_some
set_option linter.unusedVariables false

/-- where no way ends in a panic, or leaves, what is asked of these ways plays no part -/
theorem wp_calm {P : Program} {c : Code} {K : Act → World → Prop} {Q : Exit → Act → World → Prop} {a : Act} {w : World} (h : c.wp P (Exit.then K (fun _ _ _ => False)) a w) : c.wp P (Exit.then K Q) a w :=
  wp_mono h (fun e a w he => by cases e <;> first | exact he | exact he.elim)

/-- what is kept behind these puts -/
def puts (most : Nat) (M : List Ent) : List Ent := M.foldl (fun X e => putL most X e.1 e.2.1 e.2.2) []
theorem puts_snoc (most : Nat) (M : List Ent) (e : Ent) : puts most (M ++ [e]) = putL most (puts most M) e.1 e.2.1 e.2.2 := by simp [puts]
theorem puts_same {most : Nat} {L : List Ent} (hg : Good L) (hl : L.length ≤ most) : puts most L = L := by
  have key : ∀ z, z ≤ L.length → puts most (L.take z) = L.take z := by
    intro z
    induction z with
    | zero => intro _; rfl
    | succ z ih =>
      intro hz
      obtain ⟨⟨a, b, d⟩, he⟩ : ∃ e, L[z]? = some e := ⟨_, List.getElem?_eq_getElem (by omega)⟩
      have hs := split_at he
      have hn : keyed (L.take z) a b = false := by
        rw [hs] at hg
        exact (Good.not hg).1
      rw [List.take_add_one, he]
      show puts most (L.take z ++ [(a, b, d)]) = _
      rw [puts_snoc, ih (by omega), putL_room hn (by rw [List.length_take]; omega)]
      rfl
  have := key L.length (Nat.le_refl _)
  rwa [List.take_length] at this
theorem Mem.keepsFrom {W W' : World} {B bd bc k most : Nat} {qv : Value} {L : List Ent} (h : Mem W B bd bc qv k most L) (t : Turn (Foot B bd bc qv) W W') {m : Nat} (h1 : bd < m) (h2 : bc < m) : KeepsFrom m W W' :=
  ⟨t.size, fun j o hj ho hc => t.same ho (by
    rintro (rfl | rfl | rfl | hq)
    · rw [h.obj] at ho; cases ho; cases hc
    · omega
    · omega
    · obtain ⟨cur, hcur⟩ := h.q.lt j hq; rw [hcur] at ho; cases ho; cases hc)⟩
theorem Mem.own {W W' : World} {B bd bc k most : Nat} {qv : Value} {L : List Ent} (h : Mem W B bd bc qv k most L) {m : Nat} (h1 : bd < m) (h2 : bc < m) {row : Option Nat} (hg : W.grownBy W' row) (hr : ∀ r, row = some r → m ≤ r ∧ ∃ o : Obj, W.heap[r]? = some o ∧ o.isCells = false) : Mem W' B bd bc qv k most L :=
  h.turn (Turn.grown (F := fun j => row = some j) hg (fun k e => e)) (by
    rintro j hF e
    obtain ⟨hm, o, ho, hc⟩ := hr j e
    rcases hF with rfl | rfl | rfl | hq
    · rw [h.obj] at ho; cases ho; cases hc
    · omega
    · omega
    · obtain ⟨cur, hcur⟩ := h.q.lt j hq; rw [hcur] at ho; cases ho; cases hc)
/-- a sequence's blocks are none of a memo's, where its row of pairs is none -/
theorem Mem.seqApart {W : World} {B bd bc k most : Nat} {qv : Value} {L : List Ent} (h : Mem W B bd bc qv k most L) {n0 n bp bs gp gs : Nat} {cp cd : Array Value} (l : Laid W n0 n bp bs gp gs cp cd) (hgp : ¬ Foot B bd bc qv gp) : ∀ j, (j = bp ∨ j = bs ∨ j = gp ∨ j = gs) → ¬ Foot B bd bc qv j := by
  have other : ∀ {j : Nat} {c : Array Value} {e : TypeId}, W.heap[j]? = some (.cells c e (0, 0)) → e ≠ 57 → e ≠ 30 → ¬ Foot B bd bc qv j := by
    rintro j c e hj h1 h2 (rfl | rfl | rfl | hq)
    · rw [h.obj] at hj; cases hj; exact h1 rfl
    · exact (h.told.neB hj).1 rfl
    · exact (h.told.neB hj).2 rfl
    · obtain ⟨cur, hcur⟩ := h.q.lt j hq; rw [hcur] at hj; cases hj; exact h2 rfl
  rintro j (rfl | rfl | rfl | rfl)
  · exact other l.b1 (by decide) (by decide)
  · exact other l.b2 (by decide) (by decide)
  · exact hgp
  · exact other l.r2 (by decide) (by decide)
theorem Mem.boxApart {W : World} {B bd bc k most : Nat} {qv : Value} {L : List Ent} (h : Mem W B bd bc qv k most L) {x : Nat} {c : Array Value} {e : TypeId} (hx : W.heap[x]? = some (.cells c e (0, 0))) (h1 : e ≠ 57) (h2 : e ≠ 30) : ¬ Foot B bd bc qv x := by
  rintro (rfl | rfl | rfl | hq)
  · rw [h.obj] at hx; cases hx; exact h1 rfl
  · exact (h.told.neB hx).1 rfl
  · exact (h.told.neB hx).2 rfl
  · obtain ⟨cur, hcur⟩ := h.q.lt x hq; rw [hcur] at hx; cases hx; exact h2 rfl

set_option maxRecDepth 100000 in
set_option maxHeartbeats 8000000 in
theorem fork_walk (w : World) (B bd bc k most : Nat) (qv : Value) (L : List Ent) (h : Mem w B bd bc qv k most L) :
    Calls Try.prog 13 #[.pointer (some ⟨B, 0, none⟩)] w fun e w' => ∃ B2 bd2 bc2 qv2, e = .returned (.pointer (some ⟨B2, 0, none⟩)) ∧ Turn (fun _ => False) w w' ∧ Mem w' B2 bd2 bc2 qv2 (4 * L.length) most L ∧ ∀ j, Foot B2 bd2 bc2 qv2 j → w.heap.size ≤ j := by
  have hmix : Try.prog.follows .mixedOrders = true := by kernel_rfl
  have hlen := h.len
  have hm1 := h.m1
  have hm2 := h.m2
  refine (callsIn_wide (n := 3)).1 ?_
  refine callsIn_of_wp_marks Try.func13 rfl trivial ?_ rfl
  simp only [Try.ntmps13, List.size_toArray, List.length_cons, List.length_nil, Nat.reduceAdd, Nat.reduceSub, Array.replicate_succ, Array.replicate_zero, List.push_toArray, List.append_toArray, List.nil_append, List.cons_append]
  gi_wp2_with fail
  refine wpIn_wide.2 ?_
  have c0 : w.cell? ⟨B, 0, none⟩ = some (.int .i64 most) := cell_obj h.obj 0
  go_cut [3] from 8 to 14 (fun s3 wc => ∃ bx B2 bd2 bc2 qv2, s3 = .pointer (some ⟨bx, 0, none⟩) ∧ wc.heap[bx]? = some (.cells #[.pointer (some ⟨B2, 0, none⟩)] 23 (0, 0)) ∧ Turn (fun _ => False) w wc ∧ Mem wc B2 bd2 bc2 qv2 0 most [] ∧ (∀ j, Foot B2 bd2 bc2 qv2 j → w.heap.size ≤ j) ∧ w.heap.size ≤ bx)
  case first =>
    have t0 : Turn (fun _ => False) w w.drew := (Turn.refl (fun _ => False) w).drew
    have t0' : Turn (fun _ => False) w (w.alloc (.cells #[.pointer none] 23)).drew := ((Turn.refl (fun _ => False) w).alloc _).drew
    have h0 := h.turn t0 (fun _ _ => id)
    have h0' := h.turn t0' (fun _ _ => id)
    have c0' := t0'.cell c0 id
    have kz : (w.alloc (.cells #[.pointer none] 23)).drew.heap[w.heap.size]? = some (.cells #[.pointer none] 23 (0, 0)) := heap_alloc_new w _
    refine wp_calm ?_
    go_region_with (first
      | (go_at_call 16; refine (len_walk _ B bd bc k most qv L (by first | exact h0 | exact h0')).mono ?_; rintro e w1 ⟨rfl, hw1⟩; subst hw1)
      | (go_at_call 18; refine (empty_walk _ most L.length hm1 hm2 (by omega)).mono ?_; rintro e w2 ⟨B2, bd2, bc2, qv2, rfl, t2, m2, f2⟩; first | (have hzz := t2.same kz id; have hcz : w2.cell? ⟨w.heap.size, 0, none⟩ = some (.pointer none) := cell_obj hzz 0; have hfz : w2.frozen? ⟨w.heap.size, 0, none⟩ = false := frozen_obj hzz 0) | skip))
    all_goals (go_wp2_with fail)
    all_goals go_meet
    all_goals
      first
        | (have tA : Turn (fun _ => False) w2 (w2.alloc (.cells #[.pointer (some ⟨B2, 0, none⟩)] 23)) := (Turn.refl _ w2).alloc _
           have nw := t0.size
           exact ⟨_, _, _, _, _, rfl, heap_alloc_new w2 _, (t0.then t2).then tA, m2.turn tA (fun _ _ => id), f2, (t0.then t2).size⟩)
        | (have tB : Turn (fun j => j = w.heap.size) w2 (w2.setCell ⟨w.heap.size, 0, none⟩ (.pointer (some ⟨B2, 0, none⟩))) := (Turn.refl (fun j => j = w.heap.size) w2).setCell (p := ⟨w.heap.size, 0, none⟩) (.inl rfl) _
           have f2' : ∀ j, Foot B2 bd2 bc2 qv2 j → w.heap.size + 1 ≤ j := fun j hj => by have := f2 j hj; simp at this; omega
           exact ⟨_, _, _, _, _, rfl, heap_setCell_obj hzz _, (t0'.then t2).trans tB (fun j hj => .inr (by omega)), m2.turn tB (fun j hj e => by have := f2' j hj; omega), fun j hj => by have := f2' j hj; omega, Nat.le_refl _⟩)
  case rest =>
    obtain ⟨bx, B2, bd2, bc2, qv2, rfl, hbx, t1, m1, f1, nx⟩ := hcut
    gi_wp2_with fail
    refine ⟨trivial, ?_⟩
    have h1 := h.turn t1 (fun _ _ => id)
    refine (callsIn_wide.2 (all_walk wc B bd bc k most qv L h1)).mono ?_
    rintro e w2 ⟨bp, bs, gp, gs, cp, cd, rfl, t2, l2, ecp, ecd⟩
    have m2 := m1.turn t2 (fun _ _ => id)
    have hb2 := t2.same hbx id
    have tt2 := t1.then t2
    have flt := m1.lt
    gi_wp2_with fail
    have q1 := (Array.getElem?_eq_some_iff.1 l2.b1).1
    have q2 := (Array.getElem?_eq_some_iff.1 l2.b2).1
    have q3 := (Array.getElem?_eq_some_iff.1 l2.r1).1
    have q4 := (Array.getElem?_eq_some_iff.1 l2.r2).1
    have hs2 := tt2.size
    have hgp : ¬ Foot B2 bd2 bc2 qv2 gp := fun hf => by have := flt gp hf; have := l2.n3; omega
    have hd2 := m2.lt bd2 (.inr (.inl rfl))
    have hc2 := m2.lt bc2 (.inr (.inr (.inl rfl)))
    refine wpIn_rangeFunc_ownH rfl (by omega) (gf := 23) (lb := #[.pointer (some ⟨bp, 0, none⟩), .pointer (some ⟨bs, 0, none⟩)]) rfl trivial (enters_of Try.func23 (by kernel_rfl) rfl)
      (seq_stops 2 (by omega) _ bp bs gp gs cp cd L w2 l2 ecp ecd h.good (by omega)) keepSeq_t (keepSeq_b q1 q2 q3 q4) (Below.refl _ _) (fun _ => rfl)
      (fun pre W => ∃ qv3, Mem W B2 bd2 bc2 qv3 (4 * pre.length) most (puts most (ents pre)) ∧ W.heap[bx]? = some (.cells #[.pointer (some ⟨B2, 0, none⟩)] 23 (0, 0)) ∧ Turn (fun _ => False) w W ∧ (∀ j, Foot B2 bd2 bc2 qv3 j → w.heap.size ≤ j) ∧ Laid W wc.heap.size L.length bp bs gp gs cp cd ∧ ¬ Foot B2 bd2 bc2 qv3 gp)
      (fun c pre W => False)
      (fun s A B' row hs hg hr => by
        obtain ⟨qv3, h1, h2, h3, h4, h5, h6⟩ := hs
        exact ⟨qv3, h1.own hd2 hc2 hg hr, own_same hg hr h2 rfl, own_turn hg hr h3 (by omega), h4, own_laid hg hr h5, h6⟩)
      (fun c s A B' row hs hg hr => hs)
      ⟨qv2, m2, hb2, tt2, f1, l2, hgp⟩
      (fun x a' W => ∃ Bx, W.heap[Bx]? = some (.cells #[.int .i32 x.1.1, .int .i32 x.1.2.1] 30 (0, 0)) ∧ a' = { tmps := #[.pointer (some ⟨B, 0, none⟩), undef, .pointer none, .pointer (some ⟨bx, 0, none⟩), .pointer (some ⟨Bx, 0, none⟩), .int .i64 x.1.2.2, .pointer (some ⟨B, 0, none⟩), .bool false, u8, u9, u10, u11, u12, u13, u14, .pointer (some ⟨B, 0, none⟩), (.func (.func 23) #[] #[.pointer (some ⟨bp, 0, none⟩), .pointer (some ⟨bs, 0, none⟩)]), .agg #[.int .i32 x.1.1, .int .i32 x.1.2.1], .int .i64 x.1.2.2, undef, undef, undef, undef, undef], defers := [] })
      (fun x a' s A B' row hs hg hr => by obtain ⟨Bx, h2, h3⟩ := hs; exact ⟨Bx, own_same hg hr h2 rfl, h3⟩)
      ?assign ?body ?done ?stop
    case assign =>
      rintro l pre x W K ⟨qv3, i1, i2, i3, i4, i5, i6⟩ hK
      have tA : Turn (fun _ => False) W (W.alloc (.cells #[.int .i32 x.1.1, .int .i32 x.1.2.1] 30)) := (Turn.refl _ W).alloc _
      have bA : (W.alloc (.cells #[.int .i32 x.1.1, .int .i32 x.1.2.1] 30)).heap[W.heap.size]? = some (.cells #[.int .i32 x.1.1, .int .i32 x.1.2.1] 30 (0, 0)) := heap_alloc_new W _
      gi_wp2
      exact hK _ _ ((KeepsOthers.alloc _ _).from _) (keepSeq_turn i5 tA (fun _ _ => id)) ⟨qv3, i1.turn tA (fun _ _ => id), tA.same i2 id, i3.then tA, i4, i5.turn tA (fun _ _ => id), i6⟩ ⟨W.heap.size, bA, rfl⟩
    case body =>
      rintro l pre ⟨⟨xa, xb, xd⟩, hx⟩ a' W hll ⟨r, hr⟩ ⟨qv3, i1, i2, i3, i4, i5, i6⟩ ⟨Bx, bx', rfl⟩ hlt
      have cx0 : W.cell? ⟨Bx, 0, none⟩ = some (.int .i32 xa) := cell_obj bx' 0
      have cx1 : W.cell? ⟨Bx, 1, none⟩ = some (.int .i32 xb) := cell_obj bx' 1
      have cf : W.cell? ⟨bx, 0, none⟩ = some (.pointer (some ⟨B2, 0, none⟩)) := cell_obj i2 0
      gi_wp2_with fail
      refine ⟨trivial, ?_⟩
      refine (CallsIn.inRound l (callsIn_wide.2 (put_walk W B2 bd2 bc2 _ most qv3 _ xa xb xd hx.1 hx.2.1 hx.2.2 i1 (by omega)))).mono ?_
      rintro e W3 ⟨rfl, t3, qv4, m3, f3⟩
      gi_wp2_with fail
      have sA := i1.seqApart i5 i6
      refine ⟨i1.keepsFrom t3 hd2 hc2, keepSeq_turn i5 t3 sA, qv4, ?_, t3.same i2 (i1.boxApart i2 (by decide) (by decide)), ?_, ?_, i5.turn t3 sA, ?_⟩
      · have e1 : ents (pre ++ [(⟨(xa, xb, xd), hx⟩ : Fits)]) = ents pre ++ [(xa, xb, xd)] := by simp [ents]
        rw [e1, puts_snoc, List.length_append]
        exact ⟨m3.obj, m3.ne, m3.told.mono (by simp; omega), m3.q, m3.good, m3.m1, m3.m2, m3.len, by simp; omega⟩
      · exact i3.trans t3 (fun j hj => .inr (i4 j hj))
      · rintro j (rfl | rfl | rfl | hj)
        · exact i4 _ (.inl rfl)
        · exact i4 _ (.inr (.inl rfl))
        · exact i4 _ (.inr (.inr (.inl rfl)))
        · rcases f3 j hj with h1 | h1
          · exact i4 _ (.inr (.inr (.inr h1)))
          · have := i3.size; omega
      · rintro (e | e | e | e)
        · exact i6 (.inl e)
        · exact i6 (.inr (.inl e))
        · exact i6 (.inr (.inr (.inl e)))
        · rcases f3 gp e with h1 | h1
          · exact i6 (.inr (.inr (.inr h1)))
          · have := (Array.getElem?_eq_some_iff.1 i5.r1).1; omega
    case done =>
      rintro D ys W hD hS ⟨qv3, i1, i2, i3, i4, i5, i6⟩ hK
      rw [hS, puts_same h.good h.len] at i1
      have hyl : ys.length = L.length := by rw [← hS]; simp [ents]
      rw [hyl] at i1
      have cf : W.cell? ⟨bx, 0, none⟩ = some (.pointer (some ⟨B2, 0, none⟩)) := cell_obj i2 0
      gi_wp2_with fail
      have nD : ∀ j, Foot B2 bd2 bc2 qv3 j → ¬ j = D := by
        rintro j hj rfl
        rcases hj with rfl | rfl | rfl | hq
        · rw [i1.obj] at hK; cases hK
        · omega
        · omega
        · obtain ⟨cur, hcur⟩ := i1.q.lt j hq; rw [hcur] at hK; cases hK
      have tP : Turn (fun j => j = D) W (W.putObj D (.deferred none)) := Turn.grown (grownBy_putObj' W D _) (fun k e => by cases e; rfl)
      refine ⟨by simp, .inl ⟨_, _, rfl, run_takeDeferred hK, ?_⟩⟩
      exact ⟨_, results_tmp rfl _ _ _, B2, bd2, bc2, qv3, rfl, i3.trans tP (fun j hj => .inr (by omega)), i1.turn tP nD, i4⟩
    case stop =>
      rintro D c pre W _ _ hf _
      exact hf.elim
end Go.Proofs.Ytffchlpefhldhaa
