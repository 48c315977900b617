/- told: where the list is the memo's it answers true. -/
import Derived.Test.YtffchlpefhldhaaMRound
import Derived.Test.YtffchlpefhldhaaMSame
namespace Go.Proofs.Ytffchlpefhldhaa
open Go.RowKit Go.Maps Go.Shelf
attribute [local go_sem] Oper.semAt_some
set_option linter.unusedVariables false

/-- the cells of the law's own list -/
def ccells (L : List Ent) : List Value := L.flatMap fun e => [.int .i32 e.1, .int .i32 e.2.1, .int .i64 e.2.2]
theorem ccells_length (L : List Ent) : (ccells L).length = L.length * 3 := by
  induction L with
  | nil => rfl
  | cons e L ih => simp [ccells] at ih ⊢; omega
theorem ccells_append (L M : List Ent) : ccells (L ++ M) = ccells L ++ ccells M := by simp [ccells]
theorem ccells_cons (e : Ent) (L : List Ent) : ccells (e :: L) = [.int .i32 e.1, .int .i32 e.2.1, .int .i64 e.2.2] ++ ccells L := rfl
theorem ccells_get (L : List Ent) : ∀ (j : Nat) (e : Ent), L[j]? = some e → (ccells L)[j * 3]? = some (.int .i32 e.1) ∧ (ccells L)[j * 3 + 1]? = some (.int .i32 e.2.1) ∧ (ccells L)[j * 3 + 2]? = some (.int .i64 e.2.2) := by
  induction L with
  | nil => intro j e h; simp at h
  | cons x L ih =>
    intro j e h
    cases j with
    | zero => simp at h; subst h; exact ⟨rfl, rfl, rfl⟩
    | succ j =>
      obtain ⟨h1, h2, h3⟩ := ih j e (by simpa using h)
      rw [ccells_cons, show (j + 1) * 3 = j * 3 + 3 by omega]
      exact ⟨by simpa using h1, by simpa using h2, by simpa using h3⟩

/-- a list of the law's, in memory -/
def CRow (w : World) (v : Value) (L : List Ent) : Prop :=
  (L = [] ∧ ∃ a c, v = .slice a 0 c) ∨ ∃ g off cap, v = .slice (some ⟨g, off, none⟩) L.length cap ∧ ∀ i e, L[i]? = some e → w.cell? ⟨g, off + i * 3, none⟩ = some (.int .i32 e.1) ∧ w.cell? ⟨g, off + i * 3 + 1, none⟩ = some (.int .i32 e.2.1) ∧ w.cell? ⟨g, off + i * 3 + 2, none⟩ = some (.int .i64 e.2.2)
theorem CRow.slice {w : World} {v : Value} {L : List Ent} (h : CRow w v L) : ∃ a c, v = .slice a L.length c := by
  rcases h with ⟨rfl, a, c, rfl⟩ | ⟨g, off, cap, rfl, _⟩
  · exact ⟨a, c, rfl⟩
  · exact ⟨_, _, rfl⟩
theorem CRow.of_own {w : World} {v : Value} {L : List Ent} (h : OwnSl w 36 3 v L.length (ccells L)) : CRow w v L := by
  rcases h.2 with ⟨rfl, h0⟩ | ⟨g, off, cap, cur, rfl, _⟩
  · exact .inl ⟨List.eq_nil_of_length_eq_zero h0, _, _, rfl⟩
  · refine .inr ⟨g, off, cap, rfl, fun i e he => ?_⟩
    obtain ⟨h1, h2, h3⟩ := ccells_get L i e he
    exact ⟨h.cells _ _ h1, by rw [Nat.add_assoc]; exact h.cells _ _ h2, by rw [Nat.add_assoc]; exact h.cells _ _ h3⟩

theorem own_same {Bz : Nat} {W W' : World} {row : Option Nat} (hg : W.grownBy W' row) (hr : ∀ r, row = some r → Bz ≤ r ∧ ∃ o : Obj, W.heap[r]? = some o ∧ o.isCells = false) {k : Nat} {o : Obj} (h : W.heap[k]? = some o) (hc : o.isCells = true) : W'.heap[k]? = some o :=
  (hg.block k (Array.getElem?_eq_some_iff.1 h).1 (fun e => by obtain ⟨_, o', ho, hc'⟩ := hr k e.symm; rw [h] at ho; cases ho; rw [hc] at hc'; cases hc')).trans h
theorem own_low {Bz : Nat} {W W' : World} {row : Option Nat} (hg : W.grownBy W' row) (hr : ∀ r, row = some r → Bz ≤ r ∧ ∃ o : Obj, W.heap[r]? = some o ∧ o.isCells = false) {k : Nat} {o : Obj} (h : W.heap[k]? = some o) (hk : k < Bz) : W'.heap[k]? = some o :=
  (hg.block k (Array.getElem?_eq_some_iff.1 h).1 (fun e => by have := (hr k e.symm).1; omega)).trans h
theorem own_turn {Bz : Nat} {w W W' : World} {row : Option Nat} (hg : W.grownBy W' row) (hr : ∀ r, row = some r → Bz ≤ r ∧ ∃ o : Obj, W.heap[r]? = some o ∧ o.isCells = false) (t : Turn (fun _ => False) w W) (hB : w.heap.size ≤ Bz) : Turn (fun _ => False) w W' :=
  t.trans (Turn.grown (F := fun j => row = some j) hg (fun k e => e)) (fun j hj => .inr (by have := (hr j hj).1; omega))
theorem own_laid {Bz : Nat} {W W' : World} {row : Option Nat} {n0 n bp bs gp gs : Nat} {cp cd : Array Value} (hg : W.grownBy W' row) (hr : ∀ r, row = some r → Bz ≤ r ∧ ∃ o : Obj, W.heap[r]? = some o ∧ o.isCells = false) (h : Laid W n0 n bp bs gp gs cp cd) : Laid W' n0 n bp bs gp gs cp cd :=
  ⟨own_same hg hr h.b1 rfl, own_same hg hr h.b2 rfl, own_same hg hr h.r1 rfl, own_same hg hr h.r2 rfl, h.s1, h.s2, h.n1, h.n2, h.n3, h.n4⟩
theorem keepSeq_turn {F : Nat → Prop} {W W' : World} {n0 n bp bs gp gs : Nat} {cp cd : Array Value} (h : Laid W n0 n bp bs gp gs cp cd) (t : Turn F W W') (hF : ∀ j, (j = bp ∨ j = bs ∨ j = gp ∨ j = gs) → ¬ F j) : KeepSeq bp bs gp gs W W' := by
  have g := h.turn t hF
  exact ⟨g.b1.trans h.b1.symm, g.b2.trans h.b2.symm, g.r1.trans h.r1.symm, g.r2.trans h.r2.symm⟩
theorem keepSeq_t {bp bs gp gs : Nat} {A B C : World} (h : KeepSeq bp bs gp gs A B) (k : KeepSeq bp bs gp gs B C) : KeepSeq bp bs gp gs A C :=
  ⟨k.1.trans h.1, k.2.1.trans h.2.1, k.2.2.1.trans h.2.2.1, k.2.2.2.trans h.2.2.2⟩
theorem keepSeq_b {bp bs gp gs m : Nat} (h1 : bp < m) (h2 : bs < m) (h3 : gp < m) (h4 : gs < m) (W : World) (l : Nat) (o o' : Obj) (hl : m ≤ l) (_ : W.heap[l]? = some o) (_ : o.isCells = false) (_ : o.isWalk = false) : KeepSeq bp bs gp gs W (W.putObj l o') := by
  have g := grownBy_putObj' W l o'
  have e : ∀ j, j < m → (W.putObj l o').heap[j]? = W.heap[j]? := fun j hj => World.putObj_heap_other (fun e => by omega)
  exact ⟨e _ h1, e _ h2, e _ h3, e _ h4⟩
theorem not_prefix {L : List Ent} {pre : List Fits} {x : Fits} {e : Ent} (hp : ents pre = L.take pre.length) (he : L[pre.length]? = some e) (hx : x.1 ≠ e) : ¬ ents (pre ++ [x]) <+: L := by
  rintro ⟨t, ht⟩
  apply hx
  have h1 : (ents (pre ++ [x]) ++ t)[pre.length]? = some x.1 := by
    simp [ents]
  rw [ht, he] at h1
  exact (Option.some.inj h1).symm
theorem is_prefix {L : List Ent} {pre : List Fits} {x : Fits} (hp : ents pre = L.take pre.length) (he : L[pre.length]? = some x.1) : ents (pre ++ [x]) = L.take (pre ++ [x]).length := by
  rw [List.length_append, List.length_singleton, List.take_add_one, he, ← hp]
  simp [ents]

theorem Turn.putObj {F : Nat → Prop} {w W : World} (h : Turn F w W) {l : Nat} (hl : F l ∨ w.heap.size ≤ l) (o : Obj) : Turn F w (W.putObj l o) :=
  h.trans (G := fun j => j = l) (Turn.grown (grownBy_putObj' W l o) (fun k e => by cases e; rfl)) (fun j hj => by subst hj; exact hl)
theorem two_marks {V : World} {D D2 x : Nat} {u : Value} {e : TypeId} (h1 : V.heap[D]? = some (.deferred (some []))) (hx : V.heap[x]? = some (.cells #[u] e (0, 0))) (hD2 : V.heap[D2]? = some (.deferred (some []))) :
    ((V.putObj D2 (.deferred none)).putObj D (.deferred none)).cell? ⟨x, 0, none⟩ = some u := by
  have n1 : x ≠ D := by rintro rfl; rw [hx] at h1; cases h1
  have n2 : x ≠ D2 := by rintro rfl; rw [hx] at hD2; cases hD2
  have e1 : ((V.putObj D2 (.deferred none)).putObj D (.deferred none)).heap[x]? = some (.cells #[u] e (0, 0)) := (World.putObj_heap_other n1).trans ((World.putObj_heap_other n2).trans hx)
  exact cell_obj e1 0

theorem not_nil (p q : Value) (u : World) : (binOp .eql 50 (.func (.func 23) #[] #[p, q]) .nilFunc).run Try.prog u = .ok (.bool false) u := by kernel_rfl

set_option maxRecDepth 100000 in
set_option maxHeartbeats 4000000 in
theorem told_walk (w : World) (B bd bc k most : Nat) (qv lv : Value) (L : List Ent) (h : Mem w B bd bc qv k most L) (hl : CRow w lv L) :
    Calls Try.prog 15 #[.pointer (some ⟨B, 0, none⟩), lv] w fun e w' => e = .returned (.bool true) ∧ Turn (fun _ => False) w w' := by
  obtain ⟨la, lc, rfl⟩ := hl.slice
  have hmix : Try.prog.follows .mixedOrders = true := by kernel_rfl
  refine (callsIn_wide (n := 3)).1 ?_
  refine callsIn_of_wp_marks Try.func15 rfl trivial ?_ rfl
  simp only [Try.ntmps15, List.size_toArray, List.length_cons, List.length_nil, Nat.reduceAdd, Nat.reduceSub, Array.replicate_succ, Array.replicate_zero, List.push_toArray, List.append_toArray, List.nil_append, List.cons_append]
  gi_wp2_with fail
  refine ⟨trivial, ?_⟩
  have t0 : Turn (fun _ => False) w ((w.alloc (.cells #[.slice la L.length lc] 28)).alloc (.cells #[.bool false] 4)) := ((Turn.refl _ w).alloc _).alloc _
  have bl : ((w.alloc (.cells #[.slice la L.length lc] 28)).alloc (.cells #[.bool false] 4)).heap[w.heap.size]? = some (.cells #[.slice la L.length lc] 28 (0, 0)) := (Below.heap_alloc _ _ _ (by simp)).trans (heap_alloc_new w _)
  have br : ((w.alloc (.cells #[.slice la L.length lc] 28)).alloc (.cells #[.bool false] 4)).heap[w.heap.size + 1]? = some (.cells #[.bool false] 4 (0, 0)) := by
    have := heap_alloc_new (w.alloc (.cells #[.slice la L.length lc] 28)) (.cells #[.bool false] 4)
    simpa using this
  generalize (w.alloc (.cells #[.slice la L.length lc] 28)).alloc (.cells #[.bool false] 4) = W0 at *
  have m0 := h.turn t0 (fun _ _ => id)
  refine (callsIn_wide.2 (all_walk W0 B bd bc k most qv L m0)).mono ?_
  rintro e w1 ⟨bp, bs, gp, gs, cp, cd, rfl, t1, l1, ecp, ecd⟩
  have m1 := m0.turn t1 (fun _ _ => id)
  have bl1 := t1.same bl id
  have br1 := t1.same br id
  have tt1 : Turn (fun _ => False) w w1 := t0.then t1
  have cl1 : w1.cell? ⟨w.heap.size, 0, none⟩ = some (.slice la L.length lc) := cell_obj bl1 0
  clear t0 t1 m0 bl br
  gi_wp2_with fail
  refine wpIn_wide.2 ?_
  have hnf := not_nil (.pointer (some ⟨bp, 0, none⟩)) (.pointer (some ⟨bs, 0, none⟩))
  go_quiet ((go_at_call 16; exact Calls.quiet_of_same (len_walk _ B bd bc k most qv L (m1.turn ((Turn.refl (fun _ => False) _).drewN _) (fun _ _ => id)))))
  have tq : Turn (fun _ => False) w1 (w1.drewN nq) := (Turn.refl (fun _ => False) _).drewN _
  have m2 := m1.turn tq (fun _ _ => id)
  have l2 := l1.turn tq (fun _ _ => id)
  have bl2 := tq.same bl1 id
  have br2 := tq.same br1 id
  have tt2 := tt1.then tq
  clear m1 l1 bl1 br1 tt1 tq cl1
  generalize w1.drewN nq = w2 at *
  gi_wp2_with fail
  have t3 : Turn (fun _ => False) w2 (w2.alloc (.cells #[.int .i64 0] 3)) := (Turn.refl _ w2).alloc _
  have bk : (w2.alloc (.cells #[.int .i64 0] 3)).heap[w2.heap.size]? = some (.cells #[.int .i64 0] 3 (0, 0)) := heap_alloc_new w2 _
  have s3 : (w2.alloc (.cells #[.int .i64 0] 3)).heap.size = w2.heap.size + 1 := by simp
  have l3 := l2.turn t3 (fun _ _ => id)
  have bl3 := t3.same bl2 id
  have br3 := t3.same br2 id
  have tt3 := tt2.then t3
  have gL := m2.good
  have hlen := m2.len
  have hm2' := m2.m2
  have hsz := tt2.size
  have hxr := (Array.getElem?_eq_some_iff.1 br2).1
  have q1 := (Array.getElem?_eq_some_iff.1 l3.b1).1
  have q2 := (Array.getElem?_eq_some_iff.1 l3.b2).1
  have q3 := (Array.getElem?_eq_some_iff.1 l3.r1).1
  have q4 := (Array.getElem?_eq_some_iff.1 l3.r2).1
  clear l2 bl2 br2 tt2 t3 m2
  generalize w2.alloc (.cells #[.int .i64 0] 3) = w3 at *
  refine wpIn_rangeFunc_ownH rfl (by omega) (gf := 23) (lb := #[.pointer (some ⟨bp, 0, none⟩), .pointer (some ⟨bs, 0, none⟩)]) rfl trivial (enters_of Try.func23 (by kernel_rfl) rfl)
    (seq_stops 2 (by omega) _ bp bs gp gs cp cd L w3 l3 ecp ecd gL (by omega)) keepSeq_t (keepSeq_b q1 q2 q3 q4) (Below.refl _ _) (fun _ => rfl)
    (fun pre W => Hid (ents pre = L.take pre.length) ∧ W.heap[w2.heap.size]? = some (.cells #[.int .i64 (pre.length : Nat)] 3 (0, 0)) ∧ W.heap[w.heap.size]? = some (.cells #[.slice la L.length lc] 28 (0, 0)) ∧ W.heap[w.heap.size + 1]? = some (.cells #[.bool false] 4 (0, 0)) ∧ Turn (fun _ => False) w W ∧ Laid W W0.heap.size L.length bp bs gp gs cp cd)
    (fun c pre W => c = .ret ∧ ¬ ents pre <+: L)
    (fun s A B' row hs hg hr => ⟨hs.1, own_same hg hr hs.2.1 rfl, own_same hg hr hs.2.2.1 rfl, own_same hg hr hs.2.2.2.1 rfl, own_turn hg hr hs.2.2.2.2.1 (by omega), own_laid hg hr hs.2.2.2.2.2⟩)
    (fun c s A B' row hs hg hr => hs)
    ⟨hide rfl, bk, bl3, br3, tt3, l3⟩
    (fun x a' W => ∃ Bx, w2.heap.size < Bx ∧ W.heap[Bx]? = some (.cells #[.int .i32 x.1.1, .int .i32 x.1.2.1] 30 (0, 0)) ∧ a' = { tmps := #[.pointer (some ⟨B, 0, none⟩), .slice la L.length lc, undef, .pointer (some ⟨w.heap.size, 0, none⟩), .pointer (some ⟨w.heap.size + 1, 0, none⟩), (.func (.func 23) #[] #[.pointer (some ⟨bp, 0, none⟩), .pointer (some ⟨bs, 0, none⟩)]), .pointer (some ⟨w2.heap.size, 0, none⟩), .pointer (some ⟨Bx, 0, none⟩), .int .i64 x.1.2.2, undef, .pointer (some ⟨B, 0, none⟩), (.func (.func 23) #[] #[.pointer (some ⟨bp, 0, none⟩), .pointer (some ⟨bs, 0, none⟩)]), (.func (.func 23) #[] #[.pointer (some ⟨bp, 0, none⟩), .pointer (some ⟨bs, 0, none⟩)]), .bool false, .bool false, .pointer (some ⟨B, 0, none⟩), .int .i64 (L.length : Nat), .slice la L.length lc, .int .i64 (L.length : Nat), .bool false, .bool false, (.func (.func 23) #[] #[.pointer (some ⟨bp, 0, none⟩), .pointer (some ⟨bs, 0, none⟩)]), .agg #[.int .i32 x.1.1, .int .i32 x.1.2.1], .int .i64 x.1.2.2, undef, undef, undef, undef, undef, undef, undef, undef, undef, undef, undef, undef, undef, undef, undef, undef, undef, undef, undef, undef, undef, undef, undef, undef, undef, undef, undef, undef, undef, undef, undef, undef, undef, undef, undef, undef, undef, undef, undef, undef, undef, undef, undef, undef, undef], defers := [] })
    (fun x a' s A B' row hs hg hr => by obtain ⟨Bx, h1, h2, h3⟩ := hs; exact ⟨Bx, h1, own_same hg hr h2 rfl, h3⟩)
    ?assign ?body ?done ?stop
  case assign =>
    rintro l pre x W K ⟨i1, i2, i3, i4, i5, i6⟩ hK
    have tA : Turn (fun _ => False) W (W.alloc (.cells #[.int .i32 x.1.1, .int .i32 x.1.2.1] 30)) := (Turn.refl _ W).alloc _
    have bA : (W.alloc (.cells #[.int .i32 x.1.1, .int .i32 x.1.2.1] 30)).heap[W.heap.size]? = some (.cells #[.int .i32 x.1.1, .int .i32 x.1.2.1] 30 (0, 0)) := heap_alloc_new W _
    gi_wp2
    exact hK _ _ ((KeepsOthers.alloc _ _).from _) (keepSeq_turn i6 tA (fun _ _ => id)) ⟨i1, tA.same i2 id, tA.same i3 id, tA.same i4 id, i5.then tA, i6.turn tA (fun _ _ => id)⟩ ⟨W.heap.size, (Array.getElem?_eq_some_iff.1 i2).1, bA, rfl⟩
  case body =>
    rintro l pre ⟨⟨xa, xb, xd⟩, hx⟩ a' W hll ⟨r, hr⟩ ⟨i1, i2, i3, i4, i5, i6⟩ ⟨Bx, hBx, bx, rfl⟩ hlt
    obtain ⟨⟨a, b, d⟩, hL⟩ : ∃ e, L[pre.length]? = some e := ⟨_, List.getElem?_eq_getElem hlt⟩
    obtain ⟨g, off, cap, hsl, hcells⟩ : ∃ g off cap, Value.slice la L.length lc = .slice (some ⟨g, off, none⟩) L.length cap ∧ ∀ i e, L[i]? = some e → w.cell? ⟨g, off + i * 3, none⟩ = some (.int .i32 e.1) ∧ w.cell? ⟨g, off + i * 3 + 1, none⟩ = some (.int .i32 e.2.1) ∧ w.cell? ⟨g, off + i * 3 + 2, none⟩ = some (.int .i64 e.2.2) := by
      rcases hl with ⟨h0, _⟩ | h0
      · rw [h0] at hlt; simp at hlt
      · exact h0
    simp only [Value.slice.injEq, true_and] at hsl
    obtain ⟨rfl, rfl⟩ := hsl
    obtain ⟨z0, z1, z2⟩ := hcells _ _ hL
    have z0 := i5.cell z0 id
    have z1 := i5.cell z1 id
    have z2 := i5.cell z2 id
    have ck : W.cell? ⟨w2.heap.size, 0, none⟩ = some (.int .i64 (pre.length : Nat)) := cell_obj i2 0
    have cl : W.cell? ⟨w.heap.size, 0, none⟩ = some (.slice (some ⟨g, off, none⟩) L.length lc) := cell_obj i3 0
    have cr : W.cell? ⟨w.heap.size + 1, 0, none⟩ = some (.bool false) := cell_obj i4 0
    have frr : W.frozen? ⟨w.heap.size + 1, 0, none⟩ = false := frozen_obj i4 0
    have frk : W.frozen? ⟨w2.heap.size, 0, none⟩ = false := frozen_obj i2 0
    have cx0 : W.cell? ⟨Bx, 0, none⟩ = some (.int .i32 xa) := cell_obj bx 0
    have cx1 : W.cell? ⟨Bx, 1, none⟩ = some (.int .i32 xb) := cell_obj bx 1
    have hpl : pre.length < 65536 := by omega
    have hpd : decide ((L.length : Int) ≤ ((pre.length : Nat) : Int)) = false := by simp; exact hlt
    have hpd' : decide (L.length ≤ pre.length) = false := by simp; exact hlt
    have HL := hide hL
    clear hL hcells
    have KW : ∀ (n : Nat) (p : Addr) (v : Value), KeepsFrom w3.heap.size W ((W.drewN n).setCell p v) := fun n p v => by
      have e1 : KeepsOthers W (W.drewN n) := ⟨((Turn.refl (fun _ => False) W).drewN n).size, fun k o hk _ => ((Turn.refl (fun _ => False) W).drewN n).same hk id⟩
      exact (e1.trans (KeepsOthers.setCell _ p v)).from _
    generalize hp : pre.length = z at *
    have Hp := hide hp
    clear hp
    by_cases hm : xa = a ∧ xb = b ∧ xd = d
    · obtain ⟨rfl, rfl, rfl⟩ := hm
      gi_wp2
      refine round_quiet (by kernel_rfl) (by kernel_rfl) (by simp) ?_
      repeat (go_big_quiet_step (fail))
      refine wpQuiet_nil ?_
      intro _ hw'
      obtain ⟨nq, hw''⟩ := hw'
      subst hw''
      gi_wp2
      have hz' : (pre ++ [(⟨(xa, xb, xd), hx⟩ : Fits)]).length = z + 1 := by simp; exact unhide Hp
      have tN : Turn (fun j => j = w2.heap.size) W ((W.drewN nq).setCell ⟨w2.heap.size, 0, none⟩ (.int .i64 ((z : Int) + 1))) := (((Turn.refl (fun j => j = w2.heap.size) W).drewN nq).setCell (p := ⟨w2.heap.size, 0, none⟩) (.inl rfl) _)
      have bN : ((W.drewN nq).setCell ⟨w2.heap.size, 0, none⟩ (.int .i64 ((z : Int) + 1))).heap[w2.heap.size]? = some (.cells #[.int .i64 ((z : Int) + 1)] 3 (0, 0)) := heap_setCell_obj (((Turn.refl (fun _ => False) W).drewN nq).same i2 id) _
      have nk : ∀ j, (j = bp ∨ j = bs ∨ j = gp ∨ j = gs) → ¬ j = w2.heap.size := by
        rintro j (rfl | rfl | rfl | rfl) rfl
        · have := i6.b1; rw [i2] at this; cases this
        · have := i6.b2; rw [i2] at this; cases this
        · have := i6.r1; rw [i2] at this; cases this
        · have := i6.r2; rw [i2] at this; cases this
      refine ⟨KW _ _ _, keepSeq_turn i6 tN nk, hide ?_, ?_, tN.same i3 (by omega), tN.same i4 (by omega), i5.trans tN (fun j hj => .inr (by omega)), i6.turn tN nk⟩
      · exact is_prefix (by rw [unhide Hp]; exact unhide i1) (by rw [unhide Hp]; exact unhide HL)
      · rw [hz']; exact bN
    · have hxe : ((⟨(xa, xb, xd), hx⟩ : Fits)).1 ≠ (a, b, d) := by
        simp only [ne_eq, Prod.mk.injEq]; exact hm
      have hnp := not_prefix (x := ⟨(xa, xb, xd), hx⟩) (by rw [unhide Hp]; exact unhide i1) (by rw [unhide Hp]; exact unhide HL) hxe
      clear hxe
      have three : ¬ xa = a ∨ (xa = a ∧ ¬ xb = b) ∨ (xa = a ∧ xb = b ∧ ¬ xd = d) := by omega
      clear hm
      rcases three with h1 | ⟨rfl, h1⟩ | ⟨rfl, rfl, h1⟩
      all_goals
        gi_wp2
        refine round_quiet (by kernel_rfl) (by kernel_rfl) (by simp) ?_
        repeat (go_big_quiet_step (fail))
        refine wpQuiet_nil ?_
        intro _ hw'
        obtain ⟨nq, hw''⟩ := hw'
        subst hw''
        gi_wp2
        exact ⟨KW _ _ _, rfl, hnp⟩
  case done =>
    rintro D ys W hD hS ⟨i1, i2, i3, i4, i5, i6⟩ hK
    have hyl : ys.length = L.length := by rw [← hS]; simp [ents]
    rw [hyl] at i2
    have ck : W.cell? ⟨w2.heap.size, 0, none⟩ = some (.int .i64 (L.length : Nat)) := cell_obj i2 0
    have cl : W.cell? ⟨w.heap.size, 0, none⟩ = some (.slice la L.length lc) := cell_obj i3 0
    clear hyl hS i1 ys
    gi_wp2
    have u1 := (Array.getElem?_eq_some_iff.1 i6.b1).1
    have u2 := (Array.getElem?_eq_some_iff.1 i6.b2).1
    have u3 := (Array.getElem?_eq_some_iff.1 i6.r1).1
    have u4 := (Array.getElem?_eq_some_iff.1 i6.r2).1
    have uD := (Array.getElem?_eq_some_iff.1 hK).1
    have uW := i5.size
    clear ck cl
    refine wpIn_rangeFunc_ownH rfl (by omega) (gf := 23) (lb := #[.pointer (some ⟨bp, 0, none⟩), .pointer (some ⟨bs, 0, none⟩)]) rfl trivial (enters_of Try.func23 (by kernel_rfl) rfl)
      (seq_stops 2 (by omega) _ bp bs gp gs cp cd L W i6 ecp ecd gL (by omega)) keepSeq_t (keepSeq_b u1 u2 u3 u4) (Below.refl _ _) (fun _ => rfl)
      (fun pre V => pre = [] ∧ V.heap[w.heap.size]? = some (.cells #[.slice la L.length lc] 28 (0, 0)) ∧ V.heap[w.heap.size + 1]? = some (.cells #[.bool false] 4 (0, 0)) ∧ Turn (fun _ => False) w V ∧ V.heap[D]? = some (.deferred (some [])) ∧ Laid V W0.heap.size L.length bp bs gp gs cp cd)
      (fun c pre V => c = .ret ∧ (∃ (x : Fits) (a b d : Int), pre = [x] ∧ L[0]? = some (a, b, d) ∧ V.heap[w.heap.size + 1]? = some (.cells #[.bool (same2 x.1.1 x.1.2.1 a b)] 4 (0, 0))) ∧ Turn (fun _ => False) w V ∧ V.heap[D]? = some (.deferred (some [])))
      (fun s A B' row hs hg hr => ⟨hs.1, own_same hg hr hs.2.1 rfl, own_same hg hr hs.2.2.1 rfl, own_turn hg hr hs.2.2.2.1 (by omega), own_low hg hr hs.2.2.2.2.1 uD, own_laid hg hr hs.2.2.2.2.2⟩)
      (fun c s A B' row hs hg hr => ⟨hs.1, by obtain ⟨x, a, b, d, h1, h2, h3⟩ := hs.2.1; exact ⟨x, a, b, d, h1, h2, own_same hg hr h3 rfl⟩, own_turn hg hr hs.2.2.1 (by omega), own_low hg hr hs.2.2.2 uD⟩)
      ⟨rfl, i3, i4, i5, hK, i6⟩
      (fun x a' V => ∃ Bx, V.heap[Bx]? = some (.cells #[.int .i32 x.1.1, .int .i32 x.1.2.1] 30 (0, 0)) ∧ a' = { tmps := #[.pointer (some ⟨B, 0, none⟩), .slice la L.length lc, undef, .pointer (some ⟨w.heap.size, 0, none⟩), .pointer (some ⟨w.heap.size + 1, 0, none⟩), (.func (.func 23) #[] #[.pointer (some ⟨bp, 0, none⟩), .pointer (some ⟨bs, 0, none⟩)]), .pointer (some ⟨w2.heap.size, 0, none⟩), undef, undef, .pointer (some ⟨Bx, 0, none⟩), .pointer (some ⟨B, 0, none⟩), (.func (.func 23) #[] #[.pointer (some ⟨bp, 0, none⟩), .pointer (some ⟨bs, 0, none⟩)]), (.func (.func 23) #[] #[.pointer (some ⟨bp, 0, none⟩), .pointer (some ⟨bs, 0, none⟩)]), .bool false, .bool false, .pointer (some ⟨B, 0, none⟩), .int .i64 (L.length : Nat), .slice la L.length lc, .int .i64 (L.length : Nat), .bool false, .bool false, (.func (.func 23) #[] #[.pointer (some ⟨bp, 0, none⟩), .pointer (some ⟨bs, 0, none⟩)]), undef, undef, undef, undef, undef, undef, undef, undef, undef, undef, undef, undef, undef, undef, undef, undef, undef, undef, undef, undef, undef, undef, undef, undef, undef, undef, .int .i64 (L.length : Nat), .slice la L.length lc, .int .i64 (L.length : Nat), .bool false, (.func (.func 23) #[] #[.pointer (some ⟨bp, 0, none⟩), .pointer (some ⟨bs, 0, none⟩)]), .agg #[.int .i32 x.1.1, .int .i32 x.1.2.1], .int .i64 x.1.2.2, undef, undef, undef, undef, undef, undef, undef, undef, undef, undef, undef, undef, undef, undef], defers := [] })
      (fun x a' s A B' row hs hg hr => by obtain ⟨Bx, h2, h3⟩ := hs; exact ⟨Bx, own_same hg hr h2 rfl, h3⟩)
      ?assign2 ?body2 ?done2 ?stop2
    case assign2 =>
      rintro l pre x V K ⟨j1, j2, j3, j4, j5, j6⟩ hK'
      have tA : Turn (fun _ => False) V (V.alloc (.cells #[.int .i32 x.1.1, .int .i32 x.1.2.1] 30)) := (Turn.refl _ V).alloc _
      have bA : (V.alloc (.cells #[.int .i32 x.1.1, .int .i32 x.1.2.1] 30)).heap[V.heap.size]? = some (.cells #[.int .i32 x.1.1, .int .i32 x.1.2.1] 30 (0, 0)) := heap_alloc_new V _
      gi_wp2
      exact hK' _ _ ((KeepsOthers.alloc _ _).from _) (keepSeq_turn j6 tA (fun _ _ => id)) ⟨j1, tA.same j2 id, tA.same j3 id, j4.then tA, tA.same j5 id, j6.turn tA (fun _ _ => id)⟩ ⟨V.heap.size, bA, rfl⟩
    case body2 =>
      rintro l pre ⟨⟨xa, xb, xd⟩, hx⟩ a' V hll ⟨r, hr⟩ ⟨rfl, j2, j3, j4, j5, j6⟩ ⟨Bx, bx, rfl⟩ hlt
      obtain ⟨⟨a, b, d⟩, hL⟩ : ∃ e, L[0]? = some e := ⟨_, List.getElem?_eq_getElem hlt⟩
      obtain ⟨g, off, cap, hsl, hcells⟩ : ∃ g off cap, Value.slice la L.length lc = .slice (some ⟨g, off, none⟩) L.length cap ∧ ∀ i e, L[i]? = some e → w.cell? ⟨g, off + i * 3, none⟩ = some (.int .i32 e.1) ∧ w.cell? ⟨g, off + i * 3 + 1, none⟩ = some (.int .i32 e.2.1) ∧ w.cell? ⟨g, off + i * 3 + 2, none⟩ = some (.int .i64 e.2.2) := by
        rcases hl with ⟨h0, _⟩ | h0
        · rw [h0] at hlt; simp at hlt
        · exact h0
      simp only [Value.slice.injEq, true_and] at hsl
      obtain ⟨rfl, rfl⟩ := hsl
      obtain ⟨z0, z1, _⟩ := hcells _ _ hL
      have z0 := j4.cell z0 id
      have z1 := j4.cell z1 id
      simp only [Nat.zero_mul, Nat.add_zero] at z0 z1
      have cl : V.cell? ⟨w.heap.size, 0, none⟩ = some (.slice (some ⟨g, off, none⟩) L.length lc) := cell_obj j2 0
      have cr : V.cell? ⟨w.heap.size + 1, 0, none⟩ = some (.bool false) := cell_obj j3 0
      have frr : V.frozen? ⟨w.heap.size + 1, 0, none⟩ = false := frozen_obj j3 0
      have cx0 : V.cell? ⟨Bx, 0, none⟩ = some (.int .i32 xa) := cell_obj bx 0
      have cx1 : V.cell? ⟨Bx, 1, none⟩ = some (.int .i32 xb) := cell_obj bx 1
      have hd0 : decide (0 < L.length) = true := by simp at hlt ⊢; exact hlt
      have hd1 : decide ((0 : Int) < ((L.length : Nat) : Int)) = true := by simp at hlt ⊢; exact hlt
      have hpos : (0 : Int) < ((L.length : Nat) : Int) := by simp at hlt; omega
      have HL := hide hL
      clear hL hcells
      have fin : ∀ t : Bool, same2 xa xb a b = t → KeepsFrom W.heap.size V ((V.setCell ⟨w.heap.size + 1, 0, none⟩ (.bool t)).drew) ∧ (∃ (x : Fits) (a b d : Int), [(⟨(xa, xb, xd), hx⟩ : Fits)] = [x] ∧ L[0]? = some (a, b, d) ∧ ((V.setCell ⟨w.heap.size + 1, 0, none⟩ (.bool t)).drew).heap[w.heap.size + 1]? = some (.cells #[.bool (same2 x.1.1 x.1.2.1 a b)] 4 (0, 0))) ∧ Turn (fun _ => False) w ((V.setCell ⟨w.heap.size + 1, 0, none⟩ (.bool t)).drew) ∧ ((V.setCell ⟨w.heap.size + 1, 0, none⟩ (.bool t)).drew).heap[D]? = some (.deferred (some [])) := by
        intro t ht
        have tN : Turn (fun j => j = w.heap.size + 1) V ((V.setCell ⟨w.heap.size + 1, 0, none⟩ (.bool t)).drew) := ((Turn.refl (fun j => j = w.heap.size + 1) V).setCell (p := ⟨w.heap.size + 1, 0, none⟩) (.inl rfl) _).drew
        refine ⟨((KeepsOthers.setCell V _ _).trans (KeepsOthers.drew _)).from _, ⟨_, a, b, d, rfl, unhide HL, ?_⟩, j4.trans tN (fun j hj => .inr (by omega)), tN.same j5 (by rintro rfl; rw [j3] at j5; cases j5)⟩
        show _ = some (Obj.cells #[.bool (same2 xa xb a b)] _ (0, 0))
        rw [ht]
        exact heap_setCell_obj j3 _
      have Fin := hide fin
      clear fin
      have three : (xa = a ∧ xb = b) ∨ ¬ xa = a ∨ (xa = a ∧ ¬ xb = b) := by omega
      rcases three with ⟨rfl, rfl⟩ | h1 | ⟨rfl, h1⟩
      · have hs : same2 xa xb xa xb = true := by simp [same2]
        have Hs := hide hs
        clear hs
        gi_wp2
        gi_region_with_o (fail)
        all_goals gi_wp2
        all_goals (have F := unhide Fin _ (unhide Hs); exact ⟨F.1, rfl, F.2⟩)
      · have hs : same2 xa xb a b = false := by simp [same2, h1]
        have Hs := hide hs
        clear hs
        gi_wp2
        gi_region_with_o (fail)
        all_goals gi_wp2
        all_goals (have F := unhide Fin _ (unhide Hs); exact ⟨F.1, rfl, F.2⟩)
      · have hs : same2 xa xb xa b = false := by simp [same2, h1]
        have Hs := hide hs
        clear hs
        gi_wp2
        gi_region_with_o (fail)
        all_goals gi_wp2
        all_goals (have F := unhide Fin _ (unhide Hs); exact ⟨F.1, rfl, F.2⟩)
    case done2 =>
      rintro D2 ys V hD2 hS ⟨rfl, j2, j3, j4, j5, j6⟩ hK2
      have hL0 : L = [] := hS.symm
      have cl : V.cell? ⟨w.heap.size, 0, none⟩ = some (.slice la L.length lc) := cell_obj j2 0
      have cr : V.cell? ⟨w.heap.size + 1, 0, none⟩ = some (.bool false) := cell_obj j3 0
      have frr : V.frozen? ⟨w.heap.size + 1, 0, none⟩ = false := frozen_obj j3 0
      have h00 : ((L.length : Int) == 0) = true := by rw [hL0]; rfl
      gi_wp2
      have tN : Turn (fun j => j = w.heap.size + 1) V (V.setCell ⟨w.heap.size + 1, 0, none⟩ (.bool true)) := (Turn.refl (fun j => j = w.heap.size + 1) V).setCell (p := ⟨w.heap.size + 1, 0, none⟩) (.inl rfl) _
      have bN := heap_setCell_obj (j := 0) j3 (.bool true)
      have k1 := tN.same j5 (by rintro rfl; rw [j3] at j5; cases j5)
      have k2 := tN.same hK2 (by rintro rfl; rw [j3] at hK2; cases hK2)
      have hc5 := two_marks k1 bN k2
      refine ⟨by simp, .inl ⟨_, _, rfl, run_takeDeferred k2, ?_⟩⟩
      refine ⟨by simp, .inl ⟨_, _, rfl, run_takeDeferred ((World.putObj_heap_other (by omega)).trans k1), ?_⟩⟩
      refine ⟨.bool true, ?_, rfl, ((j4.trans tN (fun j hj => .inr (by omega))).putObj (.inr (by omega)) _).putObj (.inr (by omega)) _⟩
      simp [results, Try.f15, go_sem, hc5]
    case stop2 =>
      rintro D2 c pre V hD2 hS ⟨rfl, ⟨x, a, b, d, rfl, hL0, j3⟩, j4, j5⟩ hK2
      gi_wp2
      have hs : same2 x.1.1 x.1.2.1 a b = true := by
        obtain ⟨t, ht⟩ := hS
        rw [← ht] at hL0
        simp [ents] at hL0
        rw [hL0]; simp [same2]
      rw [hs] at j3
      have hc5 := two_marks j5 j3 hK2
      refine ⟨by simp, .inl ⟨_, _, rfl, run_takeDeferred hK2, ?_⟩⟩
      refine ⟨by simp, .inl ⟨_, _, rfl, run_takeDeferred ((World.putObj_heap_other (by omega)).trans j5), ?_⟩⟩
      refine ⟨.bool true, ?_, rfl, (j4.putObj (.inr (by omega)) _).putObj (.inr (by omega)) _⟩
      simp [results, Try.f15, go_sem, hc5]
  case stop =>
    rintro D c pre W _ hS ⟨_, hn⟩ _
    exact absurd hS hn
end Go.Proofs.Ytffchlpefhldhaa
