/- Fork: another disk, alike in all. -/
import Derived.Test.YtodnnblnchjeiaaDApp2
namespace Go.Proofs.Ytodnnblnchjeiaa
open Go.RowKit Go.Maps Go.Sort
set_option linter.unusedVariables false

theorem rise_ext {α : Type} {key : α → Nm} : ∀ {l1 l2 : List α}, Rise key l1 → Rise key l2 → (∀ x, x ∈ l1 ↔ x ∈ l2) → l1 = l2
  | [], [], _, _, _ => rfl
  | [], y :: r, _, _, h => by have := (h y).2 (by simp); cases this
  | x :: l, [], _, _, h => by have := (h x).1 (by simp); cases this
  | x :: l, y :: r, h1, h2, h => by
    unfold Rise at h1 h2
    rw [List.pairwise_cons] at h1 h2
    have hxy : x = y := by
      rcases List.mem_cons.1 ((h x).1 (by simp)) with e | e
      · exact e
      · rcases List.mem_cons.1 ((h y).2 (by simp)) with e' | e'
        · exact e'.symm
        · have a := h2.1 x e; have b := h1.1 y e'
          rw [before_anti a] at b; cases b
    subst hxy
    congr 1
    refine rise_ext h1.2 h2.2 (fun z => ?_)
    have hz := h z
    constructor
    · intro hm
      rcases List.mem_cons.1 (hz.1 (by simp [hm])) with e | e
      · subst e; have := before_ne (h1.1 z hm); exact absurd rfl this
      · exact e
    · intro hm
      rcases List.mem_cons.1 (hz.2 (by simp [hm])) with e | e
      · subst e; have := before_ne (h2.1 z hm); exact absurd rfl this
      · exact e
/-- the disk with those files alone that have come -/
def doneS (S : Dk) (left : Lit → Bool) : Dk := { S with fs := S.fs.filter (fun f => !left (.string f.n)) }
theorem well_done {S : Dk} (h : Well S) (left : Lit → Bool) : Well (doneS S left) :=
  ⟨List.Pairwise.filter _ h.rise, fun f hf => h.good f ((List.mem_filter.1 hf).1), Nat.le_trans (used_filter _ _) h.room, h.size, Nat.le_trans (List.length_filter_le _ _) h.files, h.arm⟩
theorem done_step {S : Dk} (h : Well S) {left : Lit → Bool} {f : Fl} (hf : f ∈ S.fs) (hl : left (.string f.n) = true) :
    doneS S (fun z => left z && !z.sameKey (.string f.n)) = { doneS S left with fs := putK Fl.n f (doneS S left).fs } := by
  unfold doneS
  congr 1
  have hr : Rise Fl.n (S.fs.filter (fun g => !left (.string g.n))) := List.Pairwise.filter _ h.rise
  refine rise_ext (key := Fl.n) (List.Pairwise.filter _ h.rise) hr.put (fun x => ?_)
  rw [List.mem_filter]
  simp only
  rw [mem_putK, List.mem_filter]
  constructor
  · rintro ⟨h1, h2⟩
    by_cases e : x.n = f.n
    · left
      have a := getK_of_mem h.rise h1
      have b := getK_of_mem h.rise hf
      rw [e, b] at a
      exact (Option.some.inj a).symm
    · right
      refine ⟨⟨h1, ?_⟩, e⟩
      simpa [Lit.sameKey, e] using h2
  · rintro (rfl | ⟨⟨h1, h2⟩, h3⟩)
    · exact ⟨hf, by simp [Lit.sameKey]⟩
    · refine ⟨h1, ?_⟩
      simp at h2
      simp [h2]
theorem done_all {S : Dk} {left : Lit → Bool} (h : ∀ kl, left kl = false) : doneS S left = S := by
  unfold doneS
  rw [List.filter_eq_self.2 (fun f _ => by simp [h])]
theorem done_none {S : Dk} {left : Lit → Bool} (h : ∀ f ∈ S.fs, left (.string f.n) = true) : (doneS S left).fs = [] := by
  unfold doneS
  exact List.filter_eq_nil_iff.2 (fun f hf => by simp [h f hf])

theorem make_hint (n : Nat) (u : World) : (Instr.makeMap 50 (some (.int .i64 (n : Int)))).run Try.prog u = .ok (.map (some u.heap.size)) (u.alloc (.map #[] 0)) := by
  simp [Instr.makeMap, asInt, asIntOf, run_underlying Try.underlying50, Result.andThen, newObj]
  rfl

set_option maxRecDepth 100000 in
set_option maxHeartbeats 2000000 in
theorem fork_map (w : World) (B b : Nat) (E : List Ent) (S : Dk) (m : DMem w B (some b) E S) :
    Calls Try.prog 39 #[.pointer (some ⟨B, 0, none⟩)] w fun e w' => ∃ B2, e = .returned (.pointer (some ⟨B2, 0, none⟩)) ∧ Turn (fun _ => False) w w' ∧ DAt w' B2 (fun j => w.heap.size ≤ j) S := by
  have hmm := @run_makeMap Try.prog
  have c0 : w.cell? ⟨B, 0, none⟩ = some (.int .i64 (S.size : Int)) := cell_obj m.obj 0
  have c1 : w.cell? ⟨B, 1, none⟩ = some (.map (some b)) := cell_obj m.obj 1
  have c2 : w.cell? ⟨B, 2, none⟩ = some (.bool S.down) := cell_obj m.obj 2
  have c3 : w.cell? ⟨B, 3, none⟩ = some (.int .u64 (S.arm : Int)) := cell_obj m.obj 3
  have hBl := m.lt B (.inl rfl)
  have tA : Turn (fun _ => False) w (w.alloc (.cells #[.int .i64 (S.size : Int), .map (some b), .bool S.down, .int .u64 (S.arm : Int)] 52)) := (Turn.refl _ w).alloc _
  have mA := m.turn tA (fun _ _ => id)
  have hlen := mA.ofMap.len (ty := 3) Try.underlying50
  rw [DD_size] at hlen
  have hmk := make_hint E.length
  go_enter Try.func39, Try.ntmps39
  have tX : Turn (fun _ => False) w ((w.alloc (.cells #[.int .i64 (S.size : Int), .map (some (w.heap.size + 1)), .bool S.down, .int .u64 (S.arm : Int)] 52)).alloc (.map #[] 0)) := ((Turn.refl _ w).alloc _).alloc _
  have kX : ((w.alloc (.cells #[.int .i64 (S.size : Int), .map (some (w.heap.size + 1)), .bool S.down, .int .u64 (S.arm : Int)] 52)).alloc (.map #[] 0)).heap[w.heap.size]? = some (.cells #[.int .i64 (S.size : Int), .map (some (w.heap.size + 1)), .bool S.down, .int .u64 (S.arm : Int)] 52 (0, 0)) :=
    Turn.same (F := fun _ => False) ((Turn.refl _ _).alloc (.map #[] 0)) (heap_alloc_new w _) id
  have oX := World.ownsMap_made (w.alloc (.cells #[.int .i64 (S.size : Int), .map (some (w.heap.size + 1)), .bool S.down, .int .u64 (S.arm : Int)] 52)) Try.prog 9 rawR
  rw [show (w.alloc (.cells #[.int .i64 (S.size : Int), .map (some (w.heap.size + 1)), .bool S.down, .int .u64 (S.arm : Int)] 52)).heap.size = w.heap.size + 1 by simp] at oX
  have hsX : ((w.alloc (.cells #[.int .i64 (S.size : Int), .map (some (w.heap.size + 1)), .bool S.down, .int .u64 (S.arm : Int)] 52)).alloc (.map #[] 0)).heap.size = w.heap.size + 2 := by simp
  have hleft : ∀ f ∈ S.fs, Maps.has (DD E) (.string f.n) = true := fun f hf => by
    rw [m.fs] at hf
    obtain ⟨e, he, rfl⟩ := List.mem_map.1 hf
    rw [DD_has]
    show (getK Ent.n e.n E).isSome = true
    rw [getK_of_mem m.rise he]; rfl
  have nX : DMem ((w.alloc (.cells #[.int .i64 (S.size : Int), .map (some (w.heap.size + 1)), .bool S.down, .int .u64 (S.arm : Int)] 52)).alloc (.map #[] 0)) w.heap.size (some (w.heap.size + 1)) [] (doneS S (Maps.has (DD E))) :=
    ⟨kX, .inr ⟨_, rfl, oX⟩, by simp, List.Pairwise.nil, by rw [done_none hleft]; rfl, well_done m.well _⟩
  have mX := m.turn tX (fun _ _ => id)
  go_wp2_with (at_range; refine wpList_range_own _ rfl _ 50 rfl 9 62 dLaw Try.underlying50 _ b E.length _ rfl mX.ofMap ?_; intro w0 hrg0 hg0 hs0)
  go_frame
  have t00 : Turn (fun _ => False) w w0 := tX.then (Turn.grown hg0 (fun k e => by cases e))
  have n0 := nX.turn (Turn.grown (F := fun _ => False) hg0 (fun k e => by cases e)) (fun _ _ => id)
  rw [hsX] at hrg0 ⊢
  generalize hB2 : w.heap.size = B2 at *
  have HB2 := hide hB2
  clear hB2 nX mX tX kX oX hsX hlen hmk hmm c0 c2 c3 mA tA hg0 hs0
  go_loopw [4] (fun _ wr => ∃ (left : Lit → Bool) (cnt : Nat), wr.ranges Try.prog 9 rawR b (B2 + 2) E.length (DD E) left cnt ∧
      Hid (∃ E2, DMem wr B2 (some (B2 + 1)) E2 (doneS S left) ∧ ∀ j, DFoot B2 (some (B2 + 1)) E2 j → B2 ≤ j ∧ j ≠ B2 + 2) ∧ Turn (fun _ => False) w wr)
    (fun _ wr => wr.rangeLeft b (B2 + 2))
  case atStart =>
    refine ⟨_, _, hrg0, hide ⟨[], n0, ?_⟩, t00⟩
    rintro j (rfl | h | ⟨e, he, _⟩)
    · exact ⟨Nat.le_refl _, by omega⟩
    · cases h; exact ⟨by omega, by omega⟩
    · cases he
  case round =>
    obtain ⟨left, cnt, hrg, hinv, ht⟩ := hrel
    go_wp2_with (at_next; refine wpList_next_ranges _ rfl _ rfl 9 dLaw rawR encStr (fun v : Value => v) (fun key kl hk => by obtain ⟨x, hx, _⟩ := Maps.keyOf_str Try.underlying9 hk; exact ⟨x, hx⟩) (fun v y hv => ⟨v, rfl⟩) b (B2 + 2) E.length _ _ _ rfl hrg ?_ ?_)
    · intro hc0 hl0
      obtain ⟨E2, n2, f2⟩ := unhide hinv
      rw [done_all hl0] at n2
      clear hinv
      go_wp2
      go_ret
      exact ⟨B2, rfl, ht, some (B2 + 1), E2, n2, fun j hj => by rw [unhide HB2]; exact (f2 j hj).1⟩
    · intro x c kl yd yp w2 cnt2 hkey hlk hv hat hrg2 hlt hg2 hs2 hen
      obtain ⟨x', ex, rfl, hxl⟩ := Maps.keyOf_str Try.underlying9 hkey
      obtain rfl : x = x' := encStr_inj ex
      have hyd := rawR_inv hv
      subst hyd
      obtain ⟨e, hge⟩ : ∃ e, getK Ent.n x E = some e := by
        have h1 := Maps.has_true_of_atKey hat
        rw [DD_has] at h1
        exact Option.isSome_iff_exists.1 h1
      obtain ⟨hem, hen'⟩ := getK_some hge
      have hval := hat .nil
      rw [DD_at, hge] at hval
      simp only [DataW.held.injEq] at hval
      obtain ⟨p, q, hev⟩ := m.form hem
      have hc : c = .agg #[.slice p e.d.length q, .int .i64 (e.s : Int)] := by rw [← hval, Ent.val, hev]
      subst hc
      obtain ⟨E2, n2, f2⟩ := unhide hinv
      have tI : Turn (fun j => j = B2 + 2) wr w2 := Turn.grown hg2 (fun k e => by cases e; rfl)
      have n3 := n2.turn tI (fun j hj => (f2 j hj).2)
      have hw2 := unhide HB2
      have t2 : Turn (fun _ => False) w w2 := ht.trans tI (fun j hj => .inr (by omega))
      have tA : Turn (fun _ => False) w2 (w2.alloc (.cells #[.slice p e.d.length q, .int .i64 (e.s : Int)] 62)) := (Turn.refl _ w2).alloc _
      have kA : (w2.alloc (.cells #[.slice p e.d.length q, .int .i64 (e.s : Int)] 62)).heap[w2.heap.size]? = some (.cells #[.slice p e.d.length q, .int .i64 (e.s : Int)] 62 (0, 0)) := heap_alloc_new w2 _
      have n4 := n3.turn tA (fun _ _ => id)
      have hrg4 := hrg2.alloc (.cells #[.slice p e.d.length q, .int .i64 (e.s : Int)] 62)
      have oe := ((m.own e hem).turn t2 (fun _ _ => id)).turn tA (fun _ _ => id)
      rw [hev] at oe
      have hrow := row_of_sl oe
      have hbd := m.bound hem
      have hefl : e.fl ∈ S.fs := by rw [m.fs]; exact List.mem_map.2 ⟨e, hem, rfl⟩
      have eS := done_step m.well (left := left) hefl (by show left (.string e.n) = true; rw [hen']; exact hlk)
      have hwell := well_done m.well (fun z => left z && !z.sameKey (.string e.fl.n))
      have hxx : e.fl.n = x := hen'
      rw [hxx] at eS hwell
      have hw2l := t2.size
      have hb2l := n2.lt (B2 + 1) (.inr (.inl rfl))
      have hrl := hrg.lt
      have hwrl := tI.size
      have Hle := hide hrg.left_eq
      have hfoot := n2.lt
      clear hs2 hval hat hkey hv hge hinv hg2 hrg hrg2 ex n2 n3 tI hleft hrg0 n0 t00 ht
      go_wp2
      generalize w2.alloc (.cells #[.slice p e.d.length q, .int .i64 (e.s : Int)] 62) = W at *
      generalize hgg : w2.heap.size = g at *
      have hgl : g < W.heap.size := (Array.getElem?_eq_some_iff.1 kA).1
      clear hgg
      have c0 : W.cell? ⟨g, 0, none⟩ = some (.slice p e.d.length q) := cell_obj kA 0
      have cc1 : W.cell? ⟨g, 1, none⟩ = some (.int .i64 (e.s : Int)) := cell_obj kA 1
      have cB : W.cell? ⟨B2, 1, none⟩ = some (.map (some (B2 + 1))) := cell_obj n4.obj 1
      have tD : Turn (fun _ => False) W W.drew := (Turn.refl _ _).drew
      have hcl := clone_walk _ _ _ W.drew (hrow.turn tD (fun _ _ => id)) (by omega)
      have hup : ∀ (v : Value) (w5 : World), OwnSl w5 5 1 v e.d.length (e.d.map (Value.int .u8)) → (∀ j, v.ownBlock = some j → W.drew.heap.size ≤ j) → Turn (fun _ => False) W.drew w5 →
          ∃ w6, (Instr.mapUpdate 50 (.map (some (B2 + 1))) (encStr x) (.agg #[v, .int .i64 (e.s : Int)])).run Try.prog w5 = .ok () w6 ∧ Turn (fun j => j = B2 + 1) w5 w6 ∧ DMem w6 B2 (some (B2 + 1)) (putK Ent.n ⟨x, v, e.d, e.s⟩ E2) (doneS S (fun z => left z && !z.sameKey (.string x))) := by
        intro v w5 h1 h2 h3
        have m5 := n4.turn (tD.then h3) (fun _ _ => id)
        refine m5.updateAt (s := ⟨x.toArray⟩) ⟨x, v, e.d, e.s⟩ (by simpa [ByteArray.size] using hxl) rfl m5.ofMap h1 (fun y hy hn j hj1 hj2 => ?_) ?_ hwell
        · have q1 := n4.lt j (.inr (.inr ⟨y, hy, hj1⟩))
          have q2 := h2 j hj2
          have q3 : W.drew.heap.size = W.heap.size := rfl
          omega
        · rw [eS]
          simp only [Ent.fl, ← hen']
      clear n4 oe hrow eS hwell kA
      go_region_with (go_at_call 21; refine hcl.mono ?_; rintro y w5 ⟨v, rfl, h51, h52, h53⟩; have cB5 := (tD.then h53).cell cB id; have c05 := (tD.then h53).cell c0 id; have c15 := (tD.then h53).cell cc1 id; obtain ⟨w6, hu, t6, m6⟩ := hup v w5 h51 h52 h53; obtain ⟨p5, q5, rfl⟩ := h51.form)
      all_goals
        have hbm := m.lt b (.inr (.inl rfl))
        have hr6 := t6.ranges ((tD.then h53).ranges hrg4 id id) (by omega) (by omega)
        go_wp2
        go_roundw
        case rel =>
          have q4 : W.drew.heap.size = W.heap.size := rfl
          refine ⟨_, cnt2, hr6, hide ⟨_, m6, fun j hj => ?_⟩, ((t2.then tA).then (tD.then h53)).trans t6 (fun j hj => .inr (by omega))⟩
          rcases foot_put hj with hj | hj
          · exact f2 j hj
          · have q5 := h52 j hj
            exact ⟨by omega, by omega⟩
        case measure => rw [hr6.left_eq, unhide Hle]; exact hlt

end Go.Proofs.Ytodnnblnchjeiaa
