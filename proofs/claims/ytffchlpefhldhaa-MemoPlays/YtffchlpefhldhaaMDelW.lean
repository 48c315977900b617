/- slices.DeleteFunc with Drop's own function: the walk. -/
import Derived.Test.YtffchlpefhldhaaMDelF
namespace Go.Proofs.Ytffchlpefhldhaa
open Go.RowKit Go.Maps
set_option linter.unusedVariables false

set_option maxHeartbeats 4000000 in
theorem delete_walk (w : World) (bn bm B bd bc k : Nat) (node : Int) (m0 : Value) (g off cap : Nat) (L : List Ent) (h : Clos w bn bm B bd bc k node m0 (.slice (some ⟨g, off, none⟩) L.length cap) L) (hq : OwnSl w 30 2 (.slice (some ⟨g, off, none⟩) L.length cap) L.length (qcells L))
    (hg : Good L) (hl : L.length ≤ 100000) (hr : k + 2 * L.length + 2 < maxLen) :
    Calls Try.prog 21 #[.slice (some ⟨g, off, none⟩) L.length cap, .func (.func 22) #[] #[.pointer (some ⟨bn, 0, none⟩), .pointer (some ⟨bm, 0, none⟩)]] w fun e w' =>
      e = .returned (.slice (some ⟨g, off, none⟩) (dropL L node).length cap) ∧ Turn (fun j => j = g ∨ j = bd ∨ j = bc) w w' ∧ OwnSl w' 30 2 (.slice (some ⟨g, off, none⟩) (dropL L node).length cap) (dropL L node).length (qcells (dropL L node)) ∧
        Clos w' bn bm B bd bc (k + 2 * L.length) node m0 (.slice (some ⟨g, off, none⟩) L.length cap) (dropL L node) := by
  obtain ⟨i0, hi, hz0, hz1, hz2⟩ := info_parts info_pair
  obtain ⟨cur0, hcur0, hcap, hcm, hfit⟩ : ∃ cur, w.heap[g]? = some (.cells cur 30 (0, 0)) ∧ L.length ≤ cap ∧ cap ≤ maxLen ∧ off + cap * 2 ≤ cur.size := by
    rcases hq.2 with ⟨hv, _⟩ | ⟨g', o', c', cur, hv, h1, h2, h3, h4, _⟩
    · simp at hv
    · simp only [Value.slice.injEq, Option.some.injEq, Addr.mk.injEq, and_true, true_and] at hv
      obtain ⟨⟨rfl, rfl⟩, rfl⟩ := hv
      exact ⟨cur, h1, h2, h3, h4⟩
  have ng : ∀ {i : Nat} {c : Array Value} {e : TypeId}, w.heap[i]? = some (.cells c e (0, 0)) → e ≠ 30 → i ≠ g := by
    rintro i c e h1 h2 rfl
    rw [hcur0] at h1; cases h1; exact h2 rfl
  have n1 := ng h.b1 (by decide)
  have n2 := ng h.b2 (by decide)
  have n3 := ng h.obj (by decide)
  have nd := h.told.neB hcur0
  have ne1 := h.told.neB h.b1
  have ne2 := h.told.neB h.b2
  have ne3 := h.told.neB h.obj
  go_enter Try.func21, Try.ntmps21
  go_wp2_with fail
  refine (index_walk w bn bm B bd bc k node m0 g off cap L h hq hg hl (by omega)).mono ?_
  rintro e w1 (⟨rfl, t1, hall⟩ | ⟨z, rfl, hz, hz1', hz2', t1, c1⟩)
  · have hdl : dropL L node = L := hall
    have Hd := hide hdl
    clear hall hdl
    go_wp2_with fail
    go_ret
    rw [unhide Hd]
    exact ⟨rfl, t1.mono (fun j hj => hj.elim), hq.turn t1 (fun _ _ => id), by have := h.turn t1 id id id id id; exact ⟨this.b1, this.b2, this.obj, this.ne, this.told.mono (by omega)⟩⟩
  · have q1 := hq.turn t1 (fun j hj e => by simp [Value.ownBlock] at hj; subst hj; omega)
    have r1 := t1.same hcur0 (by omega)
    have hne : ((z : Int) == -1) = false := by simp
    clear hz1'
    go_wp2_with fail
    go_loopw [5, 6] (fun i j wr => ∃ p q kk : Nat, i = .int .i64 p ∧ j = .int .i64 q ∧ p < q ∧ q ≤ L.length ∧ Hid (((L.take q).filter (keep node)).length = p) ∧ kk ≤ k + 2 * q ∧ Turn (fun b => b = g ∨ b = bd ∨ b = bc) w wr ∧ Clos wr bn bm B bd bc kk node m0 (.slice (some ⟨g, off, none⟩) L.length cap) ((L.take q).filter (keep node) ++ L.drop q) ∧
        (∃ cur, wr.heap[g]? = some (.cells cur 30 (0, 0)) ∧ cur.size = cur0.size) ∧ Hid ((∀ s e, ((L.take q).filter (keep node))[s]? = some e → At wr g off s e) ∧ ∀ s e, q ≤ s → L[s]? = some e → At wr g off s e)) (fun _ j _ => L.length - (intOf j).toNat)
    case atStart =>
      refine ⟨z, z + 1, k + 2, rfl, by go_num, by omega, by omega, hide ?_, by omega, t1.mono (fun j hj => .inr hj), ?_, ⟨cur0, r1, rfl⟩, hide ⟨?_, fun s e _ he => own_at q1 s e he⟩⟩
      · rw [hz2', List.length_take]; omega
      · rw [hz2']; exact c1
      · intro s e he
        rw [hz2', List.getElem?_take] at he
        split at he
        · exact own_at q1 s e he
        · cases he
    case round =>
      obtain ⟨p, q, kk, rfl, rfl, hpq, hqn, hp, hkk, tt, cl, ⟨cur, hcur, hcs⟩, hat⟩ := hrel
      by_cases hlt : q < L.length
      · obtain ⟨⟨a, b, d⟩, hL⟩ : ∃ e, L[q]? = some e := ⟨_, List.getElem?_eq_getElem hlt⟩
        obtain ⟨x0, x1⟩ := (unhide hat).2 q _ (Nat.le_refl _) hL
        simp only at x0 x1
        have hkt := kept_take (node := node) hL
        have hdq : L.drop q = (a, b, d) :: L.drop (q + 1) := by
          obtain ⟨hk, he⟩ := List.getElem?_eq_some_iff.1 hL
          rw [← he, ← List.drop_eq_getElem_cons hk]
        rw [hdq] at cl
        have hgq : Good ((L.take q).filter (keep node) ++ (a, b, d) :: L.drop (q + 1)) := by
          rw [← hdq]
          refine ⟨fun e he => hg.1 e ?_, hg.2.sublist ?_⟩
          · rcases List.mem_append.1 he with h1 | h1
            · exact List.mem_of_mem_take (List.mem_filter.1 h1).1
            · exact List.mem_of_mem_drop h1
          · exact (List.Sublist.append (List.filter_sublist) (List.Sublist.refl _)).trans (by rw [List.take_append_drop]; exact List.Sublist.refl _)
        have hlq : ((L.take q).filter (keep node) ++ (a, b, d) :: L.drop (q + 1)).length ≤ 100000 := by
          have := unhide hp
          rw [← hdq, List.length_append, this, List.length_drop]; omega
        have HL := hide hL
        have Hkt := hide hkt
        have Hdq := hide hdq
        clear hL hkt hdq
        go_wp2_with fail
        have tB : Turn (fun _ => False) wr (wr.alloc (.cells #[.int .i32 a, .int .i32 b] 30)) := (Turn.refl _ wr).alloc _
        have bB : (wr.alloc (.cells #[.int .i32 a, .int .i32 b] 30)).heap[wr.heap.size]? = some (.cells #[.int .i32 a, .int .i32 b] 30 (0, 0)) := heap_alloc_new wr _
        have ngB : wr.heap.size ≠ g := fun e => by have := (Array.getElem?_eq_some_iff.1 hcur).1; omega
        have nBm : ¬ (wr.heap.size = bd ∨ wr.heap.size = bc) := by
          obtain ⟨⟨D', od', _⟩, ⟨C', oc', _⟩⟩ := cl.told
          have := od'.lt
          have := oc'.lt
          omega
        have clB := cl.turn tB id id id id id
        generalize wr.alloc (.cells #[.int .i32 a, .int .i32 b] 30) = wb at *
        cases hk : keep node (a, b, d)
        · refine (del_goes wb bn bm B bd bc kk node m0 _ _ _ a b d clB hgq hlq (by omega) hk).mono ?_
          rintro e w2 ⟨rfl, t2, c2⟩
          rw [hk] at Hkt
          have hkt' : (L.take (q + 1)).filter (keep node) = (L.take q).filter (keep node) := by rw [unhide Hkt]; simp
          have Hkt' := hide hkt'
          clear hkt' hk Hkt
          go_wp2_with fail
          refine ⟨⟨p, q + 1, kk + 2, rfl, by go_num, by omega, by omega, hide (by rw [unhide Hkt']; exact unhide hp), by omega, (tt.then (tB.mono (fun j hj => hj.elim))).then (t2.mono (fun j hj => .inr hj)), by rw [unhide Hkt']; exact c2, ⟨cur, t2.same (tB.same hcur id) (by omega), hcs⟩, hide ⟨fun s e he => ?_, fun s e hs he => ?_⟩⟩, by simp [intOf]; omega⟩
          · rw [unhide Hkt'] at he
            exact (((unhide hat).1 s e he).turn tB id).turn t2 (by omega)
          · exact (((unhide hat).2 s e (by omega) he).turn tB id).turn t2 (by omega)
        · refine (del_keeps wb bn bm B bd bc kk node m0 _ _ a b d clB hk).mono ?_
          rintro e w2 ⟨rfl, t2⟩
          have b2 := t2.same bB id
          have y0 : w2.cell? ⟨wr.heap.size, 0, none⟩ = some (.int .i32 a) := cell_obj b2 0
          have y1 : w2.cell? ⟨wr.heap.size, 1, none⟩ = some (.int .i32 b) := cell_obj b2 1
          have cur2 := t2.same (tB.same hcur id) id
          obtain ⟨o0, hO0⟩ : ∃ o, w2.cell? ⟨g, off + p * 2, none⟩ = some o := ⟨_, (cell_obj cur2 _).trans (Array.getElem?_eq_getElem (by omega))⟩
          obtain ⟨o1, hO1⟩ : ∃ o, w2.cell? ⟨g, off + p * 2 + 1, none⟩ = some o := ⟨_, (cell_obj cur2 _).trans (Array.getElem?_eq_getElem (by omega))⟩
          have fr0 : w2.frozen? ⟨g, off + p * 2, none⟩ = false := frozen_obj cur2 _
          have fr1 : w2.frozen? ⟨g, off + p * 2 + 1, none⟩ = false := frozen_obj cur2 _
          rw [hk] at Hkt
          have hkt' : (L.take (q + 1)).filter (keep node) = (L.take q).filter (keep node) ++ [(a, b, d)] := by rw [unhide Hkt]; simp
          have Hkt' := hide hkt'
          clear hkt' hk Hkt
          have hpn : p < L.length := by omega
          go_wp2_with fail
          have t3 : Turn (fun j => j = g) w2 ((w2.setCell ⟨g, off + p * 2, none⟩ (.int .i32 a)).setCell ⟨g, off + p * 2 + 1, none⟩ (.int .i32 b)) := (((Turn.refl (fun j => j = g) w2).setCell (p := ⟨g, off + p * 2, none⟩) (.inl rfl) _).setCell (p := ⟨g, off + p * 2 + 1, none⟩) (.inl rfl) _)
          have r3 := heap_setCell_obj (j := off + p * 2 + 1) (heap_setCell_obj (j := off + p * 2) cur2 (.int .i32 a)) (.int .i32 b)
          have c3 := (clB.turn t2 id id id id id).turn t3 n1 n2 n3 (by omega) (by omega)
          refine ⟨⟨p + 1, q + 1, kk, by go_num, by go_num, by omega, by omega, hide (by rw [unhide Hkt', List.length_append, unhide hp]; rfl), by omega, ((tt.then (tB.mono (fun j hj => hj.elim))).then (t2.mono (fun j hj => hj.elim))).then (t3.mono (fun j hj => .inl hj)), by rw [unhide Hkt', List.append_assoc]; exact c3, ⟨_, r3, by simp [hcs]⟩, hide ⟨fun s e he => ?_, fun s e hs he => ?_⟩⟩, by simp [intOf]; omega⟩
          · rw [unhide Hkt'] at he
            by_cases hs : s = p
            · subst hs
              rw [List.getElem?_append_right (by rw [unhide hp]; exact Nat.le_refl _), unhide hp] at he
              simp at he
              subst he
              exact At.set_same cur2 (by omega) (a, b, d)
            · have hsl : s < p := by
                obtain ⟨h1, _⟩ := List.getElem?_eq_some_iff.1 he
                rw [List.length_append, unhide hp] at h1
                simp at h1; omega
              rw [List.getElem?_append_left (by rw [unhide hp]; exact hsl)] at he
              exact ((((unhide hat).1 s e he).turn tB id).turn t2 id).set_other hs
          · exact ((((unhide hat).2 s e (by omega) he).turn tB id).turn t2 id).set_other (by omega)
      · have hqe : q = L.length := by omega
        have hdl : (L.take q).filter (keep node) = dropL L node := by rw [hqe, List.take_length]; rfl
        have hdr : L.drop q = [] := List.drop_of_length_le (by omega)
        rw [hdl, hdr, List.append_nil] at cl
        rw [hdl] at hat hp
        have hp' := unhide hp
        have hpn : p < L.length := by omega
        have hsl := fun u => run_from (P := Try.prog) (t := 45) (g := g) (off := off) Try.underlying45 hi hz1 hpn hcap u
        have hsu := fun u => run_upto (P := Try.prog) (t := 45) (n := L.length) (g := g) (off := off) Try.underlying45 hi (show p ≤ cap by omega) u
        obtain ⟨vs, hvs, hclr⟩ := run_clear_pairs (P := Try.prog) (w := wr) (t := 45) (ty := 0) (i := i0) Try.underlying45 (mZeroP _) g (off + p * 2) (L.length - p) (cap - p) (by omega) hcur (by omega)
        clear hdl hdr hp'
        go_wp2_with fail
        go_ret
        have hpe : (dropL L node).length = p := unhide hp
        have t4 : Turn (fun j => j = g) wr (wr.setCells g (off + p * 2) vs) := Turn.grown (grown_setCells g vs _ wr) (fun k e => by cases e; rfl)
        obtain ⟨cur4, e4, s4, _⟩ := heap_setCells vs (off + p * 2) wr cur hcur (by omega)
        rw [hpe]
        refine ⟨rfl, tt.then (t4.mono (fun j hj => .inl hj)), ?_, ?_⟩
        · have := at_own (K := dropL L node) (off := off) (cap := cap) e4 (by omega) (by omega) hcm (fun s e he => by
            have hsl : s < p := by
              obtain ⟨h1, _⟩ := List.getElem?_eq_some_iff.1 he
              omega
            obtain ⟨a1, a2⟩ := (unhide hat).1 s e he
            exact ⟨(World.cell?_setCells_out g vs _ wr _ (fun _ _ => .inl (by simp; omega))).trans a1, (World.cell?_setCells_out g vs _ wr _ (fun _ _ => .inl (by simp; omega))).trans a2⟩)
          rw [hpe] at this
          exact this
        · have := cl.turn t4 n1 n2 n3 (by omega) (by omega)
          exact ⟨this.b1, this.b2, this.obj, this.ne, this.told.mono (by omega)⟩
end Go.Proofs.Ytffchlpefhldhaa
