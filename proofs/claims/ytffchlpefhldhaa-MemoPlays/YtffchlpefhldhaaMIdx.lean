/- slices.IndexFunc with Drop's own function. -/
import Derived.Test.YtffchlpefhldhaaMDel
namespace Go.Proofs.Ytffchlpefhldhaa
open Go.RowKit Go.Maps
set_option linter.unusedVariables false

theorem OwnSl.neCells {w : World} {e e' : TypeId} {s : Nat} {v : Value} {n : Nat} {xs : List Value} {B : Nat} {cur : Array Value} (h : OwnSl w e s v n xs) (hB : w.heap[B]? = some (.cells cur e' (0, 0))) (he : e ≠ e') : v.ownBlock ≠ some B := fun hj => h.neObj hB he B hj rfl

theorem split_at {L : List Ent} {z : Nat} {e : Ent} (h : L[z]? = some e) : L = L.take z ++ e :: L.drop (z + 1) := by
  obtain ⟨hk, he⟩ := List.getElem?_eq_some_iff.1 h
  rw [← he, ← List.drop_eq_getElem_cons hk, List.take_append_drop]
theorem take_kept {L : List Ent} {node : Int} {z : Nat} {e : Ent} (h : (L.take z).filter (keep node) = L.take z) (he : L[z]? = some e) (hk : keep node e = true) : (L.take (z + 1)).filter (keep node) = L.take (z + 1) := by
  rw [List.take_add_one, he, List.filter_append, h]
  simp [hk]

set_option maxHeartbeats 1000000 in
theorem index_walk (w : World) (bn bm B bd bc k : Nat) (node : Int) (m0 : Value) (g off cap : Nat) (L : List Ent) (h : Clos w bn bm B bd bc k node m0 (.slice (some ⟨g, off, none⟩) L.length cap) L) (hq : OwnSl w 30 2 (.slice (some ⟨g, off, none⟩) L.length cap) L.length (qcells L))
    (hg : Good L) (hl : L.length ≤ 100000) (hr : k + 2 < maxLen) :
    Calls Try.prog 25 #[.slice (some ⟨g, off, none⟩) L.length cap, .func (.func 22) #[] #[.pointer (some ⟨bn, 0, none⟩), .pointer (some ⟨bm, 0, none⟩)]] w fun e w' =>
      (e = .returned (.int .i64 (-1)) ∧ Turn (fun _ => False) w w' ∧ L.filter (keep node) = L) ∨
      ∃ z : Nat, e = .returned (.int .i64 z) ∧ z < L.length ∧ (L.take z).filter (keep node) = L.take z ∧ (L.take (z + 1)).filter (keep node) = L.take z ∧ Turn (fun j => j = bd ∨ j = bc) w w' ∧ Clos w' bn bm B bd bc (k + 2) node m0 (.slice (some ⟨g, off, none⟩) L.length cap) (L.take z ++ L.drop (z + 1)) := by
  go_enter Try.func25, Try.ntmps25
  go_wp2_with fail
  go_loopw [8] (fun i wr => ∃ z : Nat, z ≤ L.length ∧ i = .int .i64 z ∧ Turn (fun _ => False) w wr ∧ Hid ((L.take z).filter (keep node) = L.take z)) (fun i _ => L.length - (intOf i).toNat)
  case atStart => exact ⟨0, Nat.zero_le _, rfl, Turn.refl _ _, hide rfl⟩
  case round =>
    obtain ⟨z, hz, rfl, tt, hkp⟩ := hrel
    by_cases hlt : z < L.length
    · obtain ⟨⟨a, b, d⟩, hL⟩ : ∃ e, L[z]? = some e := ⟨_, List.getElem?_eq_getElem hlt⟩
      obtain ⟨y0, y1⟩ := qcells_get L z _ hL
      have q := hq.turn tt (fun _ _ => id)
      have x0 := q.cells _ _ y0
      have x1 := q.cells _ _ y1
      rw [← Nat.add_assoc] at x1
      simp only at x0 x1
      have cl := h.turn tt id id id id id
      have HL := hide hL
      clear hL y0 y1
      go_wp2_with fail
      cases hk : keep node (a, b, d)
      · have hs := split_at (unhide HL)
        have hcl : Clos wr bn bm B bd bc k node m0 (.slice (some ⟨g, off, none⟩) L.length cap) (L.take z ++ (a, b, d) :: L.drop (z + 1)) := by rw [← hs]; exact cl
        have hgl : Good (L.take z ++ (a, b, d) :: L.drop (z + 1)) := by rw [← hs]; exact hg
        have hll : (L.take z ++ (a, b, d) :: L.drop (z + 1)).length ≤ 100000 := by rw [← hs]; exact hl
        refine (del_goes wr bn bm B bd bc k node m0 _ (L.take z) (L.drop (z + 1)) a b d hcl hgl hll hr hk).mono ?_
        rintro e w1 ⟨rfl, t1, c1⟩
        have ht1 : (L.take (z + 1)).filter (keep node) = L.take z := by
          rw [List.take_add_one, unhide HL, List.filter_append, unhide hkp]
          simp [hk]
        have Ht := hide ht1
        clear ht1 hs hk
        go_wp2_with fail
        go_ret
        exact .inr ⟨z, rfl, hlt, unhide hkp, unhide Ht, (tt.mono (fun j hj => hj.elim)).then t1, c1⟩
      · refine (del_keeps wr bn bm B bd bc k node m0 _ L a b d cl hk).mono ?_
        rintro e w1 ⟨rfl, t1⟩
        have ht1 := take_kept (unhide hkp) (unhide HL) hk
        have Ht := hide ht1
        clear ht1 hk
        go_wp2_with fail
        exact ⟨⟨z + 1, by omega, by go_num, tt.then t1, Ht⟩, by simp [intOf]; omega⟩
    · have hzl : z = L.length := by omega
      have hfin : L.filter (keep node) = L := by have := unhide hkp; rwa [hzl, List.take_length] at this
      have Hf := hide hfin
      clear hfin hzl
      go_wp2_with fail
      go_ret
      exact .inl ⟨rfl, tt, unhide Hf⟩
end Go.Proofs.Ytffchlpefhldhaa
