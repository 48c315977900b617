/- Get, Len. -/
import Derived.Test.YtffchlpefhldhaaMMem
namespace Go.Proofs.Ytffchlpefhldhaa
open Go.RowKit Go.Maps
set_option linter.unusedVariables false

set_option maxHeartbeats 1000000 in
theorem get_walk (w : World) (B bd bc k most : Nat) (qv : Value) (L : List Ent) (a b : Int) (wa : I32 a) (wb : I32 b) (h : Mem w B bd bc qv k most L) :
    Calls Try.prog 14 #[.pointer (some ⟨B, 0, none⟩), .agg #[.int .i32 a, .int .i32 b]] w fun e w' => e = .returned (.tuple #[.int .i64 (dist L a b), .bool (keyed L a b)]) ∧ Turn (fun _ => False) w w' := by
  obtain ⟨⟨D, od, fd, hd⟩, _⟩ := h.told
  have hB := h.obj
  clear h
  go_enter Try.func14, Try.ntmps14
  go_wp2
  have tW : Turn (fun _ => False) w (w.alloc (.cells #[.int .i32 a, .int .i32 b] 30)) := (Turn.refl _ w).alloc _
  have hB1 := tW.same hB id
  have k0 : (w.alloc (.cells #[.int .i32 a, .int .i32 b] 30)).heap[w.heap.size]? = some (.cells #[.int .i32 a, .int .i32 b] 30 (0, 0)) := heap_alloc_new w _
  have od1 := od.alloc (.cells #[.int .i32 a, .int .i32 b] 30)
  generalize w.alloc (.cells #[.int .i32 a, .int .i32 b] 30) = W at *
  generalize w.heap.size = g at *
  have c1 : W.cell? ⟨B, 1, none⟩ = some (.map (some bd)) := cell_obj hB1 1
  have p0 : W.cell? ⟨g, 0, none⟩ = some (.int .i32 a) := cell_obj k0 0
  have p1 : W.cell? ⟨g, 1, none⟩ = some (.int .i32 b) := cell_obj k0 1
  obtain ⟨v, ps, hl, hv⟩ := World.ownsMap.look_ok (w := W.drew) od1 mLawP Try.underlying54 (mZero2 _) (plainElem_int (H := Unit) Try.underlying2 (by decide)) (keyOf_P wa wb)
  rw [fd.2 a b wa wb] at hv
  obtain ⟨c, rfl, hc, _⟩ := plainElem_int_inv Try.underlying2 hv
  have ec : c = dist L a b := by simp at hc; exact hc.1.symm
  rw [hd a b wa wb] at hl
  subst ec
  generalize e1 : dist L a b = c at hl
  generalize e2 : keyed L a b = x at hl
  have E1 := hide e1
  have E2 := hide e2
  clear e1 e2
  clear hv hc fd hd
  go_region
  go_wp2
  go_ret2
  refine ⟨?_, tW.drew⟩
  rw [unhide E1, unhide E2]
  rfl

set_option maxHeartbeats 1000000 in
theorem len_walk (w : World) (B bd bc k most : Nat) (qv : Value) (L : List Ent) (h : Mem w B bd bc qv k most L) :
    Calls Try.prog 16 #[.pointer (some ⟨B, 0, none⟩)] w fun e w' => e = .returned (.int .i64 (L.length : Nat)) ∧ w' = w := by
  have hB := h.obj
  have c2 : w.cell? ⟨B, 2, none⟩ = some qv := cell_obj hB 2
  rcases h.q.2 with ⟨rfl, h0⟩ | ⟨g, off, cap, cur, rfl, _⟩
  · have h0' := hide h0
    clear h h0
    go_enter Try.func16, Try.ntmps16
    go_wp2
    go_ret
    exact ⟨ret_int (by rw [unhide h0']; rfl), rfl⟩
  · clear h
    go_enter Try.func16, Try.ntmps16
    go_wp2
    go_ret
    exact ⟨rfl, rfl⟩
end Go.Proofs.Ytffchlpefhldhaa
