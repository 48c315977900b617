/- The sequence that All answers: what it hands to a loop's body, one by one. -/
import Derived.RangeFuncNested
import Derived.RangeFuncBound
import Derived.RangeFuncCalls
import Derived.RangeFuncLeaves
import Derived.Shelf.Abstract
import Derived.Shelf.RegionOpen
import Derived.WalkKit
import Derived.OwnWalkIn
import Derived.TacticsInMore
import Derived.LoopNIn
import Derived.LoopIn
import Derived.Test.YtffchlpefhldhaaMAll
namespace Go.Proofs.Ytffchlpefhldhaa
open Go.RowKit Go.Maps Go.Shelf
attribute [local go_sem] Oper.semAt_some
set_option linter.unusedVariables false

/-- an entry whose numbers fit -/
abbrev Fits := { e : Ent // I32 e.1 ∧ I32 e.2.1 ∧ (Lit.int .i64 e.2.2).wf = true }
abbrev encs (x : Fits) : Array Value := #[.agg #[.int .i32 x.1.1, .int .i32 x.1.2.1], .int .i64 x.1.2.2]
/-- the sequence's own blocks lie as they lay -/
def KeepSeq (bp bs gp gs : Nat) (W W' : World) : Prop := W'.heap[bp]? = W.heap[bp]? ∧ W'.heap[bs]? = W.heap[bs]? ∧ W'.heap[gp]? = W.heap[gp]? ∧ W'.heap[gs]? = W.heap[gs]?
def ents (xs : List Fits) : List Ent := xs.map (·.1)

theorem Laid.keep {w w' : World} {n0 n bp bs gp gs : Nat} {cp cd : Array Value} (h : Laid w n0 n bp bs gp gs cp cd) (k : KeepSeq bp bs gp gs w w') : Laid w' n0 n bp bs gp gs cp cd :=
  ⟨k.1.trans h.b1, k.2.1.trans h.b2, k.2.2.1.trans h.r1, k.2.2.2.trans h.r2, h.s1, h.s2, h.n1, h.n2, h.n3, h.n4⟩

set_option maxHeartbeats 2000000 in
theorem seq_stops (n : Nat) (hn : 1 ≤ n) (n0 bp bs gp gs : Nat) (cp cd : Array Value) (L : List Ent) (w : World) (hl : Laid w n0 L.length bp bs gp gs cp cd) (hcp : cp.toList = qcells L) (hcd : cd.toList = dcells L) (hg : Good L) (hlen : L.length ≤ 65536) :
    SeqStopsK Fence.wide n Try.prog 23 #[.pointer (some ⟨bp, 0, none⟩), .pointer (some ⟨bs, 0, none⟩)] encs (KeepSeq bp bs gp gs) (fun xs => ents xs = L) (fun pre => ents pre <+: L) L.length w := fun l J Jx W hW hJ hJx hY h0 => by
  have ll : Laid W n0 L.length bp bs gp gs cp cd := hl.turn (F := fun j => w.heap.size ≤ j) ⟨hW.os, hW.tape, hW.output, hW.size, fun k hk hn => hW.block k hk⟩ (by
    rintro j (rfl | rfl | rfl | rfl) hj
    · have := (Array.getElem?_eq_some_iff.1 hl.b1).1; omega
    · have := (Array.getElem?_eq_some_iff.1 hl.b2).1; omega
    · have := (Array.getElem?_eq_some_iff.1 hl.r1).1; omega
    · have := (Array.getElem?_eq_some_iff.1 hl.r2).1; omega)
  refine callsIn_of_wp Try.func23 rfl trivial ?_ rfl
  simp only [Try.ntmps23, List.size_toArray, List.length_cons, List.length_nil, Nat.reduceAdd, Nat.reduceSub, Array.replicate_succ, Array.replicate_zero, List.push_toArray, List.append_toArray, List.nil_append, List.cons_append]
  have cb1 : W.cell? ⟨bp, 0, none⟩ = some (.slice (some ⟨gp, 0, none⟩) L.length L.length) := cell_obj ll.b1 0
  have cb2 : W.cell? ⟨bs, 0, none⟩ = some (.slice (some ⟨gs, 0, none⟩) L.length L.length) := cell_obj ll.b2 0
  gi_wp2
  gi_loopw [8] (fun i wr => ∃ (k : Nat) (pre : List Fits), k ≤ L.length ∧ i = .int .i64 k ∧ Hid (ents pre = L.take k) ∧ J pre wr ∧ Laid wr n0 L.length bp bs gp gs cp cd) (fun i _ => L.length - (intOf i).toNat)
  case atStart => exact ⟨0, [], Nat.zero_le _, rfl, hide rfl, h0, ll⟩
  case round =>
    obtain ⟨k, pre, hk, rfl, hpre, hJw, lw⟩ := hrel
    have cb1 : wr.cell? ⟨bp, 0, none⟩ = some (.slice (some ⟨gp, 0, none⟩) L.length L.length) := cell_obj lw.b1 0
    have cb2 : wr.cell? ⟨bs, 0, none⟩ = some (.slice (some ⟨gs, 0, none⟩) L.length L.length) := cell_obj lw.b2 0
    by_cases hlt : k < L.length
    · obtain ⟨⟨a, b, d⟩, hL⟩ : ∃ e, L[k]? = some e := ⟨_, List.getElem?_eq_getElem hlt⟩
      obtain ⟨y0, y1⟩ := qcells_get L k _ hL
      have yd : (dcells L)[k]? = some (.int .i64 d) := by simp [dcells, hL]
      have hfit := hg.1 _ (List.mem_of_getElem? hL)
      have x0 : wr.cell? ⟨gp, k * 2, none⟩ = some (.int .i32 a) := (cell_obj lw.r1 _).trans (by rw [← Array.getElem?_toList, hcp]; exact y0)
      have x1 : wr.cell? ⟨gp, k * 2 + 1, none⟩ = some (.int .i32 b) := (cell_obj lw.r1 _).trans (by rw [← Array.getElem?_toList, hcp]; exact y1)
      have xd : wr.cell? ⟨gs, k, none⟩ = some (.int .i64 d) := (cell_obj lw.r2 _).trans (by rw [← Array.getElem?_toList, hcd]; exact yd)
      have hplen : pre.length = k := by have := congrArg List.length (unhide hpre); simp [ents] at this; omega
      have gw : wr.grownBy (wr.alloc (.cells #[.int .i32 a, .int .i32 b] 30)).drew none := ⟨rfl, rfl, rfl, by simp, fun k hk _ => Below.heap_alloc _ _ _ hk⟩
      have hJ2 := hJ pre _ _ none hJw gw (fun r e => by cases e)
      obtain ⟨fn, tmps, assign, body, hy, hR⟩ := hY pre ⟨(a, b, d), hfit⟩ _ hJ2 (by omega)
      dsimp only [encs] at hy
      have tw : Turn (fun _ => False) wr (wr.alloc (.cells #[.int .i32 a, .int .i32 b] 30)).drew := ((Turn.refl _ wr).alloc _).drew
      have xd' := tw.cell xd id
      have cb2' := tw.cell cb2 id
      have HL := hide hL
      clear hL y0 y1 yd hplen
      have hmix : Try.prog.follows .mixedOrders = true := by kernel_rfl
      have hR' := hR.mono (R' := fun e W' => ∃ bo : Bool, e = .returned (.bool bo) ∧ Hid ((bo = true ∧ J (pre ++ [⟨(a, b, d), hfit⟩]) W' ∧ KeepSeq bp bs gp gs (wr.alloc (.cells #[.int .i32 a, .int .i32 b] 30)).drew W') ∨ (bo = false ∧ Jx (pre ++ [⟨(a, b, d), hfit⟩]) W')))
        (by rintro e W' (⟨rfl, h1, h2⟩ | ⟨rfl, h1⟩)
            · exact ⟨true, rfl, hide (.inl ⟨rfl, h1, h2⟩)⟩
            · exact ⟨false, rfl, hide (.inr ⟨rfl, h1⟩)⟩)
      clear hR
      gi_wp2
      gi_region_with_o (refine hR'.mono ?_; rintro e W2 ⟨bo, rfl, hW2⟩)
      all_goals
        have hpre' : ents (pre ++ [⟨(a, b, d), hfit⟩]) = L.take (k + 1) := by
          rw [List.take_add_one, unhide HL, ← unhide hpre]
          simp [ents]
        have Hp := hide hpre'
        clear hpre' hy hR' cb1 cb2 cb2' xd xd' x0 x1
        rcases unhide hW2 with ⟨rfl, hJ3, hk3⟩ | ⟨rfl, hJx3⟩
        · have lw2 := (lw.turn tw (fun _ _ => id)).keep hk3
          gi_wp2
          exact ⟨⟨k + 1, _, by omega, by go_num, Hp, hJ3, lw2⟩, by simp [intOf]; omega⟩
        · gi_wp2
          refine bodyPost_ret (results_none rfl _ _ _) rfl ?_
          exact ⟨⟨_, rfl⟩, .inr ⟨_, by rw [unhide Hp]; exact List.take_prefix _ _, hJx3⟩⟩
    · have hkl : k = L.length := by omega
      have hfin : ents pre = L := by rw [unhide hpre, hkl, List.take_length]
      have Hf := hide hfin
      clear hfin hkl
      gi_wp2
      go_end0
      exact ⟨⟨_, rfl⟩, .inl ⟨pre, unhide Hf, hJw⟩⟩
end Go.Proofs.Ytffchlpefhldhaa
