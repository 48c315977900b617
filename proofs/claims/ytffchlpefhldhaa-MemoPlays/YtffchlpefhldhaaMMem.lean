/- A memo in memory, and what its smaller calls do. -/
import Derived.Test.YtffchlpefhldhaaMPure
import Derived.Deep.QuietTactic
import Derived.BigQuiet
namespace Go.Proofs.Ytffchlpefhldhaa
open Go.RowKit Go.Maps
set_option linter.unusedVariables false

/-- the two maps tell what the list tells -/
structure Told (w : World) (bd bc k : Nat) (L : List Ent) : Prop where
  d : ∃ D, w.ownsMap Try.prog 30 (plainElem Try.prog 2) bd k D ∧ Tells D (dist L) ∧ Haves D (keyed L)
  c : ∃ C, w.ownsMap Try.prog 60 (plainElem Try.prog 3) bc k C ∧ Tells C (cnt L)

/-- a memo of that room that holds L: at block B, its maps at bd and bc, its queue at qv -/
structure Mem (w : World) (B bd bc : Nat) (qv : Value) (k : Nat) (most : Nat) (L : List Ent) : Prop where
  obj : w.heap[B]? = some (.cells #[.int .i64 most, .map (some bd), qv, .map (some bc)] 57 (0, 0))
  ne : bd ≠ bc
  told : Told w bd bc k L
  q : OwnSl w 30 2 qv L.length (qcells L)
  good : Good L
  m1 : 1 ≤ most
  m2 : most ≤ 65536
  len : L.length ≤ most
  room : k < 1000000000000

/-- the blocks that are a memo's -/
def Foot (B bd bc : Nat) (qv : Value) (j : Nat) : Prop := j = B ∨ j = bd ∨ j = bc ∨ qv.ownBlock = some j

theorem Told.turn {F : Nat → Prop} {w w' : World} {bd bc k : Nat} {L : List Ent} (h : Told w bd bc k L) (t : Turn F w w') (h1 : ¬ F bd) (h2 : ¬ F bc) : Told w' bd bc k L := by
  obtain ⟨⟨D, o, f⟩, ⟨C, o', f'⟩⟩ := h
  exact ⟨⟨D, t.map o h1, f⟩, ⟨C, t.map o' h2, f'⟩⟩
theorem Told.mono {w : World} {bd bc k k' : Nat} {L : List Ent} (h : Told w bd bc k L) (hk : k ≤ k') : Told w bd bc k' L := by
  obtain ⟨⟨D, o, f⟩, ⟨C, o', f'⟩⟩ := h
  exact ⟨⟨D, o.mono hk, f⟩, ⟨C, o'.mono hk, f'⟩⟩
theorem Told.neB {w : World} {B bd bc k : Nat} {L : List Ent} {cur : Array Value} {e : TypeId} (h : Told w bd bc k L) (hB : w.heap[B]? = some (.cells cur e (0, 0))) : B ≠ bd ∧ B ≠ bc := by
  obtain ⟨⟨D, o, f⟩, ⟨C, o', f'⟩⟩ := h
  constructor
  · rintro rfl; obtain ⟨es, cl, hb, _⟩ := o; rw [hB] at hb; cases hb
  · rintro rfl; obtain ⟨es, cl, hb, _⟩ := o'; rw [hB] at hb; cases hb

theorem Mem.turn {F : Nat → Prop} {w w' : World} {B bd bc k most : Nat} {qv : Value} {L : List Ent} (h : Mem w B bd bc qv k most L) (t : Turn F w w') (hF : ∀ j, Foot B bd bc qv j → ¬ F j) : Mem w' B bd bc qv k most L :=
  ⟨t.same h.obj (hF B (.inl rfl)), h.ne, h.told.turn t (hF bd (.inr (.inl rfl))) (hF bc (.inr (.inr (.inl rfl)))), h.q.turn t (fun j hj => hF j (.inr (.inr (.inr hj)))), h.good, h.m1, h.m2, h.len, h.room⟩
/-- a memo's blocks are there -/
theorem Mem.lt {w : World} {B bd bc k most : Nat} {qv : Value} {L : List Ent} (h : Mem w B bd bc qv k most L) : ∀ j, Foot B bd bc qv j → j < w.heap.size := by
  obtain ⟨⟨D, od, _⟩, ⟨C, oc, _⟩⟩ := h.told
  rintro j (rfl | rfl | rfl | hj)
  · exact (Array.getElem?_eq_some_iff.1 h.obj).1
  · exact od.lt
  · exact oc.lt
  · obtain ⟨cur, hc⟩ := h.q.lt j hj; exact (Array.getElem?_eq_some_iff.1 hc).1

set_option maxHeartbeats 1000000 in
theorem forget_walk (w : World) (B bd bc k : Nat) (m0 qv : Value) (X Y : List Ent) (a b d : Int)
    (hB : w.heap[B]? = some (.cells #[m0, .map (some bd), qv, .map (some bc)] 57 (0, 0))) (hne : bd ≠ bc) (ht : Told w bd bc k (X ++ (a, b, d) :: Y)) (hg : Good (X ++ (a, b, d) :: Y)) (hl : (X ++ (a, b, d) :: Y).length ≤ 100000) (hk : k + 2 < maxLen) :
    Calls Try.prog 20 #[.pointer (some ⟨B, 0, none⟩), .agg #[.int .i32 a, .int .i32 b]] w fun e w' => e = .returned (.tuple #[]) ∧ Turn (fun j => j = bd ∨ j = bc) w w' ∧ Told w' bd bc (k + 2) (X ++ Y) := by
  obtain ⟨hBd, hBc⟩ := ht.neB hB
  obtain ⟨⟨D, od, fd, hd⟩, ⟨C, oc, fc⟩⟩ := ht
  have wab := hg.1 (a, b, d) (by simp)
  obtain ⟨wa, wb, wd⟩ := wab
  simp only at wa wb wd
  go_enter Try.func20, Try.ntmps20
  go_wp2
  have tW : Turn (fun j => j = bd ∨ j = bc) w (w.alloc (.cells #[.int .i32 a, .int .i32 b] 30)) := (Turn.refl _ w).alloc _
  have hB1 := tW.same hB (by omega)
  have k0 : (w.alloc (.cells #[.int .i32 a, .int .i32 b] 30)).heap[w.heap.size]? = some (.cells #[.int .i32 a, .int .i32 b] 30 (0, 0)) := heap_alloc_new w _
  have hn1 : w.heap.size ≠ bd := fun e => by have := od.lt; omega
  have hn2 : w.heap.size ≠ bc := fun e => by have := oc.lt; omega
  have od1 := od.alloc (.cells #[.int .i32 a, .int .i32 b] 30)
  have oc1 := oc.alloc (.cells #[.int .i32 a, .int .i32 b] 30)
  generalize w.alloc (.cells #[.int .i32 a, .int .i32 b] 30) = W at *
  generalize w.heap.size = g at *
  have c1 : W.cell? ⟨B, 1, none⟩ = some (.map (some bd)) := cell_obj hB1 1
  have p0 : W.cell? ⟨g, 0, none⟩ = some (.int .i32 a) := cell_obj k0 0
  have p1 : W.cell? ⟨g, 1, none⟩ = some (.int .i32 b) := cell_obj k0 1
  obtain ⟨w5, hdl, o5, t5⟩ := World.ownsMap.drop (w := W.drew) (e := 2) od1 mLawP Try.underlying54 (keyOf_P wa wb) 0
  have t5' : Turn (fun j => j = bd) W w5 := (Turn.grown (F := fun j => j = bd) t5.grown (fun k e => by cases e; rfl)).undrew
  go_region
  have hB5 := t5'.same hB1 hBd
  have q0 := t5'.cell p0 hn1
  have q1 := t5'.cell p1 hn1
  have oc5 := t5'.map oc1 (fun e => hne e.symm)
  clear c1 p0 p1 hdl k0 hB1 t5
  go_wp2_with fail
  have b1 := cnt_bd (X ++ (a, b, d) :: Y) a 0
  have b2 := cnt_bd (X ++ (a, b, d) :: Y) b 1
  refine (count_walk _ B bc k m0 _ qv C _ a b (-1) wa wb hB5 oc5 (by omega) fc (by omega) (by omega) (by omega) (by omega)).mono ?_
  rintro e w6 ⟨rfl, t6, C6, o6, f6⟩
  go_wp2_with fail
  go_end0
  refine ⟨rfl, (tW.then (t5'.mono (fun j h => .inl h))).then (t6.mono (fun j h => .inr h)), ⟨⟨_, (t6.map o5 hne).mono (by omega), ?_, ?_⟩, ⟨C6, o6, ?_⟩⟩⟩
  · rw [dist_strike hg]; exact fd.del wa wb
  · rw [keyed_strike hg]; exact hd.del wa wb
  · rw [cnt_strike X Y a b d]; exact f6
end Go.Proofs.Ytffchlpefhldhaa
