/- A search begins; one that has nothing to go through. -/
import Derived.Test.YtombpfpfeebnpaaSRunW
import Derived.Test.YtombpfpfeebnpaaSMore
import Derived.Test.YtombpfpfeebnpaaLawNil9
import Derived.Test.YtombpfpfeebnpaaLawNil10
namespace Go.Proofs.Ytombpfpfeebnpaa
open Go.RowKit Go.Maps
set_option linter.unusedVariables false
set_option linter.unusedSimpArgs false
set_option maxRecDepth 100000

theorem Dij.congr {n : Nat} {E : Goes} {s : Int} {L : List Int} {T T' R : List It} {Dn : Goes} (h : Dij n E s L T R Dn) (hT : ∀ u, u ∈ T' ↔ u ∈ T) : Dij n E s L T' R Dn :=
  { h with heap := fun y => (hT y).trans (h.heap y), low := fun y hy z hz => h.low y hy z ((hT z).1 hz) }
theorem dij_start' {n : Nat} {E : Goes} {v : Nat} {T : List It} (hv : v < n) (hT : ∀ u, u ∈ T ↔ u = (v, 0) ∨ u ∈ ([] : List It) ∧ u.1 ≠ v) : Dij n E v ((List.replicate n INF).set v 0) T [] E :=
  (dij_start hv).congr (fun u => by rw [hT u]; simp)

/-- a search that has begun: one node is seen, or there is nothing -/
def Begun (w : World) (s0 S db n : Nat) (av ev : Value) (E : Goes) (v : Int) : Prop :=
  (0 ≤ v ∧ v < n ∧ ∃ H L T, SrAt w S av ev db n (.pointer (some ⟨H, 0, none⟩)) L ∧ HAt w H n (fun j => s0 ≤ j ∧ ¬ False) T ∧ Dij n E v L T [] E) ∨
  (¬ (0 ≤ v ∧ v < n) ∧ SrAt w S av ev db n (.pointer none) (List.replicate n INF))

set_option maxHeartbeats 8000000 in
theorem start_walk (E : Goes) (w : World) (n : Nat) (v : Int) (fa fe : Fn) (ca ce : Array Value) (hn : n ≤ 4194304) :
    Calls Try.prog 30 #[.int .i64 (n : Int), .int .i64 v, .func fa ca #[], .func fe ce #[]] w fun e w' => ∃ S db, e = .returned (.pointer (some ⟨S, 0, none⟩)) ∧ Turn (fun _ => False) w w' ∧ w.heap.size ≤ S ∧ w.heap.size ≤ db ∧ Begun w' w.heap.size S db n (.func fa ca #[]) (.func fe ce #[]) E v := by
  have tx := (Turn.refl (fun _ => False) w).alloc (.cells #[.int .i64 1152921504606846976] 2)
  have hx := heap_alloc_new w (.cells #[.int .i64 1152921504606846976] 2)
  have hrep := repeat_walk _ _ n hn hx
  go_enter Try.func30, Try.ntmps30
  go_wp2_with fail
  refine hrep.mono ?_
  rintro e w1 ⟨db, rfl, hdb, hND, t1⟩
  have T1 := tx.then t1
  have ts := (Turn.refl (fun _ => False) w1).alloc (.cells #[.func fa ca #[], .func fe ce #[], .slice (some ⟨db, 0, none⟩) n n, .pointer none] 66)
  have hs := heap_alloc_new w1 (.cells #[.func fa ca #[], .func fe ce #[], .slice (some ⟨db, 0, none⟩) n n, .pointer none] 66)
  have hSr : SrAt (w1.alloc (.cells #[.func fa ca #[], .func fe ce #[], .slice (some ⟨db, 0, none⟩) n n, .pointer none] 66)) w1.heap.size (.func fa ca #[]) (.func fe ce #[]) db n (.pointer none) (List.replicate n INF) := ⟨hs, hND.turn ts (fun h => h)⟩
  have T2 := T1.then ts
  have hszS : w.heap.size ≤ w1.heap.size := T1.size
  have hszd : w.heap.size ≤ db := by have := tx.size; omega
  have hnode := snode_walk (w1.alloc (.cells #[.func fa ca #[], .func fe ce #[], .slice (some ⟨db, 0, none⟩) n n, .pointer none] 66)) v (n : Int)
  clear hrep hx tx t1 T1 hND ts hs
  go_wp2_with fail
  generalize w1.alloc (.cells #[.func fa ca #[], .func fe ce #[], .slice (some ⟨db, 0, none⟩) n n, .pointer none] 66) = W at *
  generalize w1.heap.size = S at *
  refine hnode.mono ?_
  rintro e w2 ⟨rfl, rfl⟩
  by_cases hv : 0 ≤ v ∧ v < n
  · rw [decide_eq_true hv]
    obtain ⟨v', rfl⟩ : ∃ v' : Nat, v = v' := ⟨v.toNat, by omega⟩
    have hv' : v' < n := by omega
    have hnew := newH w2 n (by omega) hn
    have HV := hide hv
    clear hnode hv
    go_wp2_with fail
    refine hnew.mono ?_
    rintro e w3 ⟨H, rfl, t3, hH, hh⟩
    have hSr3 := hSr.turn t3 (fun h => h) (fun h => h)
    have c3 : w3.cell? ⟨S, 3, none⟩ = some (.pointer none) := cell_obj hSr3.1 3
    have z3 : w3.frozen? ⟨S, 3, none⟩ = false := frozen_obj hSr3.1 3
    have t4 : Turn (fun j => j = S) w3 (w3.setCell ⟨S, 3, none⟩ (.pointer (some ⟨H, 0, none⟩))) := (Turn.refl (fun j => j = S) w3).setCell (p := ⟨S, 3, none⟩) (.inl rfl) _
    have hSd : db ≠ S := by
      rintro rfl
      obtain ⟨cur, hc⟩ := hSr3.2.obj
      rw [hSr3.1] at hc; simp at hc
    have hSr4 : SrAt (w3.setCell ⟨S, 3, none⟩ (.pointer (some ⟨H, 0, none⟩))) S (.func fa ca #[]) (.func fe ce #[]) db n (.pointer (some ⟨H, 0, none⟩)) (List.replicate n INF) := ⟨(heap_setCell_obj (j := 3) hSr3.1 (.pointer (some ⟨H, 0, none⟩))).trans (by rfl), hSr3.2.turn t4 hSd⟩
    have hh4 := hh.pure.turn t4 (fun j q e => q.2 (by rw [e]; exact hSr3.other.1))
    have T4 : Turn (fun j => w.heap.size ≤ j) w (w3.setCell ⟨S, 3, none⟩ (.pointer (some ⟨H, 0, none⟩))) := ((T2.then t3).mono (fun _ h => h.elim)).then (t4.mono (fun j e => by rw [e]; exact hszS))
    have hold : (List.replicate n INF)[v']? = some INF := by simp [hv']
    have hsz2 := T2.size
    have hnp : ∀ j, (w2.heap.size ≤ j ∧ ¬ Other w3 j) → (w.heap.size ≤ j ∧ ¬ False) := fun j q => ⟨by omega, fun h => h⟩
    have hsee := see_walk hSr4 hh4 (fun j hj => ⟨Nat.le_trans t3.size (Nat.le_trans t4.size hj), fun q => by have := q.lt; have := t4.size; omega⟩) (fun q => q.2 hSr3.other.1) (fun q => q.2 hSr3.other.2) v' 0 INF hv' hold (fun _ h => absurd h (Int.lt_irrefl _)) (fun _ r h => by simp at h)
    have HS := hide hSr
    clear hSr hSr3 hh hh4 hSr4 hnew t3 t4 hold hsz2
    go_wp2_with fail
    refine hsee.mono ?_
    rintro e w5 ⟨rfl, t5, h5⟩
    have hb : Begun w5 w.heap.size S db n (.func fa ca #[]) (.func fe ce #[]) E (v' : Int) := by
      rcases h5 with ⟨h1, _⟩ | ⟨_, _, h3, T', h4, h5⟩
      · exact absurd (by decide : (0 : Int) < INF ∧ (0 : Int) < INF) h1
      · exact .inl ⟨(unhide HV).1, (unhide HV).2, H, _, T', h3, h4.mono hnp, dij_start' hv' h5⟩
    have T5 : Turn (fun _ => False) w w5 := (T4.then (t5.mono (fun j q => q.elim (fun q => (hnp j q).1) (fun q => by rw [q]; exact hszd)))).fresh (fun j q => q)
    clear hsee h5 t5 T4
    go_wp2_with fail
    go_ret
    exact ⟨S, db, rfl, T5, hszS, hszd, hb⟩
  · rw [decide_eq_false hv]
    have hb : Hid (Begun w2 w.heap.size S db n (.func fa ca #[]) (.func fe ce #[]) E v) := hide (.inr ⟨hv, hSr⟩)
    clear hnode hv hSr
    go_wp2_with fail
    go_ret
    exact ⟨S, db, rfl, T2, hszS, hszd, unhide hb⟩

set_option maxHeartbeats 4000000 in
/-- a search that has nothing to go through ends at once -/
theorem run_none {w : World} {S db n : Nat} {av ev : Value} {L : List Int} {f : Nat} {caps : Array Value} (h : SrAt w S av ev db n (.pointer none) L) :
    Calls Try.prog 28 #[.pointer (some ⟨S, 0, none⟩), .func (.func f) #[] caps] w fun e w' => e = .returned (.tuple #[]) ∧ Turn (fun _ => False) w w' := by
  go_enter Try.func28, Try.ntmps28
  go_wp2_with fail
  go_step3
  go_wp2_with fail
  go_step3
  go_wp2_with fail
  go_loopg [] 0 (fun k wr => wr = w)
  case atStart => rfl
  case round =>
    subst hrel
    have c3 : wr.cell? ⟨S, 3, none⟩ = some (.pointer none) := cell_obj h.1 3
    have hpop := pop_nil wr
    clear h
    go_wp2_with (go_at_call 48; refine hpop.mono ?_; rintro e w2 ⟨rfl, t2⟩)
    rw [Exit.noGoto_normal]
    have t3 := t2.alloc (.cells #[.int .i64 0, .int .i64 0] 71)
    go_end0
    exact ⟨rfl, t3⟩
end Go.Proofs.Ytombpfpfeebnpaa
