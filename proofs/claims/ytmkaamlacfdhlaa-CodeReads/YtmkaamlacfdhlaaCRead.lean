/- The program's reader: where it stands, what is answered. -/
import Derived.Test.YtmkaamlacfdhlaaCTake
namespace Go.Proofs.Ytmkaamlacfdhlaa
open Go.RowKit
set_option linter.unusedVariables false

theorem cell_obj {w : World} {B j : Nat} {cur : Array Value} {e : TypeId} {f : Nat × Nat} (h : w.heap[B]? = some (.cells cur e f)) : w.cell? ⟨B, j, none⟩ = cur[j]? := cell_of_row w B j cur e f h
theorem frozen_obj {w : World} {B : Nat} {cur : Array Value} {e : TypeId} (h : w.heap[B]? = some (.cells cur e (0, 0))) (j : Nat) : w.frozen? ⟨B, j, none⟩ = false := by simp [World.frozen?, h]
theorem heap_setCell_obj {w : World} {B j : Nat} {cur : Array Value} {e : TypeId} (h : w.heap[B]? = some (.cells cur e (0, 0))) (u : Value) : (w.setCell ⟨B, j, none⟩ u).heap[B]? = some (.cells (cur.setIfInBounds j u) e (0, 0)) := by
  have hlt := (Array.getElem?_eq_some_iff.1 h).1
  have h' := (Array.getElem?_eq_some_iff.1 h).2
  show (w.heap.modify B _)[B]? = _
  rw [Array.getElem?_eq_getElem (by rw [Array.size_modify]; exact hlt), Array.getElem_modify_self, h']
  rfl

/-- a reader in block p that has these bytes behind its place, in a row in a block of B, and this fault -/
def RD (B : Nat → Prop) (w : World) (p : Nat) (zs : List Int) (e : Int) : Prop :=
  ∃ x, w.heap[p]? = some (.cells #[x, .int .i64 e] 55 (0, 0)) ∧ Row .u8 B w x zs ∧ ¬ B p
def only (p : Nat) : Nat → Prop := fun k => k = p

theorem RD.turn {B F : Nat → Prop} {w w' : World} {p : Nat} {zs : List Int} {e : Int} (h : RD B w p zs e) (ht : Turn F w w') (hp : ¬ F p) (hB : ∀ b, B b → ¬ F b) : RD B w' p zs e := by
  obtain ⟨x, h1, h2, h3⟩ := h
  exact ⟨x, (ht.block p (Array.getElem?_eq_some_iff.1 h1).1 hp).trans h1, h2.turn ht hB, h3⟩

theorem turn_set (w : World) (p j : Nat) (u : Value) : Turn (only p) w (w.setCell ⟨p, j, none⟩ u) := Turn.setCell (F := only p) (Turn.refl _ w) (p := ⟨p, j, none⟩) (.inl rfl) u
theorem RD.rest {B : Nat → Prop} {w : World} {p : Nat} {x : Value} {zs' : List Int} {e : Int} (h : w.heap[p]? = some (.cells #[x, .int .i64 e] 55 (0, 0))) (hp : ¬ B p) {x' : Value} (hr : Row .u8 B w x' zs') : RD B (w.setCell ⟨p, 0, none⟩ x') p zs' e :=
  ⟨x', heap_setCell_obj h x', hr.turn (turn_set w p 0 x') (fun b hb e => hp (by cases e; exact hb)), hp⟩
theorem RD.fault {B : Nat → Prop} {w : World} {p : Nat} {x : Value} {zs : List Int} {e : Int} (h : w.heap[p]? = some (.cells #[x, .int .i64 e] 55 (0, 0))) (hp : ¬ B p) (hr : Row .u8 B w x zs) (e' : Int) : RD B (w.setCell ⟨p, 1, none⟩ (.int .i64 e')) p zs e' :=
  ⟨x, heap_setCell_obj h _, hr.turn (turn_set w p 1 _) (fun b hb e => hp (by cases e; exact hb)), hp⟩

theorem dec_fault0 {zs : List Int} (h : (dec 0 0 zs).2.2 ≠ 0) : dec 0 0 zs = (0, 0, (dec 0 0 zs).2.2) := dec_fault zs 0 0 h

theorem smallT_e {m : Nat} {r : List Int} {e : Int} (h : e ≠ 0) : smallT m r e = (0, r, e) := by unfold smallT; rw [if_pos h]
theorem smallT_f {m : Nat} {r : List Int} {f : Int} (hd : dec 0 0 r = (0, 0, f)) (h : f ≠ 0) : smallT m r 0 = (0, r, f) := by
  unfold smallT; rw [if_neg (by simp), hd, if_pos h]
theorem smallT_m {m : Nat} {r : List Int} {v n : Nat} (hd : dec 0 0 r = (v, n, 0)) (h : m < v) : smallT m r 0 = (0, r, 10) := by
  unfold smallT; rw [if_neg (by simp), hd, if_neg (by simp), if_pos h]
theorem smallT_k {m : Nat} {r : List Int} {v n : Nat} (hd : dec 0 0 r = (v, n, 0)) (h : v ≤ m) : smallT m r 0 = (v, r.drop n, 0) := by
  unfold smallT; rw [if_neg (by simp), hd, if_neg (by simp), if_neg (show ¬ m < v by omega)]

set_option maxHeartbeats 1000000 in
theorem rtake_walk (B : Nat → Prop) (p : Nat) (zs : List Int) (e : Int) (m : Nat) (w : World) (hr : RD B w p zs e) (hb : Bytes zs) (hm : m < 18446744073709551616) :
    Calls Try.prog 35 #[.pointer (some ⟨p, 0, none⟩), .int .u64 (m : Int)] w fun en w' => en = .returned (.int .u64 ((smallT m zs e).1 : Nat)) ∧ RD B w' p (smallT m zs e).2.1 (smallT m zs e).2.2 ∧ Turn (only p) w w' := by
  obtain ⟨x, hx, hrow, hp⟩ := hr
  have hc0 : w.cell? ⟨p, 0, none⟩ = some x := cell_obj hx
  have hc1 : w.cell? ⟨p, 1, none⟩ = some (.int .i64 e) := cell_obj hx
  have hf0 := frozen_obj hx 0
  have hf1 := frozen_obj hx 1
  obtain ⟨i0, hi, hz0, hz1, hz2⟩ := info_parts info_u8
  by_cases he : e = 0
  · subst he
    obtain ⟨a, c, rfl⟩ := hrow.slice
    have hnum := number_any B _ zs w hb hrow
    generalize hd : dec 0 0 zs = D at hnum
    obtain ⟨v, n, f⟩ := D
    by_cases hf : f = 0
    · subst hf
      obtain ⟨h1, h2, h3, h4, h5⟩ := dec_ok hb hd
      have Hd := hide hd
      clear h1 hd
      by_cases hv : m < v
      · rw [smallT_m (unhide Hd) hv]
        go_enter Try.func35, Try.ntmps35
        go_wp2_with fail
        refine hnum.mono ?_
        rintro en w' ⟨rfl, hw⟩
        subst hw
        clear hnum
        go_wp2
        go_ret
        exact ⟨rfl, RD.fault hx hp hrow 10, turn_set _ _ _ _⟩
      · rw [smallT_k (unhide Hd) (show v ≤ m by omega)]
        obtain ⟨x', hrun, hrow'⟩ := cut_from (P := Try.prog) (ki := .i64) Try.underlying23 hi hz1 hrow n h3
        go_enter Try.func35, Try.ntmps35
        go_wp2_with fail
        refine hnum.mono ?_
        rintro en w' ⟨rfl, hw⟩
        subst hw
        clear hnum
        obtain ⟨a', c', rfl⟩ := hrow'.slice
        rw [List.length_drop] at hrow'
        go_wp2
        go_ret
        exact ⟨rfl, RD.rest hx hp hrow', turn_set _ _ _ _⟩
    · have hd2 := dec_fault0 (zs := zs) (by rw [hd]; exact hf)
      rw [hd] at hd2
      simp only [Prod.mk.injEq, and_true] at hd2
      obtain ⟨rfl, rfl⟩ := hd2
      rw [smallT_f hd hf]
      have Hd := hide hd
      clear hd
      go_enter Try.func35, Try.ntmps35
      go_wp2_with fail
      refine hnum.mono ?_
      rintro en w' ⟨rfl, hw⟩
      subst hw
      clear hnum
      go_wp2
      go_ret
      exact ⟨rfl, RD.fault hx hp hrow f, turn_set _ _ _ _⟩
  · rw [smallT_e he]
    go_enter Try.func35, Try.ntmps35
    go_wp2
    go_ret
    exact ⟨rfl, ⟨x, hx, hrow, hp⟩, Turn.refl _ _⟩
end Go.Proofs.Ytmkaamlacfdhlaa
