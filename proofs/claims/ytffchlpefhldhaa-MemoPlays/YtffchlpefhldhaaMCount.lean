import Derived.Test.YtffchlpefhldhaaMRaise
namespace Go.Proofs.Ytffchlpefhldhaa
open Go.RowKit Go.Maps
set_option linter.unusedVariables false

theorem mKLawA : WideMaps.KeyLaw Try.prog 60 := deep_law_laid mLaid (m := 3) (by omega) (of_decide_eq_true (by kernel_rfl)) (by kernel_rfl) (by rw [Try.underlying60])

theorem cell_obj {w : World} {B : Nat} {cur : Array Value} {e : TypeId} (h : w.heap[B]? = some (.cells cur e (0, 0))) (j : Nat) : w.cell? ⟨B, j, none⟩ = cur[j]? := by
  rw [cell_of_row w B j cur e (0, 0) h]

set_option maxHeartbeats 1000000 in
theorem countEnd_walk (w : World) (B bc n : Nat) (m0 m1 qv : Value) (C : DataW Unit) (f : Int → Int → Int) (a s more : Int) (wa : I32 a) (ws : I32 s)
    (hB : w.heap[B]? = some (.cells #[m0, m1, qv, .map (some bc)] 57 (0, 0))) (ho : w.ownsMap Try.prog 60 (plainElem Try.prog 3) bc n C) (hn : n < maxLen) (hf : Tells C f)
    (h1 : -1000000 ≤ f a s + more) (h2 : f a s + more ≤ 1000000) :
    Calls Try.prog 24 #[.pointer (some ⟨B, 0, none⟩), .agg #[.int .i32 a, .int .i32 s], .int .i64 more] w fun e w' => e = .returned (.tuple #[]) ∧ Turn (fun j => j = bc) w w' ∧
      ∃ C', w'.ownsMap Try.prog 60 (plainElem Try.prog 3) bc (n + 1) C' ∧ Tells C' (upd f a s (f a s + more)) := by
  have hBc : B ≠ bc := by rintro rfl; obtain ⟨es, cl, hb, _⟩ := ho; rw [hB] at hb; cases hb
  go_enter Try.func24, Try.ntmps24
  go_wp2
  have tW : Turn (fun j => j = bc) w (w.alloc (.cells #[.int .i32 a, .int .i32 s] 60)) := (Turn.refl _ w).alloc _
  have hB1 := tW.same hB hBc
  have k0 : (w.alloc (.cells #[.int .i32 a, .int .i32 s] 60)).heap[w.heap.size]? = some (.cells #[.int .i32 a, .int .i32 s] 60 (0, 0)) := heap_alloc_new w _
  have hne : w.heap.size ≠ bc := fun e => by have := ho.lt; omega
  have ho1 := ho.alloc (.cells #[.int .i32 a, .int .i32 s] 60)
  generalize w.alloc (.cells #[.int .i32 a, .int .i32 s] 60) = W at *
  generalize w.heap.size = g at *
  have c3 : W.cell? ⟨B, 3, none⟩ = some (.map (some bc)) := cell_obj hB1 3
  have p0 : W.cell? ⟨g, 0, none⟩ = some (.int .i32 a) := cell_obj k0 0
  have p1 : W.cell? ⟨g, 1, none⟩ = some (.int .i32 s) := cell_obj k0 1
  obtain ⟨c, hc⟩ : ∃ c, f a s = c := ⟨_, rfl⟩
  rw [hc] at h1 h2
  have hx : wrap64 (c + more) = c + more := by unfold wrap64; omega
  obtain ⟨st, w2, w4, r1, r2, r3, r4, g2, g4, o4⟩ := run_raise_any (w := W.drew) (x := c + more) mKLawA Try.underlying55 Try.underlying3 mZero3 ho1 hn (keyOf_A wa ws) (c := c) (by rw [← hc]; exact hf.2 a s wa ws) (WalkArith.wf_i64 (by omega)) (kl_key _ _)
  go_region
  have t4 : Turn (fun j => j = bc) W w4 := (Turn.grown (F := fun j => j = bc) g4 (fun k e => by cases e; rfl)).undrew
  have c3' := t4.cell c3 hBc
  have p0' := t4.cell p0 hne
  have p1' := t4.cell p1 hne
  have f4 := hf.put wa ws (c + more)
  clear r1 r2 r3 r4 g2 g4 c3 p0 p1 hB1 k0 ho1
  obtain ⟨c', hl, hc', _⟩ := (World.ownsMap.lookup_int (w := w4.drew) o4 mLawA Try.underlying55 Try.underlying3 (mZero3 _) (keyOf_A wa ws))
  have ec : c' = c + more := by have := f4.2 a s wa ws; rw [hc'] at this; simp [upd] at this; exact this
  subst ec
  clear hc' hx
  by_cases hz : c + more = 0
  · have hb : (c + more == 0) = true := by simp [hz]
    go_wp2
    go_region
    go_wp2
    obtain ⟨w5, hd, o5, t5⟩ := World.ownsMap.drop (w := w4.drew.drew) (e := 3) o4 mLawA Try.underlying55 (keyOf_A wa ws) 0
    have t5' : Turn (fun j => j = bc) w4 w5 := (Turn.grown (F := fun j => j = bc) t5.grown (fun k e => by cases e; rfl)).undrew.undrew
    have f5 := f4.del wa ws
    rw [upd_upd] at f5
    have hz' := hide hz
    clear hz
    go_region
    go_end0
    refine ⟨rfl, (tW.then t4).then t5', _, o5, ?_⟩
    have e5 : upd f a s (f a s + more) = upd f a s 0 := by rw [hc, unhide hz']
    rw [e5]; exact f5
  · have hb : (c + more == 0) = false := by simp [hz]
    clear hz
    go_wp2
    go_region
    go_wp2
    go_end0
    refine ⟨rfl, (tW.then t4).drew, _, o4, ?_⟩
    rw [hc]; exact f4

/-- both ends of a pair are counted -/
def bump (f : Int → Int → Int) (a b more : Int) : Int → Int → Int := if a = b then upd f a 0 (f a 0 + more) else upd (upd f a 0 (f a 0 + more)) b 1 (f b 1 + more)

theorem i32_0 : I32 0 := by unfold I32; decide
theorem i32_1 : I32 1 := by unfold I32; decide

set_option maxHeartbeats 1000000 in
theorem count_walk (w : World) (B bc n : Nat) (m0 m1 qv : Value) (C : DataW Unit) (f : Int → Int → Int) (a b more : Int) (wa : I32 a) (wb : I32 b)
    (hB : w.heap[B]? = some (.cells #[m0, m1, qv, .map (some bc)] 57 (0, 0))) (ho : w.ownsMap Try.prog 60 (plainElem Try.prog 3) bc n C) (hn : n + 1 < maxLen) (hf : Tells C f)
    (h1 : -1000000 ≤ f a 0 + more) (h2 : f a 0 + more ≤ 1000000) (h3 : -1000000 ≤ f b 1 + more) (h4 : f b 1 + more ≤ 1000000) :
    Calls Try.prog 19 #[.pointer (some ⟨B, 0, none⟩), .agg #[.int .i32 a, .int .i32 b], .int .i64 more] w fun e w' => e = .returned (.tuple #[]) ∧ Turn (fun j => j = bc) w w' ∧
      ∃ C', w'.ownsMap Try.prog 60 (plainElem Try.prog 3) bc (n + 2) C' ∧ Tells C' (bump f a b more) := by
  have hBc : B ≠ bc := by rintro rfl; obtain ⟨es, cl, hb, _⟩ := ho; rw [hB] at hb; cases hb
  go_enter Try.func19, Try.ntmps19
  go_wp2_with fail
  have tW : Turn (fun j => j = bc) w (w.alloc (.cells #[.int .i32 a, .int .i32 b] 30)) := (Turn.refl _ w).alloc _
  have k0 : (w.alloc (.cells #[.int .i32 a, .int .i32 b] 30)).heap[w.heap.size]? = some (.cells #[.int .i32 a, .int .i32 b] 30 (0, 0)) := heap_alloc_new w _
  have hne : w.heap.size ≠ bc := fun e => by have := ho.lt; omega
  refine (countEnd_walk _ B bc n m0 m1 qv C f a 0 more wa i32_0 (tW.same hB hBc) (ho.alloc _) (by omega) hf h1 h2).mono ?_
  rintro e w1 ⟨rfl, t1, C1, o1, f1⟩
  have hB1 := t1.same (tW.same hB hBc) hBc
  have k1 := t1.same k0 hne
  have p0 := cell_obj k1 0
  have p1 := cell_obj k1 1
  have tt := tW.then t1
  clear k0 k1 t1 tW
  generalize w.heap.size = g at *
  simp at p0 p1
  by_cases e : a = b
  · subst e
    go_wp2_with fail
    go_end0
    refine ⟨rfl, tt, C1, o1.mono (by omega), ?_⟩
    unfold bump; rw [if_pos rfl]; exact f1
  · have he : (a != b) = true := by simp [e]
    have e' := hide e
    clear e
    go_wp2_with fail
    refine (countEnd_walk _ B bc (n + 1) m0 m1 qv C1 _ b 1 more wb i32_1 hB1 o1 hn f1 ?_ ?_).mono ?_
    · simp [upd]; exact h3
    · simp [upd]; exact h4
    rintro e w2 ⟨rfl, t2, C2, o2, f2⟩
    go_wp2_with fail
    go_end0
    refine ⟨rfl, tt.then t2, C2, o2, ?_⟩
    unfold bump; rw [if_neg (unhide e')]
    simp [upd] at f2 ⊢
    exact f2
end Go.Proofs.Ytffchlpefhldhaa
