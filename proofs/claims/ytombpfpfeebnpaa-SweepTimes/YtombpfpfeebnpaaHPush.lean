/- Heap: Push, New. -/
import Derived.Test.YtombpfpfeebnpaaHCalls
namespace Go.Proofs.Ytombpfpfeebnpaa
open Go.RowKit Go.Maps
set_option linter.unusedVariables false
set_option linter.unusedSimpArgs false

theorem two_new (w : World) (T : TypeId) (x y : Value) : ∀ (j : Nat) (u : Value), [x, y][j]? = some u → (w.alloc (.cells #[x, y] T)).cell? (Addr.add ⟨w.heap.size, 0, none⟩ j) = some u := by
  intro j u hu
  match j, hu with
  | 0, hu => simp at hu; subst hu; simp [Addr.add]
  | 1, hu => simp at hu; subst hu; simp [Addr.add]
  | j + 2, hu => simp at hu

set_option maxHeartbeats 1000000 in
theorem pushH {w : World} {B n : Nat} {F : Nat → Prop} {T : List It} (h : HAt w B n F T) (hF : ∀ j, w.heap.size ≤ j → F j) (id rank : Int) :
    Calls Try.prog 60 #[.pointer (some ⟨B, 0, none⟩), .int .i64 id, .int .i64 rank] w fun e w' => Turn F w w' ∧
      ((¬ (0 ≤ id ∧ id < n) ∧ HAt w' B n F T ∧ e = .returned (.int .i64 1)) ∨
       (∃ (i : Nat) (r : Int), id = i ∧ (i, r) ∈ T ∧ HAt w' B n F T ∧ e = .returned (.int .i64 5)) ∨
       ∃ (i : Nat) (T' : List It), id = i ∧ i < n ∧ (∀ r : Int, (i, r) ∉ T) ∧ HAt w' B n F T' ∧ T'.length = T.length + 1 ∧ (∀ u, u ∈ T' ↔ u = (i, rank) ∨ u ∈ T) ∧ e = .returned (.int .i64 0)) := by
  have hh := hasH h id
  by_cases hi : 0 ≤ id ∧ id < n
  · rw [decide_eq_true hi] at hh
    obtain ⟨i, rfl⟩ : ∃ i : Nat, id = i := ⟨id.toNat, by omega⟩
    have hin : i < n := by omega
    have h' := hide h
    obtain ⟨tv, pv, P, a, b, c, d⟩ := h
    have hpl := b.pl
    obtain ⟨gp, offp, capp, rfl⟩ := a.pform (by omega)
    have f1 : w.cell? ⟨B, 1, none⟩ = some (.slice (some ⟨gp, offp, none⟩) P.length capp) := cell_obj a.obj 1
    obtain ⟨p, hp⟩ : ∃ p, P[i]? = some p := ⟨P[i]'(by omega), by simp [show i < P.length by omega]⟩
    have hiP : i < P.length := by omega
    have q0 := a.pcell hp
    by_cases h0 : p = 0
    · subst h0
      obtain ⟨at_, capt, rfl⟩ := a.tany
      have f0 : w.cell? ⟨B, 0, none⟩ = some (.slice at_ T.length capt) := cell_obj a.obj 0
      have hout : ∀ r : Int, (i, r) ∉ T := fun r hm => by
        obtain ⟨k, hk⟩ := List.mem_iff_getElem?.1 hm
        have := b.idx k _ hk
        simp only at this
        rw [hp] at this; simp at this; omega
      have hlt := b.push_len hp
      obtain ⟨c1, c2, c3⟩ := b.push (0, 0) rank hp
      -- append
      obtain ⟨ii, hii, hz0, hz1, hz2⟩ := info_parts info_it
      have TA := (Turn.refl (fun _ => False) w).alloc (.cells #[.int .i64 0, .int .i64 0] 71)
      have aA := a.quiet TA
      have hs : Src 2 (w.alloc (.cells #[.int .i64 0, .int .i64 0] 71)) (.slice (some ⟨w.heap.size, 0, none⟩) 1 1) 1 [.int .i64 0, .int .i64 0] := ⟨rfl, .inr ⟨_, _, rfl, by omega, two_new w 71 _ _⟩⟩
      obtain ⟨v', w2, r1, r2, r3, r4⟩ := append_src (P := Try.prog) (ty := 97) Try.underlying97 hii hz0 hz1 hz2 rfl (by omega) aA.t hs (fun u hu => by simp at hu; subst hu; rfl) (by unfold maxLen; omega) (by omega)
      have hB2 : w2.heap[B]? = some (.cells #[.slice at_ T.length capt, .slice (some ⟨gp, offp, none⟩) P.length capp] 99 (0, 0)) := r3.same aA.obj (fun e => by have := aA.t.neObj aA.obj (by decide) B e; exact this rfl)
      have hP2 := aA.p.turn r3 (fun j hj e => by
        obtain ⟨cur, hc⟩ := aA.t.lt j e
        obtain ⟨cur', hc'⟩ := aA.p.lt j hj
        rw [hc] at hc'; simp at hc')
      have hform : ∃ g2 off2 cap2, v' = .slice (some ⟨g2, off2, none⟩) (T.length + 1) cap2 := by
        rcases r2.2 with ⟨_, e0⟩ | ⟨g2, off2, cap2, cur2, rfl, _⟩
        · omega
        · exact ⟨g2, off2, cap2, rfl⟩
      obtain ⟨g2, off2, cap2, rfl⟩ := hform
      have fB : w2.cell? ⟨B, 0, none⟩ = some (.slice at_ T.length capt) := cell_obj hB2 0
      have zB : w2.frozen? ⟨B, 0, none⟩ = false := frozen_obj hB2 _
      have T3 : Turn (fun j => j = B) w2 (w2.setCell ⟨B, 0, none⟩ (.slice (some ⟨g2, off2, none⟩) (T.length + 1) cap2)) := (Turn.refl (fun j => j = B) w2).setCell (p := ⟨B, 0, none⟩) (.inl rfl) _
      have hM3 : HMem (w2.setCell ⟨B, 0, none⟩ (.slice (some ⟨g2, off2, none⟩) (T.length + 1) cap2)) B (.slice (some ⟨g2, off2, none⟩) (T.length + 1) cap2) (.slice (some ⟨gp, offp, none⟩) P.length capp) (T ++ [(0, 0)]) P := by
        refine ⟨heap_setCell_obj hB2 _, ?_, ?_⟩
        · rw [List.length_append, List.length_singleton, tCells_append]
          exact r2.turn T3 (fun j hj e => by have := r2.neObj hB2 (by decide) j hj; exact this e)
        · exact hP2.turn T3 (fun j hj e => by have := hP2.neObj hB2 (by decide) j hj; exact this e)
      have d0 := d B (.inl rfl)
      have d1 := d gp (.inr (.inr rfl))
      have T4 : Turn F w (w2.setCell ⟨B, 0, none⟩ (.slice (some ⟨g2, off2, none⟩) (T.length + 1) cap2)) := ((TA.mono (fun _ h => h.elim)).then (r3.mono (fun j hj => d j (.inr (.inl hj))))).then (T3.mono (fun j hj => by rw [hj]; exact d0))
      have d4 : ∀ j, HFoot B (.slice (some ⟨g2, off2, none⟩) (T.length + 1) cap2) (.slice (some ⟨gp, offp, none⟩) P.length capp) j → F j := by
        rintro j (hj | hj | hj)
        · rw [hj]; exact d0
        · rcases r4 j hj with e | e
          · exact d j (.inr (.inl e))
          · exact hF j (Nat.le_trans TA.size e)
        · exact d j (.inr (.inr hj))
      have hrise := rise_walk _ B _ _ (T ++ [(0, 0)]) P hM3 n T.length (i, rank) c1 c2 c (by rw [List.length_append, List.length_singleton]; omega)
      have hl1 : (T ++ [((0, 0) : It)]).length = T.length + 1 := by rw [List.length_append, List.length_singleton]
      have C3 := hide c3
      have D4 := hide d4
      have Out := hide hout
      have fB3 : (w2.setCell ⟨B, 0, none⟩ (.slice (some ⟨g2, off2, none⟩) (T.length + 1) cap2)).cell? ⟨B, 0, none⟩ = some (.slice (some ⟨g2, off2, none⟩) (T.length + 1) cap2) := cell_obj hM3.obj 0
      clear hout c1 c2 c3 d d0 d1 d4 r4 r3 r2 hs TA aA T3 hP2 hB2 a b hp hi
      unfold itV at hrise
      go_enter Try.func60, Try.ntmps60
      go_wp2_with (first
        | (go_at_call 67; refine hh.mono ?_; rintro e w1 ⟨rfl, rfl⟩)
        | (at_builtin; refine list_append_run rfl _ _ 97 rfl _ _ _ _ rfl rfl r1 ?_)
        | (go_at_call 65; refine hrise.mono ?_; rintro e w5 ⟨rfl, T', P', hM, hFi, t5⟩))
      go_ret
      exact ⟨T4.then (t5.mono (unhide D4)), .inr (.inr ⟨i, T', rfl, hin, unhide Out, ⟨_, _, P', hM, hFi.1, c, unhide D4⟩, by rw [hFi.2.1, hl1], fun u => by rw [hFi.2.2 u, unhide C3 u], rfl⟩)⟩
    · rcases b.back i p hp with e | ⟨k, r, hk⟩
      · exact absurd e h0
      have Hm := hide (List.mem_of_getElem? hk)
      have hp0 : (p != 0) = true := by simpa using h0
      clear a b d hk hp hi
      go_enter Try.func60, Try.ntmps60
      go_wp2_with (first
        | (go_at_call 67; refine hh.mono ?_; rintro e w1 ⟨rfl, rfl⟩))
      go_ret
      exact ⟨Turn.refl _ _, .inr (.inl ⟨i, r, rfl, unhide Hm, unhide h', rfl⟩)⟩
  · rw [decide_eq_false hi] at hh
    have Hi := hide hi
    clear hi
    go_enter Try.func60, Try.ntmps60
    go_wp2_with (go_at_call 67; refine hh.mono ?_; rintro e w1 ⟨rfl, rfl⟩)
    go_ret
    exact ⟨Turn.refl _ _, .inl ⟨unhide Hi, h, rfl⟩⟩

theorem info_i32 : (Try.prog.info? 21).map (fun i => (i.zero, i.size, i.bytes)) = some (some (.int .i32 0), 1, 4) := by kernel_rfl
set_option maxHeartbeats 1000000 in
theorem hnew_bad (w : World) (n : Int) (h : ¬ (1 ≤ n ∧ n ≤ 4194304)) :
    Calls Try.prog 52 #[.int .i64 n] w fun e w' => e = .returned (.tuple #[.pointer none, .int .i64 1]) ∧ w' = w := by
  by_cases h1 : n < 1
  · go_enter Try.func52, Try.ntmps52
    go_wp2
    go_ret2
    exact ⟨rfl, rfl⟩
  · have h2 : 4194304 < n := by omega
    clear h
    go_enter Try.func52, Try.ntmps52
    go_wp2
    go_ret2
    exact ⟨rfl, rfl⟩
set_option maxRecDepth 100000 in
set_option maxHeartbeats 4000000 in
theorem newH (w : World) (n : Nat) (h1 : 1 ≤ n) (h2 : n ≤ 4194304) :
    Calls Try.prog 52 #[.int .i64 (n : Int)] w fun e w' => ∃ B, e = .returned (.tuple #[.pointer (some ⟨B, 0, none⟩), .int .i64 0]) ∧ Turn (fun _ => False) w w' ∧ w.heap.size ≤ B ∧ HAt w' B n (fun j => w.heap.size ≤ j) [] := by
  obtain ⟨i0, hi, hz0, hz1, hz2⟩ := info_parts info_i32
  go_enter Try.func52, Try.ntmps52
  go_wp2_with (at_make; refine wpList_make_full _ rfl _ _ 74 rfl w.heap.size 21 i0 (.int .i32 0) 1 Try.underlying74 hi hz0 hz1 .i64 .i64 (n : Int) (n : Int) n rfl rfl rfl rfl (by rw [hz2]; omega) (by unfold maxLen; omega) (Nat.le_refl _) ?_; intro w1 hown1 hgrow1)
  have hrow : (madeCells (Value.int .i32 0).cells (n * 1)).toList = pCells (List.replicate n 0) := by
    rw [Nat.mul_one, show (Value.int .i32 0).cells = #[Value.int .i32 0] from rfl, toList_madeCells_one]; simp [pCells]
  rw [hrow] at hown1
  have T1 : Turn (fun _ => False) w w1 := Turn.grown hgrow1 (fun k e => by cases e)
  have T2 := T1.alloc (.cells #[.slice none 0 0, .slice (some ⟨w.heap.size, 0, none⟩) n n] 99)
  have hO := (OwnSl.of_owns hown1).turn ((Turn.refl (fun _ => False) w1).alloc (.cells #[.slice none 0 0, .slice (some ⟨w.heap.size, 0, none⟩) n n] 99)) (fun _ _ h => h)
  go_ret2
  refine ⟨w1.heap.size, rfl, T2, T1.size, .slice none 0 0, _, List.replicate n 0, ⟨heap_alloc_new w1 _, ⟨rfl, .inl ⟨rfl, rfl⟩⟩, by rw [List.length_replicate]; exact hO⟩, well_nil n, h2, ?_⟩
  rintro j (hj | hj | hj)
  · rw [hj]; exact T1.size
  · simp [Value.ownBlock] at hj
  · simp [Value.ownBlock] at hj; omega
end Go.Proofs.Ytombpfpfeebnpaa
