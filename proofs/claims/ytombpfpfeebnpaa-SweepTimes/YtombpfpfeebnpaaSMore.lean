/- What tells a search to go on: always, till a node, up to a distance. -/
import Derived.Test.YtombpfpfeebnpaaSRun
namespace Go.Proofs.Ytombpfpfeebnpaa
open Go.RowKit Go.Maps
set_option linter.unusedVariables false
set_option linter.unusedSimpArgs false
set_option maxRecDepth 100000

set_option maxHeartbeats 1000000 in
theorem all_walk (w : World) (i : Nat) (r : Int) : Calls Try.prog 29 #[.agg #[.int .i64 (i : Int), .int .i64 r]] w fun e w' => e = .returned (.bool true) ∧ Turn (fun _ => False) w w' := by
  have ta := (Turn.refl (fun _ => False) w).alloc (.cells #[.int .i64 (i : Int), .int .i64 r] 71)
  go_enter Try.func29, Try.ntmps29
  go_wp2
  go_ret
  exact ⟨rfl, ta⟩
theorem more_all (s0 : Nat) : MoreOK 29 #[] s0 (fun _ => False) (fun _ _ => True) (fun _ => true) := by
  refine ⟨enters_of Try.func29 (by kernel_rfl) rfl, ?_, fun _ _ _ _ _ _ _ => trivial⟩
  intro R w x _ _ _ _
  obtain ⟨i, r⟩ := x
  exact (all_walk w i r).mono (by rintro e w' ⟨rfl, t⟩; exact ⟨rfl, t.mono (fun _ h => h.elim), trivial⟩)

set_option maxHeartbeats 1000000 in
theorem until_walk (w : World) (i : Nat) (r to : Int) (tb : Nat) (h : w.heap[tb]? = some (.cells #[.int .i64 to] 3 (0, 0))) : Calls Try.prog 34 #[.agg #[.int .i64 (i : Int), .int .i64 r], .pointer (some ⟨tb, 0, none⟩)] w fun e w' => e = .returned (.bool (decide ((i : Int) ≠ to))) ∧ Turn (fun _ => False) w w' := by
  have ta := (Turn.refl (fun _ => False) w).alloc (.cells #[.int .i64 (i : Int), .int .i64 r] 71)
  have h1 : (w.alloc (.cells #[.int .i64 (i : Int), .int .i64 r] 71)).cell? ⟨tb, 0, none⟩ = some (.int .i64 to) := cell_obj (ta.same h (fun h => h)) 0
  clear h
  go_enter Try.func34, Try.ntmps34
  go_wp2
  go_ret
  refine ⟨ret_bool ?_, ta⟩
  by_cases h : (i : Int) = to <;> simp [h]
theorem more_until (s0 tb : Nat) (to : Int) (hs : tb < s0) : MoreOK 34 #[.pointer (some ⟨tb, 0, none⟩)] s0 (fun _ => False) (fun _ w => w.heap[tb]? = some (.cells #[.int .i64 to] 3 (0, 0))) (fun x => decide ((x.1 : Int) ≠ to)) := by
  refine ⟨enters_of Try.func34 (by kernel_rfl) rfl, ?_, fun R w w' G h t hG => t.same h (fun q => by have := (hG _ q).1; omega)⟩
  intro R w x h _ _ _
  obtain ⟨i, r⟩ := x
  exact (until_walk w i r to tb h).mono (by rintro e w' ⟨rfl, t⟩; exact ⟨rfl, t.mono (fun _ h => h.elim), t.same h (fun q => q)⟩)

theorem info_dist : (Try.prog.info? 38).map (fun i => (i.zero, i.size, i.bytes)) = some (some (.agg #[.int .i64 0, .int .i64 0]), 2, 16) := by kernel_rfl
/-- nodes that are near, in a list of one's own -/
def DL (w : World) (v : Value) (R : List It) : Prop := OwnSl w 38 2 v R.length (tCells R)
theorem two_cells (w : World) (a b : Value) (e : TypeId) : ∀ j u, [a, b][j]? = some u → (w.alloc (.cells #[a, b] e)).cell? (Addr.add ⟨w.heap.size, 0, none⟩ j) = some u := by
  intro j u hu
  rw [Addr.add_lit, Nat.zero_add, cell_obj (heap_alloc_new w (.cells #[a, b] e))]
  simpa using hu
/-- what Within keeps -/
structure NM (mb nb s0 : Nat) (most : Int) (R : List It) (w : World) : Prop where
  m : w.heap[mb]? = some (.cells #[.int .i64 most] 2 (0, 0))
  n : ∃ v, w.heap[nb]? = some (.cells #[v] 39 (0, 0)) ∧ DL w v R ∧ ∀ j, v.ownBlock = some j → s0 ≤ j
theorem tCells_one' (R : List It) (x : It) : tCells (R ++ [x]) = tCells R ++ [.int .i64 (x.1 : Int), .int .i64 x.2] := by simp [tCells, itC]
theorem tCells_single (R : List It) : ∀ u ∈ tCells R, u.oneCell' = true := by
  intro u hu
  unfold tCells at hu
  obtain ⟨x, _, hx⟩ := List.mem_flatMap.1 hu
  simp [itC] at hx
  rcases hx with rfl | rfl <;> rfl

set_option maxHeartbeats 4000000 in
theorem near_walk {mb nb s0 : Nat} {most : Int} {R : List It} {w : World} (h : NM mb nb s0 most R w) (i : Nat) (r : Int) (hs : s0 ≤ w.heap.size) (hR : R.length ≤ 4194304) (hmb : mb < s0) (hnb : nb < s0) :
    Calls Try.prog 37 #[.agg #[.int .i64 (i : Int), .int .i64 r], .pointer (some ⟨mb, 0, none⟩), .pointer (some ⟨nb, 0, none⟩)] w fun e w' => e = .returned (.bool (decide (r ≤ most))) ∧ Turn (fun j => j = nb ∨ (s0 ≤ j ∧ NearBlk w j)) w w' ∧ NM mb nb s0 most (if r ≤ most then R ++ [(i, r)] else R) w' := by
  have ta := (Turn.refl (fun _ => False) w).alloc (.cells #[.int .i64 (i : Int), .int .i64 r] 71)
  have hb := heap_alloc_new w (.cells #[.int .i64 (i : Int), .int .i64 r] 71)
  obtain ⟨hm, v, hn, hD, hv⟩ := h
  have m0 : (w.alloc (.cells #[.int .i64 (i : Int), .int .i64 r] 71)).cell? ⟨mb, 0, none⟩ = some (.int .i64 most) := cell_obj (ta.same hm (fun h => h)) 0
  have n0 : (w.alloc (.cells #[.int .i64 (i : Int), .int .i64 r] 71)).cell? ⟨nb, 0, none⟩ = some v := cell_obj (ta.same hn (fun h => h)) 0
  by_cases hr : r ≤ most
  · rw [if_pos hr, decide_eq_true hr]
    have hD1 := hD.turn ta (fun _ _ h => h)
    obtain ⟨ii, hii, hz0, hz1, hz2⟩ := info_parts info_dist
    have tb := (Turn.refl (fun _ => False) (w.alloc (.cells #[.int .i64 (i : Int), .int .i64 r] 71))).alloc (.cells #[.int .i64 (i : Int), .int .i64 r] 38)
    have hD2 := hD1.turn tb (fun _ _ h => h)
    have n1 : ((w.alloc (.cells #[.int .i64 (i : Int), .int .i64 r] 71)).alloc (.cells #[.int .i64 (i : Int), .int .i64 r] 38)).heap[nb]? = some (.cells #[v] 39 (0, 0)) := tb.same (ta.same hn (fun h => h)) (fun h => h)
    have m1 := tb.same (ta.same hm (fun h => h)) (fun h => h)
    have hx : Src 2 ((w.alloc (.cells #[.int .i64 (i : Int), .int .i64 r] 71)).alloc (.cells #[.int .i64 (i : Int), .int .i64 r] 38)) (.slice (some ⟨(w.alloc (.cells #[.int .i64 (i : Int), .int .i64 r] 71)).heap.size, 0, none⟩) 1 1) 1 [.int .i64 (i : Int), .int .i64 r] :=
      ⟨rfl, .inr ⟨_, _, rfl, by omega, two_cells _ _ _ _⟩⟩
    obtain ⟨v', w2, r1, r2, r3, r4⟩ := append_src (P := Try.prog) (ty := 39) Try.underlying39 hii hz0 hz1 hz2 rfl (by omega) hD2 hx (fun u hu => by simp at hu; rcases hu with rfl | rfl <;> rfl) (by unfold maxLen; omega) (by omega)
    rw [alloc_size] at r1
    have hform : ∃ g2 off2 cap2, v' = .slice (some ⟨g2, off2, none⟩) (R.length + 1) cap2 := by
      rcases r2.2 with ⟨_, e0⟩ | ⟨g2, off2, cap2, cur2, e1, _⟩
      · omega
      · exact ⟨g2, off2, cap2, e1⟩
    obtain ⟨g2, off2, cap2, rfl⟩ := hform
    have hown : ∀ j, v.ownBlock = some j → s0 ≤ j ∧ NearBlk w j := fun j hj => ⟨hv j hj, hD.lt j hj⟩
    have n2 := r3.same n1 (fun e => by have := (hown nb e).1; omega)
    have m2 := r3.same m1 (fun e => by have := (hown mb e).1; omega)
    have n20 : w2.cell? ⟨nb, 0, none⟩ = some v := cell_obj n2 0
    have z20 : w2.frozen? ⟨nb, 0, none⟩ = false := frozen_obj n2 0
    have t3 : Turn (fun j => j = nb) w2 (w2.setCell ⟨nb, 0, none⟩ (.slice (some ⟨g2, off2, none⟩) (R.length + 1) cap2)) := (Turn.refl (fun j => j = nb) w2).setCell (p := ⟨nb, 0, none⟩) (.inl rfl) _
    have hv' : ∀ j, (Value.slice (some ⟨g2, off2, none⟩) (R.length + 1) cap2).ownBlock = some j → s0 ≤ j := fun j hj => by
      rcases r4 j hj with e | e
      · exact hv j e
      · have h1 := ta.size; have h2 := tb.size; omega
    have hmn : mb ≠ nb := by rintro rfl; rw [hm] at hn; simp at hn
    have hNM : NM mb nb s0 most (R ++ [(i, r)]) (w2.setCell ⟨nb, 0, none⟩ (.slice (some ⟨g2, off2, none⟩) (R.length + 1) cap2)) := by
      refine ⟨t3.same m2 hmn, _, heap_setCell_obj n2 _, ?_, hv'⟩
      unfold DL
      rw [List.length_append, List.length_singleton, tCells_one']
      exact r2.turn t3 (fun j hj e => by have := hv' j hj; omega)
    have hT : Turn (fun j => j = nb ∨ (s0 ≤ j ∧ NearBlk w j)) w (w2.setCell ⟨nb, 0, none⟩ (.slice (some ⟨g2, off2, none⟩) (R.length + 1) cap2)) := (((ta.then tb).mono (fun _ h => h.elim)).then (r3.mono (fun j hj => .inr (hown j hj)))).then (t3.mono (fun j hj => .inl hj))
    have HN := hide hNM
    clear hNM hD hD1 hD2 hx r2 r3 r4 n1 m1 hown n2 m2 t3 hv' hv hn hm tb hb hmn
    go_enter Try.func37, Try.ntmps37
    go_wp2_with (at_builtin; refine list_append_run rfl _ _ 39 rfl _ _ _ _ rfl rfl r1 ?_)
    go_ret
    exact ⟨rfl, hT, unhide HN⟩
  · rw [if_neg hr, decide_eq_false hr]
    have HN := hide (show NM mb nb s0 most R (w.alloc (.cells #[.int .i64 (i : Int), .int .i64 r] 71)) from ⟨ta.same hm (fun h => h), v, ta.same hn (fun h => h), hD.turn ta (fun _ _ h => h), hv⟩)
    clear hm hn hD hv n0
    go_enter Try.func37, Try.ntmps37
    go_wp2
    go_ret
    exact ⟨rfl, ta.mono (fun _ h => h.elim), unhide HN⟩
theorem more_near (s0 mb nb : Nat) (most : Int) (hmb : mb < s0) (hnb : nb < s0) : MoreOK 37 #[.pointer (some ⟨mb, 0, none⟩), .pointer (some ⟨nb, 0, none⟩)] s0 (fun j => j = nb) (NM mb nb s0 most) (fun x => decide (x.2 ≤ most)) := by
  refine ⟨enters_of Try.func37 (by kernel_rfl) rfl, ?_, ?_⟩
  · intro R w x h hs hR _
    obtain ⟨i, r⟩ := x
    exact (near_walk h i r hs hR hmb hnb).mono (by rintro e w' ⟨rfl, t, m⟩; exact ⟨rfl, t, by simpa using m⟩)
  · rintro R w w' G ⟨hm, v, hn, hD, hv⟩ t hG
    exact ⟨t.same hm (fun q => by have := (hG _ q).1; omega), v, t.same hn (fun q => by have := (hG _ q).1; omega), hD.turn t (fun j hj q => (hG _ q).2 (hD.lt j hj)), hv⟩
end Go.Proofs.Ytombpfpfeebnpaa
