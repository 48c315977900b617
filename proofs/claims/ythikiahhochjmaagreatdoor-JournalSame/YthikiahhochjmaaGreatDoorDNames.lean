/- names, Names: the names of all files, rising. -/
import Derived.Test.YthikiahhochjmaaGreatDoorDFind
import Derived.Test.YthikiahhochjmaaGreatDoorShelf
namespace Go.Proofs.YthikiahhochjmaaGreatDoor
open Go.RowKit Go.Maps Go.Sort
set_option linter.unusedVariables false

theorem info_str : (Tryz.prog.info? 9).map (fun i => (i.zero, i.size, i.bytes)) = some (some (.string ⟨#[]⟩), 1, 16) := by kernel_rfl

theorem lt_before : ∀ {a b : Nm}, bytesBefore a b = true → a ≤ b
  | [], [], h => by simp [bytesBefore] at h
  | [], _ :: _, _ => by simp
  | _ :: _, [], h => by simp [bytesBefore] at h
  | x :: a, y :: b, h => by
    simp only [bytesBefore, Bool.or_eq_true, Bool.and_eq_true, decide_eq_true_eq, beq_iff_eq] at h
    rcases h with h | ⟨rfl, h⟩
    · rw [List.cons_le_cons_iff]; exact .inl h
    · rw [List.cons_le_cons_iff]; exact .inr ⟨rfl, lt_before h⟩
theorem sorted_names {E : List Ent} (h : Rise Ent.n E) : (E.map Ent.n).mergeSort leB = E.map Ent.n := by
  have tr : ∀ a b c : List UInt8, leB a b = true → leB b c = true → leB a c = true := fun a b c h1 h2 => by simp only [leB, decide_eq_true_eq] at *; exact List.le_trans h1 h2
  have tot : ∀ a b : List UInt8, (leB a b || leB b a) = true := fun a b => by simp only [leB, Bool.or_eq_true, decide_eq_true_eq]; exact List.le_total a b
  refine List.Perm.eq_of_pairwise (le := fun a b => leB a b = true) (fun a b _ _ h1 h2 => ?_) (List.pairwise_mergeSort tr tot _) ?_ (List.mergeSort_perm _ leB)
  · simp only [leB, decide_eq_true_eq] at h1 h2
    exact List.le_antisymm h1 h2
  · rw [List.pairwise_map]
    exact h.imp (fun {a b} hab => by simp only [leB, decide_eq_true_eq]; exact lt_before hab)
theorem DMem.rise {w : World} {B : Nat} {mv : Option Nat} {E : List Ent} {S : Dk} (h : DMem w B mv E S) : Rise Ent.n E := by
  have := h.well.rise
  rw [h.fs] at this
  unfold Rise at *
  rw [List.pairwise_map] at this
  exact this
theorem DMem.count {w : World} {B : Nat} {mv : Option Nat} {E : List Ent} {S : Dk} (h : DMem w B mv E S) : E.length ≤ 64 := by
  have := h.well.files
  rw [h.fs] at this
  simpa using this

set_option maxRecDepth 100000 in
set_option maxHeartbeats 1000000 in
theorem names_map (w : World) (B b : Nat) (E : List Ent) (S : Dk) (h : DMem w B (some b) E S) :
    Calls Tryz.prog 42 #[.pointer (some ⟨B, 0, none⟩)] w fun e w' => ∃ v, e = .returned v ∧ w'.ownsRow w.heap.size 9 1 v E.length ((E.map Ent.n).map encStr) ∧ Turn (fun _ => False) w w' := by
  obtain ⟨b', e', hown⟩ : ∃ b', some b = some b' ∧ w.ownsMap Tryz.prog 9 rawR b' E.length (DD E) := by
    rcases h.map with ⟨h1, _⟩ | h1
    · cases h1
    · exact h1
  cases e'
  obtain ⟨i0, hi, hz0, hz1, hz2⟩ := info_parts info_str
  have hcnt := h.count
  have c1 : w.cell? ⟨B, 1, none⟩ = some (.map (some b)) := cell_obj h.obj 1
  have c1' : ∀ w1, w.grownBy w1 none → w1.cell? ⟨B, 1, none⟩ = some (.map (some b)) := fun w1 hg => (Turn.grown (F := fun _ => False) hg (fun k e => by cases e)).cell c1 id
  have Hrise := hide h.rise
  have hbl := hown.lt
  have hsz : Maps.size (DD E) = E.length := DD_size E
  have hlen := hown.len (ty := 3) Tryz.underlying64
  rw [hsz] at hlen
  have Hsz := hide hsz
  clear h hsz
  go_enter Tryz.func42, Tryz.ntmps42
  go_wp2_with (first
    | (at_make; refine wpList_make_own _ rfl _ _ 42 rfl w.heap.size 9 i0 (.string ⟨#[]⟩) 1 Tryz.underlying42 hi hz0 hz1 _ _ _ E.length rfl rfl rfl (by rw [hz2]; omega) (by unfold maxLen; omega) (Nat.le_refl _) ?_; intro w1 hrow1 hg1; have c2 := c1' w1 hg1; clear c1')
    | (at_range; refine wpList_range_own _ rfl _ 64 rfl 9 84 dLaw Tryz.underlying64 _ b E.length _ rfl (hown.kept hg1 (by simp)) ?_; intro w0 hrg0 hg0 hs0))
  go_frame
  go_loopw [3] (fun v wr => ∃ (left : Lit → Bool) (cnt : Nat) (ss : List (List UInt8)), wr.ranges Tryz.prog 9 rawR b w1.heap.size E.length (DD E) left cnt ∧ ss.length + cnt ≤ E.length ∧
      wr.ownsRow w.heap.size 9 1 v ss.length (ss.map encStr) ∧ v ≠ .slice none 0 0 ∧ Collected (DD E) left ss ∧ Below w.heap.size w wr)
    (fun _ wr => wr.rangeLeft b w1.heap.size)
  case atStart =>
    refine ⟨_, _, [], hrg0, by rw [unhide Hsz]; simp, hrow1.kept hg0 (Or.inr (by simp [Value.ownBlock])), by simp, Collected.start _, ?_⟩
    exact ((Below.refl _ _).grown hg1 (Nat.le_refl _) (fun j hj => by cases hj)).grown hg0 hg1.size (fun j hj => by cases hj)
  case round =>
    obtain ⟨left, cnt, ss, hrg, hcs, hrow, hnn, hC, hnx⟩ := hrel
    go_wp2_with (at_next; refine wpList_next_ranges _ rfl _ rfl 9 dLaw rawR encStr (fun v : Value => v) (fun key kl hk => by obtain ⟨x, hx, _⟩ := Maps.keyOf_str Tryz.underlying9 hk; exact ⟨x, hx⟩) (fun v y hv => ⟨v, rfl⟩) b w1.heap.size E.length _ _ _ rfl hrg ?_ ?_)
    · intro hc0 hl0
      rcases hrow.2 with ⟨hnil, _⟩ | ⟨g, cap, cur, rfl, hbase, hb, h1, h2, h3, h4⟩
      · exact absurd hnil hnn
      have hperm : ss.Perm (E.map Ent.n) := by
        have := hC.perm hown dLaw Tryz.underlying9 hl0
        rwa [strKeys_DD] at this
      have hsl : ss.length = E.length := by have := hperm.length_eq; simpa using this
      have hso : (ss.mergeSort fun x y => decide (x ≤ y)) = E.map Ent.n := (mergeSort_of_perm hperm).trans (sorted_names (unhide Hrise))
      have hH : Holds encStr wr g 0 ss.toArray := holds_of_block hb (by simpa using h4)
      have hgl : g < wr.heap.size := (Array.getElem?_eq_some_iff.1 hb).1
      have hc := Tryz.slices_Sort_string g 0 cap ss wr hH hgl (by omega)
      have Hso := hide hso
      have Hsl := hide hsl
      clear hso hsl hperm hH
      go_wp2_with (go_at_call 61; refine hc.mono ?_; rintro e w' ⟨rfl, nn, os, rfl⟩)
      go_ret
      have hr := ownsRow_sorted (w := wr) (base := w.heap.size) (n := nn) (os := os) (ts := ss.mergeSort fun x y => decide (x ≤ y)) (by simp) hbase hb h1 h2 h3
      rw [unhide Hso] at hr
      refine ⟨_, rfl, ?_, Turn.of_below ?_⟩
      · rw [← unhide Hsl]
        rw [unhide Hso]
        exact hr
      · exact hnx.grown (grownBy_sorted _) hnx.size (fun j hj => by cases hj; exact hbase)
    · intro x c kl yd yp w2 cnt2 hkey hlk hv hat hrg2 hlt hg2 hs2 hen
      obtain ⟨x', ex, rfl, _⟩ := Maps.keyOf_str Tryz.underlying9 hkey
      obtain rfl : x = x' := encStr_inj ex
      have hrow2 := hrow.kept hg2 (Or.inr (row_ne_iter hrow hrg).symm)
      have Hle := hide hrg.left_eq
      clear hs2
      go_wp2_with (at_builtin; refine wpList_append_own _ rfl _ _ 42 rfl w.heap.size 9 i0 (.string ⟨#[]⟩) 1 16 Tryz.underlying42 hi hz0 hz1 hz2 rfl (by decide) _ _ _ rfl (hrow2.alloc _) ⟨w2.heap.size, 0, none⟩ 1 1 [encStr x] rfl rfl (one_new _ _ _) (by simp [Value.oneCell', encStr]) (by unfold maxLen at *; omega) (by omega) (by have := hnx.size; have := hg2.size; simp; omega) ?_; intro v' w3 hown' hg3 hnil3; go_frame)
      have hrg3 := (hrg2.alloc _).kept hg3 (row_ne_low hrow2 hbl) (row_ne_iter hrow2 hrg2)
      go_roundw
      case rel =>
        refine ⟨_, cnt2, ss ++ [x], hrg3, by simp; omega, by simpa using hown', fun hv' => by have := (hnil3.1 hv').2; omega, hC.step hlk hat, ?_⟩
        exact ((hnx.grown hg2 hnx.size (fun j hj => by cases hj; exact hg1.size)).alloc (by have := hnx.size; have := hg2.size; omega) _).grown hg3 (by have := hnx.size; have := hg2.size; simp; omega) (fun j hj => (hrow2.lt j hj).1)
      case measure => rw [hrg3.left_eq, unhide Hle]; exact hlt

set_option maxRecDepth 100000 in
set_option maxHeartbeats 1000000 in
theorem names_nomap (w : World) (B : Nat) (E : List Ent) (S : Dk) (h : DMem w B none E S) :
    Calls Tryz.prog 42 #[.pointer (some ⟨B, 0, none⟩)] w fun e w' => ∃ v, e = .returned v ∧ w'.ownsRow w.heap.size 9 1 v E.length ((E.map Ent.n).map encStr) ∧ Turn (fun _ => False) w w' := by
  obtain ⟨i0, hi, hz0, hz1, hz2⟩ := info_parts info_str
  have hE : E = [] := by
    rcases h.map with ⟨_, h1⟩ | ⟨b, h1, _⟩
    · exact h1
    · cases h1
  have c1 : w.cell? ⟨B, 1, none⟩ = some (.map none) := cell_obj h.obj 1
  have c1' : ∀ w1, w.grownBy w1 none → w1.cell? ⟨B, 1, none⟩ = some (.map none) := fun w1 hg => (Turn.grown (F := fun _ => False) hg (fun k e => by cases e)).cell c1 id
  have hlen := Maps.len_nil (P := Tryz.prog) (w := w) (ty := 3) Tryz.underlying64
  subst hE
  clear h
  go_enter Tryz.func42, Tryz.ntmps42
  go_wp2_with (at_make; refine wpList_make_own _ rfl _ _ 42 rfl w.heap.size 9 i0 (.string ⟨#[]⟩) 1 Tryz.underlying42 hi hz0 hz1 _ _ _ 0 rfl rfl rfl (by rw [hz2]; omega) (by unfold maxLen; omega) (Nat.le_refl _) ?_; intro w1 hrow1 hg1; have c2 := c1' w1 hg1; clear c1'; have hrg := run_range_nilMap (P := Tryz.prog) w1 64 9 84 Tryz.underlying64; have hnx : ∀ ty, (Instr.next (.pointer (some ⟨w1.heap.size, 0, none⟩)) false ty).run Tryz.prog (w1.alloc (.mapIter none 0 #[] 0)) = _ := fun ty => run_next_nilMap _ ty 0 0 #[])
  refine wp_loop_rounds 1 ?_
  rw [rounds_succ]
  have hrow2 := hrow1.alloc (.mapIter none 0 #[] 0)
  have hc := Tryz.slices_Sort_string_none (some ⟨w.heap.size, 0, none⟩) 0 (w1.alloc (.mapIter none 0 #[] 0))
  have t2 : Turn (fun _ => False) w (w1.alloc (.mapIter none 0 #[] 0)) := (Turn.grown hg1 (fun k e => by cases e)).alloc _
  have Ht := hide t2
  have Hr := hide hrow2
  clear hrow1 hg1 t2 hrow2
  go_wp2_with (go_at_call 61; refine hc.mono ?_; rintro e w' ⟨rfl, rfl⟩)
  go_ret
  exact ⟨_, rfl, unhide Hr, unhide Ht⟩
theorem names_walk (w : World) (B : Nat) (mv : Option Nat) (E : List Ent) (S : Dk) (h : DMem w B mv E S) :
    Calls Tryz.prog 42 #[.pointer (some ⟨B, 0, none⟩)] w fun e w' => ∃ v, e = .returned v ∧ w'.ownsRow w.heap.size 9 1 v E.length ((E.map Ent.n).map encStr) ∧ Turn (fun _ => False) w w' := by
  cases mv with
  | none => exact names_nomap w B E S h
  | some b => exact names_map w B b E S h

set_option maxHeartbeats 1000000 in
theorem Names_walk (w : World) (B : Nat) (F : Nat → Prop) (S : Dk) (h : DAt w B F S) :
    Calls Tryz.prog 16 #[.pointer (some ⟨B, 0, none⟩)] w fun e w' => ∃ v, e = .returned (.tuple #[v, .int .i64 (namesC S)]) ∧ w'.ownsRow w.heap.size 9 1 v (namesL S).length ((namesL S).map encStr) ∧ Turn (fun _ => False) w w' := by
  obtain ⟨mv, E, m, _⟩ := h
  have hr := ready_walk w B mv E S m
  have hn := names_walk w B mv E S m
  have hE : S.fs.map Fl.n = E.map Ent.n := by rw [m.fs, List.map_map]; rfl
  clear m
  cases hd : S.down
  · have e1 : namesL S = E.map Ent.n := by unfold namesL; rw [hd, ← hE]; rfl
    have e2 : namesC S = 0 := by unfold namesC; rw [hd]; rfl
    rw [e1, e2, List.length_map]
    unfold readyC at hr
    rw [hd] at hr
    clear e1 e2 hd hE
    go_enter Tryz.func16, Tryz.ntmps16
    go_wp2_with (first | (go_at_call 41; refine hr.mono ?_; rintro e w' ⟨rfl, rfl⟩) | (go_at_call 42; refine hn.mono ?_; rintro e w' ⟨v, rfl, hv, ht⟩))
    go_ret2
    exact ⟨v, rfl, hv, ht⟩
  · have e1 : namesL S = [] := by unfold namesL; rw [hd]; rfl
    have e2 : namesC S = 3 := by unfold namesC; rw [hd]; rfl
    rw [e1, e2]
    unfold readyC at hr
    rw [hd] at hr
    clear e1 e2 hd hE hn
    go_enter Tryz.func16, Tryz.ntmps16
    go_wp2_with (go_at_call 41; refine hr.mono ?_; rintro e w' ⟨rfl, rfl⟩)
    go_ret2
    exact ⟨_, rfl, World.ownsRow_nil _ _ _ _, Turn.refl _ _⟩
end Go.Proofs.YthikiahhochjmaaGreatDoor
