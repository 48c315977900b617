/- Copies of bytes; the reader's making and its texts; two texts held against each other. -/
import Derived.Test.YtmkaamlacfdhlaaCReads
import Derived.Laws.BytesArg
namespace Go.Proofs.Ytmkaamlacfdhlaa
open Go.RowKit
set_option linter.unusedVariables false

def from_ (n : Nat) : Nat → Prop := fun b => n ≤ b

set_option maxHeartbeats 1000000 in
theorem clone_any (B : Nat → Prop) (v : Value) (zs : List Int) (w : World) (hr : Row .u8 B w v zs) (hl : zs.length ≤ 140737488355328) :
    Calls Try.prog 34 #[v] w fun e w' => ∃ x, e = .returned x ∧ Row .u8 (fun b => from_ w.heap.size b ∧ Free w' b) w' x zs ∧ Below w.heap.size w w' := by
  obtain ⟨i0, hi, hz0, hz1, hz2⟩ := info_parts info_u8
  have q : ∀ (w : World) (a : Option Addr) (n c n' c' : Nat), (binOp .eql 23 (.slice a n c) (.slice none n' c')).run Try.prog w = .ok (.bool a.isNone) w := fun w a n c n' c' => by cases a <;> rfl
  obtain ⟨a, c, rfl⟩ := hr.slice
  cases a with
  | none =>
    have h0 : zs = [] := by
      rcases hr with ⟨a, c, h, _, _, rfl⟩ | ⟨b, off, c, h, _⟩
      · rfl
      · simp at h
    subst h0
    go_enter Try.func34, Try.ntmps34
    go_wp2
    go_ret
    exact ⟨_, rfl, row_none _ _ _, Below.refl _ _⟩
  | some a =>
    have hown0 : (w.alloc (.cells #[] 5)).ownsRow w.heap.size 5 1 (.slice (some ⟨w.heap.size, 0, none⟩) 0 0) ([] : List Int).length (([] : List Int).map (Value.int .u8)) :=
      World.ownsRow_lit w #[] 0 (Nat.le_refl _) (Nat.zero_le _) rfl
    have hb0 : Below w.heap.size w (w.alloc (.cells #[] 5)) := (Below.refl _ _).alloc (Nat.le_refl _) _
    obtain ⟨x2, w2, hrun, hx2, hb2⟩ := append_row (P := Try.prog) (ty := 23) Try.underlying23 hi hz0 hz1 hz2 rfl hown0 (hr.below hb0) (by unfold maxLen; simp; omega) (by simp; omega) hb0.size
    go_enter Try.func34, Try.ntmps34
    go_wp2_with (at_builtin; refine list_append_run rfl _ _ 23 rfl _ _ _ _ rfl rfl hrun ?_)
    go_ret
    exact ⟨x2, rfl, row_of_owns_free hx2, hb0.trans hb2⟩

set_option maxHeartbeats 1000000 in
theorem new_walk (B : Nat → Prop) (v : Value) (zs : List Int) (w : World) (hr : Row .u8 B w v zs) (hl : zs.length ≤ 140737488355328) :
    Calls Try.prog 19 #[v] w fun e w' => ∃ p, e = .returned (.pointer (some ⟨p, 0, none⟩)) ∧ w.heap.size ≤ p ∧ p < w'.heap.size ∧ RD (fun b => w.heap.size ≤ b ∧ b < p) w' p zs 0 ∧ Below w.heap.size w w' := by
  go_enter Try.func19, Try.ntmps19
  go_wp2_with fail
  refine (clone_any B v zs _ hr hl).mono ?_
  rintro e w1 ⟨x, rfl, hx, hb⟩
  replace hx := hx.mono (B' := from_ w.heap.size) (fun b h => h.1)
  have hs := hb.size
  have hx2 := (hx.lt.below ((Below.refl _ w1).alloc (Nat.le_refl _) (.cells #[x, .int .i64 0] 55)))
  obtain ⟨a, c, rfl⟩ := hx.slice
  go_wp2
  go_ret
  exact ⟨w1.heap.size, rfl, hs, by simp, ⟨_, heap_alloc_new w1 _, hx2, fun h => by omega⟩, hb.alloc hs _⟩

/-- two texts of bytes -/
theorem strOfNums_inj {xs zs : List Int} (hx : Bytes xs) (hz : Bytes zs) (h : strOfNums xs = strOfNums zs) : xs = zs := by
  have h1 : (strOfNums xs).data.toList = (strOfNums zs).data.toList := by rw [h]
  rw [strOfNums_data, strOfNums_data] at h1
  have hl : xs.length = zs.length := by have := congrArg List.length h1; simpa using this
  apply List.ext_getElem hl
  intro i hi hj
  have h2 := congrArg (fun l => l[i]?) h1
  simp [hi, hj] at h2
  have b1 := hx xs[i] (List.getElem_mem _)
  have b2 := hz zs[i] (List.getElem_mem _)
  have h3 := congrArg UInt8.toNat h2
  simp at h3
  omega

theorem run_bytes {B : Nat → Prop} {w : World} {v : Value} {zs : List Int} (hr : Row .u8 B w v zs) : ∀ u : World, (∀ a, u.cell? a = w.cell? a) → (convert 23 9 v).run Try.prog u = .ok (.string (strOfNums zs)) u := by
  intro u hu
  rcases hr with ⟨a, c, rfl, _, _, rfl⟩ | ⟨b, off, c, rfl, _, _, _, h4⟩
  · cases a with
    | none => exact run_convert_bytes_nil u 23 5 Try.underlying23 Try.underlying5 0 c 9 Try.underlying9
    | some a =>
      rw [run_convert_bytes_string u 23 9 5 _ 0 c Try.underlying23 Try.underlying5 Try.underlying9]
      exact run_bytesToString u a 0 c [] (by simp [loadCells, loadCellsFrom])
  · exact run_convert_bytes_arg u 23 5 Try.underlying23 Try.underlying5 b off zs.length c zs rfl (fun i hi => by rw [hu]; exact h4 i hi) 9 Try.underlying9

set_option maxHeartbeats 1000000 in
theorem bytes_walk (B B' : Nat → Prop) (v v' : Value) (xs zs : List Int) (w : World) (hr : Row .u8 B w v xs) (hr' : Row .u8 B' w v' zs) (hx : Bytes xs) (hz : Bytes zs) :
    Calls Try.prog 12 #[v, v'] w fun e w' => e = .returned (.bool (decide (xs = zs))) ∧ w' = w := by
  have h1 := run_bytes hr w (fun _ => rfl)
  have h2 := run_bytes hr' w (fun _ => rfl)
  have hd : Hid (((strOfNums xs).toList == (strOfNums zs).toList) = decide (xs = zs)) := by
    refine hide ?_
    rw [ByteArray.toList_eq, ByteArray.toList_eq]
    by_cases h : xs = zs
    · subst h; simp
    · have : (strOfNums xs).data.toList ≠ (strOfNums zs).data.toList := fun e => h (strOfNums_inj hx hz (by cases hs : strOfNums xs; cases ht : strOfNums zs; rw [hs, ht] at e; simp at e; rw [e]))
      simp only [h, decide_false]
      exact beq_eq_false_iff_ne.2 this
  generalize strOfNums xs = s1 at *
  generalize strOfNums zs = s2 at *
  clear hr hr'
  go_enter Try.func12, Try.ntmps12
  go_wp2
  go_ret
  exact ⟨ret_bool (unhide hd), rfl⟩
theorem bytes_same (B B' : Nat → Prop) (v v' : Value) (xs : List Int) (w : World) (hr : Row .u8 B w v xs) (hr' : Row .u8 B' w v' xs) (hx : Bytes xs) :
    Calls Try.prog 12 #[v, v'] w fun e w' => e = .returned (.bool true) ∧ w' = w :=
  (bytes_walk B B' v v' xs xs w hr hr' hx hx).mono fun e w' ⟨he, hw⟩ => ⟨by rw [he]; simp, hw⟩

theorem textT_e {m : Nat} {r : List Int} {e : Int} {v : Nat} {r' : List Int} {f : Int} (hs : smallT m r e = (v, r', f)) (h : f ≠ 0) : textT m r e = ([], r, f) := by
  unfold textT; rw [hs, if_pos h]
theorem textT_s {m : Nat} {r : List Int} {e : Int} {v : Nat} {r' : List Int} (hs : smallT m r e = (v, r', 0)) (h : r'.length < v) : textT m r e = ([], r, 9) := by
  unfold textT; rw [hs, if_neg (by simp), if_pos h]
theorem textT_k {m : Nat} {r : List Int} {e : Int} {v : Nat} {r' : List Int} (hs : smallT m r e = (v, r', 0)) (h : v ≤ r'.length) : textT m r e = (r'.take v, r'.drop v, 0) := by
  unfold textT; rw [hs, if_neg (by simp), if_neg (show ¬ r'.length < v by omega)]
/-- with a fault it stays -/
theorem smallT_stay {m : Nat} {r : List Int} {e : Int} {v : Nat} {r' : List Int} {f : Int} (hs : smallT m r e = (v, r', f)) (h : f ≠ 0) : v = 0 ∧ r' = r := by
  unfold smallT at hs
  split at hs
  · simp at hs; exact ⟨hs.1.symm, hs.2.1.symm⟩
  split at hs
  · simp at hs; exact ⟨hs.1.symm, hs.2.1.symm⟩
  split at hs
  · simp at hs; exact ⟨hs.1.symm, hs.2.1.symm⟩
  simp at hs
  exact absurd hs.2.2.symm h
theorem smallT_less {m : Nat} {r : List Int} {e : Int} : (smallT m r e).2.1.length ≤ r.length := by
  unfold smallT
  split
  · exact Nat.le_refl _
  split
  · exact Nat.le_refl _
  split
  · exact Nat.le_refl _
  simp
theorem smallT_bytes {m : Nat} {r : List Int} {e : Int} (h : Bytes r) : Bytes (smallT m r e).2.1 := by
  unfold smallT
  split
  · exact h
  split
  · exact h
  split
  · exact h
  exact h.drop _

set_option maxHeartbeats 1000000 in
theorem rtext_walk (B : Nat → Prop) (p : Nat) (zs : List Int) (e m : Int) (w : World) (hr : RD B w p zs e) (hb : Bytes zs) (h0 : -9223372036854775808 ≤ m) (h1 : m ≤ 9223372036854775807) (hl : zs.length ≤ 140737488355328) (hBw : ∀ b, B b → b < w.heap.size) :
    Calls Try.prog 25 #[.pointer (some ⟨p, 0, none⟩), .int .i64 m] w fun en w' => ∃ x, en = .returned x ∧ Row .u8 (fun b => from_ w.heap.size b ∧ Free w' b) w' x (textT m.toNat zs e).1 ∧ RD B w' p (textT m.toNat zs e).2.1 (textT m.toNat zs e).2.2 ∧ Turn (only p) w w' := by
  obtain ⟨i0, hi, hz0, hz1, hz2⟩ := info_parts info_u8
  have hle := smallT_le m.toNat zs e
  have hmt : m.toNat ≤ 9223372036854775807 := by omega
  have hbound := bound_walk m w h0 h1
  generalize m.toNat = M at *
  have htake := rtake_walk B p zs e M w hr hb (by omega)
  obtain ⟨x, hx, hrow, hp⟩ := hr
  have hc0 : w.cell? ⟨p, 0, none⟩ = some x := cell_obj hx
  have hless := smallT_less (m := M) (r := zs) (e := e)
  obtain ⟨a, c, rfl⟩ := hrow.slice
  generalize hS : smallT M zs e = S at *
  obtain ⟨v, r, f⟩ := S
  simp only at hle hless htake
  by_cases hf : f = 0
  · subst hf
    by_cases hv : r.length < v
    · rw [textT_s hS hv]
      have HS := hide hS
      clear hS
      go_enter Try.func25, Try.ntmps25
      go_wp2_with fail
      refine hbound.mono ?_
      rintro en w' ⟨rfl, hw⟩
      subst hw
      clear hbound
      go_wp2_with fail
      refine htake.mono ?_
      rintro en w1 ⟨rfl, ⟨x1, hx1, hrow1, _⟩, ht1⟩
      clear htake
      have hd0 : w1.cell? ⟨p, 0, none⟩ = some x1 := cell_obj hx1
      have hd1 : w1.cell? ⟨p, 1, none⟩ = some (.int .i64 0) := cell_obj hx1
      have hf0 := frozen_obj hx1 0
      have hf1 := frozen_obj hx1 1
      obtain ⟨a1, c1, rfl⟩ := hrow1.slice
      have hrow2 := hrow.turn ht1 (fun b hb e => hp (by cases e; exact hb))
      have hset := heap_setCell_obj (j := 0) hx1 (.slice a zs.length c)
      have hg0 : (w1.setCell ⟨p, 0, none⟩ (.slice a zs.length c)).cell? ⟨p, 1, none⟩ = some (.int .i64 0) := cell_obj hset
      have hg1 := frozen_obj hset 1
      have hrow3 := hrow2.turn (turn_set w1 p 0 (.slice a zs.length c)) (fun b hb e => hp (by cases e; exact hb))
      have hfin := RD.fault hset hp hrow3 9
      have htu := (ht1.then (turn_set w1 p 0 (.slice a zs.length c))).then (turn_set _ p 1 (.int .i64 9))
      go_wp2
      go_ret
      exact ⟨_, rfl, row_none _ _ _, hfin, htu⟩
    · rw [textT_k hS (show v ≤ r.length by omega)]
      have HS := hide hS
      clear hS
      go_enter Try.func25, Try.ntmps25
      go_wp2_with fail
      refine hbound.mono ?_
      rintro en w' ⟨rfl, hw⟩
      subst hw
      clear hbound
      go_wp2_with fail
      refine htake.mono ?_
      rintro en w1 ⟨rfl, ⟨x1, hx1, hrow1, _⟩, ht1⟩
      clear htake
      have hd0 : w1.cell? ⟨p, 0, none⟩ = some x1 := cell_obj hx1
      have hd1 : w1.cell? ⟨p, 1, none⟩ = some (.int .i64 0) := cell_obj hx1
      obtain ⟨y, hrun, hy⟩ := cut_to (P := Try.prog) (ki := .u64) Try.underlying23 hi hz1 hrow1 v (by omega)
      obtain ⟨a1, c1, rfl⟩ := hrow1.slice
      have hyl : (r.take v).length ≤ 140737488355328 := by rw [List.length_take]; omega
      go_wp2_with fail
      refine (clone_any B y (r.take v) _ hy hyl).mono ?_
      rintro en w2 ⟨z, rfl, hz, hb2⟩
      have hsz := ht1.size
      have hx2 : w2.heap[p]? = some (.cells #[.slice a1 r.length c1, .int .i64 0] 55 (0, 0)) := (hb2.block p (Array.getElem?_eq_some_iff.1 hx1).1).trans hx1
      have he0 : w2.cell? ⟨p, 0, none⟩ = some (.slice a1 r.length c1) := cell_obj hx2
      have hf0 := frozen_obj hx2 0
      obtain ⟨u, hrun2, hu⟩ := cut_from (P := Try.prog) (ki := .u64) Try.underlying23 hi hz1 (hrow1.below hb2) v (by omega)
      obtain ⟨a3, c3, rfl⟩ := hu.slice
      rw [List.length_drop] at hu hrun2
      have hplt : p < w1.heap.size := (Array.getElem?_eq_some_iff.1 hx1).1
      have hz2 := hz.free (turn_set w2 p 0 (.slice a3 (r.length - v) c3)) (fun b hb e => by cases e; exact absurd (show w1.heap.size ≤ p from hb) (by omega))
      have hz3 := hz2.mono (B' := fun b => from_ w'.heap.size b ∧ Free (w2.setCell ⟨p, 0, none⟩ (.slice a3 (r.length - v) c3)) b) (fun b hb => ⟨Nat.le_trans hsz hb.1, hb.2⟩)
      have hfin := RD.rest hx2 hp hu
      have htu := (ht1.then (Turn.of_below hb2)).then (turn_set w2 p 0 (.slice a3 (r.length - v) c3))
      go_wp2
      go_ret
      exact ⟨_, rfl, hz3, hfin, htu⟩
  · obtain ⟨hv0, hr0⟩ := smallT_stay hS hf
    subst hv0 hr0
    rw [textT_e hS hf]
    have HS := hide hS
    clear hS
    go_enter Try.func25, Try.ntmps25
    go_wp2_with fail
    refine hbound.mono ?_
    rintro en w' ⟨rfl, hw⟩
    subst hw
    clear hbound
    go_wp2_with fail
    refine htake.mono ?_
    rintro en w1 ⟨rfl, hr1, ht1⟩
    clear htake
    have hr2 := hr1
    obtain ⟨x1, hx1, hrow1, _⟩ := hr2
    have hd1 : w1.cell? ⟨p, 1, none⟩ = some (.int .i64 f) := cell_obj hx1
    go_wp2
    go_ret
    exact ⟨_, rfl, row_none _ _ _, hr1, ht1⟩

end Go.Proofs.Ytmkaamlacfdhlaa
