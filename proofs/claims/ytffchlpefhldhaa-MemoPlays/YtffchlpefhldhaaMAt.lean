/- The law's own list: at, drop. -/
import Derived.Test.YtffchlpefhldhaaMTold
import Derived.Test.YtffchlpefhldhaaMDrop
namespace Go.Proofs.Ytffchlpefhldhaa
open Go.RowKit Go.Maps
set_option linter.unusedVariables false

theorem info_cell : (Try.prog.info? 36).map (fun i => (i.zero, i.size, i.bytes)) = some (some (.agg #[.int .i32 0, .int .i32 0, .int .i64 0]), 3, 16) := by kernel_rfl

/-- the place of a pair; -1 -/
def place : List Ent → Int → Int → Int
  | [], _, _ => -1
  | e :: L, a, b => if isAt a b e then 0 else if place L a b < 0 then -1 else place L a b + 1
theorem place_none {L : List Ent} {a b : Int} (h : keyed L a b = false) : place L a b = -1 := by
  induction L with
  | nil => rfl
  | cons e L ih =>
    unfold keyed at h ih
    rw [List.any_cons, Bool.or_eq_false_iff] at h
    unfold place
    rw [h.1, ih h.2]
    rfl
theorem place_skip {L : List Ent} {a b : Int} {z : Nat} {e : Ent} (h : keyed (L.take z) a b = false) (he : L[z]? = some e) (hk : isAt a b e = true) : place L a b = z := by
  induction L generalizing z with
  | nil => simp at he
  | cons x L ih =>
    cases z with
    | zero => simp at he; subst he; unfold place; rw [hk]; rfl
    | succ z =>
      unfold keyed at h ih
      rw [List.take_succ_cons, List.any_cons, Bool.or_eq_false_iff] at h
      unfold place
      rw [h.1, ih h.2 (by simpa using he)]
      simp
      omega
theorem keyed_take {L : List Ent} {a b : Int} {z : Nat} {e : Ent} (h : keyed (L.take z) a b = false) (he : L[z]? = some e) (hk : isAt a b e = false) : keyed (L.take (z + 1)) a b = false := by
  rw [List.take_add_one, he, keyed_append, h]
  simp [keyed, hk]

set_option maxHeartbeats 1000000 in
theorem at_some (w : World) (g off cap : Nat) (L : List Ent) (a b : Int) (hl : L.length ≤ 100000) (hc : ∀ i e, L[i]? = some e → w.cell? ⟨g, off + i * 3, none⟩ = some (.int .i32 e.1) ∧ w.cell? ⟨g, off + i * 3 + 1, none⟩ = some (.int .i32 e.2.1) ∧ w.cell? ⟨g, off + i * 3 + 2, none⟩ = some (.int .i64 e.2.2)) :
    Calls Try.prog 9 #[.slice (some ⟨g, off, none⟩) L.length cap, .agg #[.int .i32 a, .int .i32 b]] w fun e w' => e = .returned (.int .i64 (place L a b)) ∧ Turn (fun _ => False) w w' := by
  go_enter Try.func9, Try.ntmps9
  go_wp2_with fail
  have tW : Turn (fun _ => False) w (w.alloc (.cells #[.int .i32 a, .int .i32 b] 30)) := (Turn.refl _ w).alloc _
  have k0 : (w.alloc (.cells #[.int .i32 a, .int .i32 b] 30)).heap[w.heap.size]? = some (.cells #[.int .i32 a, .int .i32 b] 30 (0, 0)) := heap_alloc_new w _
  generalize w.alloc (.cells #[.int .i32 a, .int .i32 b] 30) = W at *
  go_loopw [5] (fun i wr => ∃ z : Nat, z ≤ L.length ∧ i = .int .i64 z ∧ Turn (fun _ => False) W wr ∧ Hid (keyed (L.take z) a b = false)) (fun i _ => L.length - (intOf i).toNat)
  case atStart => exact ⟨0, Nat.zero_le _, rfl, Turn.refl _ _, hide rfl⟩
  case round =>
    obtain ⟨z, hz, rfl, tt, hk⟩ := hrel
    by_cases hlt : z < L.length
    · obtain ⟨⟨x, y, d⟩, hL⟩ : ∃ e, L[z]? = some e := ⟨_, List.getElem?_eq_getElem hlt⟩
      obtain ⟨z0, z1, _⟩ := hc _ _ hL
      have z0 := (tW.then tt).cell z0 id
      have z1 := (tW.then tt).cell z1 id
      have kz := tt.same k0 id
      have p0 : wr.cell? ⟨w.heap.size, 0, none⟩ = some (.int .i32 a) := cell_obj kz 0
      have p1 : wr.cell? ⟨w.heap.size, 1, none⟩ = some (.int .i32 b) := cell_obj kz 1
      simp only at z0 z1
      have hif := same2_if x y a b (fun t => Result.ok (Next.value (Value.bool t)) wr.drew)
      cases hs : same2 x y a b
      · rw [hs] at hif
        have hk' := keyed_take (unhide hk) hL hs
        have Hk' := hide hk'
        clear hk' hL
        go_wp2_with fail
        go_region
        go_wp2_with fail
        exact ⟨⟨z + 1, by omega, by go_num, tt.drew, Hk'⟩, by simp [intOf]; omega⟩
      · rw [hs] at hif
        have hp := place_skip (unhide hk) hL hs
        have Hp := hide hp
        clear hp hL
        go_wp2_with fail
        go_region
        go_wp2_with fail
        go_ret
        exact ⟨ret_int (unhide Hp).symm, tW.then tt.drew⟩
    · have hzl : z = L.length := by omega
      have hp := place_none (L := L) (a := a) (b := b) (by have := unhide hk; rwa [hzl, List.take_length] at this)
      have Hp := hide hp
      clear hp hzl
      go_wp2_with fail
      go_ret
      exact ⟨ret_int (unhide Hp).symm, tW.then tt⟩

set_option maxHeartbeats 400000 in
theorem at_none (w : World) (la : Option Addr) (c : Nat) (a b : Int) :
    Calls Try.prog 9 #[.slice la 0 c, .agg #[.int .i32 a, .int .i32 b]] w fun e w' => e = .returned (.int .i64 (-1)) ∧ Turn (fun _ => False) w w' := by
  go_enter Try.func9, Try.ntmps9
  go_wp2_with fail
  refine wp_loop_rounds 1 ?_; rw [rounds_succ]
  go_wp2_with fail
  go_ret
  exact ⟨rfl, (Turn.refl _ w).alloc _⟩
theorem at_any (w : World) (v : Value) (L : List Ent) (a b : Int) (hl : L.length ≤ 100000) (h : CRow w v L) :
    Calls Try.prog 9 #[v, .agg #[.int .i32 a, .int .i32 b]] w fun e w' => e = .returned (.int .i64 (place L a b)) ∧ Turn (fun _ => False) w w' := by
  rcases h with ⟨rfl, la, c, rfl⟩ | ⟨g, off, cap, rfl, hc⟩
  · exact at_none w la c a b
  · exact at_some w g off cap L a b hl hc
end Go.Proofs.Ytffchlpefhldhaa
