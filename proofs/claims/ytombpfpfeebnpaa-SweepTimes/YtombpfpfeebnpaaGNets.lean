/- Lists of arcs and networks held against each other; a copy. -/
import Derived.Test.YtombpfpfeebnpaaGAwake
import Derived.Test.YtombpfpfeebnpaaBAfter
namespace Go.Proofs.Ytombpfpfeebnpaa
open Go.RowKit Go.Maps
set_option linter.unusedVariables false
set_option linter.unusedSimpArgs false
set_option maxRecDepth 100000

theorem After.turn {W : World} (p : After W) : Turn (fun _ => False) W p.w := Turn.of_below p.bel
theorem Turn.blw {w w' : World} (h : Turn (fun _ => False) w w') : Below w.heap.size w w' := h.below (fun _ h => h.elim) (Nat.le_refl _)

theorem eq_of_at (a b : List Ar) (hl : a.length = b.length) (h : ∀ j x y, j < a.length → a[j]? = some x → b[j]? = some y → x = y) : a = b := by
  apply List.ext_getElem hl
  intro i h1 h2
  exact h i _ _ h1 (by simp [h1]) (by simp [h2])

set_option maxHeartbeats 1000000 in
theorem clone_arcs (B : Nat → Prop) (w : World) (v : Value) (l : List Ar) (hr : AR B w v l) (hl : l.length ≤ 5000000000000) :
    Calls Try.prog 53 #[v] w fun e w' => ∃ x, e = .returned x ∧ OA w' x l ∧ Turn (fun _ => False) w w' ∧ ∀ j, x.ownBlock = some j → w.heap.size ≤ j := by
  obtain ⟨a, c, rfl⟩ := hr.slice
  have q : ∀ (w : World) (a : Option Addr) (n c n' c' : Nat), (binOp .eql 22 (.slice a n c) (.slice none n' c')).run Try.prog w = .ok (.bool a.isNone) w := fun w a n c n' c' => by cases a <;> rfl
  cases a with
  | none =>
    have h0 : l = [] := by
      rcases hr with ⟨a, c, h, _, _, rfl⟩ | ⟨b, off, c, h, _⟩
      · rfl
      · simp at h
    subst h0
    go_enter Try.func53, Try.ntmps53
    go_wp2
    go_ret
    exact ⟨_, rfl, oa_none _, Turn.refl _ _, fun j hj => by simp [Value.ownBlock] at hj⟩
  | some a =>
    have T0 := (Turn.refl (fun _ => False) w).alloc (.cells #[] 46)
    have hO : OA (w.alloc (.cells #[] 46)) (.slice (some ⟨w.heap.size, 0, none⟩) 0 0) [] := ⟨rfl, .inr ⟨_, 0, 0, _, rfl, heap_alloc_new w _, Nat.le_refl _, Nat.zero_le _, by simp, rfl⟩⟩
    obtain ⟨x, w2, hrun, O2, t2, own2⟩ := append_arcs hO (hr.quiet T0).src (by simp; omega)
    have T2 : Turn (fun _ => False) w w2 := T0.trans t2 (fun j hj => by simp [Value.ownBlock] at hj; omega)
    have Own : Hid (∀ j, x.ownBlock = some j → w.heap.size ≤ j) := hide (fun j hj => by
      rcases own2 j hj with h | h
      · simp [Value.ownBlock] at h; omega
      · have := T0.size; omega)
    clear own2 t2 T0 hO hr
    go_enter Try.func53, Try.ntmps53
    go_wp2_with (at_builtin; refine list_append_run rfl _ _ 22 rfl _ _ _ _ rfl rfl hrun ?_)
    go_ret
    exact ⟨x, rfl, by simpa using O2, T2, unhide Own⟩
end Go.Proofs.Ytombpfpfeebnpaa
