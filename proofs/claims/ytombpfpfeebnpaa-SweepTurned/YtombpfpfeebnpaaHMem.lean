/- A heap in memory; its smaller calls. -/
import Derived.Test.YtombpfpfeebnpaaPack1
namespace Go.Proofs.Ytombpfpfeebnpaa
open Go.RowKit Go.Maps
set_option linter.unusedVariables false
set_option linter.unusedSimpArgs false

/-- a thing as a value, and its cells -/
def itV (x : It) : Value := .agg #[.int .i64 (x.1 : Int), .int .i64 x.2]
def itC (x : It) : List Value := [.int .i64 (x.1 : Int), .int .i64 x.2]
def tCells (T : List It) : List Value := T.flatMap itC
def pCells (P : List Int) : List Value := P.map (Value.int .i32)

theorem tCells_length (T : List It) : (tCells T).length = T.length * 2 := by
  induction T with
  | nil => rfl
  | cons a T ih => simp only [tCells, List.flatMap_cons, List.length_append, List.length_cons] at ih ⊢; simp only [itC, List.length_cons, List.length_nil]; omega
theorem tCells_at : ∀ (T : List It) (k : Nat) (y : It), T[k]? = some y → (tCells T)[k * 2]? = some (.int .i64 (y.1 : Int)) ∧ (tCells T)[k * 2 + 1]? = some (.int .i64 y.2)
  | [], k, y, h => by simp at h
  | a :: T, 0, y, h => by simp at h; subst h; exact ⟨rfl, rfl⟩
  | a :: T, k + 1, y, h => by
    rw [List.getElem?_cons_succ] at h
    obtain ⟨h1, h2⟩ := tCells_at T k y h
    rw [show (k + 1) * 2 = k * 2 + 2 by omega]
    exact ⟨h1, h2⟩
theorem tCells_set : ∀ (T : List It) (k : Nat) (x : It), k < T.length → tCells (T.set k x) = ((tCells T).set (k * 2) (.int .i64 (x.1 : Int))).set (k * 2 + 1) (.int .i64 x.2)
  | [], k, y, h => by simp at h
  | a :: T, 0, x, h => rfl
  | a :: T, k + 1, x, h => by
    have := tCells_set T k x (by simpa using h)
    rw [show (k + 1) * 2 = k * 2 + 2 by omega, List.set_cons_succ]
    show itC a ++ tCells (T.set k x) = _
    rw [this]
    rfl
theorem tCells_append (T U : List It) : tCells (T ++ U) = tCells T ++ tCells U := List.flatMap_append
theorem tCells_take : ∀ (T : List It) (k : Nat), tCells (T.take k) = (tCells T).take (k * 2)
  | [], k => by simp [tCells]
  | a :: T, 0 => rfl
  | a :: T, k + 1 => by
    rw [show (k + 1) * 2 = k * 2 + 2 by omega, List.take_succ_cons]
    show itC a ++ tCells (T.take k) = _
    rw [tCells_take T k]
    rfl

/-- a heap at block B: its tree and its places -/
structure HMem (w : World) (B : Nat) (tv pv : Value) (T : List It) (P : List Int) : Prop where
  obj : w.heap[B]? = some (.cells #[tv, pv] 99 (0, 0))
  t : OwnSl w 71 2 tv T.length (tCells T)
  p : OwnSl w 21 1 pv P.length (pCells P)
def HFoot (B : Nat) (tv pv : Value) (j : Nat) : Prop := j = B ∨ tv.ownBlock = some j ∨ pv.ownBlock = some j

theorem HMem.turn {F : Nat → Prop} {w w' : World} {B : Nat} {tv pv : Value} {T : List It} {P : List Int} (h : HMem w B tv pv T P) (t : Turn F w w') (hF : ∀ j, HFoot B tv pv j → ¬ F j) : HMem w' B tv pv T P :=
  ⟨t.same h.obj (hF B (.inl rfl)), h.t.turn t (fun j hj => hF j (.inr (.inl hj))), h.p.turn t (fun j hj => hF j (.inr (.inr hj)))⟩
theorem HMem.lt {w : World} {B : Nat} {tv pv : Value} {T : List It} {P : List Int} (h : HMem w B tv pv T P) : ∀ j, HFoot B tv pv j → j < w.heap.size := by
  rintro j (rfl | hj | hj)
  · exact (Array.getElem?_eq_some_iff.1 h.obj).1
  · obtain ⟨cur, hc⟩ := h.t.lt j hj; exact (Array.getElem?_eq_some_iff.1 hc).1
  · obtain ⟨cur, hc⟩ := h.p.lt j hj; exact (Array.getElem?_eq_some_iff.1 hc).1
theorem HMem.quiet {w w' : World} {B : Nat} {tv pv : Value} {T : List It} {P : List Int} (h : HMem w B tv pv T P) (t : Turn (fun _ => False) w w') : HMem w' B tv pv T P := h.turn t (fun _ _ h => h)
theorem HMem.tform {w : World} {B : Nat} {tv pv : Value} {T : List It} {P : List Int} (h : HMem w B tv pv T P) (h0 : 0 < T.length) : ∃ g off cap, tv = .slice (some ⟨g, off, none⟩) T.length cap := by
  rcases h.t.2 with ⟨_, h1⟩ | ⟨g, off, cap, cur, rfl, _⟩
  · omega
  · exact ⟨g, off, cap, rfl⟩
theorem HMem.pform {w : World} {B : Nat} {tv pv : Value} {T : List It} {P : List Int} (h : HMem w B tv pv T P) (h0 : 0 < P.length) : ∃ g off cap, pv = .slice (some ⟨g, off, none⟩) P.length cap := by
  rcases h.p.2 with ⟨_, h1⟩ | ⟨g, off, cap, cur, rfl, _⟩
  · omega
  · exact ⟨g, off, cap, rfl⟩
theorem HMem.tany {w : World} {B : Nat} {tv pv : Value} {T : List It} {P : List Int} (h : HMem w B tv pv T P) : ∃ a cap, tv = .slice a T.length cap := by
  rcases h.t.2 with ⟨rfl, h1⟩ | ⟨g, off, cap, cur, rfl, _⟩
  · rw [h1]; exact ⟨none, 0, rfl⟩
  · exact ⟨_, cap, rfl⟩
theorem HMem.pany {w : World} {B : Nat} {tv pv : Value} {T : List It} {P : List Int} (h : HMem w B tv pv T P) : ∃ a cap, pv = .slice a P.length cap := by
  rcases h.p.2 with ⟨rfl, h1⟩ | ⟨g, off, cap, cur, rfl, _⟩
  · rw [h1]; exact ⟨none, 0, rfl⟩
  · exact ⟨_, cap, rfl⟩
/-- the cells of a thing in the tree -/
theorem HMem.tcell {w : World} {B g off n cap : Nat} {pv : Value} {T : List It} {P : List Int} (h : HMem w B (.slice (some ⟨g, off, none⟩) n cap) pv T P) {k : Nat} {y : It} (hk : T[k]? = some y) :
    w.cell? ⟨g, off + k * 2, none⟩ = some (.int .i64 (y.1 : Int)) ∧ w.cell? ⟨g, off + k * 2 + 1, none⟩ = some (.int .i64 y.2) := by
  have hn : n = T.length := by
    rcases h.t.2 with ⟨hv, _⟩ | ⟨_, _, _, _, hv, _⟩
    · simp at hv
    · simp only [Value.slice.injEq] at hv; exact hv.2.1
  subst hn
  obtain ⟨h1, h2⟩ := tCells_at T k y hk
  exact ⟨h.t.cells _ _ h1, by have := h.t.cells _ _ h2; rwa [← Nat.add_assoc] at this⟩
theorem HMem.pcell {w : World} {B g off n cap : Nat} {tv : Value} {T : List It} {P : List Int} (h : HMem w B tv (.slice (some ⟨g, off, none⟩) n cap) T P) {k : Nat} {p : Int} (hk : P[k]? = some p) :
    w.cell? ⟨g, off + k, none⟩ = some (.int .i32 p) := by
  have hn : n = P.length := by
    rcases h.p.2 with ⟨hv, _⟩ | ⟨_, _, _, _, hv, _⟩
    · simp at hv
    · simp only [Value.slice.injEq] at hv; exact hv.2.1
  subst hn
  exact h.p.cells _ _ (by simp [pCells, hk])

set_option maxHeartbeats 400000 in
theorem above_walk (k : Nat) (w : World) (h0 : 0 < k) (hk : k ≤ 1099511627776) : Calls Try.prog 64 #[.int .i64 (k : Int)] w fun e w' => e = .returned (.int .i64 (((k - 1) / 2 : Nat) : Int)) ∧ w' = w := by
  go_enter Try.func64, Try.ntmps64
  go_wp2
  go_ret
  refine ⟨ret_int ?_, rfl⟩
  omega

set_option maxHeartbeats 1000000 in
theorem before_walk (x y : It) (w : World) (hx : x.1 < 4194304) (hy : y.1 < 4194304) :
    Calls Try.prog 63 #[itV x, itV y] w fun e w' => e = .returned (.bool (decide (bef x y))) ∧ Turn (fun _ => False) w w' := by
  obtain ⟨a, r⟩ := x
  obtain ⟨b, q⟩ := y
  simp only at hx hy
  unfold itV
  have T2 := ((Turn.refl (fun _ => False) w).alloc (.cells #[.int .i64 (a : Int), .int .i64 r] 71)).alloc (.cells #[.int .i64 (b : Int), .int .i64 q] 71)
  by_cases h1 : r < q
  · go_enter Try.func63, Try.ntmps63
    go_wp2
    go_ret
    exact ⟨ret_bool (by rw [decide_eq_true (show bef (a, r) (b, q) from .inl h1)]), T2⟩
  · by_cases h2 : r = q
    · subst h2
      go_enter Try.func63, Try.ntmps63
      go_wp2
      go_ret
      exact ⟨ret_bool (by simp [bef]), T2⟩
    · have h3 : (r == q) = false := by simpa using h2
      go_enter Try.func63, Try.ntmps63
      go_wp2
      go_ret
      exact ⟨ret_bool (by rw [decide_eq_false (show ¬ bef (a, r) (b, q) by unfold bef; simp only; omega)]), T2⟩

set_option maxHeartbeats 400000 in
theorem has_walk (w : World) (B : Nat) (tv pv : Value) (T : List It) (P : List Int) (h : HMem w B tv pv T P) (id : Int) (hp : P.length ≤ 4194304) :
    Calls Try.prog 67 #[.pointer (some ⟨B, 0, none⟩), .int .i64 id] w fun e w' => e = .returned (.bool (decide (0 ≤ id ∧ id < P.length))) ∧ w' = w := by
  obtain ⟨a, cap, rfl⟩ := h.pany
  have c1 : w.cell? ⟨B, 1, none⟩ = some (.slice a P.length cap) := cell_obj h.obj 1
  by_cases h0 : 0 ≤ id
  · go_enter Try.func67, Try.ntmps67
    go_wp2
    go_ret
    exact ⟨ret_bool (by simp [h0]), rfl⟩
  · go_enter Try.func67, Try.ntmps67
    go_wp2
    go_ret
    exact ⟨ret_bool (by rw [decide_eq_false (by omega)]; rfl), rfl⟩
set_option maxHeartbeats 400000 in
theorem len_walk (w : World) (B : Nat) (tv pv : Value) (T : List It) (P : List Int) (h : HMem w B tv pv T P) :
    Calls Try.prog 62 #[.pointer (some ⟨B, 0, none⟩)] w fun e w' => e = .returned (.int .i64 (T.length : Int)) ∧ w' = w := by
  obtain ⟨a, cap, rfl⟩ := h.tany
  have c1 : w.cell? ⟨B, 0, none⟩ = some (.slice a T.length cap) := cell_obj h.obj 0
  go_enter Try.func62, Try.ntmps62
  go_wp2
  go_ret
  exact ⟨rfl, rfl⟩
end Go.Proofs.Ytombpfpfeebnpaa
