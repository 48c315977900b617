/- A heap in memory; its smaller calls. Heap: place, lay, firstBelow. Heap: rise. Heap: firstBelow, sink. Heap: sink. Heap: takeOut. -/
import Derived.Test.YtombpfpfeebnpaaPack1
import Derived.Deep.RegionHeld3
namespace Go.Proofs.Ytombpfpfeebnpaa
open Go.RowKit Go.Maps
set_option linter.unusedVariables false
set_option linter.unusedSimpArgs false

/-- a thing as a value, and its cells -/
def itV (x : It) : Value := .agg #[.int .i64 (x.1 : Int), .int .i64 x.2]
def itC (x : It) : List Value := [.int .i64 (x.1 : Int), .int .i64 x.2]
def tCells (T : List It) : List Value := T.flatMap itC
def pCells (P : List Int) : List Value := P.map (Value.int .i32)

theorem tCells_length (T : List It) : (tCells T).length = T.length * 2 := by
  induction T with
  | nil => rfl
  | cons a T ih => simp only [tCells, List.flatMap_cons, List.length_append, List.length_cons] at ih ⊢; simp only [itC, List.length_cons, List.length_nil]; omega
theorem tCells_at : ∀ (T : List It) (k : Nat) (y : It), T[k]? = some y → (tCells T)[k * 2]? = some (.int .i64 (y.1 : Int)) ∧ (tCells T)[k * 2 + 1]? = some (.int .i64 y.2)
  | [], k, y, h => by simp at h
  | a :: T, 0, y, h => by simp at h; subst h; exact ⟨rfl, rfl⟩
  | a :: T, k + 1, y, h => by
    rw [List.getElem?_cons_succ] at h
    obtain ⟨h1, h2⟩ := tCells_at T k y h
    rw [show (k + 1) * 2 = k * 2 + 2 by omega]
    exact ⟨h1, h2⟩
theorem tCells_set : ∀ (T : List It) (k : Nat) (x : It), k < T.length → tCells (T.set k x) = ((tCells T).set (k * 2) (.int .i64 (x.1 : Int))).set (k * 2 + 1) (.int .i64 x.2)
  | [], k, y, h => by simp at h
  | a :: T, 0, x, h => rfl
  | a :: T, k + 1, x, h => by
    have := tCells_set T k x (by simpa using h)
    rw [show (k + 1) * 2 = k * 2 + 2 by omega, List.set_cons_succ]
    show itC a ++ tCells (T.set k x) = _
    rw [this]
    rfl
theorem tCells_append (T U : List It) : tCells (T ++ U) = tCells T ++ tCells U := List.flatMap_append
theorem tCells_take : ∀ (T : List It) (k : Nat), tCells (T.take k) = (tCells T).take (k * 2)
  | [], k => by simp [tCells]
  | a :: T, 0 => rfl
  | a :: T, k + 1 => by
    rw [show (k + 1) * 2 = k * 2 + 2 by omega, List.take_succ_cons]
    show itC a ++ tCells (T.take k) = _
    rw [tCells_take T k]
    rfl

/-- a heap at block B: its tree and its places -/
structure HMem (w : World) (B : Nat) (tv pv : Value) (T : List It) (P : List Int) : Prop where
  obj : w.heap[B]? = some (.cells #[tv, pv] 99 (0, 0))
  t : OwnSl w 71 2 tv T.length (tCells T)
  p : OwnSl w 21 1 pv P.length (pCells P)
def HFoot (B : Nat) (tv pv : Value) (j : Nat) : Prop := j = B ∨ tv.ownBlock = some j ∨ pv.ownBlock = some j

theorem HMem.turn {F : Nat → Prop} {w w' : World} {B : Nat} {tv pv : Value} {T : List It} {P : List Int} (h : HMem w B tv pv T P) (t : Turn F w w') (hF : ∀ j, HFoot B tv pv j → ¬ F j) : HMem w' B tv pv T P :=
  ⟨t.same h.obj (hF B (.inl rfl)), h.t.turn t (fun j hj => hF j (.inr (.inl hj))), h.p.turn t (fun j hj => hF j (.inr (.inr hj)))⟩
theorem HMem.lt {w : World} {B : Nat} {tv pv : Value} {T : List It} {P : List Int} (h : HMem w B tv pv T P) : ∀ j, HFoot B tv pv j → j < w.heap.size := by
  rintro j (rfl | hj | hj)
  · exact (Array.getElem?_eq_some_iff.1 h.obj).1
  · obtain ⟨cur, hc⟩ := h.t.lt j hj; exact (Array.getElem?_eq_some_iff.1 hc).1
  · obtain ⟨cur, hc⟩ := h.p.lt j hj; exact (Array.getElem?_eq_some_iff.1 hc).1
theorem HMem.quiet {w w' : World} {B : Nat} {tv pv : Value} {T : List It} {P : List Int} (h : HMem w B tv pv T P) (t : Turn (fun _ => False) w w') : HMem w' B tv pv T P := h.turn t (fun _ _ h => h)
theorem HMem.tform {w : World} {B : Nat} {tv pv : Value} {T : List It} {P : List Int} (h : HMem w B tv pv T P) (h0 : 0 < T.length) : ∃ g off cap, tv = .slice (some ⟨g, off, none⟩) T.length cap := by
  rcases h.t.2 with ⟨_, h1⟩ | ⟨g, off, cap, cur, rfl, _⟩
  · omega
  · exact ⟨g, off, cap, rfl⟩
theorem HMem.pform {w : World} {B : Nat} {tv pv : Value} {T : List It} {P : List Int} (h : HMem w B tv pv T P) (h0 : 0 < P.length) : ∃ g off cap, pv = .slice (some ⟨g, off, none⟩) P.length cap := by
  rcases h.p.2 with ⟨_, h1⟩ | ⟨g, off, cap, cur, rfl, _⟩
  · omega
  · exact ⟨g, off, cap, rfl⟩
theorem HMem.tany {w : World} {B : Nat} {tv pv : Value} {T : List It} {P : List Int} (h : HMem w B tv pv T P) : ∃ a cap, tv = .slice a T.length cap := by
  rcases h.t.2 with ⟨rfl, h1⟩ | ⟨g, off, cap, cur, rfl, _⟩
  · rw [h1]; exact ⟨none, 0, rfl⟩
  · exact ⟨_, cap, rfl⟩
theorem HMem.pany {w : World} {B : Nat} {tv pv : Value} {T : List It} {P : List Int} (h : HMem w B tv pv T P) : ∃ a cap, pv = .slice a P.length cap := by
  rcases h.p.2 with ⟨rfl, h1⟩ | ⟨g, off, cap, cur, rfl, _⟩
  · rw [h1]; exact ⟨none, 0, rfl⟩
  · exact ⟨_, cap, rfl⟩
/-- the cells of a thing in the tree -/
theorem HMem.tcell {w : World} {B g off n cap : Nat} {pv : Value} {T : List It} {P : List Int} (h : HMem w B (.slice (some ⟨g, off, none⟩) n cap) pv T P) {k : Nat} {y : It} (hk : T[k]? = some y) :
    w.cell? ⟨g, off + k * 2, none⟩ = some (.int .i64 (y.1 : Int)) ∧ w.cell? ⟨g, off + k * 2 + 1, none⟩ = some (.int .i64 y.2) := by
  have hn : n = T.length := by
    rcases h.t.2 with ⟨hv, _⟩ | ⟨_, _, _, _, hv, _⟩
    · simp at hv
    · simp only [Value.slice.injEq] at hv; exact hv.2.1
  subst hn
  obtain ⟨h1, h2⟩ := tCells_at T k y hk
  exact ⟨h.t.cells _ _ h1, by have := h.t.cells _ _ h2; rwa [← Nat.add_assoc] at this⟩
theorem HMem.pcell {w : World} {B g off n cap : Nat} {tv : Value} {T : List It} {P : List Int} (h : HMem w B tv (.slice (some ⟨g, off, none⟩) n cap) T P) {k : Nat} {p : Int} (hk : P[k]? = some p) :
    w.cell? ⟨g, off + k, none⟩ = some (.int .i32 p) := by
  have hn : n = P.length := by
    rcases h.p.2 with ⟨hv, _⟩ | ⟨_, _, _, _, hv, _⟩
    · simp at hv
    · simp only [Value.slice.injEq] at hv; exact hv.2.1
  subst hn
  exact h.p.cells _ _ (by simp [pCells, hk])

set_option maxHeartbeats 400000 in
theorem above_walk (k : Nat) (w : World) (h0 : 0 < k) (hk : k ≤ 1099511627776) : Calls Try.prog 64 #[.int .i64 (k : Int)] w fun e w' => e = .returned (.int .i64 (((k - 1) / 2 : Nat) : Int)) ∧ w' = w := by
  go_enter Try.func64, Try.ntmps64
  go_wp2
  go_ret
  refine ⟨ret_int ?_, rfl⟩
  omega

set_option maxHeartbeats 1000000 in
theorem before_walk (x y : It) (w : World) (hx : x.1 < 4194304) (hy : y.1 < 4194304) :
    Calls Try.prog 63 #[itV x, itV y] w fun e w' => e = .returned (.bool (decide (bef x y))) ∧ Turn (fun _ => False) w w' := by
  obtain ⟨a, r⟩ := x
  obtain ⟨b, q⟩ := y
  simp only at hx hy
  unfold itV
  have T2 := ((Turn.refl (fun _ => False) w).alloc (.cells #[.int .i64 (a : Int), .int .i64 r] 71)).alloc (.cells #[.int .i64 (b : Int), .int .i64 q] 71)
  by_cases h1 : r < q
  · go_enter Try.func63, Try.ntmps63
    go_wp2
    go_ret
    exact ⟨ret_bool (by rw [decide_eq_true (show bef (a, r) (b, q) from .inl h1)]), T2⟩
  · by_cases h2 : r = q
    · subst h2
      go_enter Try.func63, Try.ntmps63
      go_wp2
      go_ret
      exact ⟨ret_bool (by simp [bef]), T2⟩
    · have h3 : (r == q) = false := by simpa using h2
      go_enter Try.func63, Try.ntmps63
      go_wp2
      go_ret
      exact ⟨ret_bool (by rw [decide_eq_false (show ¬ bef (a, r) (b, q) by unfold bef; simp only; omega)]), T2⟩

set_option maxHeartbeats 400000 in
theorem has_walk (w : World) (B : Nat) (tv pv : Value) (T : List It) (P : List Int) (h : HMem w B tv pv T P) (id : Int) (hp : P.length ≤ 4194304) :
    Calls Try.prog 67 #[.pointer (some ⟨B, 0, none⟩), .int .i64 id] w fun e w' => e = .returned (.bool (decide (0 ≤ id ∧ id < P.length))) ∧ w' = w := by
  obtain ⟨a, cap, rfl⟩ := h.pany
  have c1 : w.cell? ⟨B, 1, none⟩ = some (.slice a P.length cap) := cell_obj h.obj 1
  by_cases h0 : 0 ≤ id
  · go_enter Try.func67, Try.ntmps67
    go_wp2
    go_ret
    exact ⟨ret_bool (by simp [h0]), rfl⟩
  · go_enter Try.func67, Try.ntmps67
    go_wp2
    go_ret
    exact ⟨ret_bool (by rw [decide_eq_false (by omega)]; rfl), rfl⟩
set_option maxHeartbeats 400000 in
theorem len_walk (w : World) (B : Nat) (tv pv : Value) (T : List It) (P : List Int) (h : HMem w B tv pv T P) :
    Calls Try.prog 62 #[.pointer (some ⟨B, 0, none⟩)] w fun e w' => e = .returned (.int .i64 (T.length : Int)) ∧ w' = w := by
  obtain ⟨a, cap, rfl⟩ := h.tany
  have c1 : w.cell? ⟨B, 0, none⟩ = some (.slice a T.length cap) := cell_obj h.obj 0
  go_enter Try.func62, Try.ntmps62
  go_wp2
  go_ret
  exact ⟨rfl, rfl⟩
end Go.Proofs.Ytombpfpfeebnpaa


namespace Go.Proofs.Ytombpfpfeebnpaa
open Go.RowKit Go.Maps
set_option linter.unusedVariables false
set_option linter.unusedSimpArgs false

set_option maxHeartbeats 1000000 in
theorem lay_walk (w : World) (B : Nat) (tv pv : Value) (T : List It) (P : List Int) (h : HMem w B tv pv T P) (k : Nat) (x : It) (hk : k < T.length) (hk2 : k < 4194304) (hx : x.1 < P.length) (hp : P.length ≤ 4194304) :
    Calls Try.prog 71 #[.pointer (some ⟨B, 0, none⟩), .int .i64 (k : Int), itV x] w fun e w' => e = .returned (.tuple #[]) ∧ HMem w' B tv pv (T.set k x) (P.set x.1 ((k : Int) + 1)) ∧ Turn (HFoot B tv pv) w w' := by
  obtain ⟨g, off, cap, rfl⟩ := h.tform (by omega)
  obtain ⟨gp, offp, capp, rfl⟩ := h.pform (by omega)
  obtain ⟨a, r⟩ := x
  simp only at hx ⊢
  unfold itV
  simp only
  have TW := (Turn.refl (HFoot B (.slice (some ⟨g, off, none⟩) T.length cap) (.slice (some ⟨gp, offp, none⟩) P.length capp)) w).alloc (.cells #[.int .i64 (a : Int), .int .i64 r] 71)
  have hB0 := h.lt B (.inl rfl)
  have k0 : (w.alloc (.cells #[.int .i64 (a : Int), .int .i64 r] 71)).heap[w.heap.size]? = some (.cells #[.int .i64 (a : Int), .int .i64 r] 71 (0, 0)) := heap_alloc_new w _
  have hM := h.quiet ((Turn.refl (fun _ => False) w).alloc (.cells #[.int .i64 (a : Int), .int .i64 r] 71))
  have hlt := h.lt
  go_enter Try.func71, Try.ntmps71
  go_wp2
  generalize w.alloc (.cells #[.int .i64 (a : Int), .int .i64 r] 71) = W at *
  generalize hb : w.heap.size = b at *
  have gb : g ≠ b := by have := hlt g (.inr (.inl rfl)); omega
  have gpb : gp ≠ b := by have := hlt gp (.inr (.inr rfl)); omega
  have gB : g ≠ B := hM.t.neObj hM.obj (by decide) g rfl
  have gpB : gp ≠ B := hM.p.neObj hM.obj (by decide) gp rfl
  have ggp : g ≠ gp := by
    rintro rfl
    obtain ⟨c1, e1⟩ := hM.t.lt g rfl
    obtain ⟨c2, e2⟩ := hM.p.lt g rfl
    rw [e1] at e2; simp at e2
  have f0 : W.cell? ⟨B, 0, none⟩ = some (.slice (some ⟨g, off, none⟩) T.length cap) := cell_obj hM.obj 0
  have f1 : W.cell? ⟨B, 1, none⟩ = some (.slice (some ⟨gp, offp, none⟩) P.length capp) := cell_obj hM.obj 1
  have x0 : W.cell? ⟨b, 0, none⟩ = some (.int .i64 (a : Int)) := cell_obj k0 0
  have x1 : W.cell? ⟨b, 1, none⟩ = some (.int .i64 r) := cell_obj k0 1
  obtain ⟨y, hy⟩ : ∃ y, T[k]? = some y := ⟨T[k], by simp [hk]⟩
  obtain ⟨t0, t1⟩ := hM.tcell hy
  obtain ⟨cur, hg⟩ := hM.t.lt g rfl
  have z0 : W.frozen? ⟨g, off + k * 2, none⟩ = false := frozen_obj hg _
  have z1 : W.frozen? ⟨g, off + k * 2 + 1, none⟩ = false := frozen_obj hg _
  go_region
  have hT2 := (hM.t.set (k * 2) (by omega) (.int .i64 (a : Int))).1
  have hT3 := (hT2.set (k * 2 + 1) (by omega) (.int .i64 r)).1
  rw [← tCells_set T k (a, r) hk] at hT3
  have T3 : Turn (HFoot B (.slice (some ⟨g, off, none⟩) T.length cap) (.slice (some ⟨gp, offp, none⟩) P.length capp)) W ((W.setCell ⟨g, off + k * 2, none⟩ (.int .i64 (a : Int))).setCell ⟨g, off + k * 2 + 1, none⟩ (.int .i64 r)).drew := ((((Turn.refl _ W).setCell (p := ⟨g, off + k * 2, none⟩) (.inl (.inr (.inl rfl))) _).setCell (p := ⟨g, off + k * 2 + 1, none⟩) (.inl (.inr (.inl rfl))) _)).drew
  have T3' : Turn (fun j => j = g) W ((W.setCell ⟨g, off + k * 2, none⟩ (.int .i64 (a : Int))).setCell ⟨g, off + k * 2 + 1, none⟩ (.int .i64 r)).drew := ((((Turn.refl (fun j => j = g) W).setCell (p := ⟨g, off + k * 2, none⟩) (.inl rfl) _).setCell (p := ⟨g, off + k * 2 + 1, none⟩) (.inl rfl) _)).drew
  have hT4 : OwnSl ((W.setCell ⟨g, off + k * 2, none⟩ (.int .i64 (a : Int))).setCell ⟨g, off + k * 2 + 1, none⟩ (.int .i64 r)).drew 71 2 (.slice (some ⟨g, off, none⟩) T.length cap) T.length (tCells (T.set k (a, r))) := by
    rw [Nat.add_assoc]; exact hT3.kept (fun _ _ => rfl)
  have hP4 := hM.p.turn T3' (fun j hj e => by simp [Value.ownBlock] at hj; omega)
  have hB4 := T3'.same hM.obj (fun e => gB e.symm)
  have hb4 := T3'.same k0 (fun e => gb e.symm)
  have TW4 := TW.then T3
  clear t0 t1 z0 z1 x0 x1 f0 f1 hT2 hT3 T3 T3' hM TW k0 hg
  generalize ((W.setCell ⟨g, off + k * 2, none⟩ (.int .i64 (a : Int))).setCell ⟨g, off + k * 2 + 1, none⟩ (.int .i64 r)).drew = W4 at *
  have f1 : W4.cell? ⟨B, 1, none⟩ = some (.slice (some ⟨gp, offp, none⟩) P.length capp) := cell_obj hB4 1
  have x0 : W4.cell? ⟨b, 0, none⟩ = some (.int .i64 (a : Int)) := cell_obj hb4 0
  obtain ⟨p, hpa⟩ : ∃ p, P[a]? = some p := ⟨P[a], by simp [hx]⟩
  have q0 : W4.cell? ⟨gp, offp + a, none⟩ = some (.int .i32 p) := hP4.cells _ _ (by simp [pCells, hpa])
  obtain ⟨curp, hgp⟩ := hP4.lt gp rfl
  have z0 : W4.frozen? ⟨gp, offp + a, none⟩ = false := frozen_obj hgp _
  go_wp2_with fail
  go_region
  have hP5 := (hP4.set a (by omega) (.int .i32 ((k : Int) + 1))).1
  have T5' : Turn (fun j => j = gp) W4 (W4.setCell ⟨gp, offp + a, none⟩ (.int .i32 ((k : Int) + 1))).drew := ((Turn.refl (fun j => j = gp) W4).setCell (p := ⟨gp, offp + a, none⟩) (.inl rfl) _).drew
  have hB5 := T5'.same hB4 (fun e => gpB e.symm)
  have hT5 := hT4.turn T5' (fun j hj e => by simp [Value.ownBlock] at hj; omega)
  have TW5 := TW4.then (T5'.mono (fun j hj => (show HFoot B (.slice (some ⟨g, off, none⟩) T.length cap) (.slice (some ⟨gp, offp, none⟩) P.length capp) j from .inr (.inr (by rw [hj]; rfl)))))
  go_wp2
  go_end0
  refine ⟨rfl, ⟨hB5, by rw [List.length_set]; exact hT5, ?_⟩, TW5⟩
  rw [List.length_set, show pCells (P.set a ((k : Int) + 1)) = (pCells P).set a (.int .i32 ((k : Int) + 1)) by simp [pCells, List.map_set]]
  exact hP5.kept (fun _ _ => rfl)

set_option maxHeartbeats 400000 in
theorem place_walk (w : World) (B : Nat) (tv pv : Value) (T : List It) (P : List Int) (h : HMem w B tv pv T P) (hw : ∃ n, Well n T P) (id : Int) (hp : P.length ≤ 4194304) :
    Calls Try.prog 68 #[.pointer (some ⟨B, 0, none⟩), .int .i64 id] w fun e w' => w' = w ∧
      ((∃ (i k : Nat) (r : Int), id = i ∧ T[k]? = some (i, r) ∧ e = .returned (.tuple #[.int .i64 (k : Int), .bool true])) ∨
       ((∀ (i : Nat) (r : Int), id = i → (i, r) ∉ T) ∧ e = .returned (.tuple #[.int .i64 0, .bool false]))) := by
  obtain ⟨n, hw⟩ := hw
  by_cases h0 : 0 ≤ id ∧ id < P.length
  · obtain ⟨i, rfl⟩ : ∃ i : Nat, id = i := ⟨id.toNat, by omega⟩
    obtain ⟨gp, offp, capp, rfl⟩ := h.pform (by omega)
    have c1 : w.cell? ⟨B, 1, none⟩ = some (.slice (some ⟨gp, offp, none⟩) P.length capp) := cell_obj h.obj 1
    have hi : i < P.length := by omega
    obtain ⟨p, hpi⟩ : ∃ p, P[i]? = some p := ⟨P[i], by simp [hi]⟩
    have q0 := h.pcell hpi
    have hd : decide (0 ≤ (i : Int) ∧ (i : Int) < P.length) = true := decide_eq_true h0
    have hh := has_walk w B tv _ T P h (i : Int) hp
    rw [hd] at hh
    by_cases hz : p = 0
    · subst hz
      have Hn : Hid (∀ (j : Nat) (r : Int), (i : Int) = j → (j, r) ∉ T) := hide (by
        rintro j r e hm
        obtain rfl : i = j := by omega
        obtain ⟨k, hk⟩ := List.mem_iff_getElem?.1 hm
        have := hw.idx k _ hk
        simp only at this
        rw [hpi] at this; simp at this; omega)
      clear hw hpi h0 hd
      go_enter Try.func68, Try.ntmps68
      go_wp2_with (go_at_call 67; refine hh.mono ?_; rintro e w1 ⟨rfl, rfl⟩)
      go_ret2
      exact ⟨rfl, .inr ⟨unhide Hn, rfl⟩⟩
    · rcases hw.back i p hpi with e | ⟨k, r, hk⟩
      · exact absurd e hz
      have hpk := hw.idx k _ hk
      simp only at hpk
      rw [hpi] at hpk
      cases hpk
      have hkl := (List.getElem?_eq_some_iff.1 hk).1
      have hlen := hw.len
      rw [← hw.pl] at hlen
      have hz' : (((k : Int) + 1) == 0) = false := by rw [beq_eq_false_iff_ne]; omega
      clear hw hpi h0 hd hz
      go_enter Try.func68, Try.ntmps68
      go_wp2_with (go_at_call 67; refine hh.mono ?_; rintro e w1 ⟨rfl, rfl⟩)
      go_ret2
      exact ⟨rfl, .inl ⟨i, k, r, rfl, hk, by simp⟩⟩
  · have hd : decide (0 ≤ (id : Int) ∧ (id : Int) < P.length) = false := decide_eq_false h0
    have hh := has_walk w B tv pv T P h id hp
    rw [hd] at hh
    have Hn : Hid (∀ (j : Nat) (r : Int), id = j → (j, r) ∉ T) := hide (by
        rintro j r e hm
        obtain ⟨k, hk⟩ := List.mem_iff_getElem?.1 hm
        have h1 := hw.idx k _ hk
        have := (List.getElem?_eq_some_iff.1 h1).1
        simp only at this
        omega)
    clear hw h0 hd
    go_enter Try.func68, Try.ntmps68
    go_wp2_with (go_at_call 67; refine hh.mono ?_; rintro e w1 ⟨rfl, rfl⟩)
    go_ret2
    exact ⟨rfl, .inr ⟨unhide Hn, rfl⟩⟩
end Go.Proofs.Ytombpfpfeebnpaa


namespace Go.Proofs.Ytombpfpfeebnpaa
open Go.RowKit Go.Maps
set_option linter.unusedVariables false
set_option linter.unusedSimpArgs false

/-- what rise and sink make of a heap with a free place -/
def Filled (n : Nat) (T : List It) (k : Nat) (x : It) (T' : List It) (P' : List Int) : Prop := Well n T' P' ∧ T'.length = T.length ∧ ∀ u, u ∈ T' ↔ u = x ∨ But T k u

/-- the same things but for the free place -/
def Alike (T : List It) (k : Nat) (T' : List It) (k' : Nat) : Prop := ∀ u, But T' k' u ↔ But T k u
theorem alike_refl (T : List It) (k : Nat) : Alike T k T k := fun u => Iff.rfl

set_option maxHeartbeats 2000000 in
theorem rise_walk (w : World) (B : Nat) (tv pv : Value) (T : List It) (P : List Int) (h : HMem w B tv pv T P) (n k : Nat) (x : It) (hh : Hole n T P k x) (hb : Below2 T k x) (hn : n ≤ 4194304) (hl : T.length ≤ n) :
    Calls Try.prog 65 #[.pointer (some ⟨B, 0, none⟩), .int .i64 (k : Int), itV x] w fun e w' => e = .returned (.tuple #[]) ∧ ∃ T' P', HMem w' B tv pv T' P' ∧ Filled n T k x T' P' ∧ Turn (HFoot B tv pv) w w' := by
  have hx := hh.hx
  have hk := hh.hk
  obtain ⟨g, off, cap, rfl⟩ := h.tform (by omega)
  have Hx : Hid (∃ a r, x = (a, r)) := hide ⟨x.1, x.2, rfl⟩
  have hv : itV x = .agg #[.int .i64 (x.1 : Int), .int .i64 x.2] := rfl
  have k0 : (w.alloc (.cells #[.int .i64 (x.1 : Int), .int .i64 x.2] 71)).heap[w.heap.size]? = some (.cells #[.int .i64 (x.1 : Int), .int .i64 x.2] 71 (0, 0)) := heap_alloc_new w _
  have hM := h.quiet ((Turn.refl (fun _ => False) w).alloc (.cells #[.int .i64 (x.1 : Int), .int .i64 x.2] 71))
  have TW := (Turn.refl (HFoot B (.slice (some ⟨g, off, none⟩) T.length cap) pv) w).alloc (.cells #[.int .i64 (x.1 : Int), .int .i64 x.2] 71)
  have hbF : ¬ HFoot B (.slice (some ⟨g, off, none⟩) T.length cap) pv w.heap.size := fun hf => by have := h.lt _ hf; omega
  have HH := hide (And.intro hh (And.intro hb (alike_refl T k)))
  rw [hv]
  clear hh hb
  go_enter Try.func65, Try.ntmps65
  go_wp2_with fail
  generalize w.alloc (.cells #[.int .i64 (x.1 : Int), .int .i64 x.2] 71) = W at *
  generalize w.heap.size = b at *
  go_loopw [1] (fun i wr => ∃ (k' : Nat) (T' : List It) (P' : List Int), i = .int .i64 (k' : Int) ∧ HMem wr B (.slice (some ⟨g, off, none⟩) T.length cap) pv T' P' ∧ Hid (Hole n T' P' k' x ∧ Below2 T' k' x ∧ Alike T k T' k') ∧ T'.length = T.length ∧ Turn (HFoot B (.slice (some ⟨g, off, none⟩) T.length cap) pv) W wr) (fun i _ => (intOf i).toNat)
  case atStart => exact ⟨k, T, P, rfl, hM, HH, rfl, Turn.refl _ _⟩
  case round =>
    obtain ⟨k', T', P', rfl, hM', HH', hl', t'⟩ := hrel
    have hk' := (unhide HH').1.hk
    have pl' := (unhide HH').1.pl
    have b0 := t'.same k0 hbF
    have f0 : wr.cell? ⟨B, 0, none⟩ = some (.slice (some ⟨g, off, none⟩) T.length cap) := cell_obj hM'.obj 0
    have x0 : wr.cell? ⟨b, 0, none⟩ = some (.int .i64 (x.1 : Int)) := cell_obj b0 0
    have x1 : wr.cell? ⟨b, 1, none⟩ = some (.int .i64 x.2) := cell_obj b0 1
    by_cases h0 : 0 < k'
    · obtain ⟨j, hj⟩ : ∃ j, (k' - 1) / 2 = j := ⟨_, rfl⟩
      have hjk : j < k' := by omega
      have hjT : j < T.length := by omega
      obtain ⟨z, hz⟩ : ∃ z, T'[j]? = some z := ⟨T'[j], by simp [show j < T'.length by omega]⟩
      obtain ⟨z0, z1⟩ := hM'.tcell hz
      have hzi : z.1 < P'.length := by
        have h1 := ((unhide HH').1.idx _ z (by omega) hz).1
        exact (List.getElem?_eq_some_iff.1 h1).1
      have haw : ∀ u : World, Calls Try.prog 64 #[.int .i64 (k' : Int)] u fun e w' => e = .returned (.int .i64 (j : Int)) ∧ w' = u := fun u => by rw [← hj]; exact above_walk k' u h0 (by omega)
      have hbw : ∀ u : World, Calls Try.prog 63 #[.agg #[.int .i64 (x.1 : Int), .int .i64 x.2], .agg #[.int .i64 (z.1 : Int), .int .i64 z.2]] u fun e w' => e = .returned (.bool (decide (bef x z))) ∧ Turn (fun _ => False) u w' := fun u => before_walk x z u (by omega) (by omega)
      have lHk : k' < T'.length := hk'
      have Hz := hide hz
      have Hj := hide hj
      clear hj hz
      by_cases hc : bef x z
      · rw [decide_eq_true hc] at hbw
        have Hc := hide hc
        clear hc
        go_wp2_with fail
        go_region_held3 (fun u => u.cell? ⟨B, 0, none⟩ = some (.slice (some ⟨g, off, none⟩) T.length cap) ∧ u.cell? ⟨b, 0, none⟩ = some (.int .i64 (x.1 : Int)) ∧ u.cell? ⟨b, 1, none⟩ = some (.int .i64 x.2) ∧ u.cell? ⟨g, off + j * 2, none⟩ = some (.int .i64 (z.1 : Int)) ∧ u.cell? ⟨g, off + j * 2 + 1, none⟩ = some (.int .i64 z.2)) (first | exact ⟨f0, x0, x1, z0, z1⟩ | exact ⟨f2, y0, y1, y2, y3⟩ | go_keep)
          (first
          | (go_at_call 64; refine (haw _).mono ?_; rintro e w1 ⟨rfl, rfl⟩)
          | (go_at_call 63; refine (hbw _).mono ?_; rintro e w2 ⟨rfl, t2⟩; have f2 := t2.cell f0 (fun h => h); have y0 := t2.cell x0 (fun h => h); have y1 := t2.cell x1 (fun h => h); have y2 := t2.cell z0 (fun h => h); have y3 := t2.cell z1 (fun h => h)))
        have hM2 := hM'.quiet (Turn.undrew t2)
        have T2 := t'.then ((Turn.undrew t2).mono (fun _ h => h.elim))
        clear z0 z1 x0 x1 f0 y0 y1 t2 hM' t' b0
        go_wp2_with fail
        have lw : ∀ u : World, HMem u B (.slice (some ⟨g, off, none⟩) T.length cap) pv T' P' → Calls Try.prog 71 #[.pointer (some ⟨B, 0, none⟩), .int .i64 (k' : Int), .agg #[.int .i64 (z.1 : Int), .int .i64 z.2]] u fun e w' => e = .returned (.tuple #[]) ∧ HMem w' B (.slice (some ⟨g, off, none⟩) T.length cap) pv (T'.set k' z) (P'.set z.1 ((k' : Int) + 1)) ∧ Turn (HFoot B (.slice (some ⟨g, off, none⟩) T.length cap) pv) u w' := fun u hu => lay_walk u B _ pv T' P' hu k' z lHk (by omega) hzi (by omega)
        go_region_held3 (fun u => u.cell? ⟨B, 0, none⟩ = some (.slice (some ⟨g, off, none⟩) T.length cap) ∧ u.cell? ⟨g, off + j * 2, none⟩ = some (.int .i64 (z.1 : Int)) ∧ u.cell? ⟨g, off + j * 2 + 1, none⟩ = some (.int .i64 z.2)) (first | exact ⟨f2, y2, y3⟩ | exact ⟨f4, y4, y5⟩ | go_keep)
          (first
          | (go_at_call 64; refine (haw _).mono ?_; rintro e w3 ⟨rfl, rfl⟩)
          | (go_at_call 71; refine (lw _ (hM2.quiet ((Turn.refl _ _).drew))).mono ?_; rintro e w4 ⟨rfl, hM4, t4⟩; have f4 := cell_obj hM4.obj 0; have hz4 : (T'.set k' z)[j]? = some z := (by rw [List.getElem?_set, if_neg (by omega)]; exact unhide Hz); have y4 := (hM4.tcell hz4).1; have y5 := (hM4.tcell hz4).2))
        have T4 := T2.then (Turn.undrew t4)
        obtain ⟨c1, c2, c3⟩ := (unhide HH').1.up (unhide HH').2.1 h0 (by rw [unhide Hj]; exact unhide Hz) (unhide Hc)
        rw [unhide Hj] at c1 c2 c3
        have HN : Hid (Hole n (T'.set k' z) (P'.set z.1 ((k' : Int) + 1)) j x ∧ Below2 (T'.set k' z) j x ∧ Alike T k (T'.set k' z) j) := hide ⟨c1, c2, fun u => (c3 u).trans ((unhide HH').2.2 u)⟩
        have lN : (T'.set k' z).length = T.length := by rw [List.length_set]; exact hl'
        clear hM2 f2 y2 y3 t4 f4 y4 y5 hz4 T2 c1 c2 c3 HH' lw hbw
        go_wp2_with (go_at_call 64; refine (haw _).mono ?_; rintro e w3 ⟨rfl, rfl⟩)
        exact ⟨⟨j, _, _, rfl, hM4, HN, lN, T4⟩, by simp [intOf]; omega⟩
      · rw [decide_eq_false hc] at hbw
        have Hc := hide hc
        clear hc
        go_wp2_with fail
        go_region_held3 (fun u => u.cell? ⟨B, 0, none⟩ = some (.slice (some ⟨g, off, none⟩) T.length cap) ∧ u.cell? ⟨b, 0, none⟩ = some (.int .i64 (x.1 : Int)) ∧ u.cell? ⟨b, 1, none⟩ = some (.int .i64 x.2) ∧ u.cell? ⟨g, off + j * 2, none⟩ = some (.int .i64 (z.1 : Int)) ∧ u.cell? ⟨g, off + j * 2 + 1, none⟩ = some (.int .i64 z.2)) (first | exact ⟨f0, x0, x1, z0, z1⟩ | exact ⟨f2, y0, y1, y2, y3⟩ | go_keep)
          (first
          | (go_at_call 64; refine (haw _).mono ?_; rintro e w1 ⟨rfl, rfl⟩)
          | (go_at_call 63; refine (hbw _).mono ?_; rintro e w2 ⟨rfl, t2⟩; have f2 := t2.cell f0 (fun h => h); have y0 := t2.cell x0 (fun h => h); have y1 := t2.cell x1 (fun h => h); have y2 := t2.cell z0 (fun h => h); have y3 := t2.cell z1 (fun h => h)))
        have hM2 := hM'.quiet (Turn.undrew t2)
        have T2 := t'.then ((Turn.undrew t2).mono (fun _ h => h.elim))
        have lw : ∀ u : World, HMem u B (.slice (some ⟨g, off, none⟩) T.length cap) pv T' P' → Calls Try.prog 71 #[.pointer (some ⟨B, 0, none⟩), .int .i64 (k' : Int), .agg #[.int .i64 (x.1 : Int), .int .i64 x.2]] u fun e w' => e = .returned (.tuple #[]) ∧ HMem w' B (.slice (some ⟨g, off, none⟩) T.length cap) pv (T'.set k' x) (P'.set x.1 ((k' : Int) + 1)) ∧ Turn (HFoot B (.slice (some ⟨g, off, none⟩) T.length cap) pv) u w' := fun u hu => lay_walk u B _ pv T' P' hu k' x lHk (by omega) (by omega) (by omega)
        obtain ⟨c1, c2⟩ := (unhide HH').1.fill (unhide HH').2.1 (fun u hu0 hu hxu => by
          rw [unhide Hj, unhide Hz] at hu; cases hu; exact unhide Hc hxu)
        have FN : Hid (Filled n T k x (T'.set k' x) (P'.set x.1 ((k' : Int) + 1))) := hide ⟨c1, by rw [List.length_set]; exact hl', fun u => by rw [c2 u, (unhide HH').2.2 u]⟩
        clear z0 z1 x0 x1 f0 y2 y3 t2 hM' t' b0 c1 c2 HH' hbw
        go_wp2_with (go_at_call 71; refine (lw _ hM2).mono ?_; rintro e w4 ⟨rfl, hM4, t4⟩)
        go_end0
        exact ⟨rfl, _, _, hM4, unhide FN, TW.then (T2.then t4)⟩
    · obtain rfl : k' = 0 := by omega
      have lw : ∀ u : World, HMem u B (.slice (some ⟨g, off, none⟩) T.length cap) pv T' P' → Calls Try.prog 71 #[.pointer (some ⟨B, 0, none⟩), .int .i64 ((0 : Nat) : Int), .agg #[.int .i64 (x.1 : Int), .int .i64 x.2]] u fun e w' => e = .returned (.tuple #[]) ∧ HMem w' B (.slice (some ⟨g, off, none⟩) T.length cap) pv (T'.set 0 x) (P'.set x.1 (((0 : Nat) : Int) + 1)) ∧ Turn (HFoot B (.slice (some ⟨g, off, none⟩) T.length cap) pv) u w' := fun u hu => lay_walk u B _ pv T' P' hu 0 x hk' (by omega) (by omega) (by omega)
      obtain ⟨c1, c2⟩ := (unhide HH').1.fill (unhide HH').2.1 (fun u hu0 hu => by omega)
      have FN : Hid (Filled n T k x (T'.set 0 x) (P'.set x.1 (((0 : Nat) : Int) + 1))) := hide ⟨c1, by rw [List.length_set]; exact hl', fun u => by rw [c2 u, (unhide HH').2.2 u]⟩
      clear c1 c2 HH'
      go_wp2_with fail
      go_region
      have x0 : wr.drew.cell? ⟨b, 0, none⟩ = some (.int .i64 (x.1 : Int)) := x0
      have x1 : wr.drew.cell? ⟨b, 1, none⟩ = some (.int .i64 x.2) := x1
      go_wp2_with (go_at_call 71; refine (lw _ (hM'.quiet ((Turn.refl _ _).drew))).mono ?_; rintro e w4 ⟨rfl, hM4, t4⟩)
      go_end0
      exact ⟨rfl, _, _, hM4, unhide FN, TW.then (t'.then (Turn.undrew t4))⟩
end Go.Proofs.Ytombpfpfeebnpaa


namespace Go.Proofs.Ytombpfpfeebnpaa
open Go.RowKit Go.Maps
set_option linter.unusedVariables false
set_option linter.unusedSimpArgs false

set_option maxHeartbeats 2000000 in
theorem first_walk (w : World) (B : Nat) (tv pv : Value) (T : List It) (P : List Int) (h : HMem w B tv pv T P) (k : Nat) (hk : k ≤ 4194304) (hl : T.length ≤ 4194304) (hid : ∀ (i : Nat) (y : It), i ≠ k → T[i]? = some y → y.1 < 4194304) :
    Calls Try.prog 72 #[.pointer (some ⟨B, 0, none⟩), .int .i64 (k : Int)] w fun e w' => Turn (fun _ => False) w w' ∧ ((T.length ≤ 2 * k + 1 ∧ e = .returned (.tuple #[.int .i64 0, .bool false])) ∨ ∃ j y, FirstB T k j y ∧ e = .returned (.tuple #[.int .i64 (j : Int), .bool true])) := by
  by_cases h1 : T.length ≤ 2 * k + 1
  · obtain ⟨a, cap, rfl⟩ := h.tany
    have f0 : w.cell? ⟨B, 0, none⟩ = some (.slice a T.length cap) := cell_obj h.obj 0
    go_enter Try.func72, Try.ntmps72
    go_wp2
    go_ret2
    exact ⟨Turn.refl _ _, .inl ⟨h1, rfl⟩⟩
  · obtain ⟨g, off, cap, rfl⟩ := h.tform (by omega)
    have f0 : w.cell? ⟨B, 0, none⟩ = some (.slice (some ⟨g, off, none⟩) T.length cap) := cell_obj h.obj 0
    obtain ⟨y, hy⟩ : ∃ y, T[2 * k + 1]? = some y := ⟨T[2 * k + 1], by simp [show 2 * k + 1 < T.length by omega]⟩
    obtain ⟨y0, y1⟩ := h.tcell hy
    have hyi := hid _ _ (by omega) hy
    by_cases h2 : T.length ≤ 2 * k + 2
    · have Hr : Hid (FirstB T k (2 * k + 1) y) := hide ⟨.inl rfl, hy, fun i u hi hu => by
        have := (List.getElem?_eq_some_iff.1 hu).1
        obtain rfl : i = 2 * k + 1 := by omega
        rw [hy] at hu; cases hu; exact bef_irr y⟩
      obtain ⟨j, hj⟩ : ∃ j, j = 2 * k + 1 := ⟨_, rfl⟩
      rw [← hj] at y0 y1 Hr
      have lt1 : decide ((j : Int) + 1 < (T.length : Int)) = false := decide_eq_false (by omega)
      have lt2 : ¬ ((j : Int) + 1 < (T.length : Int)) := by omega
      have lt3 : j < T.length := by omega
      clear hid hy
      go_enter Try.func72, Try.ntmps72
      go_wp2_with fail
      rw [show (2 * (k : Int) + 1) = (j : Int) by omega]
      clear hj h1 h2
      go_region
      go_wp2
      go_ret2
      exact ⟨(Turn.refl _ _).drew, .inr ⟨_, y, unhide Hr, rfl⟩⟩
    · obtain ⟨z, hz⟩ : ∃ z, T[2 * k + 2]? = some z := ⟨T[2 * k + 2], by simp [show 2 * k + 2 < T.length by omega]⟩
      obtain ⟨z0, z1⟩ := h.tcell hz
      have hzi := hid _ _ (by omega) hz
      have hbw : ∀ u : World, Calls Try.prog 63 #[.agg #[.int .i64 (z.1 : Int), .int .i64 z.2], .agg #[.int .i64 (y.1 : Int), .int .i64 y.2]] u fun e w' => e = .returned (.bool (decide (bef z y))) ∧ Turn (fun _ => False) u w' := fun u => before_walk z y u hzi hyi
      have Hr : Hid (if bef z y then FirstB T k (2 * k + 2) z else FirstB T k (2 * k + 1) y) := hide (by
        split
        · rename_i hc
          refine ⟨.inr rfl, hz, fun i u hi hu => ?_⟩
          rcases hi with rfl | rfl
          · rw [hy] at hu; cases hu; exact bef_asym hc
          · rw [hz] at hu; cases hu; exact bef_irr _
        · rename_i hc
          refine ⟨.inl rfl, hy, fun i u hi hu => ?_⟩
          rcases hi with rfl | rfl
          · rw [hy] at hu; cases hu; exact bef_irr _
          · rw [hz] at hu; cases hu; exact hc)
      obtain ⟨j, hj⟩ : ∃ j, j = 2 * k + 1 := ⟨_, rfl⟩
      rw [show 2 * k + 2 = j + 1 by omega, ← hj] at Hr
      rw [show 2 * k + 2 = j + 1 by omega] at z0 z1
      rw [← hj] at y0 y1
      have hj2 : j + 1 < T.length := by omega
      have lt1 : decide ((j : Int) + 1 < (T.length : Int)) = true := decide_eq_true (by omega)
      have lt2 : ((j + 1 : Nat) : Int) < (T.length : Int) := by omega
      have lt3 : j < T.length := by omega
      have lt4 : j + 1 < T.length := by omega
      have wj : IntKind.i64.wrap ((j : Int) + 1) = ((j + 1 : Nat) : Int) := by rw [IntKind.wrap_i64]; omega
      generalize hj1 : j + 1 = j1 at z0 z1 lt2 wj lt4
      rw [hj1] at Hr
      have fin : ∀ (d : Bool), decide (bef z y) = d → (d = true → Hid (FirstB T k j1 z)) ∧ (d = false → Hid (FirstB T k j y)) := by
        intro d hd
        have := unhide Hr
        constructor
        · rintro rfl; rw [if_pos (of_decide_eq_true hd)] at this; exact hide this
        · rintro rfl; rw [if_neg (of_decide_eq_false hd)] at this; exact hide this
      clear hid hy hz h1 h2 Hr
      cases hd : decide (bef z y)
      · rw [hd] at hbw
        have FN := (fin _ hd).2 rfl
        clear fin hd
        go_enter Try.func72, Try.ntmps72
        go_wp2_with fail
        rw [show (2 * (k : Int) + 1) = (j : Int) by omega]
        clear hj hj1 lt1 hj2
        go_region_held3 (fun u => u.cell? ⟨B, 0, none⟩ = some (.slice (some ⟨g, off, none⟩) T.length cap) ∧ u.cell? ⟨g, off + j * 2, none⟩ = some (.int .i64 (y.1 : Int)) ∧ u.cell? ⟨g, off + j * 2 + 1, none⟩ = some (.int .i64 y.2) ∧ u.cell? ⟨g, off + j1 * 2, none⟩ = some (.int .i64 (z.1 : Int)) ∧ u.cell? ⟨g, off + j1 * 2 + 1, none⟩ = some (.int .i64 z.2)) (first | exact ⟨f0, y0, y1, z0, z1⟩ | exact ⟨f2, y2, y3, z2, z3⟩ | go_keep)
          (first
          | (go_at_call 63; refine (hbw _).mono ?_; rintro e w2 ⟨rfl, t2⟩; have f2 := t2.cell f0 (fun h => h); have y2 := t2.cell y0 (fun h => h); have y3 := t2.cell y1 (fun h => h); have z2 := t2.cell z0 (fun h => h); have z3 := t2.cell z1 (fun h => h)))
        go_wp2
        go_ret2
        exact ⟨Turn.undrew t2, .inr ⟨_, y, unhide FN, rfl⟩⟩
      · rw [hd] at hbw
        have FN := (fin _ hd).1 rfl
        clear fin hd
        go_enter Try.func72, Try.ntmps72
        go_wp2_with fail
        rw [show (2 * (k : Int) + 1) = (j : Int) by omega]
        clear hj hj1 lt1 hj2
        go_region_held3 (fun u => u.cell? ⟨B, 0, none⟩ = some (.slice (some ⟨g, off, none⟩) T.length cap) ∧ u.cell? ⟨g, off + j * 2, none⟩ = some (.int .i64 (y.1 : Int)) ∧ u.cell? ⟨g, off + j * 2 + 1, none⟩ = some (.int .i64 y.2) ∧ u.cell? ⟨g, off + j1 * 2, none⟩ = some (.int .i64 (z.1 : Int)) ∧ u.cell? ⟨g, off + j1 * 2 + 1, none⟩ = some (.int .i64 z.2)) (first | exact ⟨f0, y0, y1, z0, z1⟩ | exact ⟨f2, y2, y3, z2, z3⟩ | go_keep)
          (first
          | (go_at_call 63; refine (hbw _).mono ?_; rintro e w2 ⟨rfl, t2⟩; have f2 := t2.cell f0 (fun h => h); have y2 := t2.cell y0 (fun h => h); have y3 := t2.cell y1 (fun h => h); have z2 := t2.cell z0 (fun h => h); have z3 := t2.cell z1 (fun h => h)))
        go_wp2
        go_ret2
        exact ⟨Turn.undrew t2, .inr ⟨_, z, unhide FN, rfl⟩⟩
end Go.Proofs.Ytombpfpfeebnpaa


namespace Go.Proofs.Ytombpfpfeebnpaa
open Go.RowKit Go.Maps
set_option linter.unusedVariables false
set_option linter.unusedSimpArgs false

set_option maxHeartbeats 2000000 in
theorem sink_walk (w : World) (B : Nat) (tv pv : Value) (T : List It) (P : List Int) (h : HMem w B tv pv T P) (n k : Nat) (x : It) (hh : Hole n T P k x) (ha : Above2 T k x) (hn : n ≤ 4194304) (hl : T.length ≤ n) :
    Calls Try.prog 66 #[.pointer (some ⟨B, 0, none⟩), .int .i64 (k : Int), itV x] w fun e w' => e = .returned (.tuple #[]) ∧ ∃ T' P', HMem w' B tv pv T' P' ∧ Filled n T k x T' P' ∧ Turn (HFoot B tv pv) w w' := by
  have hx := hh.hx
  have hk := hh.hk
  obtain ⟨g, off, cap, rfl⟩ := h.tform (by omega)
  have hv : itV x = .agg #[.int .i64 (x.1 : Int), .int .i64 x.2] := rfl
  have k0 : (w.alloc (.cells #[.int .i64 (x.1 : Int), .int .i64 x.2] 71)).heap[w.heap.size]? = some (.cells #[.int .i64 (x.1 : Int), .int .i64 x.2] 71 (0, 0)) := heap_alloc_new w _
  have hM := h.quiet ((Turn.refl (fun _ => False) w).alloc (.cells #[.int .i64 (x.1 : Int), .int .i64 x.2] 71))
  have TW := (Turn.refl (HFoot B (.slice (some ⟨g, off, none⟩) T.length cap) pv) w).alloc (.cells #[.int .i64 (x.1 : Int), .int .i64 x.2] 71)
  have hbF : ¬ HFoot B (.slice (some ⟨g, off, none⟩) T.length cap) pv w.heap.size := fun hf => by have := h.lt _ hf; omega
  have HH := hide (And.intro hh (And.intro ha (alike_refl T k)))
  rw [hv]
  clear hh ha
  go_enter Try.func66, Try.ntmps66
  go_wp2_with fail
  generalize w.alloc (.cells #[.int .i64 (x.1 : Int), .int .i64 x.2] 71) = W at *
  generalize w.heap.size = b at *
  go_loopw [1] (fun i wr => ∃ (k' : Nat) (T' : List It) (P' : List Int), i = .int .i64 (k' : Int) ∧ HMem wr B (.slice (some ⟨g, off, none⟩) T.length cap) pv T' P' ∧ Hid (Hole n T' P' k' x ∧ Above2 T' k' x ∧ Alike T k T' k') ∧ T'.length = T.length ∧ Turn (HFoot B (.slice (some ⟨g, off, none⟩) T.length cap) pv) W wr) (fun i _ => T.length - (intOf i).toNat)
  case atStart => exact ⟨k, T, P, rfl, hM, HH, rfl, Turn.refl _ _⟩
  case round =>
    obtain ⟨k', T', P', rfl, hM', HH', hl', t'⟩ := hrel
    have hk' := (unhide HH').1.hk
    have pl' := (unhide HH').1.pl
    have hids : ∀ (i : Nat) (y : It), i ≠ k' → T'[i]? = some y → y.1 < P'.length := fun i y hi hy => (List.getElem?_eq_some_iff.1 ((unhide HH').1.idx i y hi hy).1).1
    have hfw := first_walk wr B _ pv T' P' hM' k' (by omega) (by omega) (fun i y hi hy => by have := hids i y hi hy; omega)
    have lw : ∀ (z : It), z.1 < P'.length → ∀ u : World, HMem u B (.slice (some ⟨g, off, none⟩) T.length cap) pv T' P' → Calls Try.prog 71 #[.pointer (some ⟨B, 0, none⟩), .int .i64 (k' : Int), .agg #[.int .i64 (z.1 : Int), .int .i64 z.2]] u fun e w' => e = .returned (.tuple #[]) ∧ HMem w' B (.slice (some ⟨g, off, none⟩) T.length cap) pv (T'.set k' z) (P'.set z.1 ((k' : Int) + 1)) ∧ Turn (HFoot B (.slice (some ⟨g, off, none⟩) T.length cap) pv) u w' := fun z hzi u hu => lay_walk u B _ pv T' P' hu k' z hk' (by omega) hzi (by omega)
    go_wp2_with (go_at_call 72; refine hfw.mono ?_; rintro e w1 ⟨t1, hcase⟩; rcases hcase with ⟨hnone, rfl⟩ | ⟨j, y, hF, rfl⟩)
    case _ =>
      have hM1 := hM'.quiet t1
      have T1 := t'.then (t1.mono (fun _ h => h.elim))
      have b1 := T1.same k0 hbF
      have x0 : w1.cell? ⟨b, 0, none⟩ = some (.int .i64 (x.1 : Int)) := cell_obj b1 0
      have x1 : w1.cell? ⟨b, 1, none⟩ = some (.int .i64 x.2) := cell_obj b1 1
      obtain ⟨c1, c2⟩ := (unhide HH').1.fill (below_none hnone) (unhide HH').2.1
      have FN : Hid (Filled n T k x (T'.set k' x) (P'.set x.1 ((k' : Int) + 1))) := hide ⟨c1, by rw [List.length_set]; exact hl', fun u => by rw [c2 u, (unhide HH').2.2 u]⟩
      have lx := lw x (by omega)
      clear c1 c2 hfw hids HH' b1 lw t' t1 hM' hnone
      go_wp2_with fail
      go_region
      have x0 : w1.drew.cell? ⟨b, 0, none⟩ = some (.int .i64 (x.1 : Int)) := x0
      have x1 : w1.drew.cell? ⟨b, 1, none⟩ = some (.int .i64 x.2) := x1
      go_wp2_with (go_at_call 71; refine (lx _ (hM1.quiet ((Turn.refl _ _).drew))).mono ?_; rintro e w4 ⟨rfl, hM4, t4⟩)
      go_end0
      exact ⟨rfl, _, _, hM4, unhide FN, TW.then (T1.then (Turn.undrew t4))⟩
    case _ =>
      have hM1 := hM'.quiet t1
      have T1 := t'.then (t1.mono (fun _ h => h.elim))
      have b1 := T1.same k0 hbF
      have x0 : w1.cell? ⟨b, 0, none⟩ = some (.int .i64 (x.1 : Int)) := cell_obj b1 0
      have x1 : w1.cell? ⟨b, 1, none⟩ = some (.int .i64 x.2) := cell_obj b1 1
      have f0 : w1.cell? ⟨B, 0, none⟩ = some (.slice (some ⟨g, off, none⟩) T.length cap) := cell_obj hM1.obj 0
      have hy := hF.2.1
      have hjk : j ≠ k' := by have := hF.1; omega
      have hjk2 : k' < j := by have := hF.1; omega
      have hjl : j < T.length := by have := (List.getElem?_eq_some_iff.1 hy).1; omega
      have hyi := hids j y hjk hy
      obtain ⟨y0, y1⟩ := hM1.tcell hy
      have hbw : ∀ u : World, Calls Try.prog 63 #[.agg #[.int .i64 (y.1 : Int), .int .i64 y.2], .agg #[.int .i64 (x.1 : Int), .int .i64 x.2]] u fun e w' => e = .returned (.bool (decide (bef y x))) ∧ Turn (fun _ => False) u w' := fun u => before_walk y x u (by omega) (by omega)
      have HF := hide hF
      clear hF hy
      by_cases hc : bef y x
      · rw [decide_eq_true hc] at hbw
        have Hc := hide hc
        have ly := lw y hyi
        clear hc lw hids hfw t' t1 hM' b1
        go_wp2_with fail
        go_region_held3 (fun u => u.cell? ⟨B, 0, none⟩ = some (.slice (some ⟨g, off, none⟩) T.length cap) ∧ u.cell? ⟨b, 0, none⟩ = some (.int .i64 (x.1 : Int)) ∧ u.cell? ⟨b, 1, none⟩ = some (.int .i64 x.2) ∧ u.cell? ⟨g, off + j * 2, none⟩ = some (.int .i64 (y.1 : Int)) ∧ u.cell? ⟨g, off + j * 2 + 1, none⟩ = some (.int .i64 y.2)) (first | exact ⟨f0, x0, x1, y0, y1⟩ | exact ⟨f2, x2, x3, y2, y3⟩ | go_keep)
          (first
          | (go_at_call 63; refine (hbw _).mono ?_; rintro e w2 ⟨rfl, t2⟩; have f2 := t2.cell f0 (fun h => h); have x2 := t2.cell x0 (fun h => h); have x3 := t2.cell x1 (fun h => h); have y2 := t2.cell y0 (fun h => h); have y3 := t2.cell y1 (fun h => h)))
        have hM2 := hM1.quiet (Turn.undrew t2)
        have T2 := T1.then ((Turn.undrew t2).mono (fun _ h => h.elim))
        obtain ⟨c1, c2, c3⟩ := (unhide HH').1.down (unhide HF) (unhide Hc)
        have HN : Hid (Hole n (T'.set k' y) (P'.set y.1 ((k' : Int) + 1)) j x ∧ Above2 (T'.set k' y) j x ∧ Alike T k (T'.set k' y) j) := hide ⟨c1, c2, fun u => (c3 u).trans ((unhide HH').2.2 u)⟩
        have lN : (T'.set k' y).length = T.length := by rw [List.length_set]; exact hl'
        clear f0 x0 x1 y0 y1 t2 hM1 T1 c1 c2 c3 HH' hbw x2 x3
        go_wp2_with (go_at_call 71; refine (ly _ hM2).mono ?_; rintro e w4 ⟨rfl, hM4, t4⟩)
        exact ⟨⟨j, _, _, rfl, hM4, HN, lN, T2.then t4⟩, by simp [intOf]; omega⟩
      · rw [decide_eq_false hc] at hbw
        have lx := lw x (by omega)
        obtain ⟨c1, c2⟩ := (unhide HH').1.fill (below_of (unhide HF) hc) (unhide HH').2.1
        have FN : Hid (Filled n T k x (T'.set k' x) (P'.set x.1 ((k' : Int) + 1))) := hide ⟨c1, by rw [List.length_set]; exact hl', fun u => by rw [c2 u, (unhide HH').2.2 u]⟩
        clear hc lw hids hfw t' t1 hM' b1 c1 c2 HH'
        go_wp2_with fail
        go_region_held3 (fun u => u.cell? ⟨B, 0, none⟩ = some (.slice (some ⟨g, off, none⟩) T.length cap) ∧ u.cell? ⟨b, 0, none⟩ = some (.int .i64 (x.1 : Int)) ∧ u.cell? ⟨b, 1, none⟩ = some (.int .i64 x.2) ∧ u.cell? ⟨g, off + j * 2, none⟩ = some (.int .i64 (y.1 : Int)) ∧ u.cell? ⟨g, off + j * 2 + 1, none⟩ = some (.int .i64 y.2)) (first | exact ⟨f0, x0, x1, y0, y1⟩ | exact ⟨f2, x2, x3, y2, y3⟩ | go_keep)
          (first
          | (go_at_call 63; refine (hbw _).mono ?_; rintro e w2 ⟨rfl, t2⟩; have f2 := t2.cell f0 (fun h => h); have x2 := t2.cell x0 (fun h => h); have x3 := t2.cell x1 (fun h => h); have y2 := t2.cell y0 (fun h => h); have y3 := t2.cell y1 (fun h => h)))
        have hM2 := hM1.quiet (Turn.undrew t2)
        have T2 := T1.then ((Turn.undrew t2).mono (fun _ h => h.elim))
        clear f0 x0 x1 y0 y1 t2 hM1 T1 hbw y2 y3 f2
        go_wp2_with (go_at_call 71; refine (lx _ hM2).mono ?_; rintro e w4 ⟨rfl, hM4, t4⟩)
        go_end0
        exact ⟨rfl, _, _, hM4, unhide FN, TW.then (T2.then t4)⟩
end Go.Proofs.Ytombpfpfeebnpaa


namespace Go.Proofs.Ytombpfpfeebnpaa
open Go.RowKit Go.Maps
set_option linter.unusedVariables false
set_option linter.unusedSimpArgs false

/-- a slice of one's own up to a place -/
theorem cutO_to {P : Program} {w : World} {t e : TypeId} {i : TypeInfo} {s g off n cap : Nat} {xs : List Value} (ht : P.underlying t = some (.slice e)) (hi : P.info? e = some i) (hs : i.size = s) (h : OwnSl w e s (.slice (some ⟨g, off, none⟩) n cap) n xs) (k : Nat) (hk : k ≤ n) (h0 : 0 < n) :
    (∀ u : World, (Instr.slice t (.slice (some ⟨g, off, none⟩) n cap) none (some (.int .i64 (k : Int))) none).run P u = .ok (.slice (some ⟨g, off, none⟩) k cap) u) ∧ OwnSl w e s (.slice (some ⟨g, off, none⟩) k cap) k (xs.take (k * s)) := by
  have hl : (xs.take (k * s)).length = k * s := by rw [List.length_take, h.1]; exact Nat.min_eq_left (Nat.mul_le_mul_right _ hk)
  rcases h.2 with ⟨hv, _⟩ | ⟨g', off', cap', cur, hv, hg, hnc, hcm, hfit, htk⟩
  · simp at hv
  · simp only [Value.slice.injEq, Option.some.injEq, Addr.mk.injEq, and_true, true_and] at hv
    obtain ⟨⟨rfl, rfl⟩, rfl⟩ := hv
    have hc0 : ¬ cap = 0 := by omega
    have hle : k ≤ cap := by omega
    refine ⟨fun u => ?_, hl, .inr ⟨g, off, cap, cur, rfl, hg, hle, hcm, hfit, ?_⟩⟩
    · simp [Instr.slice, run_underlying ht, Instr.sliceBounds, Instr.sliceBound, asIntOf, sizeOf, typeInfo, hi, Result.andThen, Addr.add, hle, hc0]
    · rw [← htk, List.take_take, Nat.min_eq_left (Nat.mul_le_mul_right _ hk)]
theorem info_it : (Try.prog.info? 71).map (fun i => (i.zero, i.size, i.bytes)) = some (some (.agg #[.int .i64 0, .int .i64 0]), 2, 16) := by kernel_rfl

set_option maxHeartbeats 4000000 in
theorem takeOut_walk (w : World) (B : Nat) (tv pv : Value) (T : List It) (P : List Int) (h : HMem w B tv pv T P) (n k : Nat) (y : It) (hw : Well n T P) (hk : T[k]? = some y) (hn : n ≤ 4194304) :
    Calls Try.prog 57 #[.pointer (some ⟨B, 0, none⟩), .int .i64 (k : Int)] w fun e w' => e = .returned (.tuple #[]) ∧ ∃ tv' T' P', HMem w' B tv' pv T' P' ∧ tv'.ownBlock = tv.ownBlock ∧ Well n T' P' ∧ T'.length + 1 = T.length ∧ (∀ u, u ∈ T' ↔ u ∈ T ∧ u.1 ≠ y.1) ∧ Turn (HFoot B tv pv) w w' := by
  have hkl := (List.getElem?_eq_some_iff.1 hk).1
  have hlen := hw.len
  have hpl := hw.pl
  have hyn := hw.id_lt hk
  obtain ⟨g, off, cap, rfl⟩ := h.tform (by omega)
  obtain ⟨gp, offp, capp, rfl⟩ := h.pform (by omega)
  obtain ⟨y0, y1⟩ := h.tcell hk
  have f0 : w.cell? ⟨B, 0, none⟩ = some (.slice (some ⟨g, off, none⟩) T.length cap) := cell_obj h.obj 0
  have f1 : w.cell? ⟨B, 1, none⟩ = some (.slice (some ⟨gp, offp, none⟩) P.length capp) := cell_obj h.obj 1
  have gB : g ≠ B := h.t.neObj h.obj (by decide) g rfl
  have gpB : gp ≠ B := h.p.neObj h.obj (by decide) gp rfl
  have ggp : g ≠ gp := by
    rintro rfl
    obtain ⟨c1, e1⟩ := h.t.lt g rfl
    obtain ⟨c2, e2⟩ := h.p.lt g rfl
    rw [e1] at e2; simp at e2
  obtain ⟨p, hpy⟩ : ∃ p, P[y.1]? = some p := ⟨P[y.1]'(by omega), by simp [show y.1 < P.length by omega]⟩
  have q0 := h.pcell hpy
  obtain ⟨curp, hgp⟩ := h.p.lt gp rfl
  have z0 : w.frozen? ⟨gp, offp + y.1, none⟩ = false := frozen_obj hgp _
  have hyP : y.1 < P.length := by omega
  have Hk := hide hk
  have Hw := hide hw
  clear hk hw
  go_enter Try.func57, Try.ntmps57
  go_wp2_with fail
  go_region
  have T1' : Turn (fun j => j = gp) w (w.setCell ⟨gp, offp + y.1, none⟩ (.int .i32 0)).drew := ((Turn.refl (fun j => j = gp) w).setCell (p := ⟨gp, offp + y.1, none⟩) (.inl rfl) _).drew
  have hP1 : OwnSl (w.setCell ⟨gp, offp + y.1, none⟩ (.int .i32 0)).drew 21 1 (.slice (some ⟨gp, offp, none⟩) P.length capp) P.length (pCells (P.set y.1 0)) := by
    rw [show pCells (P.set y.1 0) = (pCells P).set y.1 (.int .i32 0) by simp [pCells, List.map_set]]
    exact (h.p.set y.1 (by omega) (.int .i32 0)).1.kept (fun _ _ => rfl)
  have hM1 : HMem (w.setCell ⟨gp, offp + y.1, none⟩ (.int .i32 0)).drew B (.slice (some ⟨g, off, none⟩) T.length cap) (.slice (some ⟨gp, offp, none⟩) P.length capp) T (P.set y.1 0) :=
    ⟨T1'.same h.obj (fun e => gpB e.symm), h.t.turn T1' (fun j hj e => by simp [Value.ownBlock] at hj; omega), by rw [List.length_set]; exact hP1⟩
  have T1 := T1'.mono (G := HFoot B (.slice (some ⟨g, off, none⟩) T.length cap) (.slice (some ⟨gp, offp, none⟩) P.length capp)) (fun j hj => .inr (.inr (by rw [hj]; rfl)))
  have hFlt := h.lt
  clear hP1 T1' q0 z0 y0 y1 f0 f1 hgp
  generalize hW1 : (w.setCell ⟨gp, offp + y.1, none⟩ (.int .i32 0)).drew = W1 at *
  clear hW1
  obtain ⟨e, he⟩ : ∃ e, e + 1 = T.length := ⟨T.length - 1, by omega⟩
  obtain ⟨l, hl⟩ : ∃ l, T[e]? = some l := ⟨T[e], by simp [show e < T.length by omega]⟩
  obtain ⟨l0, l1⟩ := hM1.tcell hl
  have f0 : W1.cell? ⟨B, 0, none⟩ = some (.slice (some ⟨g, off, none⟩) T.length cap) := cell_obj hM1.obj 0
  have hie : (T.length : Int) - 1 = (e : Int) := by omega
  have hel : e < T.length := by omega
  obtain ⟨ii, hi, hz0, hz1, hz2⟩ := info_parts info_it
  obtain ⟨hcut, hcutO⟩ := cutO_to (P := Try.prog) Try.underlying97 hi hz1 hM1.t e (by omega) (by omega)
  rw [← tCells_take] at hcutO
  have Hl := hide hl
  have hPs : (P.set y.1 0).length = P.length := List.length_set
  have Hpl := hide hpl
  clear hl hpl
  have hM2 := hM1.quiet ((Turn.refl (fun _ => False) W1).alloc (.cells #[.int .i64 (l.1 : Int), .int .i64 l.2] 71))
  have T2 := T1.alloc (.cells #[.int .i64 (l.1 : Int), .int .i64 l.2] 71)
  have b2 : (W1.alloc (.cells #[.int .i64 (l.1 : Int), .int .i64 l.2] 71)).heap[W1.heap.size]? = some (.cells #[.int .i64 (l.1 : Int), .int .i64 l.2] 71 (0, 0)) := heap_alloc_new W1 _
  have f2 : (W1.alloc (.cells #[.int .i64 (l.1 : Int), .int .i64 l.2] 71)).cell? ⟨B, 0, none⟩ = some (.slice (some ⟨g, off, none⟩) T.length cap) := cell_obj hM2.obj 0
  have zB : (W1.alloc (.cells #[.int .i64 (l.1 : Int), .int .i64 l.2] 71)).frozen? ⟨B, 0, none⟩ = false := frozen_obj hM2.obj _
  have sz1 : W1.heap.size < (W1.alloc (.cells #[.int .i64 (l.1 : Int), .int .i64 l.2] 71)).heap.size := (Array.getElem?_eq_some_iff.1 b2).1
  have hBs : B < W1.heap.size := hM1.lt B (.inl rfl)
  have hgs : g < W1.heap.size := hM1.lt g (.inr (.inl rfl))
  have hgps : gp < W1.heap.size := hM1.lt gp (.inr (.inr rfl))
  have hcutO2 := hcutO.turn ((Turn.refl (fun _ => False) W1).alloc (.cells #[.int .i64 (l.1 : Int), .int .i64 l.2] 71)) (fun _ _ h => h)
  have T3' : Turn (fun j => j = B) (W1.alloc (.cells #[.int .i64 (l.1 : Int), .int .i64 l.2] 71)) ((W1.alloc (.cells #[.int .i64 (l.1 : Int), .int .i64 l.2] 71)).setCell ⟨B, 0, none⟩ (.slice (some ⟨g, off, none⟩) e cap)) := ((Turn.refl (fun j => j = B) _).setCell (p := ⟨B, 0, none⟩) (.inl rfl) _)
  have hle : (T.take e).length = e := by rw [List.length_take]; omega
  have hM3 : HMem ((W1.alloc (.cells #[.int .i64 (l.1 : Int), .int .i64 l.2] 71)).setCell ⟨B, 0, none⟩ (.slice (some ⟨g, off, none⟩) e cap)) B (.slice (some ⟨g, off, none⟩) e cap) (.slice (some ⟨gp, offp, none⟩) P.length capp) (T.take e) (P.set y.1 0) :=
    ⟨heap_setCell_obj hM2.obj _, by rw [hle]; exact hcutO2.turn T3' (fun j hj h => by simp [Value.ownBlock] at hj; omega), hM2.p.turn T3' (fun j hj h => by simp [Value.ownBlock] at hj; omega)⟩
  have T3 := T2.then (T3'.mono (G := HFoot B (.slice (some ⟨g, off, none⟩) T.length cap) (.slice (some ⟨gp, offp, none⟩) P.length capp)) (fun j hj => .inl hj))
  have b3 := T3'.same b2 (by omega)
  rw [World.setCell_alloc_past _ _ _ _ hBs] at hM3 T3 b3
  by_cases hke : k = e
  · subst hke
    obtain ⟨c1, c2⟩ := (unhide Hw).takeEnd (unhide Hk) he
    have C1 := hide c1
    have C2 := hide c2
    clear c1 c2 T3' hcutO2 hcutO b2 b3 hM2 hgs hgps hM1
    go_wp2_with fail
    go_end0
    exact ⟨rfl, _, _, _, hM3, rfl, unhide C1, by omega, unhide C2, T3⟩
  · have hke2 : k < e := by omega
    have hked : ((k : Int) == (e : Int)) = false := by rw [beq_eq_false_iff_ne]; omega
    obtain ⟨c1, c2, c3⟩ := (unhide Hw).takeMid (unhide Hk) he hke2 (unhide Hl)
    have C1 := hide c1
    have C2 := hide c2
    have C3 := hide c3
    clear c1 c2 c3 T3' hcutO2 hcutO b2 hM2 hM1
    go_wp2_with fail
    have nbF : ¬ HFoot B (.slice (some ⟨g, off, none⟩) e cap) (.slice (some ⟨gp, offp, none⟩) P.length capp) W1.heap.size := by
      rintro (hh | hh | hh)
      · omega
      · simp [Value.ownBlock] at hh; omega
      · simp [Value.ownBlock] at hh; omega
    clear f2 zB sz1 hcut T2 l0 l1 f0 hgs hgps hBs T1
    generalize ((W1.setCell ⟨B, 0, none⟩ (.slice (some ⟨g, off, none⟩) e cap)).alloc (.cells #[.int .i64 (l.1 : Int), .int .i64 l.2] 71)) = W3 at *
    generalize W1.heap.size = b at *
    have f3 : W3.cell? ⟨B, 0, none⟩ = some (.slice (some ⟨g, off, none⟩) e cap) := cell_obj hM3.obj 0
    have x0 : W3.cell? ⟨b, 0, none⟩ = some (.int .i64 (l.1 : Int)) := cell_obj b3 0
    have x1 : W3.cell? ⟨b, 1, none⟩ = some (.int .i64 l.2) := cell_obj b3 1
    have hln : l.1 < n := (unhide Hw).id_lt (unhide Hl)
    have ft : ∀ j, HFoot B (.slice (some ⟨g, off, none⟩) e cap) (.slice (some ⟨gp, offp, none⟩) P.length capp) j → HFoot B (.slice (some ⟨g, off, none⟩) T.length cap) (.slice (some ⟨gp, offp, none⟩) P.length capp) j := fun j hj => hj
    have fin : ∀ (w' : World) (T' : List It) (P' : List Int), HMem w' B (.slice (some ⟨g, off, none⟩) e cap) (.slice (some ⟨gp, offp, none⟩) P.length capp) T' P' → Filled n (T.take e) k l T' P' → Turn (HFoot B (.slice (some ⟨g, off, none⟩) e cap) (.slice (some ⟨gp, offp, none⟩) P.length capp)) W3 w' → ∃ tv' T' P', HMem w' B tv' (.slice (some ⟨gp, offp, none⟩) P.length capp) T' P' ∧ tv'.ownBlock = (Value.slice (some ⟨g, off, none⟩) T.length cap).ownBlock ∧ Well n T' P' ∧ T'.length + 1 = T.length ∧ (∀ u, u ∈ T' ↔ u ∈ T ∧ u.1 ≠ y.1) ∧ Turn (HFoot B (.slice (some ⟨g, off, none⟩) T.length cap) (.slice (some ⟨gp, offp, none⟩) P.length capp)) w w' := fun w' T' P' a1 a2 a3 =>
      ⟨_, T', P', a1, rfl, a2.1, by rw [a2.2.1, hle]; exact he, fun u => by rw [a2.2.2 u]; exact unhide C3 u, T3.then (a3.mono ft)⟩
    have Fin := hide fin
    clear fin ft
    by_cases h0 : 0 < k
    · obtain ⟨j, hj⟩ : ∃ j, (k - 1) / 2 = j := ⟨_, rfl⟩
      have hje : j < e := by omega
      obtain ⟨z, hz⟩ : ∃ z, (T.take e)[j]? = some z := ⟨_, List.getElem?_eq_getElem (show j < (T.take e).length by omega)⟩
      obtain ⟨z0, z1⟩ := hM3.tcell hz
      have hzn : z.1 < n := (unhide Hw).id_lt (i := j) (y := z) (by rw [List.getElem?_take, if_pos hje] at hz; exact hz)
      have haw : ∀ u : World, Calls Try.prog 64 #[.int .i64 (k : Int)] u fun e w' => e = .returned (.int .i64 (j : Int)) ∧ w' = u := fun u => by rw [← hj]; exact above_walk k u h0 (by omega)
      have hbw : ∀ u : World, Calls Try.prog 63 #[.agg #[.int .i64 (l.1 : Int), .int .i64 l.2], .agg #[.int .i64 (z.1 : Int), .int .i64 z.2]] u fun e w' => e = .returned (.bool (decide (bef l z))) ∧ Turn (fun _ => False) u w' := fun u => before_walk l z u (by omega) (by omega)
      have Hz := hide hz
      have Hj := hide hj
      clear hj hz
      by_cases hc : bef l z
      · rw [decide_eq_true hc] at hbw
        have hrise : ∀ u : World, HMem u B (.slice (some ⟨g, off, none⟩) e cap) (.slice (some ⟨gp, offp, none⟩) P.length capp) (T.take e) (P.set y.1 0) → Calls Try.prog 65 #[.pointer (some ⟨B, 0, none⟩), .int .i64 (k : Int), .agg #[.int .i64 (l.1 : Int), .int .i64 l.2]] u fun e' w' => e' = .returned (.tuple #[]) ∧ ∃ T' P', HMem w' B (.slice (some ⟨g, off, none⟩) e cap) (.slice (some ⟨gp, offp, none⟩) P.length capp) T' P' ∧ Filled n (T.take e) k l T' P' ∧ Turn (HFoot B (.slice (some ⟨g, off, none⟩) e cap) (.slice (some ⟨gp, offp, none⟩) P.length capp)) u w' := fun u hu => rise_walk u B _ _ _ _ hu n k l (unhide C1) (unhide C2 z h0 (by rw [unhide Hj]; exact unhide Hz) hc) hn (by omega)
        clear hc
        go_region_held3 (fun u => u.cell? ⟨B, 0, none⟩ = some (.slice (some ⟨g, off, none⟩) e cap) ∧ u.cell? ⟨b, 0, none⟩ = some (.int .i64 (l.1 : Int)) ∧ u.cell? ⟨b, 1, none⟩ = some (.int .i64 l.2) ∧ u.cell? ⟨g, off + j * 2, none⟩ = some (.int .i64 (z.1 : Int)) ∧ u.cell? ⟨g, off + j * 2 + 1, none⟩ = some (.int .i64 z.2)) (first | exact ⟨f3, x0, x1, z0, z1⟩ | exact ⟨f2, y0, y1, y2, y3⟩ | go_keep)
          (first
          | (go_at_call 64; refine (haw _).mono ?_; rintro e w1 ⟨rfl, rfl⟩)
          | (go_at_call 63; refine (hbw _).mono ?_; rintro e w2 ⟨rfl, t2⟩; have f2 := t2.cell f3 (fun h => h); have y0 := t2.cell x0 (fun h => h); have y1 := t2.cell x1 (fun h => h); have y2 := t2.cell z0 (fun h => h); have y3 := t2.cell z1 (fun h => h)))
        have hM4 := hM3.quiet (Turn.undrew t2)
        have T4 := (Turn.undrew t2).mono (G := HFoot B (.slice (some ⟨g, off, none⟩) e cap) (.slice (some ⟨gp, offp, none⟩) P.length capp)) (fun _ h => h.elim)
        clear f3 x0 x1 z0 z1 t2 hM3 hbw y2 y3 f2
        go_wp2_with (go_at_call 65; refine (hrise _ hM4).mono ?_; rintro e' w4 ⟨rfl, T', P', hM5, hF, t4⟩)
        go_end0
        exact ⟨rfl, unhide Fin _ _ _ hM5 hF (T4.then t4)⟩
      · rw [decide_eq_false hc] at hbw
        have hsink : ∀ u : World, HMem u B (.slice (some ⟨g, off, none⟩) e cap) (.slice (some ⟨gp, offp, none⟩) P.length capp) (T.take e) (P.set y.1 0) → Calls Try.prog 66 #[.pointer (some ⟨B, 0, none⟩), .int .i64 (k : Int), .agg #[.int .i64 (l.1 : Int), .int .i64 l.2]] u fun e' w' => e' = .returned (.tuple #[]) ∧ ∃ T' P', HMem w' B (.slice (some ⟨g, off, none⟩) e cap) (.slice (some ⟨gp, offp, none⟩) P.length capp) T' P' ∧ Filled n (T.take e) k l T' P' ∧ Turn (HFoot B (.slice (some ⟨g, off, none⟩) e cap) (.slice (some ⟨gp, offp, none⟩) P.length capp)) u w' := fun u hu => sink_walk u B _ _ _ _ hu n k l (unhide C1) (fun z' h0' hz' => by rw [unhide Hj, unhide Hz] at hz'; cases hz'; exact hc) hn (by omega)
        clear hc
        go_region_held3 (fun u => u.cell? ⟨B, 0, none⟩ = some (.slice (some ⟨g, off, none⟩) e cap) ∧ u.cell? ⟨b, 0, none⟩ = some (.int .i64 (l.1 : Int)) ∧ u.cell? ⟨b, 1, none⟩ = some (.int .i64 l.2) ∧ u.cell? ⟨g, off + j * 2, none⟩ = some (.int .i64 (z.1 : Int)) ∧ u.cell? ⟨g, off + j * 2 + 1, none⟩ = some (.int .i64 z.2)) (first | exact ⟨f3, x0, x1, z0, z1⟩ | exact ⟨f2, y0, y1, y2, y3⟩ | go_keep)
          (first
          | (go_at_call 64; refine (haw _).mono ?_; rintro e w1 ⟨rfl, rfl⟩)
          | (go_at_call 63; refine (hbw _).mono ?_; rintro e w2 ⟨rfl, t2⟩; have f2 := t2.cell f3 (fun h => h); have y0 := t2.cell x0 (fun h => h); have y1 := t2.cell x1 (fun h => h); have y2 := t2.cell z0 (fun h => h); have y3 := t2.cell z1 (fun h => h)))
        have hM4 := hM3.quiet (Turn.undrew t2)
        have T4 := (Turn.undrew t2).mono (G := HFoot B (.slice (some ⟨g, off, none⟩) e cap) (.slice (some ⟨gp, offp, none⟩) P.length capp)) (fun _ h => h.elim)
        clear f3 x0 x1 z0 z1 t2 hM3 hbw y2 y3 f2
        go_wp2_with (go_at_call 66; refine (hsink _ hM4).mono ?_; rintro e' w4 ⟨rfl, T', P', hM5, hF, t4⟩)
        go_end0
        exact ⟨rfl, unhide Fin _ _ _ hM5 hF (T4.then t4)⟩
    · obtain rfl : k = 0 := by omega
      have hsink : ∀ u : World, HMem u B (.slice (some ⟨g, off, none⟩) e cap) (.slice (some ⟨gp, offp, none⟩) P.length capp) (T.take e) (P.set y.1 0) → Calls Try.prog 66 #[.pointer (some ⟨B, 0, none⟩), .int .i64 ((0 : Nat) : Int), .agg #[.int .i64 (l.1 : Int), .int .i64 l.2]] u fun e' w' => e' = .returned (.tuple #[]) ∧ ∃ T' P', HMem w' B (.slice (some ⟨g, off, none⟩) e cap) (.slice (some ⟨gp, offp, none⟩) P.length capp) T' P' ∧ Filled n (T.take e) 0 l T' P' ∧ Turn (HFoot B (.slice (some ⟨g, off, none⟩) e cap) (.slice (some ⟨gp, offp, none⟩) P.length capp)) u w' := fun u hu => sink_walk u B _ _ _ _ hu n 0 l (unhide C1) (fun z' h0' hz' => by omega) hn (by omega)
      go_region
      have x0 : W3.drew.cell? ⟨b, 0, none⟩ = some (.int .i64 (l.1 : Int)) := x0
      have x1 : W3.drew.cell? ⟨b, 1, none⟩ = some (.int .i64 l.2) := x1
      go_wp2_with (go_at_call 66; refine (hsink _ (hM3.quiet ((Turn.refl _ _).drew))).mono ?_; rintro e' w4 ⟨rfl, T', P', hM5, hF, t4⟩)
      go_end0
      exact ⟨rfl, unhide Fin _ _ _ hM5 hF (Turn.undrew t4)⟩
end Go.Proofs.Ytombpfpfeebnpaa
