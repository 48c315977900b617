/- Heap: sink. -/
import Derived.Test.YtombpfpfeebnpaaHSink
namespace Go.Proofs.Ytombpfpfeebnpaa
open Go.RowKit Go.Maps
set_option linter.unusedVariables false
set_option linter.unusedSimpArgs false

set_option maxHeartbeats 2000000 in
theorem sink_walk (w : World) (B : Nat) (tv pv : Value) (T : List It) (P : List Int) (h : HMem w B tv pv T P) (n k : Nat) (x : It) (hh : Hole n T P k x) (ha : Above2 T k x) (hn : n ≤ 4194304) (hl : T.length ≤ n) :
    Calls Try.prog 66 #[.pointer (some ⟨B, 0, none⟩), .int .i64 (k : Int), itV x] w fun e w' => e = .returned (.tuple #[]) ∧ ∃ T' P', HMem w' B tv pv T' P' ∧ Filled n T k x T' P' ∧ Turn (HFoot B tv pv) w w' := by
  have hx := hh.hx
  have hk := hh.hk
  obtain ⟨g, off, cap, rfl⟩ := h.tform (by omega)
  have hv : itV x = .agg #[.int .i64 (x.1 : Int), .int .i64 x.2] := rfl
  have k0 : (w.alloc (.cells #[.int .i64 (x.1 : Int), .int .i64 x.2] 71)).heap[w.heap.size]? = some (.cells #[.int .i64 (x.1 : Int), .int .i64 x.2] 71 (0, 0)) := heap_alloc_new w _
  have hM := h.quiet ((Turn.refl (fun _ => False) w).alloc (.cells #[.int .i64 (x.1 : Int), .int .i64 x.2] 71))
  have TW := (Turn.refl (HFoot B (.slice (some ⟨g, off, none⟩) T.length cap) pv) w).alloc (.cells #[.int .i64 (x.1 : Int), .int .i64 x.2] 71)
  have hbF : ¬ HFoot B (.slice (some ⟨g, off, none⟩) T.length cap) pv w.heap.size := fun hf => by have := h.lt _ hf; omega
  have HH := hide (And.intro hh (And.intro ha (alike_refl T k)))
  rw [hv]
  clear hh ha
  go_enter Try.func66, Try.ntmps66
  go_wp2_with fail
  generalize w.alloc (.cells #[.int .i64 (x.1 : Int), .int .i64 x.2] 71) = W at *
  generalize w.heap.size = b at *
  go_loopw [1] (fun i wr => ∃ (k' : Nat) (T' : List It) (P' : List Int), i = .int .i64 (k' : Int) ∧ HMem wr B (.slice (some ⟨g, off, none⟩) T.length cap) pv T' P' ∧ Hid (Hole n T' P' k' x ∧ Above2 T' k' x ∧ Alike T k T' k') ∧ T'.length = T.length ∧ Turn (HFoot B (.slice (some ⟨g, off, none⟩) T.length cap) pv) W wr) (fun i _ => T.length - (intOf i).toNat)
  case atStart => exact ⟨k, T, P, rfl, hM, HH, rfl, Turn.refl _ _⟩
  case round =>
    obtain ⟨k', T', P', rfl, hM', HH', hl', t'⟩ := hrel
    have hk' := (unhide HH').1.hk
    have pl' := (unhide HH').1.pl
    have hids : ∀ (i : Nat) (y : It), i ≠ k' → T'[i]? = some y → y.1 < P'.length := fun i y hi hy => (List.getElem?_eq_some_iff.1 ((unhide HH').1.idx i y hi hy).1).1
    have hfw := first_walk wr B _ pv T' P' hM' k' (by omega) (by omega) (fun i y hi hy => by have := hids i y hi hy; omega)
    have lw : ∀ (z : It), z.1 < P'.length → ∀ u : World, HMem u B (.slice (some ⟨g, off, none⟩) T.length cap) pv T' P' → Calls Try.prog 71 #[.pointer (some ⟨B, 0, none⟩), .int .i64 (k' : Int), .agg #[.int .i64 (z.1 : Int), .int .i64 z.2]] u fun e w' => e = .returned (.tuple #[]) ∧ HMem w' B (.slice (some ⟨g, off, none⟩) T.length cap) pv (T'.set k' z) (P'.set z.1 ((k' : Int) + 1)) ∧ Turn (HFoot B (.slice (some ⟨g, off, none⟩) T.length cap) pv) u w' := fun z hzi u hu => lay_walk u B _ pv T' P' hu k' z hk' (by omega) hzi (by omega)
    go_wp2_with (go_at_call 72; refine hfw.mono ?_; rintro e w1 ⟨t1, hcase⟩; rcases hcase with ⟨hnone, rfl⟩ | ⟨j, y, hF, rfl⟩)
    case _ =>
      have hM1 := hM'.quiet t1
      have T1 := t'.then (t1.mono (fun _ h => h.elim))
      have b1 := T1.same k0 hbF
      have x0 : w1.cell? ⟨b, 0, none⟩ = some (.int .i64 (x.1 : Int)) := cell_obj b1 0
      have x1 : w1.cell? ⟨b, 1, none⟩ = some (.int .i64 x.2) := cell_obj b1 1
      obtain ⟨c1, c2⟩ := (unhide HH').1.fill (below_none hnone) (unhide HH').2.1
      have FN : Hid (Filled n T k x (T'.set k' x) (P'.set x.1 ((k' : Int) + 1))) := hide ⟨c1, by rw [List.length_set]; exact hl', fun u => by rw [c2 u, (unhide HH').2.2 u]⟩
      have lx := lw x (by omega)
      clear c1 c2 hfw hids HH' b1 lw t' t1 hM' hnone
      go_wp2_with fail
      go_region
      have x0 : w1.drew.cell? ⟨b, 0, none⟩ = some (.int .i64 (x.1 : Int)) := x0
      have x1 : w1.drew.cell? ⟨b, 1, none⟩ = some (.int .i64 x.2) := x1
      go_wp2_with (go_at_call 71; refine (lx _ (hM1.quiet ((Turn.refl _ _).drew))).mono ?_; rintro e w4 ⟨rfl, hM4, t4⟩)
      go_end0
      exact ⟨rfl, _, _, hM4, unhide FN, TW.then (T1.then (Turn.undrew t4))⟩
    case _ =>
      have hM1 := hM'.quiet t1
      have T1 := t'.then (t1.mono (fun _ h => h.elim))
      have b1 := T1.same k0 hbF
      have x0 : w1.cell? ⟨b, 0, none⟩ = some (.int .i64 (x.1 : Int)) := cell_obj b1 0
      have x1 : w1.cell? ⟨b, 1, none⟩ = some (.int .i64 x.2) := cell_obj b1 1
      have f0 : w1.cell? ⟨B, 0, none⟩ = some (.slice (some ⟨g, off, none⟩) T.length cap) := cell_obj hM1.obj 0
      have hy := hF.2.1
      have hjk : j ≠ k' := by have := hF.1; omega
      have hjk2 : k' < j := by have := hF.1; omega
      have hjl : j < T.length := by have := (List.getElem?_eq_some_iff.1 hy).1; omega
      have hyi := hids j y hjk hy
      obtain ⟨y0, y1⟩ := hM1.tcell hy
      have hbw : ∀ u : World, Calls Try.prog 63 #[.agg #[.int .i64 (y.1 : Int), .int .i64 y.2], .agg #[.int .i64 (x.1 : Int), .int .i64 x.2]] u fun e w' => e = .returned (.bool (decide (bef y x))) ∧ Turn (fun _ => False) u w' := fun u => before_walk y x u (by omega) (by omega)
      have HF := hide hF
      clear hF hy
      by_cases hc : bef y x
      · rw [decide_eq_true hc] at hbw
        have Hc := hide hc
        have ly := lw y hyi
        clear hc lw hids hfw t' t1 hM' b1
        go_wp2_with fail
        go_region_held3 (fun u => u.cell? ⟨B, 0, none⟩ = some (.slice (some ⟨g, off, none⟩) T.length cap) ∧ u.cell? ⟨b, 0, none⟩ = some (.int .i64 (x.1 : Int)) ∧ u.cell? ⟨b, 1, none⟩ = some (.int .i64 x.2) ∧ u.cell? ⟨g, off + j * 2, none⟩ = some (.int .i64 (y.1 : Int)) ∧ u.cell? ⟨g, off + j * 2 + 1, none⟩ = some (.int .i64 y.2)) (first | exact ⟨f0, x0, x1, y0, y1⟩ | exact ⟨f2, x2, x3, y2, y3⟩ | go_keep)
          (first
          | (go_at_call 63; refine (hbw _).mono ?_; rintro e w2 ⟨rfl, t2⟩; have f2 := t2.cell f0 (fun h => h); have x2 := t2.cell x0 (fun h => h); have x3 := t2.cell x1 (fun h => h); have y2 := t2.cell y0 (fun h => h); have y3 := t2.cell y1 (fun h => h)))
        have hM2 := hM1.quiet (Turn.undrew t2)
        have T2 := T1.then ((Turn.undrew t2).mono (fun _ h => h.elim))
        obtain ⟨c1, c2, c3⟩ := (unhide HH').1.down (unhide HF) (unhide Hc)
        have HN : Hid (Hole n (T'.set k' y) (P'.set y.1 ((k' : Int) + 1)) j x ∧ Above2 (T'.set k' y) j x ∧ Alike T k (T'.set k' y) j) := hide ⟨c1, c2, fun u => (c3 u).trans ((unhide HH').2.2 u)⟩
        have lN : (T'.set k' y).length = T.length := by rw [List.length_set]; exact hl'
        clear f0 x0 x1 y0 y1 t2 hM1 T1 c1 c2 c3 HH' hbw x2 x3
        go_wp2_with (go_at_call 71; refine (ly _ hM2).mono ?_; rintro e w4 ⟨rfl, hM4, t4⟩)
        exact ⟨⟨j, _, _, rfl, hM4, HN, lN, T2.then t4⟩, by simp [intOf]; omega⟩
      · rw [decide_eq_false hc] at hbw
        have lx := lw x (by omega)
        obtain ⟨c1, c2⟩ := (unhide HH').1.fill (below_of (unhide HF) hc) (unhide HH').2.1
        have FN : Hid (Filled n T k x (T'.set k' x) (P'.set x.1 ((k' : Int) + 1))) := hide ⟨c1, by rw [List.length_set]; exact hl', fun u => by rw [c2 u, (unhide HH').2.2 u]⟩
        clear hc lw hids hfw t' t1 hM' b1 c1 c2 HH'
        go_wp2_with fail
        go_region_held3 (fun u => u.cell? ⟨B, 0, none⟩ = some (.slice (some ⟨g, off, none⟩) T.length cap) ∧ u.cell? ⟨b, 0, none⟩ = some (.int .i64 (x.1 : Int)) ∧ u.cell? ⟨b, 1, none⟩ = some (.int .i64 x.2) ∧ u.cell? ⟨g, off + j * 2, none⟩ = some (.int .i64 (y.1 : Int)) ∧ u.cell? ⟨g, off + j * 2 + 1, none⟩ = some (.int .i64 y.2)) (first | exact ⟨f0, x0, x1, y0, y1⟩ | exact ⟨f2, x2, x3, y2, y3⟩ | go_keep)
          (first
          | (go_at_call 63; refine (hbw _).mono ?_; rintro e w2 ⟨rfl, t2⟩; have f2 := t2.cell f0 (fun h => h); have x2 := t2.cell x0 (fun h => h); have x3 := t2.cell x1 (fun h => h); have y2 := t2.cell y0 (fun h => h); have y3 := t2.cell y1 (fun h => h)))
        have hM2 := hM1.quiet (Turn.undrew t2)
        have T2 := T1.then ((Turn.undrew t2).mono (fun _ h => h.elim))
        clear f0 x0 x1 y0 y1 t2 hM1 T1 hbw y2 y3 f2
        go_wp2_with (go_at_call 71; refine (lx _ hM2).mono ?_; rintro e w4 ⟨rfl, hM4, t4⟩)
        go_end0
        exact ⟨rfl, _, _, hM4, unhide FN, TW.then (T2.then t4)⟩
end Go.Proofs.Ytombpfpfeebnpaa
