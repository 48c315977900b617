/- Heap: rise. -/
import Derived.Test.YtombpfpfeebnpaaHLay
import Derived.Deep.RegionHeld3
namespace Go.Proofs.Ytombpfpfeebnpaa
open Go.RowKit Go.Maps
set_option linter.unusedVariables false
set_option linter.unusedSimpArgs false

/-- what rise and sink make of a heap with a free place -/
def Filled (n : Nat) (T : List It) (k : Nat) (x : It) (T' : List It) (P' : List Int) : Prop := Well n T' P' ∧ T'.length = T.length ∧ ∀ u, u ∈ T' ↔ u = x ∨ But T k u

/-- the same things but for the free place -/
def Alike (T : List It) (k : Nat) (T' : List It) (k' : Nat) : Prop := ∀ u, But T' k' u ↔ But T k u
theorem alike_refl (T : List It) (k : Nat) : Alike T k T k := fun u => Iff.rfl

set_option maxHeartbeats 2000000 in
theorem rise_walk (w : World) (B : Nat) (tv pv : Value) (T : List It) (P : List Int) (h : HMem w B tv pv T P) (n k : Nat) (x : It) (hh : Hole n T P k x) (hb : Below2 T k x) (hn : n ≤ 4194304) (hl : T.length ≤ n) :
    Calls Try.prog 65 #[.pointer (some ⟨B, 0, none⟩), .int .i64 (k : Int), itV x] w fun e w' => e = .returned (.tuple #[]) ∧ ∃ T' P', HMem w' B tv pv T' P' ∧ Filled n T k x T' P' ∧ Turn (HFoot B tv pv) w w' := by
  have hx := hh.hx
  have hk := hh.hk
  obtain ⟨g, off, cap, rfl⟩ := h.tform (by omega)
  have Hx : Hid (∃ a r, x = (a, r)) := hide ⟨x.1, x.2, rfl⟩
  have hv : itV x = .agg #[.int .i64 (x.1 : Int), .int .i64 x.2] := rfl
  have k0 : (w.alloc (.cells #[.int .i64 (x.1 : Int), .int .i64 x.2] 71)).heap[w.heap.size]? = some (.cells #[.int .i64 (x.1 : Int), .int .i64 x.2] 71 (0, 0)) := heap_alloc_new w _
  have hM := h.quiet ((Turn.refl (fun _ => False) w).alloc (.cells #[.int .i64 (x.1 : Int), .int .i64 x.2] 71))
  have TW := (Turn.refl (HFoot B (.slice (some ⟨g, off, none⟩) T.length cap) pv) w).alloc (.cells #[.int .i64 (x.1 : Int), .int .i64 x.2] 71)
  have hbF : ¬ HFoot B (.slice (some ⟨g, off, none⟩) T.length cap) pv w.heap.size := fun hf => by have := h.lt _ hf; omega
  have HH := hide (And.intro hh (And.intro hb (alike_refl T k)))
  rw [hv]
  clear hh hb
  go_enter Try.func65, Try.ntmps65
  go_wp2_with fail
  generalize w.alloc (.cells #[.int .i64 (x.1 : Int), .int .i64 x.2] 71) = W at *
  generalize w.heap.size = b at *
  go_loopw [1] (fun i wr => ∃ (k' : Nat) (T' : List It) (P' : List Int), i = .int .i64 (k' : Int) ∧ HMem wr B (.slice (some ⟨g, off, none⟩) T.length cap) pv T' P' ∧ Hid (Hole n T' P' k' x ∧ Below2 T' k' x ∧ Alike T k T' k') ∧ T'.length = T.length ∧ Turn (HFoot B (.slice (some ⟨g, off, none⟩) T.length cap) pv) W wr) (fun i _ => (intOf i).toNat)
  case atStart => exact ⟨k, T, P, rfl, hM, HH, rfl, Turn.refl _ _⟩
  case round =>
    obtain ⟨k', T', P', rfl, hM', HH', hl', t'⟩ := hrel
    have hk' := (unhide HH').1.hk
    have pl' := (unhide HH').1.pl
    have b0 := t'.same k0 hbF
    have f0 : wr.cell? ⟨B, 0, none⟩ = some (.slice (some ⟨g, off, none⟩) T.length cap) := cell_obj hM'.obj 0
    have x0 : wr.cell? ⟨b, 0, none⟩ = some (.int .i64 (x.1 : Int)) := cell_obj b0 0
    have x1 : wr.cell? ⟨b, 1, none⟩ = some (.int .i64 x.2) := cell_obj b0 1
    by_cases h0 : 0 < k'
    · obtain ⟨j, hj⟩ : ∃ j, (k' - 1) / 2 = j := ⟨_, rfl⟩
      have hjk : j < k' := by omega
      have hjT : j < T.length := by omega
      obtain ⟨z, hz⟩ : ∃ z, T'[j]? = some z := ⟨T'[j], by simp [show j < T'.length by omega]⟩
      obtain ⟨z0, z1⟩ := hM'.tcell hz
      have hzi : z.1 < P'.length := by
        have h1 := ((unhide HH').1.idx _ z (by omega) hz).1
        exact (List.getElem?_eq_some_iff.1 h1).1
      have haw : ∀ u : World, Calls Try.prog 64 #[.int .i64 (k' : Int)] u fun e w' => e = .returned (.int .i64 (j : Int)) ∧ w' = u := fun u => by rw [← hj]; exact above_walk k' u h0 (by omega)
      have hbw : ∀ u : World, Calls Try.prog 63 #[.agg #[.int .i64 (x.1 : Int), .int .i64 x.2], .agg #[.int .i64 (z.1 : Int), .int .i64 z.2]] u fun e w' => e = .returned (.bool (decide (bef x z))) ∧ Turn (fun _ => False) u w' := fun u => before_walk x z u (by omega) (by omega)
      have lHk : k' < T'.length := hk'
      have Hz := hide hz
      have Hj := hide hj
      clear hj hz
      by_cases hc : bef x z
      · rw [decide_eq_true hc] at hbw
        have Hc := hide hc
        clear hc
        go_wp2_with fail
        go_region_held3 (fun u => u.cell? ⟨B, 0, none⟩ = some (.slice (some ⟨g, off, none⟩) T.length cap) ∧ u.cell? ⟨b, 0, none⟩ = some (.int .i64 (x.1 : Int)) ∧ u.cell? ⟨b, 1, none⟩ = some (.int .i64 x.2) ∧ u.cell? ⟨g, off + j * 2, none⟩ = some (.int .i64 (z.1 : Int)) ∧ u.cell? ⟨g, off + j * 2 + 1, none⟩ = some (.int .i64 z.2)) (first | exact ⟨f0, x0, x1, z0, z1⟩ | exact ⟨f2, y0, y1, y2, y3⟩ | go_keep)
          (first
          | (go_at_call 64; refine (haw _).mono ?_; rintro e w1 ⟨rfl, rfl⟩)
          | (go_at_call 63; refine (hbw _).mono ?_; rintro e w2 ⟨rfl, t2⟩; have f2 := t2.cell f0 (fun h => h); have y0 := t2.cell x0 (fun h => h); have y1 := t2.cell x1 (fun h => h); have y2 := t2.cell z0 (fun h => h); have y3 := t2.cell z1 (fun h => h)))
        have hM2 := hM'.quiet (Turn.undrew t2)
        have T2 := t'.then ((Turn.undrew t2).mono (fun _ h => h.elim))
        clear z0 z1 x0 x1 f0 y0 y1 t2 hM' t' b0
        go_wp2_with fail
        have lw : ∀ u : World, HMem u B (.slice (some ⟨g, off, none⟩) T.length cap) pv T' P' → Calls Try.prog 71 #[.pointer (some ⟨B, 0, none⟩), .int .i64 (k' : Int), .agg #[.int .i64 (z.1 : Int), .int .i64 z.2]] u fun e w' => e = .returned (.tuple #[]) ∧ HMem w' B (.slice (some ⟨g, off, none⟩) T.length cap) pv (T'.set k' z) (P'.set z.1 ((k' : Int) + 1)) ∧ Turn (HFoot B (.slice (some ⟨g, off, none⟩) T.length cap) pv) u w' := fun u hu => lay_walk u B _ pv T' P' hu k' z lHk (by omega) hzi (by omega)
        go_region_held3 (fun u => u.cell? ⟨B, 0, none⟩ = some (.slice (some ⟨g, off, none⟩) T.length cap) ∧ u.cell? ⟨g, off + j * 2, none⟩ = some (.int .i64 (z.1 : Int)) ∧ u.cell? ⟨g, off + j * 2 + 1, none⟩ = some (.int .i64 z.2)) (first | exact ⟨f2, y2, y3⟩ | exact ⟨f4, y4, y5⟩ | go_keep)
          (first
          | (go_at_call 64; refine (haw _).mono ?_; rintro e w3 ⟨rfl, rfl⟩)
          | (go_at_call 71; refine (lw _ (hM2.quiet ((Turn.refl _ _).drew))).mono ?_; rintro e w4 ⟨rfl, hM4, t4⟩; have f4 := cell_obj hM4.obj 0; have hz4 : (T'.set k' z)[j]? = some z := (by rw [List.getElem?_set, if_neg (by omega)]; exact unhide Hz); have y4 := (hM4.tcell hz4).1; have y5 := (hM4.tcell hz4).2))
        have T4 := T2.then (Turn.undrew t4)
        obtain ⟨c1, c2, c3⟩ := (unhide HH').1.up (unhide HH').2.1 h0 (by rw [unhide Hj]; exact unhide Hz) (unhide Hc)
        rw [unhide Hj] at c1 c2 c3
        have HN : Hid (Hole n (T'.set k' z) (P'.set z.1 ((k' : Int) + 1)) j x ∧ Below2 (T'.set k' z) j x ∧ Alike T k (T'.set k' z) j) := hide ⟨c1, c2, fun u => (c3 u).trans ((unhide HH').2.2 u)⟩
        have lN : (T'.set k' z).length = T.length := by rw [List.length_set]; exact hl'
        clear hM2 f2 y2 y3 t4 f4 y4 y5 hz4 T2 c1 c2 c3 HH' lw hbw
        go_wp2_with (go_at_call 64; refine (haw _).mono ?_; rintro e w3 ⟨rfl, rfl⟩)
        exact ⟨⟨j, _, _, rfl, hM4, HN, lN, T4⟩, by simp [intOf]; omega⟩
      · rw [decide_eq_false hc] at hbw
        have Hc := hide hc
        clear hc
        go_wp2_with fail
        go_region_held3 (fun u => u.cell? ⟨B, 0, none⟩ = some (.slice (some ⟨g, off, none⟩) T.length cap) ∧ u.cell? ⟨b, 0, none⟩ = some (.int .i64 (x.1 : Int)) ∧ u.cell? ⟨b, 1, none⟩ = some (.int .i64 x.2) ∧ u.cell? ⟨g, off + j * 2, none⟩ = some (.int .i64 (z.1 : Int)) ∧ u.cell? ⟨g, off + j * 2 + 1, none⟩ = some (.int .i64 z.2)) (first | exact ⟨f0, x0, x1, z0, z1⟩ | exact ⟨f2, y0, y1, y2, y3⟩ | go_keep)
          (first
          | (go_at_call 64; refine (haw _).mono ?_; rintro e w1 ⟨rfl, rfl⟩)
          | (go_at_call 63; refine (hbw _).mono ?_; rintro e w2 ⟨rfl, t2⟩; have f2 := t2.cell f0 (fun h => h); have y0 := t2.cell x0 (fun h => h); have y1 := t2.cell x1 (fun h => h); have y2 := t2.cell z0 (fun h => h); have y3 := t2.cell z1 (fun h => h)))
        have hM2 := hM'.quiet (Turn.undrew t2)
        have T2 := t'.then ((Turn.undrew t2).mono (fun _ h => h.elim))
        have lw : ∀ u : World, HMem u B (.slice (some ⟨g, off, none⟩) T.length cap) pv T' P' → Calls Try.prog 71 #[.pointer (some ⟨B, 0, none⟩), .int .i64 (k' : Int), .agg #[.int .i64 (x.1 : Int), .int .i64 x.2]] u fun e w' => e = .returned (.tuple #[]) ∧ HMem w' B (.slice (some ⟨g, off, none⟩) T.length cap) pv (T'.set k' x) (P'.set x.1 ((k' : Int) + 1)) ∧ Turn (HFoot B (.slice (some ⟨g, off, none⟩) T.length cap) pv) u w' := fun u hu => lay_walk u B _ pv T' P' hu k' x lHk (by omega) (by omega) (by omega)
        obtain ⟨c1, c2⟩ := (unhide HH').1.fill (unhide HH').2.1 (fun u hu0 hu hxu => by
          rw [unhide Hj, unhide Hz] at hu; cases hu; exact unhide Hc hxu)
        have FN : Hid (Filled n T k x (T'.set k' x) (P'.set x.1 ((k' : Int) + 1))) := hide ⟨c1, by rw [List.length_set]; exact hl', fun u => by rw [c2 u, (unhide HH').2.2 u]⟩
        clear z0 z1 x0 x1 f0 y2 y3 t2 hM' t' b0 c1 c2 HH' hbw
        go_wp2_with (go_at_call 71; refine (lw _ hM2).mono ?_; rintro e w4 ⟨rfl, hM4, t4⟩)
        go_end0
        exact ⟨rfl, _, _, hM4, unhide FN, TW.then (T2.then t4)⟩
    · obtain rfl : k' = 0 := by omega
      have lw : ∀ u : World, HMem u B (.slice (some ⟨g, off, none⟩) T.length cap) pv T' P' → Calls Try.prog 71 #[.pointer (some ⟨B, 0, none⟩), .int .i64 ((0 : Nat) : Int), .agg #[.int .i64 (x.1 : Int), .int .i64 x.2]] u fun e w' => e = .returned (.tuple #[]) ∧ HMem w' B (.slice (some ⟨g, off, none⟩) T.length cap) pv (T'.set 0 x) (P'.set x.1 (((0 : Nat) : Int) + 1)) ∧ Turn (HFoot B (.slice (some ⟨g, off, none⟩) T.length cap) pv) u w' := fun u hu => lay_walk u B _ pv T' P' hu 0 x hk' (by omega) (by omega) (by omega)
      obtain ⟨c1, c2⟩ := (unhide HH').1.fill (unhide HH').2.1 (fun u hu0 hu => by omega)
      have FN : Hid (Filled n T k x (T'.set 0 x) (P'.set x.1 (((0 : Nat) : Int) + 1))) := hide ⟨c1, by rw [List.length_set]; exact hl', fun u => by rw [c2 u, (unhide HH').2.2 u]⟩
      clear c1 c2 HH'
      go_wp2_with fail
      go_region
      have x0 : wr.drew.cell? ⟨b, 0, none⟩ = some (.int .i64 (x.1 : Int)) := x0
      have x1 : wr.drew.cell? ⟨b, 1, none⟩ = some (.int .i64 x.2) := x1
      go_wp2_with (go_at_call 71; refine (lw _ (hM'.quiet ((Turn.refl _ _).drew))).mono ?_; rintro e w4 ⟨rfl, hM4, t4⟩)
      go_end0
      exact ⟨rfl, _, _, hM4, unhide FN, TW.then (t'.then (Turn.undrew t4))⟩
end Go.Proofs.Ytombpfpfeebnpaa
