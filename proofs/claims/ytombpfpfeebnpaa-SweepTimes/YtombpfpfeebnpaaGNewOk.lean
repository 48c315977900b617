/- A graph made of a network that may be. -/
import Derived.Test.YtombpfpfeebnpaaGNew
namespace Go.Proofs.Ytombpfpfeebnpaa
open Go.RowKit Go.Maps
set_option linter.unusedVariables false
set_option linter.unusedSimpArgs false
set_option maxRecDepth 100000

set_option maxHeartbeats 16000000 in
theorem new_ok (B : Nat → Prop) (w : World) (n : Int) (v : Value) (l : List Ar) (hr : AR B w v l) (h1 : MayA n l) :
    Calls Try.prog 24 #[.agg #[.int .i64 n, v]] w fun e w' => ∃ G, e = .returned (.tuple #[.pointer (some ⟨G, 0, none⟩), .int .i64 0]) ∧ GraphAt w' G (fun j => w.heap.size ≤ j) n.toNat l ∧ Turn (fun _ => False) w w' := by
  obtain ⟨a, c, rfl⟩ := hr.slice
  have T0 := (Turn.refl (fun _ => False) w).alloc (.cells #[.int .i64 n, .slice a l.length c] 24)
  have hR := (hr.lt).quiet T0
  have hb := heap_alloc_new w (.cells #[.int .i64 n, .slice a l.length c] 24)
  have Hb := bounded_walk _ _ n _ l hR
  obtain ⟨h1, hdist⟩ := h1
  rw [decide_eq_true h1] at Hb
  obtain ⟨N, rfl⟩ : ∃ N : Nat, n = N := ⟨n.toNat, by have := h1.1; omega⟩
  have hN := h1.2.1
  have hL := h1.2.2.1
  have Hg1 := fun u (t : Turn (fun _ => False) _ u) => gather_to _ u _ l N (hR.quiet t) (by omega) hL (ok_keys h1).1
  have hd : decide ((both l N).Pairwise ltA) = true := decide_eq_true ((both_lt h1).2 hdist)
  have hml : (gat keT l N).length = l.length := gat_total keT l N (ok_keys h1).1
  have HB := hide h1
  have HA := hide hR
  clear hr hR h1 hdist
  go_enter Try.func24, Try.ntmps24
  go_wp2_with fail
  generalize w.alloc (.cells #[.int .i64 (N : Int), .slice a l.length c] 24) = W at *
  generalize hbs : w.heap.size = b at *
  have Hbs := hide hbs
  refine Hb.mono ?_
  rintro e w1 ⟨rfl, t1⟩
  have hb1 := t1.same hb (fun h => h)
  have A1 := hide ((unhide HA).quiet t1)
  have T1 := T0.then t1
  have f0 : w1.cell? ⟨b, 0, none⟩ = some (.int .i64 (N : Int)) := cell_obj hb1 0
  have f1 : w1.cell? ⟨b, 1, none⟩ = some (.slice a l.length c) := cell_obj hb1 1
  have Hg := Hg1 _ t1
  clear Hb Hg1 hb t1 T0 HA hbs
  go_wp2_with fail
  refine Hg.mono ?_
  rintro e w2 ⟨ga, gs, rfl, G2, t2, _, _⟩
  have tX := (Turn.refl (fun _ => False) w2).alloc (.cells #[.slice (some ⟨ga, 0, none⟩) l.length l.length, .slice (some ⟨gs, 0, none⟩) (N + 1) (N + 1)] 76)
  have G3 := G2.turn tX (fun h => h) (fun h => h)
  have hb3 := tX.same (t2.same hb1 (fun h => h)) (fun h => h)
  have A3 := hide (((unhide A1).quiet t2).quiet tX)
  have T3 := (T1.then t2).then tX
  have hA3 := G3.arcs.2.ar
  have Hg := gather_from _ _ _ (gat keT l N) N hA3 (by omega) (by omega) (mid_keys (unhide HB))
  rw [hml] at Hg
  have k0 : (w2.alloc (.cells #[.slice (some ⟨ga, 0, none⟩) l.length l.length, .slice (some ⟨gs, 0, none⟩) (N + 1) (N + 1)] 76)).cell? ⟨b, 0, none⟩ = some (.int .i64 (N : Int)) := cell_obj hb3 0
  have hbw : b < w2.heap.size := (Array.getElem?_eq_some_iff.1 (t2.same hb1 (fun h => h))).1
  clear f0 f1 hb1 T1 t2 tX G2 G3 hA3 A1
  go_wp2_with fail
  refine Hg.mono ?_
  rintro e w4 ⟨oa, os, rfl, G4, t4, hoa, hos⟩
  have tX := (Turn.refl (fun _ => False) w4).alloc (.cells #[.slice (some ⟨oa, 0, none⟩) l.length l.length, .slice (some ⟨os, 0, none⟩) (N + 1) (N + 1)] 76)
  have ob5 := heap_alloc_new w4 (.cells #[.slice (some ⟨oa, 0, none⟩) l.length l.length, .slice (some ⟨os, 0, none⟩) (N + 1) (N + 1)] 76)
  obtain ⟨hOl, S, hSO, hSS⟩ := G4.turn tX (fun h => h) (fun h => h)
  rw [hml] at hOl
  rw [show gat keF (gat keT l N) N = both l N from rfl] at hOl
  have hA4 := hOl.2.ar
  have hb5 := tX.same (t4.same hb3 (fun h => h)) (fun h => h)
  have A5 := hide (((unhide A3).quiet t4).quiet tX)
  have T5 := (T3.then t4).then tX
  have HrM := rising_walk _ _ _ (both l N) hA4
  rw [hd] at HrM
  have hbw4 : b < w4.heap.size := (Array.getElem?_eq_some_iff.1 (t4.same hb3 (fun h => h))).1
  have hsz3 := T3.size
  clear Hg hd G4 T3 t4 tX k0 hb3 A3 hA4 hbw
  go_wp2_with fail
  generalize w4.alloc (.cells #[.slice (some ⟨oa, 0, none⟩) l.length l.length, .slice (some ⟨os, 0, none⟩) (N + 1) (N + 1)] 76) = W5 at *
  generalize w4.heap.size = ob at *
  refine HrM.mono ?_
  rintro e w6 ⟨rfl, t6⟩
  have hO6 := hOl.turn t6 (fun h => h)
  have hS6 := hSO.turn t6 (fun h => h)
  have hb6 := t6.same hb5 (fun h => h)
  have ob6 := t6.same ob5 (fun h => h)
  have A6 := hide ((unhide A5).quiet t6)
  have T6 := T5.then t6
  have n0 : w6.cell? ⟨b, 0, none⟩ = some (.int .i64 (N : Int)) := cell_obj hb6 0
  have l0 : w6.cell? ⟨ob, 0, none⟩ = some (.slice (some ⟨oa, 0, none⟩) l.length l.length) := cell_obj ob6 0
  have l1 : w6.cell? ⟨ob, 1, none⟩ = some (.slice (some ⟨os, 0, none⟩) (N + 1) (N + 1)) := cell_obj ob6 1
  have n0d : w6.drew.cell? ⟨b, 0, none⟩ = some (.int .i64 (N : Int)) := n0
  have l0d : w6.drew.cell? ⟨ob, 0, none⟩ = some (.slice (some ⟨oa, 0, none⟩) l.length l.length) := l0
  have l1d : w6.drew.cell? ⟨ob, 1, none⟩ = some (.slice (some ⟨os, 0, none⟩) (N + 1) (N + 1)) := l1
  have Hg3 := gather_to _ w6.drew _ (both l N) N (hO6.turn (Turn.refl (fun _ => False) w6).drew (fun h => h)).2.ar (by omega) (by rw [both_len (unhide HB)]; exact hL) (both_keys (unhide HB))
  rw [both_len (unhide HB)] at Hg3
  clear HrM hOl hSO hb5 ob5 A5 T5 t6
  go_wp2_with fail
  go_region_held3 (fun u => u.cell? ⟨b, 0, none⟩ = some (.int .i64 (N : Int)) ∧ u.cell? ⟨ob, 0, none⟩ = some (.slice (some ⟨oa, 0, none⟩) l.length l.length) ∧ u.cell? ⟨ob, 1, none⟩ = some (.slice (some ⟨os, 0, none⟩) (N + 1) (N + 1))) (first | exact ⟨n0d, l0d, l1d⟩ | exact ⟨n0, l0, l1⟩ | exact ⟨m0, p0, p1⟩ | go_keep)
    (first
    | (go_at_call 42; refine Hg3.mono ?_; rintro e w7 ⟨ia, is, rfl, G7, t7, hia, his⟩; have m0 := t7.cell n0d (fun h => h); have p0 := t7.cell l0d (fun h => h); have p1 := t7.cell l1d (fun h => h)))
  have g8 := heap_alloc_new w7 (.cells #[.int .i64 (N : Int), .slice (some ⟨oa, 0, none⟩) l.length l.length, .slice (some ⟨os, 0, none⟩) (N + 1) (N + 1), .slice (some ⟨ia, 0, none⟩) l.length l.length, .slice (some ⟨is, 0, none⟩) (N + 1) (N + 1), .map none] 79)
  have tG := (Turn.refl (fun _ => False) w7).alloc (.cells #[.int .i64 (N : Int), .slice (some ⟨oa, 0, none⟩) l.length l.length, .slice (some ⟨os, 0, none⟩) (N + 1) (N + 1), .slice (some ⟨ia, 0, none⟩) l.length l.length, .slice (some ⟨is, 0, none⟩) (N + 1) (N + 1), .map none] 79)
  have t68 : Turn (fun _ => False) w6 _ := (((Turn.refl (fun _ => False) w6).drew).then t7).then tG
  have hO8 := hO6.turn t68 (fun h => h)
  have hS8 := hS6.turn t68 (fun h => h)
  have hb8 := t68.same hb6 (fun h => h)
  have A8 := hide ((unhide A6).quiet t68)
  have T8 := T6.then t68
  obtain ⟨hI7, S', hJ7, hSS'⟩ := G7.turn tG (fun h => h) (fun h => h)
  rw [both_len (unhide HB)] at hI7
  have hGn : b < w7.heap.size := by
    have h1 := (((Turn.refl (fun _ => False) w6).drew).then t7).same hb6 (fun h => h)
    exact (Array.getElem?_eq_some_iff.1 h1).1
  have hG8 : b ≠ w7.heap.size ∧ oa ≠ w7.heap.size ∧ os ≠ w7.heap.size ∧ ia ≠ w7.heap.size ∧ is ≠ w7.heap.size := by
    refine ⟨by omega, ?_, ?_, ?_, ?_⟩ <;> rintro rfl
    · obtain ⟨_, e⟩ := hO8.lt; rw [g8] at e; cases e
    · obtain ⟨_, e⟩ := hS8.lt; rw [g8] at e; cases e
    · obtain ⟨_, e⟩ := hI7.lt; rw [g8] at e; cases e
    · obtain ⟨_, e⟩ := hJ7.lt; rw [g8] at e; cases e
  have hbnd : b ≤ oa ∧ b ≤ os ∧ b ≤ ia ∧ b ≤ is := by
    have h1 := (T6.drew).size
    have h2 := unhide Hbs
    refine ⟨?_, ?_, ?_, ?_⟩ <;> omega
  clear n0 l0 l1 n0d l0d l1d m0 p0 p1 Hg3 hO6 hS6 hb6 ob6 A6 T6 t7 tG t68 G7
  generalize w7.alloc (.cells #[.int .i64 (N : Int), .slice (some ⟨oa, 0, none⟩) l.length l.length, .slice (some ⟨os, 0, none⟩) (N + 1) (N + 1), .slice (some ⟨ia, 0, none⟩) l.length l.length, .slice (some ⟨is, 0, none⟩) (N + 1) (N + 1), .map none] 79) = W8 at *
  generalize w7.heap.size = G at *
  have hGW := (Array.getElem?_eq_some_iff.1 g8).1
  have hmk : ∀ u : World, (Instr.makeMap 77 (some (.int .i64 (l.length : Int)))).run Try.prog u = .ok (.map (some u.heap.size)) (u.alloc (.map #[] 0)) := by
    intro u
    simp [Instr.makeMap, run_underlying Try.underlying77, asInt, asIntOf, Result.andThen]
  have f1 : W8.cell? ⟨b, 1, none⟩ = some (.slice a l.length c) := cell_obj hb8 1
  have g5 : W8.cell? ⟨G, 5, none⟩ = some (.map none) := cell_obj g8 5
  have z5 : W8.frozen? ⟨G, 5, none⟩ = false := frozen_obj g8 5
  have g9 : (W8.setCell ⟨G, 5, none⟩ (.map (some W8.heap.size))).heap[G]? = some (.cells #[.int .i64 (N : Int), .slice (some ⟨oa, 0, none⟩) l.length l.length, .slice (some ⟨os, 0, none⟩) (N + 1) (N + 1), .slice (some ⟨ia, 0, none⟩) l.length l.length, .slice (some ⟨is, 0, none⟩) (N + 1) (N + 1), .map (some W8.heap.size)] 79 (0, 0)) := (heap_setCell_obj (j := 5) g8 (.map (some W8.heap.size))).trans (by rfl)
  have tS : Turn (fun j => j = G) W8 ((W8.setCell ⟨G, 5, none⟩ (.map (some W8.heap.size))).alloc (.map #[] 0)) := ((Turn.refl (fun j => j = G) W8).setCell (p := ⟨G, 5, none⟩) (.inl rfl) _).alloc _
  have tA := (Turn.refl (fun _ => False) (W8.setCell ⟨G, 5, none⟩ (.map (some W8.heap.size)))).alloc (.map #[] 0)
  have gg9 := tA.same g9 (fun h => h)
  have mm := heap_alloc_new (W8.setCell ⟨G, 5, none⟩ (.map (some W8.heap.size))) (.map #[] 0)
  rw [show (W8.setCell ⟨G, 5, none⟩ (.map (some W8.heap.size))).heap.size = W8.heap.size by simp [World.setCell]] at mm
  have hO9 := hO8.turn tS hG8.2.1
  have hS9 := hS8.turn tS hG8.2.2.1
  have hI9 := hI7.turn tS hG8.2.2.2.1
  have hJ9 := hJ7.turn tS hG8.2.2.2.2
  have hb9 := tS.same hb8 hG8.1
  have A9 := hide ((unhide A8).turn tS (fun j hj => by have := hj.2; omega))
  have T9 := T8.trans tS (fun j hj => .inr (by have := unhide Hbs; omega))
  have f1' : ((W8.setCell ⟨G, 5, none⟩ (.map (some W8.heap.size))).alloc (.map #[] 0)).cell? ⟨b, 1, none⟩ = some (.slice a l.length c) := cell_obj hb9 1
  clear g8 hO8 hS8 hI7 hJ7 hb8 A8 T8 tS tA g9
  go_wp2_with fail
  clear f1 g5 z5
  generalize (W8.setCell ⟨G, 5, none⟩ (.map (some W8.heap.size))).alloc (.map #[] 0) = W9 at *
  generalize hme : W8.heap.size = m at *
  have hM0 : WMap W9 m 0 (l.take 0) := wmap_new mm
  have hmm : m ≠ G ∧ m ≠ b ∧ m ≠ oa ∧ m ≠ os ∧ m ≠ ia ∧ m ≠ is := by
    refine ⟨by omega, by omega, ?_, ?_, ?_, ?_⟩ <;> rintro rfl
    · obtain ⟨_, e⟩ := hO9.lt; rw [mm] at e; cases e
    · obtain ⟨_, e⟩ := hS9.lt; rw [mm] at e; cases e
    · obtain ⟨_, e⟩ := hI9.lt; rw [mm] at e; cases e
    · obtain ⟨_, e⟩ := hJ9.lt; rw [mm] at e; cases e
  have Hmm := hide hmm
  have HG8 := hide hG8
  have hmb : Hid (b ≤ m ∧ b ≤ G) := hide (by omega)
  clear mm hme hmm hG8 hmk hGW hGn
  go_loopw [46] (fun i wr => ∃ k : Nat, i = .int .i64 (k : Int) ∧ k ≤ l.length ∧ WMap wr m k (l.take k) ∧ Turn (fun j => j = m) W9 wr) (fun i _ => l.length - (intOf i).toNat)
  case atStart => exact ⟨0, rfl, Nat.zero_le _, hM0, Turn.refl _ _⟩
  case round =>
    clear hM0 f1'
    obtain ⟨k, rfl, hk, hM, tr⟩ := hrel
    by_cases hlt : k < l.length
    · obtain ⟨x, hx⟩ := lt_take hlt
      have hok := (unhide HB).2.2.2 x (List.mem_of_getElem? hx)
      obtain ⟨g, off, c', hv, _, hcl⟩ := ((unhide A9).turn tr (fun j hj => by have := hj.2; have := (unhide hmb).1; omega)).form (by omega)
      simp only [Value.slice.injEq] at hv
      obtain ⟨rfl, _, rfl⟩ := hv
      obtain ⟨q0, q1, q2⟩ := hcl k x hx
      unfold okA at hok
      have tX := (Turn.refl (fun _ => False) wr).alloc (.cells #[.int .i64 x.1, .int .i64 x.2.1, .int .i64 x.2.2] 46)
      have kX := heap_alloc_new wr (.cells #[.int .i64 x.1, .int .i64 x.2.1, .int .i64 x.2.2] 46)
      have gg := tX.same (tr.same gg9 (fun h => (unhide Hmm).1 h.symm)) (fun h => h)
      have hM2 := (hM.turn tX (fun h => h)).turn (Turn.refl (fun _ => False) _).drew (fun h => h)
      obtain ⟨w4', hrun, hM3, t3⟩ := hM2.put (by omega) x (i32_of (by omega) (by omega)) (i32_of (by omega) (by omega)) (i32_of (by omega) (by omega))
      have htk : l.take k ++ [x] = l.take (k + 1) := by rw [List.take_add_one, hx]; rfl
      rw [htk] at hM3
      have tr3 := (tr.then ((tX.drew).mono (fun _ h => h.elim))).then t3
      have hw1 : IntKind.i32.wrap x.1 = x.1 := by rw [IntKind.wrap_i32]; omega
      have hw2 : IntKind.i32.wrap x.2.1 = x.2.1 := by rw [IntKind.wrap_i32]; omega
      have hw3 : IntKind.i32.wrap x.2.2 = x.2.2 := by rw [IntKind.wrap_i32]; omega
      have g5 : (wr.alloc (.cells #[.int .i64 x.1, .int .i64 x.2.1, .int .i64 x.2.2] 46)).cell? ⟨G, 5, none⟩ = some (.map (some m)) := cell_obj gg 5
      have b0 : (wr.alloc (.cells #[.int .i64 x.1, .int .i64 x.2.1, .int .i64 x.2.2] 46)).cell? ⟨wr.heap.size, 0, none⟩ = some (.int .i64 x.1) := cell_obj kX 0
      have b1 : (wr.alloc (.cells #[.int .i64 x.1, .int .i64 x.2.1, .int .i64 x.2.2] 46)).cell? ⟨wr.heap.size, 1, none⟩ = some (.int .i64 x.2.1) := cell_obj kX 1
      have b2 : (wr.alloc (.cells #[.int .i64 x.1, .int .i64 x.2.1, .int .i64 x.2.2] 46)).cell? ⟨wr.heap.size, 2, none⟩ = some (.int .i64 x.2.2) := cell_obj kX 2
      clear hcl hx hok htk hM hM2 tX t3 tr gg kX
      obtain ⟨x1, x2, x3⟩ := x
      simp only at q0 q1 q2 hrun hw1 hw2 hw3 g5 b0 b1 b2
      go_wp2_with fail
      generalize wr.alloc (.cells #[.int .i64 x1, .int .i64 x2, .int .i64 x3] 46) = W10 at *
      generalize wr.heap.size = bx at *
      go_region
      go_wp2
      exact ⟨⟨k + 1, by go_num, by omega, hM3, tr3⟩, by simp [intOf]; omega⟩
    · obtain rfl : k = l.length := by omega
      rw [List.take_length] at hM
      have hh := unhide Hmm
      have h2 := unhide hmb
      have h3 := unhide Hbs
      have GA : GraphAt wr G (fun j => w.heap.size ≤ j) N l := ⟨oa, os, ia, is, m, l.length, tr.same gg9 (fun h => hh.1 h.symm), hO9.turn tr (fun h => hh.2.2.1 h.symm), ⟨S, hS9.turn tr (fun h => hh.2.2.2.1 h.symm), hSS⟩, hI9.turn tr (fun h => hh.2.2.2.2.1 h.symm), ⟨S', hJ9.turn tr (fun h => hh.2.2.2.2.2 h.symm), hSS'⟩, hM, by omega, by omega, by omega, by omega, by omega, by omega⟩
      have TF := T9.trans tr (fun j hj => .inr (by omega))
      clear hM hO9 hS9 hI9 hJ9 T9 tr gg9
      go_wp2
      go_ret2
      exact ⟨G, rfl, by simpa using GA, TF⟩
end Go.Proofs.Ytombpfpfeebnpaa
