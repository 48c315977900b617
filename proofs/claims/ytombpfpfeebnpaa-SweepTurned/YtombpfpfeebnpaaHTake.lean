/- Heap: takeOut. -/
import Derived.Test.YtombpfpfeebnpaaHSink2
namespace Go.Proofs.Ytombpfpfeebnpaa
open Go.RowKit Go.Maps
set_option linter.unusedVariables false
set_option linter.unusedSimpArgs false

/-- a slice of one's own up to a place -/
theorem cutO_to {P : Program} {w : World} {t e : TypeId} {i : TypeInfo} {s g off n cap : Nat} {xs : List Value} (ht : P.underlying t = some (.slice e)) (hi : P.info? e = some i) (hs : i.size = s) (h : OwnSl w e s (.slice (some ⟨g, off, none⟩) n cap) n xs) (k : Nat) (hk : k ≤ n) (h0 : 0 < n) :
    (∀ u : World, (Instr.slice t (.slice (some ⟨g, off, none⟩) n cap) none (some (.int .i64 (k : Int))) none).run P u = .ok (.slice (some ⟨g, off, none⟩) k cap) u) ∧ OwnSl w e s (.slice (some ⟨g, off, none⟩) k cap) k (xs.take (k * s)) := by
  have hl : (xs.take (k * s)).length = k * s := by rw [List.length_take, h.1]; exact Nat.min_eq_left (Nat.mul_le_mul_right _ hk)
  rcases h.2 with ⟨hv, _⟩ | ⟨g', off', cap', cur, hv, hg, hnc, hcm, hfit, htk⟩
  · simp at hv
  · simp only [Value.slice.injEq, Option.some.injEq, Addr.mk.injEq, and_true, true_and] at hv
    obtain ⟨⟨rfl, rfl⟩, rfl⟩ := hv
    have hc0 : ¬ cap = 0 := by omega
    have hle : k ≤ cap := by omega
    refine ⟨fun u => ?_, hl, .inr ⟨g, off, cap, cur, rfl, hg, hle, hcm, hfit, ?_⟩⟩
    · simp [Instr.slice, run_underlying ht, Instr.sliceBounds, Instr.sliceBound, asIntOf, sizeOf, typeInfo, hi, Result.andThen, Addr.add, hle, hc0]
    · rw [← htk, List.take_take, Nat.min_eq_left (Nat.mul_le_mul_right _ hk)]
theorem info_it : (Try.prog.info? 71).map (fun i => (i.zero, i.size, i.bytes)) = some (some (.agg #[.int .i64 0, .int .i64 0]), 2, 16) := by kernel_rfl

set_option maxHeartbeats 4000000 in
theorem takeOut_walk (w : World) (B : Nat) (tv pv : Value) (T : List It) (P : List Int) (h : HMem w B tv pv T P) (n k : Nat) (y : It) (hw : Well n T P) (hk : T[k]? = some y) (hn : n ≤ 4194304) :
    Calls Try.prog 57 #[.pointer (some ⟨B, 0, none⟩), .int .i64 (k : Int)] w fun e w' => e = .returned (.tuple #[]) ∧ ∃ tv' T' P', HMem w' B tv' pv T' P' ∧ tv'.ownBlock = tv.ownBlock ∧ Well n T' P' ∧ T'.length + 1 = T.length ∧ (∀ u, u ∈ T' ↔ u ∈ T ∧ u.1 ≠ y.1) ∧ Turn (HFoot B tv pv) w w' := by
  have hkl := (List.getElem?_eq_some_iff.1 hk).1
  have hlen := hw.len
  have hpl := hw.pl
  have hyn := hw.id_lt hk
  obtain ⟨g, off, cap, rfl⟩ := h.tform (by omega)
  obtain ⟨gp, offp, capp, rfl⟩ := h.pform (by omega)
  obtain ⟨y0, y1⟩ := h.tcell hk
  have f0 : w.cell? ⟨B, 0, none⟩ = some (.slice (some ⟨g, off, none⟩) T.length cap) := cell_obj h.obj 0
  have f1 : w.cell? ⟨B, 1, none⟩ = some (.slice (some ⟨gp, offp, none⟩) P.length capp) := cell_obj h.obj 1
  have gB : g ≠ B := h.t.neObj h.obj (by decide) g rfl
  have gpB : gp ≠ B := h.p.neObj h.obj (by decide) gp rfl
  have ggp : g ≠ gp := by
    rintro rfl
    obtain ⟨c1, e1⟩ := h.t.lt g rfl
    obtain ⟨c2, e2⟩ := h.p.lt g rfl
    rw [e1] at e2; simp at e2
  obtain ⟨p, hpy⟩ : ∃ p, P[y.1]? = some p := ⟨P[y.1]'(by omega), by simp [show y.1 < P.length by omega]⟩
  have q0 := h.pcell hpy
  obtain ⟨curp, hgp⟩ := h.p.lt gp rfl
  have z0 : w.frozen? ⟨gp, offp + y.1, none⟩ = false := frozen_obj hgp _
  have hyP : y.1 < P.length := by omega
  have Hk := hide hk
  have Hw := hide hw
  clear hk hw
  go_enter Try.func57, Try.ntmps57
  go_wp2_with fail
  go_region
  have T1' : Turn (fun j => j = gp) w (w.setCell ⟨gp, offp + y.1, none⟩ (.int .i32 0)).drew := ((Turn.refl (fun j => j = gp) w).setCell (p := ⟨gp, offp + y.1, none⟩) (.inl rfl) _).drew
  have hP1 : OwnSl (w.setCell ⟨gp, offp + y.1, none⟩ (.int .i32 0)).drew 21 1 (.slice (some ⟨gp, offp, none⟩) P.length capp) P.length (pCells (P.set y.1 0)) := by
    rw [show pCells (P.set y.1 0) = (pCells P).set y.1 (.int .i32 0) by simp [pCells, List.map_set]]
    exact (h.p.set y.1 (by omega) (.int .i32 0)).1.kept (fun _ _ => rfl)
  have hM1 : HMem (w.setCell ⟨gp, offp + y.1, none⟩ (.int .i32 0)).drew B (.slice (some ⟨g, off, none⟩) T.length cap) (.slice (some ⟨gp, offp, none⟩) P.length capp) T (P.set y.1 0) :=
    ⟨T1'.same h.obj (fun e => gpB e.symm), h.t.turn T1' (fun j hj e => by simp [Value.ownBlock] at hj; omega), by rw [List.length_set]; exact hP1⟩
  have T1 := T1'.mono (G := HFoot B (.slice (some ⟨g, off, none⟩) T.length cap) (.slice (some ⟨gp, offp, none⟩) P.length capp)) (fun j hj => .inr (.inr (by rw [hj]; rfl)))
  have hFlt := h.lt
  clear hP1 T1' q0 z0 y0 y1 f0 f1 hgp
  generalize hW1 : (w.setCell ⟨gp, offp + y.1, none⟩ (.int .i32 0)).drew = W1 at *
  clear hW1
  obtain ⟨e, he⟩ : ∃ e, e + 1 = T.length := ⟨T.length - 1, by omega⟩
  obtain ⟨l, hl⟩ : ∃ l, T[e]? = some l := ⟨T[e], by simp [show e < T.length by omega]⟩
  obtain ⟨l0, l1⟩ := hM1.tcell hl
  have f0 : W1.cell? ⟨B, 0, none⟩ = some (.slice (some ⟨g, off, none⟩) T.length cap) := cell_obj hM1.obj 0
  have hie : (T.length : Int) - 1 = (e : Int) := by omega
  have hel : e < T.length := by omega
  obtain ⟨ii, hi, hz0, hz1, hz2⟩ := info_parts info_it
  obtain ⟨hcut, hcutO⟩ := cutO_to (P := Try.prog) Try.underlying97 hi hz1 hM1.t e (by omega) (by omega)
  rw [← tCells_take] at hcutO
  have Hl := hide hl
  have hPs : (P.set y.1 0).length = P.length := List.length_set
  have Hpl := hide hpl
  clear hl hpl
  have hM2 := hM1.quiet ((Turn.refl (fun _ => False) W1).alloc (.cells #[.int .i64 (l.1 : Int), .int .i64 l.2] 71))
  have T2 := T1.alloc (.cells #[.int .i64 (l.1 : Int), .int .i64 l.2] 71)
  have b2 : (W1.alloc (.cells #[.int .i64 (l.1 : Int), .int .i64 l.2] 71)).heap[W1.heap.size]? = some (.cells #[.int .i64 (l.1 : Int), .int .i64 l.2] 71 (0, 0)) := heap_alloc_new W1 _
  have f2 : (W1.alloc (.cells #[.int .i64 (l.1 : Int), .int .i64 l.2] 71)).cell? ⟨B, 0, none⟩ = some (.slice (some ⟨g, off, none⟩) T.length cap) := cell_obj hM2.obj 0
  have zB : (W1.alloc (.cells #[.int .i64 (l.1 : Int), .int .i64 l.2] 71)).frozen? ⟨B, 0, none⟩ = false := frozen_obj hM2.obj _
  have sz1 : W1.heap.size < (W1.alloc (.cells #[.int .i64 (l.1 : Int), .int .i64 l.2] 71)).heap.size := (Array.getElem?_eq_some_iff.1 b2).1
  have hBs : B < W1.heap.size := hM1.lt B (.inl rfl)
  have hgs : g < W1.heap.size := hM1.lt g (.inr (.inl rfl))
  have hgps : gp < W1.heap.size := hM1.lt gp (.inr (.inr rfl))
  have hcutO2 := hcutO.turn ((Turn.refl (fun _ => False) W1).alloc (.cells #[.int .i64 (l.1 : Int), .int .i64 l.2] 71)) (fun _ _ h => h)
  have T3' : Turn (fun j => j = B) (W1.alloc (.cells #[.int .i64 (l.1 : Int), .int .i64 l.2] 71)) ((W1.alloc (.cells #[.int .i64 (l.1 : Int), .int .i64 l.2] 71)).setCell ⟨B, 0, none⟩ (.slice (some ⟨g, off, none⟩) e cap)) := ((Turn.refl (fun j => j = B) _).setCell (p := ⟨B, 0, none⟩) (.inl rfl) _)
  have hle : (T.take e).length = e := by rw [List.length_take]; omega
  have hM3 : HMem ((W1.alloc (.cells #[.int .i64 (l.1 : Int), .int .i64 l.2] 71)).setCell ⟨B, 0, none⟩ (.slice (some ⟨g, off, none⟩) e cap)) B (.slice (some ⟨g, off, none⟩) e cap) (.slice (some ⟨gp, offp, none⟩) P.length capp) (T.take e) (P.set y.1 0) :=
    ⟨heap_setCell_obj hM2.obj _, by rw [hle]; exact hcutO2.turn T3' (fun j hj h => by simp [Value.ownBlock] at hj; omega), hM2.p.turn T3' (fun j hj h => by simp [Value.ownBlock] at hj; omega)⟩
  have T3 := T2.then (T3'.mono (G := HFoot B (.slice (some ⟨g, off, none⟩) T.length cap) (.slice (some ⟨gp, offp, none⟩) P.length capp)) (fun j hj => .inl hj))
  have b3 := T3'.same b2 (by omega)
  rw [World.setCell_alloc_past _ _ _ _ hBs] at hM3 T3 b3
  by_cases hke : k = e
  · subst hke
    obtain ⟨c1, c2⟩ := (unhide Hw).takeEnd (unhide Hk) he
    have C1 := hide c1
    have C2 := hide c2
    clear c1 c2 T3' hcutO2 hcutO b2 b3 hM2 hgs hgps hM1
    go_wp2_with fail
    go_end0
    exact ⟨rfl, _, _, _, hM3, rfl, unhide C1, by omega, unhide C2, T3⟩
  · have hke2 : k < e := by omega
    have hked : ((k : Int) == (e : Int)) = false := by rw [beq_eq_false_iff_ne]; omega
    obtain ⟨c1, c2, c3⟩ := (unhide Hw).takeMid (unhide Hk) he hke2 (unhide Hl)
    have C1 := hide c1
    have C2 := hide c2
    have C3 := hide c3
    clear c1 c2 c3 T3' hcutO2 hcutO b2 hM2 hM1
    go_wp2_with fail
    have nbF : ¬ HFoot B (.slice (some ⟨g, off, none⟩) e cap) (.slice (some ⟨gp, offp, none⟩) P.length capp) W1.heap.size := by
      rintro (hh | hh | hh)
      · omega
      · simp [Value.ownBlock] at hh; omega
      · simp [Value.ownBlock] at hh; omega
    clear f2 zB sz1 hcut T2 l0 l1 f0 hgs hgps hBs T1
    generalize ((W1.setCell ⟨B, 0, none⟩ (.slice (some ⟨g, off, none⟩) e cap)).alloc (.cells #[.int .i64 (l.1 : Int), .int .i64 l.2] 71)) = W3 at *
    generalize W1.heap.size = b at *
    have f3 : W3.cell? ⟨B, 0, none⟩ = some (.slice (some ⟨g, off, none⟩) e cap) := cell_obj hM3.obj 0
    have x0 : W3.cell? ⟨b, 0, none⟩ = some (.int .i64 (l.1 : Int)) := cell_obj b3 0
    have x1 : W3.cell? ⟨b, 1, none⟩ = some (.int .i64 l.2) := cell_obj b3 1
    have hln : l.1 < n := (unhide Hw).id_lt (unhide Hl)
    have ft : ∀ j, HFoot B (.slice (some ⟨g, off, none⟩) e cap) (.slice (some ⟨gp, offp, none⟩) P.length capp) j → HFoot B (.slice (some ⟨g, off, none⟩) T.length cap) (.slice (some ⟨gp, offp, none⟩) P.length capp) j := fun j hj => hj
    have fin : ∀ (w' : World) (T' : List It) (P' : List Int), HMem w' B (.slice (some ⟨g, off, none⟩) e cap) (.slice (some ⟨gp, offp, none⟩) P.length capp) T' P' → Filled n (T.take e) k l T' P' → Turn (HFoot B (.slice (some ⟨g, off, none⟩) e cap) (.slice (some ⟨gp, offp, none⟩) P.length capp)) W3 w' → ∃ tv' T' P', HMem w' B tv' (.slice (some ⟨gp, offp, none⟩) P.length capp) T' P' ∧ tv'.ownBlock = (Value.slice (some ⟨g, off, none⟩) T.length cap).ownBlock ∧ Well n T' P' ∧ T'.length + 1 = T.length ∧ (∀ u, u ∈ T' ↔ u ∈ T ∧ u.1 ≠ y.1) ∧ Turn (HFoot B (.slice (some ⟨g, off, none⟩) T.length cap) (.slice (some ⟨gp, offp, none⟩) P.length capp)) w w' := fun w' T' P' a1 a2 a3 =>
      ⟨_, T', P', a1, rfl, a2.1, by rw [a2.2.1, hle]; exact he, fun u => by rw [a2.2.2 u]; exact unhide C3 u, T3.then (a3.mono ft)⟩
    have Fin := hide fin
    clear fin ft
    by_cases h0 : 0 < k
    · obtain ⟨j, hj⟩ : ∃ j, (k - 1) / 2 = j := ⟨_, rfl⟩
      have hje : j < e := by omega
      obtain ⟨z, hz⟩ : ∃ z, (T.take e)[j]? = some z := ⟨_, List.getElem?_eq_getElem (show j < (T.take e).length by omega)⟩
      obtain ⟨z0, z1⟩ := hM3.tcell hz
      have hzn : z.1 < n := (unhide Hw).id_lt (i := j) (y := z) (by rw [List.getElem?_take, if_pos hje] at hz; exact hz)
      have haw : ∀ u : World, Calls Try.prog 64 #[.int .i64 (k : Int)] u fun e w' => e = .returned (.int .i64 (j : Int)) ∧ w' = u := fun u => by rw [← hj]; exact above_walk k u h0 (by omega)
      have hbw : ∀ u : World, Calls Try.prog 63 #[.agg #[.int .i64 (l.1 : Int), .int .i64 l.2], .agg #[.int .i64 (z.1 : Int), .int .i64 z.2]] u fun e w' => e = .returned (.bool (decide (bef l z))) ∧ Turn (fun _ => False) u w' := fun u => before_walk l z u (by omega) (by omega)
      have Hz := hide hz
      have Hj := hide hj
      clear hj hz
      by_cases hc : bef l z
      · rw [decide_eq_true hc] at hbw
        have hrise : ∀ u : World, HMem u B (.slice (some ⟨g, off, none⟩) e cap) (.slice (some ⟨gp, offp, none⟩) P.length capp) (T.take e) (P.set y.1 0) → Calls Try.prog 65 #[.pointer (some ⟨B, 0, none⟩), .int .i64 (k : Int), .agg #[.int .i64 (l.1 : Int), .int .i64 l.2]] u fun e' w' => e' = .returned (.tuple #[]) ∧ ∃ T' P', HMem w' B (.slice (some ⟨g, off, none⟩) e cap) (.slice (some ⟨gp, offp, none⟩) P.length capp) T' P' ∧ Filled n (T.take e) k l T' P' ∧ Turn (HFoot B (.slice (some ⟨g, off, none⟩) e cap) (.slice (some ⟨gp, offp, none⟩) P.length capp)) u w' := fun u hu => rise_walk u B _ _ _ _ hu n k l (unhide C1) (unhide C2 z h0 (by rw [unhide Hj]; exact unhide Hz) hc) hn (by omega)
        clear hc
        go_region_held3 (fun u => u.cell? ⟨B, 0, none⟩ = some (.slice (some ⟨g, off, none⟩) e cap) ∧ u.cell? ⟨b, 0, none⟩ = some (.int .i64 (l.1 : Int)) ∧ u.cell? ⟨b, 1, none⟩ = some (.int .i64 l.2) ∧ u.cell? ⟨g, off + j * 2, none⟩ = some (.int .i64 (z.1 : Int)) ∧ u.cell? ⟨g, off + j * 2 + 1, none⟩ = some (.int .i64 z.2)) (first | exact ⟨f3, x0, x1, z0, z1⟩ | exact ⟨f2, y0, y1, y2, y3⟩ | go_keep)
          (first
          | (go_at_call 64; refine (haw _).mono ?_; rintro e w1 ⟨rfl, rfl⟩)
          | (go_at_call 63; refine (hbw _).mono ?_; rintro e w2 ⟨rfl, t2⟩; have f2 := t2.cell f3 (fun h => h); have y0 := t2.cell x0 (fun h => h); have y1 := t2.cell x1 (fun h => h); have y2 := t2.cell z0 (fun h => h); have y3 := t2.cell z1 (fun h => h)))
        have hM4 := hM3.quiet (Turn.undrew t2)
        have T4 := (Turn.undrew t2).mono (G := HFoot B (.slice (some ⟨g, off, none⟩) e cap) (.slice (some ⟨gp, offp, none⟩) P.length capp)) (fun _ h => h.elim)
        clear f3 x0 x1 z0 z1 t2 hM3 hbw y2 y3 f2
        go_wp2_with (go_at_call 65; refine (hrise _ hM4).mono ?_; rintro e' w4 ⟨rfl, T', P', hM5, hF, t4⟩)
        go_end0
        exact ⟨rfl, unhide Fin _ _ _ hM5 hF (T4.then t4)⟩
      · rw [decide_eq_false hc] at hbw
        have hsink : ∀ u : World, HMem u B (.slice (some ⟨g, off, none⟩) e cap) (.slice (some ⟨gp, offp, none⟩) P.length capp) (T.take e) (P.set y.1 0) → Calls Try.prog 66 #[.pointer (some ⟨B, 0, none⟩), .int .i64 (k : Int), .agg #[.int .i64 (l.1 : Int), .int .i64 l.2]] u fun e' w' => e' = .returned (.tuple #[]) ∧ ∃ T' P', HMem w' B (.slice (some ⟨g, off, none⟩) e cap) (.slice (some ⟨gp, offp, none⟩) P.length capp) T' P' ∧ Filled n (T.take e) k l T' P' ∧ Turn (HFoot B (.slice (some ⟨g, off, none⟩) e cap) (.slice (some ⟨gp, offp, none⟩) P.length capp)) u w' := fun u hu => sink_walk u B _ _ _ _ hu n k l (unhide C1) (fun z' h0' hz' => by rw [unhide Hj, unhide Hz] at hz'; cases hz'; exact hc) hn (by omega)
        clear hc
        go_region_held3 (fun u => u.cell? ⟨B, 0, none⟩ = some (.slice (some ⟨g, off, none⟩) e cap) ∧ u.cell? ⟨b, 0, none⟩ = some (.int .i64 (l.1 : Int)) ∧ u.cell? ⟨b, 1, none⟩ = some (.int .i64 l.2) ∧ u.cell? ⟨g, off + j * 2, none⟩ = some (.int .i64 (z.1 : Int)) ∧ u.cell? ⟨g, off + j * 2 + 1, none⟩ = some (.int .i64 z.2)) (first | exact ⟨f3, x0, x1, z0, z1⟩ | exact ⟨f2, y0, y1, y2, y3⟩ | go_keep)
          (first
          | (go_at_call 64; refine (haw _).mono ?_; rintro e w1 ⟨rfl, rfl⟩)
          | (go_at_call 63; refine (hbw _).mono ?_; rintro e w2 ⟨rfl, t2⟩; have f2 := t2.cell f3 (fun h => h); have y0 := t2.cell x0 (fun h => h); have y1 := t2.cell x1 (fun h => h); have y2 := t2.cell z0 (fun h => h); have y3 := t2.cell z1 (fun h => h)))
        have hM4 := hM3.quiet (Turn.undrew t2)
        have T4 := (Turn.undrew t2).mono (G := HFoot B (.slice (some ⟨g, off, none⟩) e cap) (.slice (some ⟨gp, offp, none⟩) P.length capp)) (fun _ h => h.elim)
        clear f3 x0 x1 z0 z1 t2 hM3 hbw y2 y3 f2
        go_wp2_with (go_at_call 66; refine (hsink _ hM4).mono ?_; rintro e' w4 ⟨rfl, T', P', hM5, hF, t4⟩)
        go_end0
        exact ⟨rfl, unhide Fin _ _ _ hM5 hF (T4.then t4)⟩
    · obtain rfl : k = 0 := by omega
      have hsink : ∀ u : World, HMem u B (.slice (some ⟨g, off, none⟩) e cap) (.slice (some ⟨gp, offp, none⟩) P.length capp) (T.take e) (P.set y.1 0) → Calls Try.prog 66 #[.pointer (some ⟨B, 0, none⟩), .int .i64 ((0 : Nat) : Int), .agg #[.int .i64 (l.1 : Int), .int .i64 l.2]] u fun e' w' => e' = .returned (.tuple #[]) ∧ ∃ T' P', HMem w' B (.slice (some ⟨g, off, none⟩) e cap) (.slice (some ⟨gp, offp, none⟩) P.length capp) T' P' ∧ Filled n (T.take e) 0 l T' P' ∧ Turn (HFoot B (.slice (some ⟨g, off, none⟩) e cap) (.slice (some ⟨gp, offp, none⟩) P.length capp)) u w' := fun u hu => sink_walk u B _ _ _ _ hu n 0 l (unhide C1) (fun z' h0' hz' => by omega) hn (by omega)
      go_region
      have x0 : W3.drew.cell? ⟨b, 0, none⟩ = some (.int .i64 (l.1 : Int)) := x0
      have x1 : W3.drew.cell? ⟨b, 1, none⟩ = some (.int .i64 l.2) := x1
      go_wp2_with (go_at_call 66; refine (hsink _ (hM3.quiet ((Turn.refl _ _).drew))).mono ?_; rintro e' w4 ⟨rfl, T', P', hM5, hF, t4⟩)
      go_end0
      exact ⟨rfl, unhide Fin _ _ _ hM5 hF (Turn.undrew t4)⟩
end Go.Proofs.Ytombpfpfeebnpaa
