/- All segments made safe. A segment more, a record more. A record's frame into a new segment. A record's frame behind those that are there. Append and Sync of a journal. slices.Delete at segments: the first so many. -/
import Derived.Test.YthikiahhochjmaaGreatDoorPack6
import Derived.Deep.RegionWith
import Derived.Deep.RegionHeld3
namespace Go.Proofs.YthikiahhochjmaaGreatDoor
open Go.RowKit Go.Maps
set_option linter.unusedVariables false
set_option linter.unusedSimpArgs false

/-- segments that are read -/
def SegR (w : World) (G : Nat → Prop) (x : Value) (E : List Seg) : Prop :=
  ∃ a c, x = .slice a E.length c ∧ ∀ (i : Nat) (e : Seg), E[i]? = some e → ∃ g off, a = some ⟨g, off, none⟩ ∧ G g ∧ w.cell? ⟨g, off + i * 2, none⟩ = some (.int .u64 (e.first : Int)) ∧ w.cell? ⟨g, off + i * 2 + 1, none⟩ = some e.v
theorem SegR.turn {F G : Nat → Prop} {w w' : World} {x : Value} {E : List Seg} (h : SegR w G x E) (T : Turn F w w') (hF : ∀ j, G j → ¬ F j) : SegR w' G x E := by
  obtain ⟨a, c, hx, h⟩ := h
  refine ⟨a, c, hx, fun i e he => ?_⟩
  obtain ⟨g, off, h1, h2, h3, h4⟩ := h i e he
  exact ⟨g, off, h1, h2, T.cell h3 (hF g h2), T.cell h4 (hF g h2)⟩
theorem SegM.r {w : World} {G : Nat → Prop} {sv : Value} {E : List Seg} (h : SegM w G sv E) : SegR w G sv E := by
  obtain ⟨a, c, rfl⟩ := h.slice
  refine ⟨a, c, rfl, fun i e he => ?_⟩
  obtain ⟨g, off, cap, hv, _, hg, h1, h2, _⟩ := h.at i e he
  simp only [Value.slice.injEq, true_and] at hv
  exact ⟨g, off, hv.1, hg, h1, h2⟩
theorem info_seg : (Tryz.prog.info? 82).map (fun i => (i.zero, i.size, i.bytes)) = some (some (.agg #[.int .u64 0, .slice none 0 0]), 2, 32) := by kernel_rfl

theorem segs_from {w : World} {G : Nat → Prop} {sv : Value} {E : List Seg} (h : SegM w G sv E) (k : Nat) (hk : k ≤ E.length) :
    ∃ x, (∀ u : World, (Instr.slice 77 sv (some (.int .i64 (k : Int))) none none).run Tryz.prog u = .ok x u) ∧ SegR w G x (E.drop k) := by
  obtain ⟨i0, hi, hz0, hs, hz2⟩ := info_parts info_seg
  have ht := Tryz.underlying77
  have hr := h.r
  obtain ⟨a, c, rfl, hat⟩ := hr
  have hdl : (E.drop k).length = E.length - k := List.length_drop
  have hdr : ∀ (i : Nat) (e : Seg), (E.drop k)[i]? = some e → E[k + i]? = some e := fun i e he => by rwa [List.getElem?_drop] at he
  rcases h.own.2 with ⟨hv, h0⟩ | ⟨g, off, cap, cur, hv, hg, hnc, hcm, hfit, htk⟩
  · have hE : E = [] := List.eq_nil_of_length_eq_zero h0
    subst hE
    obtain rfl : k = 0 := by simpa using hk
    simp at hv
    obtain ⟨rfl, rfl⟩ := hv
    refine ⟨.slice none 0 0, fun u => ?_, none, 0, rfl, fun i e he => by simp at he⟩
    simp [Instr.slice, run_underlying ht, Instr.sliceBounds, Instr.sliceBound, asIntOf, sizeOf, typeInfo, hi, Result.andThen]
  · simp only [Value.slice.injEq, true_and] at hv
    obtain ⟨rfl, rfl⟩ := hv
    have hle : (k : Int) ≤ (E.length : Int) := by omega
    by_cases hc : c = k
    · subst hc
      have hE : E.drop c = [] := List.eq_nil_of_length_eq_zero (by omega)
      refine ⟨.slice (some ⟨g, off, none⟩) 0 0, fun u => ?_, _, 0, by rw [hE]; rfl, fun i e he => by rw [hE] at he; simp at he⟩
      have : E.length = c := by omega
      simp [Instr.slice, run_underlying ht, Instr.sliceBounds, Instr.sliceBound, asIntOf, sizeOf, typeInfo, hi, Result.andThen, this]
    · refine ⟨.slice (some ⟨g, off + k * 2, none⟩) (E.length - k) (c - k), fun u => ?_, _, _, by rw [hdl], fun i e he => ?_⟩
      · simp [Instr.slice, run_underlying ht, Instr.sliceBounds, Instr.sliceBound, asIntOf, sizeOf, typeInfo, hi, Result.andThen, hc, hs, Addr.add_lit, hle, hk]
      · obtain ⟨g', off', h1, h2, h3, h4⟩ := hat (k + i) e (hdr i e he)
        simp at h1
        obtain ⟨rfl, rfl⟩ := h1
        refine ⟨g, off + k * 2, rfl, h2, ?_, ?_⟩
        · rw [show off + k * 2 + i * 2 = off + (k + i) * 2 by omega]; exact h3
        · rw [show off + k * 2 + i * 2 + 1 = off + (k + i) * 2 + 1 by omega]; exact h4
theorem segs_to {w : World} {G : Nat → Prop} {sv : Value} {E : List Seg} (h : SegM w G sv E) (k : Nat) (hk : k ≤ E.length) :
    ∃ x, (∀ u : World, (Instr.slice 77 sv none (some (.int .i64 (k : Int))) none).run Tryz.prog u = .ok x u) ∧ SegR w G x (E.take k) := by
  obtain ⟨i0, hi, hz0, hs, hz2⟩ := info_parts info_seg
  have ht := Tryz.underlying77
  have hr := h.r
  obtain ⟨a, c, rfl, hat⟩ := hr
  have hdl : (E.take k).length = k := by rw [List.length_take]; omega
  have hdr : ∀ (i : Nat) (e : Seg), (E.take k)[i]? = some e → E[i]? = some e := fun i e he => by
    rw [List.getElem?_take] at he; split at he
    · exact he
    · cases he
  rcases h.own.2 with ⟨hv, h0⟩ | ⟨g, off, cap, cur, hv, hg, hnc, hcm, hfit, htk⟩
  · have hE : E = [] := List.eq_nil_of_length_eq_zero h0
    subst hE
    obtain rfl : k = 0 := by simpa using hk
    simp at hv
    obtain ⟨rfl, rfl⟩ := hv
    refine ⟨.slice none 0 0, fun u => ?_, none, 0, rfl, fun i e he => by simp at he⟩
    simp [Instr.slice, run_underlying ht, Instr.sliceBounds, Instr.sliceBound, asIntOf, sizeOf, typeInfo, hi, Result.andThen]
  · simp only [Value.slice.injEq, true_and] at hv
    obtain ⟨rfl, rfl⟩ := hv
    have hle : k ≤ c := by omega
    refine ⟨.slice (some ⟨g, off, none⟩) k c, fun u => ?_, _, _, by rw [hdl], fun i e he => ?_⟩
    · by_cases hc0 : c = 0
      · obtain rfl : k = 0 := by omega
        subst hc0
        simp [Instr.slice, run_underlying ht, Instr.sliceBounds, Instr.sliceBound, asIntOf, sizeOf, typeInfo, hi, Result.andThen, Addr.add]
      · simp [Instr.slice, run_underlying ht, Instr.sliceBounds, Instr.sliceBound, asIntOf, sizeOf, typeInfo, hi, Result.andThen, Addr.add, hle, hc0]
    · obtain ⟨g', off', h1, h2, h3, h4⟩ := hat i e (hdr i e he)
      exact ⟨g', off', h1, h2, h3, h4⟩

theorem settleF_step {s : Sg} {r : List Sg} {S : Dk} : settleF (s :: r) S = if syncC S (nameS s.first) ≠ 0 then (syncC S (nameS s.first), syncS S (nameS s.first)) else settleF r (syncS S (nameS s.first)) := rfl
theorem drop_sg {E : List Seg} {k : Nat} {e : Seg} (h : E[k]? = some e) : (E.map Seg.sg).drop k = e.sg :: (E.map Seg.sg).drop (k + 1) := by
  have hk : k < (E.map Seg.sg).length := by simpa using (List.getElem?_eq_some_iff.1 h).1
  rw [List.drop_eq_getElem_cons hk]
  congr 1
  have := (List.getElem?_eq_some_iff.1 h).2
  simp [this]

set_option maxRecDepth 100000 in
set_option maxHeartbeats 4000000 in
theorem settle_walk (w : World) (H : Nat → Prop) (J D : Nat) (X : Jn) (S : Dk) (h : JAt w H J D X S) (fit : Fit X) :
    Calls Tryz.prog 53 #[.pointer (some ⟨J, 0, none⟩)] w fun e w' => e = .returned (.int .i64 (settleJ X S).1) ∧ Turn H w w' ∧ JAt w' (NF w H) J D (settleJ X S).2.1 (settleJ X S).2.2 := by
  obtain ⟨F, G, sv, E, d, m, hn, hF, hG⟩ := h
  have c0 : w.cell? ⟨J, 0, none⟩ = some (.pointer (some ⟨D, 0, none⟩)) := cell_obj m.obj 0
  have c2 : w.cell? ⟨J, 2, none⟩ = some sv := cell_obj m.obj 2
  have c3 : w.cell? ⟨J, 3, none⟩ = some (.int .i64 (X.settled : Int)) := cell_obj m.obj 3
  have hXl : X.segs.length = E.length := by rw [m.segs, List.length_map]
  have hset : X.settled ≤ E.length := by rw [← hXl]; exact fit.settled
  obtain ⟨x, hx, hr⟩ := segs_from m.seg X.settled hset
  have hfirst : ∀ e ∈ E, e.first < 100 := fun e he => (fit.first e.sg (by rw [m.segs]; exact List.mem_map.2 ⟨e, he, rfl⟩)).1
  obtain ⟨xa, xc, rfl, hat⟩ := hr
  obtain ⟨sa, sc, hsv⟩ := m.seg.slice
  have hel : E.length ≤ 1000000 := by rw [← hXl]; exact fit.segs
  have hJ := m.home
  have c0n : ∀ n, (w.drewN n).cell? ⟨J, 0, none⟩ = some (.pointer (some ⟨D, 0, none⟩)) := fun n => c0
  have d' : ∀ n, DAt (w.drewN n) D F S := fun n => d.turn ((Turn.refl (fun _ => False) w).drewN n) (fun _ _ _ h => h)
  have T0 : ∀ n, Turn F w (w.drewN n) := fun n => (Turn.refl F w).drewN n
  have hsz0 : ∀ n, (w.drewN n).heap.size = w.heap.size := fun n => by simp
  generalize hK : X.settled = K at *
  subst hsv
  go_enter Tryz.func53, Tryz.ntmps53
  go_wp2_with fail
  go_quiet (fail)
  have d' := d' nq
  have T0 := T0 nq
  have hsz0 := hsz0 nq
  generalize w.drewN nq = w0 at *
  go_wp2_with fail
  go_loopw [16] (fun i wr => ∃ (k : Nat) (Sk : Dk) (F' : Nat → Prop), i = .int .i64 (k : Int) ∧ k ≤ E.length - K ∧ DAt wr D F' Sk ∧ (∀ j, F' j → (F j ∨ w.heap.size ≤ j) ∧ j < wr.heap.size) ∧ Turn F w wr ∧ Hid (settleF (X.segs.drop K) S = settleF ((X.segs.drop K).drop k) Sk)) (fun i _ => (E.length - K) - (intOf i).toNat)
  case atStart => exact ⟨0, S, F, rfl, Nat.zero_le _, d', (fun j hj => ⟨.inl hj, by rw [hsz0]; exact (hF j hj).2⟩), T0, hide (by simp)⟩
  case round =>
    obtain ⟨k, Sk, F', rfl, hk, dk, hF', Tk, hS⟩ := hrel
    by_cases hlt : k < E.length - K
    · obtain ⟨e, he⟩ : ∃ e, (E.drop K)[k]? = some e := ⟨(E.drop K)[k]'(by rw [List.length_drop]; exact hlt), by simp⟩
      obtain ⟨g, off, hxa, hgG, q0, q1⟩ := hat k e he
      have heE : e ∈ E := List.mem_of_mem_drop (List.mem_of_getElem? he)
      have hf := hfirst e heE
      have hst : (X.segs.drop K).drop k = e.sg :: (X.segs.drop K).drop (k + 1) := by
        rw [m.segs, ← List.map_drop]; exact drop_sg he
      have p0 := Tk.cell q0 (fun hf => hn g hf hgG)
      have p1 := Tk.cell q1 (fun hf => hn g hf hgG)
      have pJ := Tk.cell c0 (fun hf => hn J hf hJ)
      have e1 : (Seg.sg e).first = e.first := rfl
      rw [hst, settleF_step, e1] at hS
      subst hxa
      obtain ⟨ra, rc, hv⟩ := (m.seg.recs e heE).slice
      rw [hv] at p1
      have sw := Tk.size
      have TA : Turn (fun _ => False) wr (wr.alloc (.cells #[.int .u64 (e.first : Int), .slice ra e.recs.length rc] 82)) := (Turn.refl _ wr).alloc _
      have kA := heap_alloc_new wr (.cells #[.int .u64 (e.first : Int), .slice ra e.recs.length rc] 82)
      have hdl : (E.drop K).length = E.length - K := List.length_drop
      clear hst he hdl heE q0 q1 hv
      generalize e.first = f at *
      generalize e.recs.length = rl at *
      go_wp2_with fail
      generalize wr.alloc (.cells #[.int .u64 (f : Int), .slice ra rl rc] 82) = W at *
      have a0 : W.drew.cell? ⟨wr.heap.size, 0, none⟩ = some (.int .u64 (f : Int)) := cell_obj kA 0
      have a1 : W.drew.cell? ⟨wr.heap.size, 1, none⟩ = some (.slice ra rl rc) := cell_obj kA 1
      have aJ : W.drew.cell? ⟨J, 0, none⟩ = some (.pointer (some ⟨D, 0, none⟩)) := TA.cell pJ id
      have dW : DAt W.drew D F' Sk := dk.turn TA.drew (fun _ _ _ h => h)
      have lA := TA.size
      have hn1 := name_walk' f hf (.slice ra rl rc) W.drew
      have GJ : ¬ F' J := fun q => by
        have q1 := (hF' J q).1
        have q2 := (hG J hJ).2
        rcases q1 with q1 | q1
        · exact hn J q1 hJ
        · omega
      have GA : ¬ F' wr.heap.size := fun q => by have := (hF' _ q).2; omega
      clear pJ p0 p1 kA dk
      go_region_held3 (fun u => u.cell? ⟨J, 0, none⟩ = some (.pointer (some ⟨D, 0, none⟩)) ∧ u.cell? ⟨wr.heap.size, 0, none⟩ = some (.int .u64 (f : Int)) ∧ u.cell? ⟨wr.heap.size, 1, none⟩ = some (.slice ra rl rc)) (first | exact ⟨aJ, a0, a1⟩ | exact ⟨bJ, b0, b1⟩ | exact ⟨gJ, g0, g1⟩ | go_keep)
        (first
        | (go_at_call 60; refine hn1.mono ?_; rintro y w1 ⟨rfl, t1⟩; have bJ := t1.cell aJ id; have b0 := t1.cell a0 id; have b1 := t1.cell a1 id; have d1 := dW.turn t1 (fun _ _ _ h => h); have s1 : W.heap.size ≤ w1.heap.size := t1.size)
        | (go_at_call 69; refine (Sync_walk w1 D F' Sk (nameB f) (nameB_len f) d1).mono ?_; rintro y w2 ⟨rfl, t2, d2⟩; have gJ := t2.cell bJ (fun hf => GJ hf); have g0 := t2.cell b0 (fun hf => GA hf); have g1 := t2.cell b1 (fun hf => GA hf)))
      have hF2 : ∀ j, NF w1 F' j ∧ j < w2.heap.size → (F j ∨ w.heap.size ≤ j) ∧ j < w2.heap.size := by
        rintro j ⟨hj | hj, hl⟩
        · exact ⟨(hF' j hj).1, hl⟩
        · exact ⟨.inr (by omega), hl⟩
      have T2 : Turn F w w2 := (Tk.then ((TA.drew.then t1).mono (fun _ h => h.elim))).trans t2 (fun j hj => (hF' j hj).1)
      have d3 : DAt w2 D (fun j => NF w1 F' j ∧ j < w2.heap.size) (syncS Sk (nameB f).data.toList) := d2.mono (fun j hj hl => ⟨hj, hl⟩)
      rw [nameB_list] at *
      clear d2 d1 dW t2 t1 hn1 TA bJ b0 b1 gJ g0 g1 a0 a1 aJ Tk hF' GJ GA
      by_cases hc : syncC Sk (nameS f) = 0
      · rw [if_neg (by rw [hc]; simp)] at hS
        rw [hc]
        clear hc
        generalize syncS Sk (nameS f) = S2 at *
        go_wp2
        exact ⟨⟨k + 1, S2, _, by go_num, by omega, d3, hF2, T2, hS⟩, by simp [intOf]; omega⟩
      · rw [if_pos hc] at hS
        have hb : (syncC Sk (nameS f) != 0) = true := by simpa using hc
        have ej : settleJ X S = (syncC Sk (nameS f), X, syncS Sk (nameS f)) := by
          unfold settleJ
          rw [hK, unhide hS, if_neg hc]
        have Hej := hide ej
        have fin : JAt w2 (NF w H) J D X (syncS Sk (nameS f)) := disk_done T2 (d3.mono (fun j hj _ => (hF2 j hj).1)) m hn hF hG
        clear hc ej hS
        generalize syncC Sk (nameS f) = y at *
        generalize syncS Sk (nameS f) = S2 at *
        go_wp2
        go_ret
        rw [unhide Hej]
        exact ⟨rfl, T2.mono (fun j hj => (hF j hj).1), fin⟩
    · have hend : (X.segs.drop K).drop k = [] := List.drop_of_length_le (by rw [List.length_drop, hXl]; omega)
      rw [hend] at hS
      have ej : settleJ X S = (0, { X with settled := X.segs.length - 1 }, Sk) := by
        unfold settleJ
        rw [hK, unhide hS]; rfl
      have Hej := hide ej
      have m1 := m.turn Tk (fun j hg hf => hn j hf hg)
      have hmx : max ((E.length : Int) - 1) 0 = ((E.length - 1 : Nat) : Int) := by omega
      obtain ⟨m2, t2⟩ := m1.re 3 (.int .i64 ((E.length - 1 : Nat) : Int)) { X with settled := X.segs.length - 1 } rfl (by rw [hXl]; rfl)
      have q2 : wr.cell? ⟨J, 2, none⟩ = some (.slice sa E.length sc) := cell_obj m1.obj 2
      have f3 : wr.frozen? ⟨J, 3, none⟩ = false := frozen_obj m1.obj 3
      have q3 : wr.cell? ⟨J, 3, none⟩ = some (.int .i64 (X.settled : Int)) := cell_obj m1.obj 3
      have fin : JAt (wr.setCell ⟨J, 3, none⟩ (.int .i64 ((E.length - 1 : Nat) : Int))) (NF w H) J D { X with settled := X.segs.length - 1 } Sk := by
        have sw := Tk.size
        have s2 := t2.size
        refine ⟨F', G, _, _, dk.turn t2 (fun j hj _ hjJ => ?_), m2, fun j hj hg => ?_, fun j hj => ?_, fun j hj => ⟨.inl (hG j hj).1, by have := (hG j hj).2; omega⟩⟩
        · have q1 := (hF' j hj).1
          have q2 := (hG J hJ).2
          rcases q1 with q1 | q1
          · exact hn j q1 (hjJ ▸ hJ)
          · omega
        · have q1 := (hF' j hj).1
          have q2 := (hG j hg).2
          rcases q1 with q1 | q1
          · exact hn j q1 hg
          · omega
        · refine ⟨?_, by have := (hF' j hj).2; omega⟩
          rcases (hF' j hj).1 with q1 | q1
          · exact .inl (hF j q1).1
          · exact .inr q1
      have T3 : Turn H w (wr.setCell ⟨J, 3, none⟩ (.int .i64 ((E.length - 1 : Nat) : Int))) := (Tk.mono (fun j hj => (hF j hj).1)).then (t2.mono (fun j hj => by rw [hj]; exact (hG J hJ).1))
      have HT := hide T3
      have Hf := hide fin
      clear fin T3 m1 m2 t2 ej hS hend hat hx m d dk
      go_wp2
      go_ret
      rw [unhide Hej]
      exact ⟨rfl, unhide HT, unhide Hf⟩
end Go.Proofs.YthikiahhochjmaaGreatDoor


namespace Go.Proofs.YthikiahhochjmaaGreatDoor
open Go.RowKit Go.Maps
set_option linter.unusedVariables false
set_option linter.unusedSimpArgs false

/-- append, of which the run is known, in a region that draws -/
theorem step_append_run {P : Program} {ops : Array Oper} {o : Oper} {a : Act} {w : World} {K : Act → World → Prop} {Q : Exit → Act → World → Prop} {E : Prop}
    (hg : o.guard = none) (s x : Operand) (t : TypeId) (hop : o.op = Op.call { callee := Callee.builtin Builtin.append, args := #[s, x], argTypes := #[t, t] }) (v xv v' : Value) (w' : World) (hs : a.eval s = v) (hx : a.eval x = xv)
    (hrun : (Builtin.append_ #[t, t] o.type #[v, xv]).run P w = .ok v' w') (hK : K (a.put o.dst v') w') :
    if Region.wanted o (yielded ops a.tmps) = true then Oper.wp P o a w K Q else E := by
  have hw : Region.wanted o (yielded ops a.tmps) = true := by simp [Region.wanted, hg]
  rw [if_pos hw]
  unfold Oper.wp
  simp [execOp, hop, resolve, invoke, builtin, hs, hx, hrun, Result.andThen]
  exact hK

/-- a block of one kind is none of another one's -/
theorem OwnSl.other {w : World} {e e' : TypeId} {s s' n n' : Nat} {v v' : Value} {xs xs' : List Value} (h : OwnSl w e s v n xs) (h' : OwnSl w e' s' v' n' xs') (he : e ≠ e') : ∀ k, v.ownBlock = some k → ¬ v'.ownBlock = some k := by
  intro k hk hk'
  obtain ⟨c1, h1⟩ := h.lt k hk
  obtain ⟨c2, h2⟩ := h'.lt k hk'
  rw [h1] at h2
  cases h2
  exact he rfl
theorem Recs.blocks {F G : Nat → Prop} {w w' : World} {v : Value} {zss : List (List Int)} (h : Recs w G v zss) (T : Turn F w w') (hv : ∀ k, v.ownBlock = some k → ¬ F k)
    (hu : ∀ (u : Value) (n : Nat) (xs : List Value), OwnSl w 5 1 u n xs → ∀ k, u.ownBlock = some k → G k → ¬ F k) : Recs w' G v zss := by
  obtain ⟨vs, h1, h2, h3, h4⟩ := h
  exact ⟨vs, h1.turn T hv, h2, h3, fun i u z hu' hz => ⟨(h4 i u z hu' hz).1.turn T (fun k hk => hu u _ _ (h4 i u z hu' hz).1 k hk ((h4 i u z hu' hz).2 k hk)), (h4 i u z hu' hz).2⟩⟩

/-- what has been made since -/
def Plus (G : Nat → Prop) (w : World) (x : Value) : Nat → Prop := fun j => G j ∨ x.ownBlock = some j ∨ w.heap.size ≤ j
theorem recs_push {w : World} {G : Nat → Prop} {v rv : Value} {zss : List (List Int)} {z : List Int} (h : Recs w G v zss) (hx : OwnSl w 5 1 rv z.length (z.map (Value.int .u8))) (B : Nat)
    (hB : w.heap[B]? = some (.cells #[rv] 33 (0, 0))) (hm : zss.length ≤ 1000000) :
    ∃ v' w2, (Builtin.append_ #[29, 29] 29 #[v, .slice (some ⟨B, 0, none⟩) 1 1]).run Tryz.prog w = .ok v' w2 ∧ Recs w2 (Plus G w rv) v' (zss ++ [z]) ∧ Turn (fun j => v.ownBlock = some j) w w2 ∧ (∀ j, v'.ownBlock = some j → v.ownBlock = some j ∨ w.heap.size ≤ j) := by
  obtain ⟨i0, hi, hz0, hz1, hz2⟩ := info_parts info_sl
  obtain ⟨vs, h1, h2, h3, h4⟩ := h
  have hs : Src 1 w (.slice (some ⟨B, 0, none⟩) 1 1) 1 [rv] := ⟨rfl, .inr ⟨_, _, rfl, by omega, fun j u hu => by
    have hj : j = 0 := by
      have := (List.getElem?_eq_some_iff.1 hu).1
      simp at this; exact this
    subst hj
    simp at hu; subst hu
    rw [Addr.add_lit]
    exact cell_obj hB 0⟩⟩
  obtain ⟨ax, cx, hxv⟩ := hx.form
  obtain ⟨v', w2, r1, r2, r3, r4⟩ := append_src (P := Tryz.prog) (ty := 29) Tryz.underlying29 hi hz0 hz1 hz2 rfl (by omega) h1 hs (fun u hu => by simp at hu; subst hu; rw [hxv]; rfl) (by unfold maxLen; omega) (by omega)
  have keep : ∀ (u : Value) (y : List Int), OwnSl w 5 1 u y.length (y.map (Value.int .u8)) → OwnSl w2 5 1 u y.length (y.map (Value.int .u8)) := fun u y hu => hu.turn r3 (hu.other h1 (by decide))
  refine ⟨v', w2, r1, ⟨vs ++ [rv], by simpa using r2, fun j hj => ?_, by simp [h3], fun i u y hu hy => ?_⟩, r3, r4⟩
  · rcases r4 j hj with h | h
    · exact .inl (h2 j h)
    · exact .inr (.inr h)
  · by_cases hlt : i < vs.length
    · rw [List.getElem?_append_left hlt] at hu
      rw [List.getElem?_append_left (by omega)] at hy
      have := h4 i u y hu hy
      exact ⟨keep u y this.1, fun j hj => .inl (this.2 j hj)⟩
    · rw [List.getElem?_append_right (by omega)] at hu
      rw [List.getElem?_append_right (by omega)] at hy
      have hi0 : i - vs.length = 0 := by
        rcases Nat.eq_zero_or_pos (i - vs.length) with h | h
        · exact h
        · rw [List.getElem?_eq_none (by simp; omega)] at hu; cases hu
      rw [hi0] at hu
      rw [show i - zss.length = 0 by omega] at hy
      simp at hu hy
      subst hu hy
      exact ⟨keep _ _ hx, fun j hj => .inr (.inl hj)⟩

/-- a segment behind those that are there -/
theorem segs_push {w : World} {G G2 : Nat → Prop} {sv : Value} {E : List Seg} {e : Seg} (h : SegM w G sv E) (hx : Recs w G2 e.v e.recs) (hap : ∀ x ∈ E, ∀ j, x.v.ownBlock = some j → e.v.ownBlock ≠ some j) (B : Nat)
    (hB : w.heap[B]? = some (.cells #[.int .u64 (e.first : Int), e.v] 82 (0, 0))) (hm : E.length ≤ 1000000) :
    ∃ sv' w2, (Builtin.append_ #[77, 77] 77 #[sv, .slice (some ⟨B, 0, none⟩) 1 1]).run Tryz.prog w = .ok sv' w2 ∧ SegM w2 (fun j => G j ∨ G2 j ∨ w.heap.size ≤ j) sv' (E ++ [e]) ∧ Turn (fun j => sv.ownBlock = some j) w w2 := by
  obtain ⟨i0, hi, hz0, hz1, hz2⟩ := info_parts info_seg
  have hs : Src 2 w (.slice (some ⟨B, 0, none⟩) 1 1) 1 e.cells := ⟨rfl, .inr ⟨_, _, rfl, by omega, fun j u hu => by
    rw [Addr.add_lit, Nat.zero_add]
    have := cell_obj hB j
    rw [this]
    have hj := (List.getElem?_eq_some_iff.1 hu).1
    simp only [Seg.cells, List.length_cons, List.length_nil] at hj
    match j, hj with
    | 0, _ => simpa [Seg.cells] using hu
    | 1, _ => simpa [Seg.cells] using hu⟩⟩
  obtain ⟨ra, rc, hv⟩ := hx.slice
  obtain ⟨sv', w2, r1, r2, r3, r4⟩ := append_src (P := Tryz.prog) (ty := 77) Tryz.underlying77 hi hz0 hz1 hz2 rfl (by omega) h.own hs (fun u hu => by
    simp only [Seg.cells, List.mem_cons, List.not_mem_nil, or_false] at hu
    rcases hu with rfl | rfl
    · rfl
    · rw [hv]; rfl) (by unfold maxLen; omega) (by omega)
  have hu : ∀ (u : Value) (n : Nat) (xs : List Value), OwnSl w 5 1 u n xs → ∀ k, u.ownBlock = some k → ¬ sv.ownBlock = some k := fun u n xs ho => ho.other h.own (by decide)
  have keep : ∀ {G' : Nat → Prop} {v : Value} {zss : List (List Int)}, Recs w G' v zss → Recs w2 G' v zss := fun hr => by
    have hr' := hr
    obtain ⟨vs, h1, _⟩ := hr'
    exact hr.blocks r3 (h1.other h.own (by decide)) (fun u n xs ho k hk _ => hu u n xs ho k hk)
  refine ⟨sv', w2, r1, ⟨?_, fun j hj => ?_, fun x hx' => ?_, ?_⟩, r3⟩
  · rw [List.length_append, cellsS_append]
    have : cellsS [e] = e.cells := by simp [cellsS]
    rw [this]
    exact r2
  · rcases r4 j hj with h' | h'
    · exact .inl (h.blk j h')
    · exact .inr (.inr h')
  · rcases List.mem_append.1 hx' with hx' | hx'
    · exact (keep (h.recs x hx')).mono (fun j hj _ => .inl hj)
    · simp at hx'; subst hx'
      exact (keep hx).mono (fun j hj _ => .inr (.inl hj))
  · rw [List.pairwise_append]
    exact ⟨h.apart, List.pairwise_singleton _ _, fun x hx' y hy => by simp at hy; subst hy; exact hap x hx'⟩

/-- a journal's segments, others in their place -/
theorem jmem_segs {w : World} {G : Nat → Prop} {J D : Nat} {sv sv' : Value} {E' : List Seg} {most settled : Nat} {down : Bool} (X' : Jn)
    (ho : w.heap[J]? = some (.cells #[.pointer (some ⟨D, 0, none⟩), .int .i64 (most : Int), sv, .int .i64 (settled : Int), .bool down] 79 (0, 0))) (hs : SegM w G sv' E') (hJ : G J)
    (hX : X' = ⟨most, E'.map Seg.sg, settled, down⟩) :
    JMem (w.setCell ⟨J, 2, none⟩ sv') G J D sv' E' X' ∧ Turn (fun b => b = J) w (w.setCell ⟨J, 2, none⟩ sv') := by
  have t : Turn (fun b => b = J) w (w.setCell ⟨J, 2, none⟩ sv') := (Turn.refl (fun b => b = J) w).setCell (p := ⟨J, 2, none⟩) (.inl rfl) sv'
  have ho' := heap_setCell_obj (j := 2) ho sv'
  have hneB : ∀ {e : TypeId} {s n : Nat} {v : Value} {xs : List Value}, OwnSl w e s v n xs → e ≠ 79 → ∀ k, v.ownBlock = some k → ¬ k = J := fun h he k hk => h.neObj ho he k hk
  subst hX
  refine ⟨⟨ho', hJ, ⟨hs.own.turn t (hneB hs.own (by decide)), hs.blk, fun e he => ?_, hs.apart⟩, rfl⟩, t⟩
  obtain ⟨vs, h1, h2, h3, h4⟩ := hs.recs e he
  exact ⟨vs, h1.turn t (hneB h1 (by decide)), h2, h3, fun i u z hu hz => ⟨(h4 i u z hu hz).1.turn t (hneB (h4 i u z hu hz).1 (by decide)), (h4 i u z hu hz).2⟩⟩

/-- a journal and its disk, put together -/
theorem jat_mk {w : World} {H F G : Nat → Prop} {J D : Nat} {sv : Value} {E : List Seg} {X : Jn} {S : Dk} (d : DAt w D F S) (m : JMem w G J D sv E X) (hn : ∀ j, F j → G j → j < w.heap.size → False)
    (hF : ∀ j, F j → j < w.heap.size → H j) (hG : ∀ j, G j → j < w.heap.size → H j) : JAt w H J D X S :=
  ⟨fun j => F j ∧ j < w.heap.size, fun j => G j ∧ j < w.heap.size, sv, E, d.mono (fun j hj hl => ⟨hj, hl⟩), m.mono (fun j hj hl => ⟨hj, hl⟩), fun j hf hg => hn j hf.1 hg.1 hf.2, fun j hj => ⟨hF j hj.1 hj.2, hj.2⟩, fun j hj => ⟨hG j hj.1 hj.2, hj.2⟩⟩
theorem recs_one {w : World} {G : Nat → Prop} {rv : Value} {z : List Int} (B : Nat) (hB : w.heap[B]? = some (.cells #[rv] 33 (0, 0))) (hx : OwnSl w 5 1 rv z.length (z.map (Value.int .u8))) (h1 : G B) (h2 : ∀ j, rv.ownBlock = some j → G j) :
    Recs w G (.slice (some ⟨B, 0, none⟩) 1 1) [z] := by
  refine ⟨[rv], ⟨rfl, .inr ⟨B, 0, 1, _, rfl, hB, Nat.le_refl _, by unfold maxLen; omega, by simp, rfl⟩⟩, fun j hj => ?_, rfl, fun i u y hu hy => ?_⟩
  · simp [Value.ownBlock] at hj; subst hj; exact h1
  · match i, hu, hy with
    | 0, hu, hy => simp at hu hy; subst hu hy; exact ⟨hx, h2⟩
    | i + 1, hu, _ => simp at hu

theorem cellsS_set (E' : List Seg) (e : Seg) (v : Value) (rs : List (List Int)) : (cellsS (E' ++ [e])).set (E'.length * 2 + 1) v = cellsS (E' ++ [⟨e.first, v, rs⟩]) := by
  rw [cellsS_append, cellsS_append, List.set_append_right _ _ (by rw [cellsS_len]; omega), cellsS_len]
  congr 1
  rw [show E'.length * 2 + 1 - E'.length * 2 = 1 by omega]
  simp [cellsS, Seg.cells]
/-- the last segment's records, others in their place -/
theorem segs_more {w w2 : World} {G G' : Nat → Prop} {sv v' : Value} {E' : List Seg} {e : Seg} {rs : List (List Int)} {g off cap : Nat} (h : SegM w G sv (E' ++ [e])) (t : Turn (fun j => e.v.ownBlock = some j) w w2) (hr : Recs w2 G' v' rs) (hG' : ∀ j, G j → G' j)
    (hv' : ∀ j, v'.ownBlock = some j → e.v.ownBlock = some j ∨ w.heap.size ≤ j) (hsv : sv = .slice (some ⟨g, off, none⟩) (E'.length + 1) cap) :
    SegM (w2.setCell ⟨g, off + (E'.length * 2 + 1), none⟩ v') G' sv (E' ++ [⟨e.first, v', rs⟩]) ∧ w2.frozen? ⟨g, off + (E'.length * 2 + 1), none⟩ = false ∧ Turn (fun j => j = g) w2 (w2.setCell ⟨g, off + (E'.length * 2 + 1), none⟩ v') := by
  have hre := h.recs e (by simp)
  have hev := hre.blk
  have hsg : ∀ k, sv.ownBlock = some k → ¬ e.v.ownBlock = some k := fun k hk he => by
    obtain ⟨cur, hc⟩ := h.own.lt k hk
    obtain ⟨_, cur', hc'⟩ := hev k he
    rw [hc] at hc'
    simp at hc'
  have ho := h.own.turn t hsg
  have hlen : (E' ++ [e]).length = E'.length + 1 := by simp
  subst hsv
  rw [hlen] at ho
  have hst := ho.set (E'.length * 2 + 1) (by omega) v'
  rw [cellsS_set E' e v' rs] at hst
  have ts : Turn (fun j => j = g) w2 (w2.setCell ⟨g, off + (E'.length * 2 + 1), none⟩ v') := (Turn.refl (fun j => j = g) w2).setCell (p := ⟨g, off + (E'.length * 2 + 1), none⟩) (.inl rfl) v'
  have notg : ∀ {e' : TypeId} {s n : Nat} {u : Value} {xs : List Value}, OwnSl w2 e' s u n xs → e' ≠ 82 → ∀ k, u.ownBlock = some k → ¬ k = g := fun h' he k hk hg => by
    subst hg
    exact h'.other ho he k hk rfl
  have keep : ∀ {G2 : Nat → Prop} {u : Value} {zss : List (List Int)}, Recs w2 G2 u zss → Recs (w2.setCell ⟨g, off + (E'.length * 2 + 1), none⟩ v') G2 u zss := fun hq => by
    have hq' := hq
    obtain ⟨vs, h1, _⟩ := hq'
    exact hq.blocks ts (notg h1 (by decide)) (fun u n xs ho' k hk _ => notg ho' (by decide) k hk)
  refine ⟨⟨?_, fun j hj => hG' j (h.blk j hj), fun x hx => ?_, ?_⟩, hst.2, ts⟩
  · rw [show (E' ++ [(⟨e.first, v', rs⟩ : Seg)]).length = E'.length + 1 by simp]
    exact hst.1
  · rcases List.mem_append.1 hx with hx | hx
    · have hx0 := h.recs x (by simp [hx])
      have hap := h.apart
      rw [List.pairwise_append] at hap
      have hxe := hap.2.2 x hx e (by simp)
      refine keep ((hx0.blocks t (fun k hk he => hxe k hk he) (fun u n xs ho' k hk _ he => ?_)).mono (fun j hj _ => hG' j hj))
      obtain ⟨cur, hc⟩ := ho'.lt k hk
      obtain ⟨_, cur', hc'⟩ := hev k he
      rw [hc] at hc'
      simp at hc'
    · simp at hx; subst hx
      exact keep hr
  · have hap := h.apart
    rw [List.pairwise_append] at hap ⊢
    refine ⟨hap.1, List.pairwise_singleton _ _, fun x hx y hy j hj hj' => ?_⟩
    simp at hy; subst hy
    rcases hv' j hj' with q | q
    · exact hap.2.2 x hx e (by simp) j hj q
    · obtain ⟨_, cur, hc⟩ := (h.recs x (by simp [hx])).blk j hj
      have := (Array.getElem?_eq_some_iff.1 hc).1
      omega
end Go.Proofs.YthikiahhochjmaaGreatDoor


namespace Go.Proofs.YthikiahhochjmaaGreatDoor
open Go.RowKit Go.Maps
set_option linter.unusedVariables false
set_option linter.unusedSimpArgs false

theorem settleJ_segs (X : Jn) (S : Dk) : (settleJ X S).2.1.segs = X.segs ∧ (settleJ X S).2.1.most = X.most ∧ (settleJ X S).2.1.down = X.down := by
  unfold settleJ; simp only; split <;> exact ⟨rfl, rfl, rfl⟩
theorem Fit.seg {X : Jn} (fit : Fit X) {E : List Seg} (h : X.segs = E.map Seg.sg) : (∀ e ∈ E, e.first < 100 ∧ e.recs.length ≤ 1000000) ∧ E.length ≤ 1000000 := by
  refine ⟨fun e he => fit.first e.sg (by rw [h]; exact List.mem_map.2 ⟨e, he, rfl⟩), ?_⟩
  have := fit.segs
  rw [h, List.length_map] at this
  exact this
theorem Fit.wide {X : Jn} (fit : Fit X) {E : List Seg} (h : X.segs = E.map Seg.sg) : (∀ e ∈ E, e.first < 10000000000 ∧ e.recs.length ≤ 1000000) ∧ E.length ≤ 1000001 := by
  have := fit.seg h
  exact ⟨fun e he => ⟨by have := (this.1 e he).1; omega, (this.1 e he).2⟩, by omega⟩

set_option maxRecDepth 100000 in
set_option maxHeartbeats 4000000 in
theorem begin_j (w : World) (H Bk : Nat → Prop) (J D : Nat) (X : Jn) (S : Dk) (pv rv : Value) (b : List Int) (h : JAt w H J D X S) (fit : Fit X) (hp : Row .u8 Bk w pv (packB b)) (hBk : ∀ j, Bk j → ¬ H j)
    (hr : OwnSl w 5 1 rv b.length (b.map (Value.int .u8))) (hrH : ∀ j, rv.ownBlock = some j → ¬ H j) (hnx : nextOf X.segs < 100) :
    Calls Tryz.prog 59 #[.pointer (some ⟨J, 0, none⟩), pv, rv] w fun e w' => e = .returned (.int .i64 (beginJ X S b).1) ∧ Turn H w w' ∧ JAt w' (Plus (NF w H) w rv) J D (beginJ X S b).2.1 (beginJ X S b).2.2 := by
  have hset := settle_walk w H J D X S h fit
  obtain ⟨hs1, hs2, hs3⟩ := settleJ_segs X S
  have hp := hp.lt
  obtain ⟨ra, rc, hrv⟩ := hr.form
  subst hrv
  by_cases hc : (settleJ X S).1 = 0
  · rw [hc] at hset
    have ej : beginJ X S b = (appendC (settleJ X S).2.2 (nameS (nextOf X.segs)) (packB b), if appendC (settleJ X S).2.2 (nameS (nextOf X.segs)) (packB b) = 0 then pushX (settleJ X S).2.1 b else (settleJ X S).2.1, appendS (settleJ X S).2.2 (nameS (nextOf X.segs)) (packB b)) := by
      unfold beginJ; rw [if_neg (by rw [hc]; simp)]
    have hpx : pushX (settleJ X S).2.1 b = { (settleJ X S).2.1 with segs := X.segs ++ [⟨nextOf X.segs, [b]⟩] } := by unfold pushX; rw [hs1]
    rw [hpx] at ej
    clear hc hpx h
    have Hej := hide ej
    clear ej
    have hfx := fit
    generalize (settleJ X S).2.1 = X1 at *
    generalize (settleJ X S).2.2 = S1 at *
    obtain ⟨pa, pc, hpv⟩ := hp.slice
    subst hpv
    go_enter Tryz.func59, Tryz.ntmps59
    go_wp2_with (go_at_call 53; refine hset.mono ?_; rintro y w1 ⟨rfl, T1, J1⟩)
    obtain ⟨F, G, sv, E, d, m, hn, hF, hG⟩ := J1
    have hXE : X.segs = E.map Seg.sg := by rw [← hs1]; exact m.segs
    obtain ⟨hE, hEl⟩ := fit.wide hXE
    refine (Next_walk w1 G J D sv E X1 m hE hEl).mono ?_
    rintro y w2 ⟨rfl, t2⟩
    rw [hs1]
    have hEl' := (fit.seg hXE).2
    generalize hN : nextOf X.segs = N at *
    have d2 := d.turn t2 (fun _ _ _ h => h)
    have m2 := m.turn t2 (fun _ _ h => h)
    have r2 := (hr.turn T1 (fun k hk => hrH k hk)).turn t2 (fun _ _ h => h)
    have p2 := (hp.turn T1 (fun k hk => hBk k hk.1)).turn t2 (fun _ _ h => h)
    have s01 := T1.size
    have s12 := t2.size
    have tA : Turn (fun _ => False) w2 (w2.alloc (.cells #[.slice ra b.length rc] 33)) := (Turn.refl _ w2).alloc _
    have kA := heap_alloc_new w2 (.cells #[.slice ra b.length rc] 33)
    have zA : (w2.alloc (.cells #[.slice ra b.length rc] 33)).heap.size = w2.heap.size + 1 := by simp
    have tB : Turn (fun _ => False) (w2.alloc (.cells #[.slice ra b.length rc] 33)) ((w2.alloc (.cells #[.slice ra b.length rc] 33)).alloc (.cells #[.int .u64 (N : Int), .slice (some ⟨w2.heap.size, 0, none⟩) 1 1] 82)) := (Turn.refl _ _).alloc _
    have kB := heap_alloc_new (w2.alloc (.cells #[.slice ra b.length rc] 33)) (.cells #[.int .u64 (N : Int), .slice (some ⟨w2.heap.size, 0, none⟩) 1 1] 82)
    have kA2 := tB.same kA id
    have tAB := tA.then tB
    rw [zA] at kB
    have zB : ((w2.alloc (.cells #[.slice ra b.length rc] 33)).alloc (.cells #[.int .u64 (N : Int), .slice (some ⟨w2.heap.size, 0, none⟩) 1 1] 82)).heap.size = w2.heap.size + 2 := by simp
    clear tA kA zA tB
    go_wp2_with fail
    generalize (w2.alloc (.cells #[.slice ra b.length rc] 33)).alloc (.cells #[.int .u64 (N : Int), .slice (some ⟨w2.heap.size, 0, none⟩) 1 1] 82) = W at *
    have dW := d2.turn tAB.drew (fun _ _ _ h => h)
    have mW := m2.turn tAB.drew (fun _ _ h => h)
    have rW := r2.turn tAB.drew (fun _ _ h => h)
    have pW := p2.turn tAB.drew (fun _ _ h => h)
    have aJ : W.drew.cell? ⟨J, 0, none⟩ = some (.pointer (some ⟨D, 0, none⟩)) := cell_obj mW.obj 0
    have a0 : W.drew.cell? ⟨w2.heap.size + 1, 0, none⟩ = some (.int .u64 (N : Int)) := cell_obj kB 0
    have a1 : W.drew.cell? ⟨w2.heap.size + 1, 1, none⟩ = some (.slice (some ⟨w2.heap.size, 0, none⟩) 1 1) := cell_obj kB 1
    have zW : W.drew.heap.size = w2.heap.size + 2 := zB
    have kBW : W.drew.heap[w2.heap.size + 1]? = some (.cells #[.int .u64 (N : Int), .slice (some ⟨w2.heap.size, 0, none⟩) 1 1] 82 (0, 0)) := kB
    have kAW : W.drew.heap[w2.heap.size]? = some (.cells #[.slice ra b.length rc] 33 (0, 0)) := kA2
    have hn1 := name_walk' N hnx (.slice (some ⟨w2.heap.size, 0, none⟩) 1 1) W.drew
    have GJ : ¬ F J := fun q => hn J q m.home
    have GA : ∀ i, ¬ F (w2.heap.size + i) := fun i q => by have := (hF _ q).2; omega
    have TW : Turn H w W.drew := (T1.then (t2.mono (fun _ h => h.elim))).then (tAB.drew.mono (fun _ h => h.elim))
    clear d2 m2 r2 p2 kB kA2 zB tAB d
    go_region_held3 (fun u => u.cell? ⟨J, 0, none⟩ = some (.pointer (some ⟨D, 0, none⟩)) ∧ u.cell? ⟨w2.heap.size + 1, 0, none⟩ = some (.int .u64 (N : Int)) ∧ u.cell? ⟨w2.heap.size + 1, 1, none⟩ = some (.slice (some ⟨w2.heap.size, 0, none⟩) 1 1)) (first | exact ⟨aJ, a0, a1⟩ | exact ⟨bJ, b0, b1⟩ | exact ⟨gJ, g0, g1⟩ | go_keep)
      (first
      | (go_at_call 60; refine hn1.mono ?_; rintro y w3 ⟨rfl, t3⟩; have bJ := t3.cell aJ id; have b0 := t3.cell a0 id; have b1 := t3.cell a1 id; have d3 := dW.turn t3 (fun _ _ _ h => h); have p3 := pW.turn t3 (fun _ _ h => h))
      | (go_at_call 23; refine (Append_walk w3 D F _ S1 (nameB N) _ (packB b) (nameB_len N) d3 p3).mono ?_; rintro y w4 ⟨rfl, t4, d4⟩; have gJ := t4.cell bJ GJ; have g0 := t4.cell b0 (GA 1); have g1 := t4.cell b1 (GA 1)))
    have s3 := t3.size
    have s4 := t4.size
    have m4 := (mW.turn t3 (fun _ _ h => h)).turn t4 (fun j hg hf => hn j hf hg)
    have r4 := (rW.turn t3 (fun _ _ h => h)).turn t4 (fun k hk hf => by
      rcases (hF k hf).1 with q | q
      · exact hrH k hk q
      · obtain ⟨cur, hcur⟩ := hr.lt k hk
        have := (Array.getElem?_eq_some_iff.1 hcur).1
        omega)
    have kA4 := t4.same (t3.same kAW id) (GA 0)
    have kB4 := t4.same (t3.same kBW id) (GA 1)
    have d5 : DAt w4 D (fun j => NF w3 F j ∧ j < w4.heap.size) (appendS S1 (nameB N).data.toList (packB b)) := d4.mono (fun j hj hl => ⟨hj, hl⟩)
    have T4 : Turn H w w4 := (TW.then (t3.mono (fun _ h => h.elim))).trans t4 (fun j hj => (hF j hj).1)
    rw [nameB_list] at *
    clear hn1 mW rW pW p3 kAW kBW d3 d4 aJ a0 a1 bJ b0 b1 dW
    have hjm : X1 = ⟨X1.most, X.segs, X1.settled, X1.down⟩ := by rw [← hs1]
    have gG : ∀ j, G j → NF w H j ∧ j < w1.heap.size := hG
    have apF : ∀ j, NF w3 F j ∧ j < w4.heap.size → NF w H j := by
      rintro j ⟨hj | hj, _⟩
      · exact (hF j hj).1
      · exact .inr (by omega)
    have hrb : ∀ j, (Value.slice ra b.length rc).ownBlock = some j → j < w.heap.size ∧ ¬ H j := fun j hj => by
      obtain ⟨cur, hcur⟩ := hr.lt j hj
      exact ⟨(Array.getElem?_eq_some_iff.1 hcur).1, hrH j hj⟩
    by_cases hc : appendC S1 (nameS N) (packB b) = 0
    · have ej := unhide Hej
      rw [if_pos hc, hc] at ej
      rw [hc]
      clear hc Hej
      have Hej := hide ej
      clear ej
      generalize appendS S1 (nameS N) (packB b) = S2 at *
      go_wp2_with fail
      have tD : Turn (fun _ => False) w4 w4.drew := (Turn.refl _ _).drew
      have tC : Turn (fun _ => False) w4.drew (w4.drew.alloc (.cells #[.int .u64 (N : Int), .slice (some ⟨w2.heap.size, 0, none⟩) 1 1] 82)) := (Turn.refl _ _).alloc _
      have kC : (w4.drew.alloc (.cells #[.int .u64 (N : Int), .slice (some ⟨w2.heap.size, 0, none⟩) 1 1] 82)).heap[w4.heap.size]? = some (.cells #[.int .u64 (N : Int), .slice (some ⟨w2.heap.size, 0, none⟩) 1 1] 82 (0, 0)) := heap_alloc_new w4.drew _
      have zC : (w4.drew.alloc (.cells #[.int .u64 (N : Int), .slice (some ⟨w2.heap.size, 0, none⟩) 1 1] 82)).heap.size = w4.heap.size + 1 := by simp
      have tDC := tD.then tC
      have m5 := m4.turn tDC (fun _ _ h => h)
      have c2 : w4.drew.cell? ⟨J, 2, none⟩ = some sv := cell_obj m4.obj 2
      have c2a := tC.cell c2 id
      have f2 : w4.drew.frozen? ⟨J, 2, none⟩ = false := frozen_obj m4.obj 2
      have b0 : w4.drew.cell? ⟨w2.heap.size + 1, 0, none⟩ = some (.int .u64 (N : Int)) := cell_obj kB4 0
      have b1 : w4.drew.cell? ⟨w2.heap.size + 1, 1, none⟩ = some (.slice (some ⟨w2.heap.size, 0, none⟩) 1 1) := cell_obj kB4 1
      have hx := recs_one (G := fun j => (Value.slice ra b.length rc).ownBlock = some j ∨ j = w2.heap.size) w2.heap.size (tDC.same kA4 id) (r4.turn tDC (fun _ _ h => h)) (.inr rfl) (fun j hj => .inl hj)
      obtain ⟨sv', w6, hrun, hS6, t6⟩ := segs_push (e := ⟨N, .slice (some ⟨w2.heap.size, 0, none⟩) 1 1, [b]⟩) m5.seg hx (fun x hx' j hj he => by
        have hg := ((m5.seg.recs x hx').blk j hj).1
        simp [Value.ownBlock] at he
        have := (hG j hg).2
        omega) w4.heap.size kC hEl'
      obtain ⟨na, nc, hnv⟩ := hS6.slice
      rw [List.length_append, List.length_singleton] at hnv
      subst hnv
      have hsvJ : ∀ j, sv.ownBlock = some j → j ≠ J := m5.seg.own.neObj m5.obj (by decide)
      have ho6 := t6.same m5.obj (fun h => hsvJ J h rfl)
      have f6 : w6.frozen? ⟨J, 2, none⟩ = false := frozen_obj ho6 2
      have q6 : w6.cell? ⟨J, 2, none⟩ = some sv := cell_obj ho6 2
      obtain ⟨m7, t7⟩ := jmem_segs (D := D) { X1 with segs := X.segs ++ [⟨N, [b]⟩] } ho6 (hS6.mono (fun j hj _ => hj)) (.inl m5.home) (by rw [hXE]; simp [Seg.sg])
      have c2w : w4.cell? ⟨J, 2, none⟩ = some sv := c2
      have hJ4 : J < w4.heap.size := (Array.getElem?_eq_some_iff.1 m4.obj).1
      have hJn : ¬ J = w4.heap.size := by omega
      have hFG : ∀ j, NF w3 F j ∧ j < w4.heap.size → ¬ G j := by
        rintro j ⟨q | q, _⟩ hg
        · exact hn j q hg
        · have := (hG j hg).2; omega
      have d7 := ((d5.turn tDC (fun _ _ _ h => h)).turn t6 (fun j hj _ hs => hFG j hj (m5.seg.blk j hs))).turn t7 (fun j hj _ hs => hFG j hj (by rw [hs]; exact m5.home))
      have T7 := ((T4.then (tDC.mono (fun _ h => h.elim))).trans t6 (fun j hj => (hG j (m5.seg.blk j hj)).1)).trans t7 (fun j hj => by rw [hj]; exact (hG J m5.home).1)
      have z6 := t6.size
      have J7 := jat_mk (H := Plus (NF w H) w (.slice ra b.length rc)) d7 m7 (fun j hj hg hl => by
        rcases hg with hg | hg | hg
        · exact hFG j hj hg
        · rcases hj.1 with q | q
          · rcases hg with hg | hg
            · rcases (hF j q).1 with q' | q'
              · exact (hrb j hg).2 q'
              · have := (hrb j hg).1; omega
            · have := (hF j q).2; omega
          · rcases hg with hg | hg
            · have := (hrb j hg).1; omega
            · omega
        · rw [zC] at hg
          have := hj.2; omega) (fun j hj hl => .inl (apF j hj)) (fun j hj hl => by
        rcases hj with hj | hj | hj
        · exact .inl (hG j hj).1
        · rcases hj with hj | hj
          · exact .inr (.inl hj)
          · exact .inl (.inr (by omega))
        · rw [zC] at hj
          exact .inl (.inr (by omega)))
      have HT7 := hide T7
      have HJ7 := hide J7
      clear T7 J7 d7 m7 t7 t6 hS6 hx m5 kC ho6 m4 r4 kA4 kB4 d5 hr hp fit
      go_region_law (refine step_append_run rfl (.tmp 35) (.tmp 37) 77 rfl _ _ _ _ rfl rfl hrun ?_)
      all_goals
        go_wp2
        go_ret
        rw [unhide Hej]
        exact ⟨rfl, unhide HT7, unhide HJ7⟩
    · have ej := unhide Hej
      rw [if_neg hc] at ej
      clear Hej
      have hb : (appendC S1 (nameS N) (packB b) != 0) = true := by simpa using hc
      have fin : JAt w4 (Plus (NF w H) w (.slice ra b.length rc)) J D X1 (appendS S1 (nameS N) (packB b)) := jat_mk d5 m4 (fun j hj hg hl => by
        rcases hj.1 with q | q
        · exact hn j q hg
        · have := (hG j hg).2; omega) (fun j hj hl => .inl (apF j hj)) (fun j hj hl => .inl (hG j hj).1)
      clear hc
      have Hej := hide ej
      clear ej
      generalize appendC S1 (nameS N) (packB b) = y at *
      generalize appendS S1 (nameS N) (packB b) = S2 at *
      go_wp2
      go_ret
      rw [unhide Hej]
      exact ⟨rfl, T4, fin⟩
  · have ej : beginJ X S b = settleJ X S := by unfold beginJ; rw [if_pos hc]
    rw [ej]
    have hb : ((settleJ X S).1 != 0) = true := by simpa using hc
    clear hc ej h hs1 hs2 hs3 hp hr
    generalize (settleJ X S).1 = x at *
    generalize (settleJ X S).2.1 = X1 at *
    generalize (settleJ X S).2.2 = S1 at *
    generalize (packB b).length = pl at *
    go_enter Tryz.func59, Tryz.ntmps59
    go_wp2_with (go_at_call 53; refine hset.mono ?_; rintro y w1 ⟨rfl, T1, J1⟩)
    go_ret
    exact ⟨rfl, T1, J1.mono (fun j hj _ => .inl hj)⟩
end Go.Proofs.YthikiahhochjmaaGreatDoor


namespace Go.Proofs.YthikiahhochjmaaGreatDoor
open Go.RowKit Go.Maps
set_option linter.unusedVariables false
set_option linter.unusedSimpArgs false

theorem fullX_nil {X : Jn} (h : X.segs = []) : fullX X = true := by unfold fullX; rw [h]; rfl
theorem fullX_snoc {X : Jn} {l : List Sg} {s : Sg} (h : X.segs = l ++ [s]) : fullX X = decide (X.most ≤ s.recs.length) := by unfold fullX; rw [h]; simp
theorem moreX_snoc {X : Jn} {l : List Sg} {s : Sg} (h : X.segs = l ++ [s]) (b : List Int) : moreX X b = { X with segs := l ++ [⟨s.first, s.recs ++ [b]⟩] } := by unfold moreX; rw [h]; simp

set_option maxRecDepth 100000 in
set_option maxHeartbeats 4000000 in
theorem lay_j (w : World) (H Bk : Nat → Prop) (J D : Nat) (X : Jn) (S : Dk) (pv rv : Value) (b : List Int) (h : JAt w H J D X S) (fit : Fit X) (hp : Row .u8 Bk w pv (packB b)) (hBk : ∀ j, Bk j → ¬ H j)
    (hr : OwnSl w 5 1 rv b.length (b.map (Value.int .u8))) (hrH : ∀ j, rv.ownBlock = some j → ¬ H j) (hnx : nextOf X.segs < 100) :
    Calls Tryz.prog 39 #[.pointer (some ⟨J, 0, none⟩), pv, rv] w fun e w' => e = .returned (.int .i64 (layJ X S b).1) ∧ Turn H w w' ∧ JAt w' (Plus (NF w H) w rv) J D (layJ X S b).2.1 (layJ X S b).2.2 := by
  have hbegin := begin_j
  have h0 := h
  obtain ⟨F, G, sv, E, d, m, hn, hF, hG⟩ := h
  obtain ⟨ra, rc, hrv⟩ := hr.form
  subst hrv
  have hp := hp.lt
  obtain ⟨pa, pc, hpv⟩ := hp.slice
  subst hpv
  have c0 : w.cell? ⟨J, 0, none⟩ = some (.pointer (some ⟨D, 0, none⟩)) := cell_obj m.obj 0
  have hdn := Down_walk w D F S d
  have hplus : ∀ j, H j → j < w.heap.size → Plus (NF w H) w (.slice ra b.length rc) j := fun j hj _ => .inl (.inl hj)
  by_cases hd : S.down = true
  · have ej : layJ X S b = (3, X, S) := by unfold layJ; rw [if_pos hd]
    have Hej := hide ej
    rw [hd] at hdn
    have h1 := h0.mono hplus
    clear ej hd hp hr d m h0 hbegin
    generalize (packB b).length = pl at *
    go_enter Tryz.func39, Tryz.ntmps39
    go_wp2_with (go_at_call 10; refine hdn.mono ?_; rintro y w1 ⟨rfl, hw⟩; have hw := hw.symm; subst hw)
    go_ret
    rw [unhide Hej]
    exact ⟨rfl, Turn.refl _ _, h1⟩
  · have hd' : S.down = false := by simpa using hd
    obtain ⟨hE, hEl⟩ := fit.wide m.segs
    have hnext := Next_walk w G J D sv E X m hE hEl
    rw [hd'] at hdn
    have hN4 : ¬ 4294967296 ≤ nextOf X.segs := by omega
    have ej : layJ X S b = if fullX X then beginJ X S b else (appendC S (nameS (lastF X.segs)) (packB b), if appendC S (nameS (lastF X.segs)) (packB b) = 0 then moreX X b else X, appendS S (nameS (lastF X.segs)) (packB b)) := by
      unfold layJ; rw [if_neg hd, if_neg hN4]
    have hmost : X.most ≤ 1000 := fit.most
    rcases segs_cases E with hE0 | ⟨E', e, hE0⟩
    · have hX0 : X.segs = [] := by rw [m.segs, hE0]; rfl
      rw [if_pos (fullX_nil hX0)] at ej
      have Hej := hide ej
      subst hE0
      have c2 : w.cell? ⟨J, 2, none⟩ = some sv := cell_obj m.obj 2
      obtain ⟨sa, sc, hsv⟩ := m.seg.slice
      subst hsv
      have hnN : nextOf X.segs = 0 := by rw [hX0]; rfl
      rw [hnN] at hnext
      clear ej d m hE hEl hN4 hd hd'
      go_enter Tryz.func39, Tryz.ntmps39
      go_wp2_with (first | (go_at_call 10; refine hdn.mono ?_; rintro y w1 ⟨rfl, hw⟩; have hw := hw.symm; subst hw) | (go_at_call 25; refine hnext.mono ?_; rintro y w1 ⟨rfl, t1⟩; have c2' := t1.cell c2 id; have s1 := t1.size))
      go_quiet (fail)
      have t1d : Turn (fun _ => False) w (w1.drewN nq) := t1.drewN nq
      have hbk2 : ∀ j, Bk j ∧ j < w.heap.size → ¬ (fun j => H j ∧ j < w.heap.size) j := fun j hj hh => hBk j hj.1 hh.1
      have hb := hbegin (w1.drewN nq) (fun j => H j ∧ j < w.heap.size) _ J D X S _ _ b ((h0.mono (fun j hj hl => ⟨hj, hl⟩)).turn t1d (fun _ _ h => h)) fit (hp.turn t1d (fun _ _ h => h)) hbk2 (hr.turn t1d (fun _ _ h => h)) (fun j hj hh => hrH j hj hh.1) hnx
      clear h0 hp hr hbegin hnext
      generalize w1.drewN nq = W at *
      go_wp2_with (go_at_call 59; refine hb.mono ?_; rintro y w2 ⟨rfl, T2, J2⟩)
      go_ret
      rw [unhide Hej]
      have sz := t1d.size
      exact ⟨rfl, (t1d.mono (fun _ h => h.elim)).trans (T2.mono (fun j hj => hj.1)) (fun j hj => .inl hj), J2.mono (fun j hj hl => by
        rcases hj with hj | hj | hj
        · rcases hj with hj | hj
          · exact .inl (.inl hj.1)
          · exact .inl (.inr (by omega))
        · exact .inr (.inl hj)
        · exact .inl (.inr (by omega)))⟩
    · have hXs : X.segs = E'.map Seg.sg ++ [e.sg] := by rw [m.segs, hE0]; simp
      rw [fullX_snoc hXs] at ej
      subst hE0
      obtain ⟨g, off, cap, hsv, hcap, hgG, q0, q1, qf⟩ := m.seg.at E'.length e (by simp)
      have hre := m.seg.recs e (by simp)
      obtain ⟨va, vc, hv⟩ := hre.slice
      rw [hv] at q1
      have hef := (fit.seg m.segs).1 e (by simp)
      have hlen : (E' ++ [e]).length = E'.length + 1 := by simp
      rw [hlen] at hsv hcap hEl
      have c1 : w.cell? ⟨J, 1, none⟩ = some (.int .i64 (X.most : Int)) := cell_obj m.obj 1
      have c2 : w.cell? ⟨J, 2, none⟩ = some sv := cell_obj m.obj 2
      have e2 : (Seg.sg e).recs = e.recs := rfl
      rw [e2] at ej
      have hmr : X.most ≤ e.recs.length ∨ e.recs.length < X.most := by omega
      by_cases hfull : X.most ≤ e.recs.length
      · rw [if_pos (by simpa using hfull)] at ej
        have Hej := hide ej
        rw [hsv] at c2
        have hfi : (X.most : Int) ≤ (e.recs.length : Int) := by omega
        clear ej d m hE hN4 hd hd' hre hv e2 hXs qf q0 hlen hsv hmr hfull
        generalize e.recs.length = rl at *
        have hz : ((nextOf X.segs : Nat) : Int) < 4294967296 := by omega
        have hz0 : (0 : Int) ≤ ((nextOf X.segs : Nat) : Int) := by omega
        generalize ((nextOf X.segs : Nat) : Int) = zN at hnext hz hz0
        generalize X.most = M at *
        generalize E'.length = n at *
        have hn0 : decide ((n : Int) < 0) = false := by simp
        go_enter Tryz.func39, Tryz.ntmps39
        go_wp2_with (first | (go_at_call 10; refine hdn.mono ?_; rintro y w1 ⟨rfl, hw⟩; have hw := hw.symm; subst hw) | (go_at_call 25; refine hnext.mono ?_; rintro y w1 ⟨rfl, t1⟩; have c2' := t1.cell c2 id; have c1' := t1.cell c1 id; have q1' := t1.cell q1 id; have s1 := t1.size))
        go_quiet (fail)
        have t1d : Turn (fun _ => False) w (w1.drewN nq) := t1.drewN nq
        have hbk2 : ∀ j, Bk j ∧ j < w.heap.size → ¬ (fun j => H j ∧ j < w.heap.size) j := fun j hj hh => hBk j hj.1 hh.1
        have hb := hbegin (w1.drewN nq) (fun j => H j ∧ j < w.heap.size) _ J D X S _ _ b ((h0.mono (fun j hj hl => ⟨hj, hl⟩)).turn t1d (fun _ _ h => h)) fit (hp.turn t1d (fun _ _ h => h)) hbk2 (hr.turn t1d (fun _ _ h => h)) (fun j hj hh => hrH j hj hh.1) hnx
        clear h0 hp hr hbegin hnext c2' c1' q1'
        generalize w1.drewN nq = W at *
        go_wp2_with (go_at_call 59; refine hb.mono ?_; rintro y w2 ⟨rfl, T2, J2⟩)
        go_ret
        rw [unhide Hej]
        have sz := t1d.size
        exact ⟨rfl, (t1d.mono (fun _ h => h.elim)).trans (T2.mono (fun j hj => hj.1)) (fun j hj => .inl hj), J2.mono (fun j hj hl => by
          rcases hj with hj | hj | hj
          · rcases hj with hj | hj
            · exact .inl (.inl hj.1)
            · exact .inl (.inr (by omega))
          · exact .inr (.inl hj)
          · exact .inl (.inr (by omega)))⟩
      · rw [if_neg (by simpa using hfull), hXs, lastF_snoc, moreX_snoc hXs] at ej
        have e1 : (Seg.sg e).first = e.first := rfl
        rw [e1, e2] at ej
        have Hej := hide ej
        have hfi : ¬ (X.most : Int) ≤ (e.recs.length : Int) := by omega
        have hz : ((nextOf X.segs : Nat) : Int) < 4294967296 := by omega
        have hz0 : (0 : Int) ≤ ((nextOf X.segs : Nat) : Int) := by omega
        generalize ((nextOf X.segs : Nat) : Int) = zN at hnext hz hz0
        have hrl : e.recs.length ≤ 1000000 := hef.2
        have hf := hef.1
        rw [hsv] at c2
        clear ej hE hN4 hd hd' e2 e1 hlen hmr hnx
        generalize hfe : e.first = f at *
        generalize hM : X.most = M at *
        have hn0 : decide ((E'.length : Int) < 0) = false := by simp
        go_enter Tryz.func39, Tryz.ntmps39
        go_wp2_with (first | (go_at_call 10; refine hdn.mono ?_; rintro y w1 ⟨rfl, hw⟩; have hw := hw.symm; subst hw) | (go_at_call 25; refine hnext.mono ?_; rintro y w1 ⟨rfl, t1⟩; have c2' := t1.cell c2 id; have c1' := t1.cell c1 id; have q1' := t1.cell q1 id; have s1 := t1.size))
        go_quiet (fail)
        have t1d : Turn (fun _ => False) w (w1.drewN nq) := t1.drewN nq
        have q0d := t1d.cell q0 id
        have q1d := t1d.cell q1 id
        have c0d := t1d.cell c0 id
        have c2d := t1d.cell c2 id
        clear c2' c1' q1' t1 hnext hdn hbegin h0 c1
        generalize w1.drewN nq = W at *
        go_wp2_with fail
        have dW := (d.turn t1d (fun _ _ _ h => h)).turn (F := F) (G := fun _ => False) ((Turn.refl _ _).drew) (fun _ _ _ h => h)
        have mW := (m.turn t1d (fun _ _ h => h)).turn (F := fun _ => False) ((Turn.refl _ _).drew) (fun _ _ h => h)
        have pW := (hp.turn t1d (fun _ _ h => h)).turn (F := fun _ => False) ((Turn.refl _ _).drew) (fun _ _ h => h)
        have rW := (hr.turn t1d (fun _ _ h => h)).turn (F := fun _ => False) ((Turn.refl _ _).drew) (fun _ _ h => h)
        have sW := t1d.size
        have hn1 := name_walk' f hf (.slice va e.recs.length vc) W.drew
        have aJ : W.drew.cell? ⟨J, 0, none⟩ = some (.pointer (some ⟨D, 0, none⟩)) := c0d
        have a0 : W.drew.cell? ⟨g, off + E'.length * 2, none⟩ = some (.int .u64 (f : Int)) := q0d
        have a1 : W.drew.cell? ⟨g, off + E'.length * 2 + 1, none⟩ = some (.slice va e.recs.length vc) := q1d
        have GJ : ¬ F J := fun q => hn J q m.home
        have Gg : ¬ F g := fun q => hn g q hgG
        have hJG := m.home
        clear d m hp hr c0d q0d q1d
        go_region_held3 (fun u => u.cell? ⟨J, 0, none⟩ = some (.pointer (some ⟨D, 0, none⟩)) ∧ u.cell? ⟨g, off + E'.length * 2, none⟩ = some (.int .u64 (f : Int)) ∧ u.cell? ⟨g, off + E'.length * 2 + 1, none⟩ = some (.slice va e.recs.length vc)) (first | exact ⟨aJ, a0, a1⟩ | exact ⟨bJ, b0, b1⟩ | exact ⟨gJ, g0, g1⟩ | go_keep)
          (first
          | (go_at_call 60; refine hn1.mono ?_; rintro y w3 ⟨rfl, t3⟩; have bJ := t3.cell aJ id; have b0 := t3.cell a0 id; have b1 := t3.cell a1 id; have d3 := dW.turn t3 (fun _ _ _ h => h); have p3 := pW.turn t3 (fun _ _ h => h))
          | (go_at_call 23; refine (Append_walk w3 D F _ S (nameB f) _ (packB b) (nameB_len f) d3 p3).mono ?_; rintro y w4 ⟨rfl, t4, d4⟩; have gJ := t4.cell bJ GJ; have g0 := t4.cell b0 Gg; have g1 := t4.cell b1 Gg))
        have s3 : W.heap.size ≤ w3.heap.size := t3.size
        have s4 := t4.size
        have hrb : ∀ j, (Value.slice ra b.length rc).ownBlock = some j → j < W.heap.size ∧ ¬ H j := fun j hj => by
          obtain ⟨cur, hcur⟩ := rW.lt j hj
          exact ⟨(Array.getElem?_eq_some_iff.1 hcur).1, hrH j hj⟩
        have m4 := (mW.turn t3 (fun _ _ h => h)).turn t4 (fun j hg hf => hn j hf hg)
        have r4 := (rW.turn t3 (fun _ _ h => h)).turn t4 (fun k hk hf => hrH k hk (hF k hf).1)
        have d5 : DAt w4 D (fun j => NF w3 F j ∧ j < w4.heap.size) (appendS S (nameB f).data.toList (packB b)) := d4.mono (fun j hj hl => ⟨hj, hl⟩)
        have T4 : Turn H w w4 := ((t1d.drew.then t3).mono (fun _ h => h.elim)).trans t4 (fun j hj => .inl (hF j hj).1)
        have hFG : ∀ j, NF w3 F j ∧ j < w4.heap.size → ¬ G j := by
          rintro j ⟨q | q, _⟩ hg
          · exact hn j q hg
          · have := (hG j hg).2; omega
        have apF : ∀ j, NF w3 F j ∧ j < w4.heap.size → NF w H j := by
          rintro j ⟨hj | hj, _⟩
          · exact .inl (hF j hj).1
          · exact .inr (by omega)
        rw [nameB_list] at *
        clear hn1 mW rW pW p3 d3 d4 aJ a0 a1 bJ b0 b1 dW
        by_cases hc : appendC S (nameS f) (packB b) = 0
        · have ej := unhide Hej
          rw [if_pos hc, hc] at ej
          rw [hc]
          clear hc Hej
          have Hej := hide ej
          clear ej
          generalize appendS S (nameS f) (packB b) = S2 at *
          have tA : Turn (fun _ => False) w4 (w4.alloc (.cells #[.slice ra b.length rc] 33)) := (Turn.refl _ _).alloc _
          have kA := heap_alloc_new w4 (.cells #[.slice ra b.length rc] 33)
          have zA : (w4.alloc (.cells #[.slice ra b.length rc] 33)).heap.size = w4.heap.size + 1 := by simp
          have mA := m4.turn tA (fun _ _ h => h)
          have rA := r4.turn tA (fun _ _ h => h)
          obtain ⟨v', w6, hrun, R6, t6, hl6⟩ := recs_push (mA.seg.recs e (by simp)) rA w4.heap.size kA hrl
          rw [hv] at hrun
          obtain ⟨na, nc, hnv⟩ := R6.slice
          have hnl : (e.recs ++ [b]).length = e.recs.length + 1 := by simp
          rw [hnl] at hnv
          subst hnv
          obtain ⟨S7, f7, t7⟩ := segs_more mA.seg t6 R6 (fun j hj => .inl hj) hl6 hsv
          rw [← Nat.add_assoc] at S7 f7 t7
          have hevG : ∀ k, e.v.ownBlock = some k → G k := fun k hk => ((mA.seg.recs e (by simp)).blk k hk).1
          have hevJ : ¬ e.v.ownBlock = some J := fun he => by
            obtain ⟨_, cur, hc⟩ := (mA.seg.recs e (by simp)).blk J he
            rw [mA.obj] at hc
            simp at hc
          have hgJ : ¬ J = g := fun he => by
            have hsg := mA.seg.own.neObj mA.obj (by decide)
            rw [hsv] at hsg
            exact hsg g rfl he.symm
          have o6 := t6.same mA.obj hevJ
          have o7 := t7.same o6 hgJ
          have m7 : JMem (w6.setCell ⟨g, off + E'.length * 2 + 1, none⟩ (.slice na (e.recs.length + 1) nc)) (Plus G (w4.alloc (.cells #[.slice ra b.length rc] 33)) (.slice ra b.length rc)) J D sv (E' ++ [⟨e.first, .slice na (e.recs.length + 1) nc, e.recs ++ [b]⟩]) { X with segs := E'.map Seg.sg ++ [⟨f, e.recs ++ [b]⟩] } :=
            ⟨o7, .inl hJG, S7, by simp [Seg.sg, hfe]⟩
          have d7 := ((d5.turn tA (fun _ _ _ h => h)).turn t6 (fun j hj _ hs => hFG j hj (hevG j hs))).turn t7 (fun j hj _ hs => hFG j hj (by rw [hs]; exact hgG))
          have T7 := ((T4.then (tA.mono (fun _ h => h.elim))).trans t6 (fun j hj => .inl (hG j (hevG j hj)).1)).trans t7 (fun j hj => by rw [hj]; exact .inl (hG g hgG).1)
          have J7 := jat_mk (H := Plus (NF w H) w (.slice ra b.length rc)) d7 m7 (fun j hj hg hl => by
            rcases hg with hg | hg | hg
            · exact hFG j hj hg
            · rcases hj.1 with q | q
              · exact (hrb j hg).2 (hF j q).1
              · have := (hrb j hg).1; omega
            · rw [zA] at hg
              have := hj.2; omega) (fun j hj hl => .inl (apF j hj)) (fun j hj hl => by
            rcases hj with hj | hj | hj
            · exact .inl (.inl (hG j hj).1)
            · exact .inr (.inl hj)
            · rw [zA] at hj
              exact .inl (.inr (by omega)))
          have q1w : w6.cell? ⟨g, off + E'.length * 2 + 1, none⟩ = some (.slice va e.recs.length vc) := t6.cell (tA.cell g1 id) (fun he => by
            obtain ⟨_, cur, hc⟩ := (mA.seg.recs e (by simp)).blk g he
            have hq := mA.seg.own.lt g (by rw [hsv]; rfl)
            obtain ⟨cur', hc'⟩ := hq
            rw [hc'] at hc
            simp at hc)
          have HT7 := hide T7
          have HJ7 := hide J7
          clear T7 J7 d7 m7 t7 t6 S7 R6 hl6 o6 o7 rA mA kA tA d5 m4 r4 T4 hFG apF hrb
          go_wp2_with (at_builtin; refine list_append_run rfl _ _ 29 rfl _ _ _ _ rfl rfl hrun ?_)
          go_ret
          rw [unhide Hej, ← hM]
          exact ⟨rfl, unhide HT7, unhide HJ7⟩
        · have ej := unhide Hej
          rw [if_neg hc] at ej
          clear Hej
          have hb : (appendC S (nameS f) (packB b) != 0) = true := by simpa using hc
          have fin : JAt w4 (Plus (NF w H) w (.slice ra b.length rc)) J D X (appendS S (nameS f) (packB b)) := jat_mk d5 m4 (fun j hj hg hl => hFG j hj hg) (fun j hj hl => .inl (apF j hj)) (fun j hj hl => .inl (.inl (hG j hj).1))
          clear hc
          have Hej := hide ej
          clear ej
          generalize appendC S (nameS f) (packB b) = y at *
          generalize appendS S (nameS f) (packB b) = S2 at *
          go_wp2
          go_ret
          rw [unhide Hej]
          exact ⟨rfl, T4, fin⟩
end Go.Proofs.YthikiahhochjmaaGreatDoor


namespace Go.Proofs.YthikiahhochjmaaGreatDoor
open Go.RowKit Go.Maps
set_option linter.unusedVariables false
set_option linter.unusedSimpArgs false

theorem refusal_jat (w : World) (H : Nat → Prop) (J D : Nat) (X : Jn) (S : Dk) (h : JAt w H J D X S) :
    Calls Tryz.prog 36 #[.pointer (some ⟨J, 0, none⟩)] w fun e w' => e = .returned (.int .i64 (if X.down then 3 else 0)) ∧ w' = w := by
  obtain ⟨F, G, sv, E, d, m, _⟩ := h
  exact refusal_j w G J D sv E X m
theorem down_jat (w : World) (H : Nat → Prop) (J D : Nat) (X : Jn) (S : Dk) (h : JAt w H J D X S) :
    Calls Tryz.prog 10 #[.pointer (some ⟨D, 0, none⟩)] w fun e w' => e = .returned (.bool S.down) ∧ w' = w := by
  obtain ⟨F, G, sv, E, d, m, _⟩ := h
  exact Down_walk w D F S d
theorem told_jat (w : World) (H : Nat → Prop) (J D : Nat) (X : Jn) (S : Dk) (x : Int) (h : JAt w H J D X S) :
    Calls Tryz.prog 38 #[.pointer (some ⟨J, 0, none⟩), .int .i64 x] w fun e w' => e = .returned (.int .i64 x) ∧ Turn H w w' ∧ JAt w' H J D { X with down := decide (x = 3) } S := by
  obtain ⟨F, G, sv, E, d, m, hn, hF, hG⟩ := h
  refine (told_j w G J D sv E X x m).mono ?_
  rintro e w' ⟨he, t, m'⟩
  have hs := t.size
  refine ⟨he, t.mono (fun j hj => by rw [hj]; exact (hG J m.home).1), F, G, sv, E, d.turn t (fun j hj _ hJ => hn j hj (by rw [hJ]; exact m.home)), m', hn, fun j hj => ⟨(hF j hj).1, by have := (hF j hj).2; omega⟩, fun j hj => ⟨(hG j hj).1, by have := (hG j hj).2; omega⟩⟩
theorem JAt.ptr {w : World} {H : Nat → Prop} {J D : Nat} {X : Jn} {S : Dk} (h : JAt w H J D X S) : w.cell? ⟨J, 0, none⟩ = some (.pointer (some ⟨D, 0, none⟩)) := by
  obtain ⟨F, G, sv, E, d, m, _⟩ := h
  exact cell_obj m.obj 0
/-- in blocks that were there -/
theorem JAt.tight {w w1 : World} {H : Nat → Prop} {J D : Nat} {X : Jn} {S : Dk} (h : JAt w H J D X S) (T : Turn (fun _ => False) w w1) : JAt w1 (fun j => H j ∧ j < w.heap.size) J D X S :=
  (h.mono (fun j hj hl => ⟨hj, hl⟩)).turn T (fun _ _ h => h)

set_option maxRecDepth 100000 in
set_option maxHeartbeats 4000000 in
theorem append_j (w : World) (H Bk : Nat → Prop) (J D : Nat) (X : Jn) (S : Dk) (v : Value) (zs : List Int) (h : JAt w H J D X S) (fit : Fit X) (hz : Bytes zs) (hr : Row .u8 Bk w v zs) (hnx : nextOf X.segs < 100) :
    Calls Tryz.prog 15 #[.pointer (some ⟨J, 0, none⟩), v] w fun e w' => e = .returned (.int .i64 (appendJ X S zs).1) ∧ Turn H w w' ∧ JAt w' (NF w H) J D (appendJ X S zs).2.1 (appendJ X S zs).2.2 := by
  have hre := refusal_jat w H J D X S h
  obtain ⟨va, vc, rfl⟩ := hr.slice
  have h1 : JAt w (NF w H) J D X S := h.mono (fun j hj _ => .inl hj)
  have hml := hr.len
  unfold maxLen at hml
  by_cases hd : X.down = true
  · have ej : appendJ X S zs = (3, X, S) := by unfold appendJ; rw [if_pos hd]
    rw [if_pos hd] at hre
    have Hej := hide ej
    clear ej hd hr h
    generalize zs.length = n at *
    go_enter Tryz.func15, Tryz.ntmps15
    go_wp2_with (go_at_call 36; refine hre.mono ?_; rintro y w1 ⟨rfl, hw⟩; have hw := hw.symm; subst hw)
    go_ret
    rw [unhide Hej]
    exact ⟨rfl, Turn.refl _ _, h1⟩
  · rw [if_neg hd] at hre
    have hpk := Pack_walk Bk _ zs w hz hr
    by_cases hbig : 1048576 < zs.length
    · have ej : appendJ X S zs = (4, X, S) := by unfold appendJ; rw [if_neg hd, if_pos hbig]
      have hC : packC zs = 4 := by unfold packC; rw [if_pos hbig]
      rw [hC] at hpk
      have Hej := hide ej
      clear ej hd hr h hC
      have h1t : ∀ w1, Turn (fun _ => False) w w1 → JAt w1 (NF w H) J D X S := fun w1 t => h1.turn t (fun _ _ h => h)
      clear h1
      generalize zs.length = n at *
      go_enter Tryz.func15, Tryz.ntmps15
      go_wp2_with (first
        | (go_at_call 36; refine hre.mono ?_; rintro y w1 ⟨rfl, hw⟩; have hw := hw.symm; subst hw)
        | (go_at_call 37; refine hpk.mono ?_; rintro y w1 ⟨x, rfl, ho, hf, t1⟩))
      go_ret
      rw [unhide Hej]
      exact ⟨rfl, t1.mono (fun _ h => h.elim), h1t w1 t1⟩
    · have ej : appendJ X S zs = toldJ (layJ X S zs) := by unfold appendJ; rw [if_neg hd, if_neg hbig]
      have hC : packC zs = 0 := by unfold packC; rw [if_neg hbig]
      have hD : packD zs = packB zs := by unfold packD; rw [if_neg hbig]
      rw [hC, hD] at hpk
      have Hej := hide ej
      clear ej hd hC hD h1
      go_enter Tryz.func15, Tryz.ntmps15
      go_wp2_with (first
        | (go_at_call 36; refine hre.mono ?_; rintro y w1 ⟨rfl, hw⟩; have hw := hw.symm; subst hw))
      refine hpk.mono ?_
      rintro y w1 ⟨x, rfl, ho, hf, t1⟩
      obtain ⟨xa, xc, rfl⟩ := ho.form
      have hr1 := hr.turn t1 (fun _ _ h => h)
      have hcl := clone_walk _ _ zs w1 hr1 (by omega)
      go_wp2_with fail
      refine hcl.mono ?_
      rintro y w2 ⟨rv, rfl, ho2, hf2, t2⟩
      have s1 := t1.size
      have s2 := t2.size
      have hp2 := row_of_sl (ho.turn t2 (fun _ _ h => h))
      have hJ2 := h.tight (t1.then t2)
      have hl := lay_j w2 _ _ J D X S _ rv zs hJ2 fit hp2 (fun j hj hh => by have := hf j hj; have := hh.2; omega) ho2 (fun j hj hh => by have := hf2 j hj; have := hh.2; omega) hnx
      obtain ⟨ra, rc, rfl⟩ := ho2.form
      clear ho hp2 hr hr1 hpk hre hcl
      go_wp2_with fail
      refine hl.mono ?_
      rintro y w3 ⟨rfl, T3, J3⟩
      have htl := told_jat w3 _ J D _ _ (layJ X S zs).1 J3
      have s3 := T3.size
      have T03 : Turn H w w3 := ((t1.then t2).mono (fun _ h => h.elim)).trans T3 (fun j hj => .inl hj.1)
      clear hl hJ2
      go_wp2_with fail
      refine htl.mono ?_
      rintro y w4 ⟨rfl, T4, J4⟩
      go_wp2
      go_ret
      rw [unhide Hej]
      have hpl : ∀ j, Plus (NF w2 (fun j => H j ∧ j < w.heap.size)) w2 (.slice ra zs.length rc) j → NF w H j := by
        rintro j (hj | hj | hj)
        · rcases hj with hj | hj
          · exact .inl hj.1
          · exact .inr (by omega)
        · exact .inr (by have := hf2 j hj; omega)
        · exact .inr (by omega)
      exact ⟨rfl, T03.trans T4 hpl, J4.mono (fun j hj _ => hpl j hj)⟩

set_option maxRecDepth 100000 in
set_option maxHeartbeats 4000000 in
theorem sync_j (w : World) (H : Nat → Prop) (J D : Nat) (X : Jn) (S : Dk) (h : JAt w H J D X S) (fit : Fit X) :
    Calls Tryz.prog 27 #[.pointer (some ⟨J, 0, none⟩)] w fun e w' => e = .returned (.int .i64 (syncJ X S).1) ∧ Turn H w w' ∧ JAt w' (NF w H) J D (syncJ X S).2.1 (syncJ X S).2.2 := by
  have hre := refusal_jat w H J D X S h
  have h1 : JAt w (NF w H) J D X S := h.mono (fun j hj _ => .inl hj)
  have c0 := h.ptr
  have hdn := down_jat w H J D X S h
  by_cases hd : X.down = true
  · have ej : syncJ X S = (3, X, S) := by unfold syncJ; rw [if_pos hd]
    rw [if_pos hd] at hre
    have Hej := hide ej
    clear ej hd h
    go_enter Tryz.func27, Tryz.ntmps27
    go_wp2_with (go_at_call 36; refine hre.mono ?_; rintro y w1 ⟨rfl, hw⟩; have hw := hw.symm; subst hw)
    go_ret
    rw [unhide Hej]
    exact ⟨rfl, Turn.refl _ _, h1⟩
  · rw [if_neg hd] at hre
    by_cases hs : S.down = true
    · have ej : syncJ X S = toldJ (3, X, S) := by unfold syncJ; rw [if_neg hd, if_pos hs]
      rw [hs] at hdn
      have htl := told_jat w H J D X S 3 h
      have Hej := hide ej
      clear ej hd h h1
      go_enter Tryz.func27, Tryz.ntmps27
      go_wp2_with (first | (go_at_call 36; refine hre.mono ?_; rintro y w1 ⟨rfl, hw⟩; have hw := hw.symm; subst hw) | (go_at_call 10; refine hdn.mono ?_; rintro y w1 ⟨rfl, hw⟩; have hw := hw.symm; subst hw) | (go_at_call 38; refine htl.mono ?_; rintro y w4 ⟨rfl, T4, J4⟩))
      go_ret
      rw [unhide Hej]
      exact ⟨rfl, T4, J4.mono (fun j hj _ => .inl hj)⟩
    · have hs' : S.down = false := by simpa using hs
      have ej : syncJ X S = toldJ (settleJ X S) := by unfold syncJ; rw [if_neg hd, if_neg hs]
      rw [hs'] at hdn
      have hset := settle_walk w H J D X S h fit
      have Hej := hide ej
      clear ej hd h h1 hs hs'
      go_enter Tryz.func27, Tryz.ntmps27
      go_wp2_with (first | (go_at_call 36; refine hre.mono ?_; rintro y w1 ⟨rfl, hw⟩; have hw := hw.symm; subst hw) | (go_at_call 10; refine hdn.mono ?_; rintro y w1 ⟨rfl, hw⟩; have hw := hw.symm; subst hw) | (go_at_call 53; refine hset.mono ?_; rintro y w3 ⟨rfl, T3, J3⟩; have htl := told_jat w3 _ J D _ _ (settleJ X S).1 J3) | (go_at_call 38; refine htl.mono ?_; rintro y w4 ⟨rfl, T4, J4⟩))
      go_ret
      rw [unhide Hej]
      exact ⟨rfl, T3.trans T4 (fun j hj => hj), J4⟩
end Go.Proofs.YthikiahhochjmaaGreatDoor


namespace Go.Proofs.YthikiahhochjmaaGreatDoor
open Go.RowKit Go.Maps
set_option linter.unusedVariables false
set_option linter.unusedSimpArgs false

theorem zeroSeg (w : World) : (zeroValue 82).run Tryz.prog w = .ok (.agg #[.int .u64 0, .slice none 0 0]) w := by kernel_rfl
theorem run_clear_segs {P : Program} {w : World} {t ty e : TypeId} (ht : P.underlying t = some (.slice e)) (hz : (zeroValue e).run P w = .ok (.agg #[.int .u64 0, .slice none 0 0]) w) (g o m c : Nat) (hm : 0 < m) {cur : Array Value} (hg : w.heap[g]? = some (.cells cur e (0, 0))) (hfit : o + m * 2 ≤ cur.size) :
    ∃ vs : List Value, vs.length = m * 2 ∧ (Builtin.clear_ #[t] ty #[.slice (some ⟨g, o, none⟩) m c]).run P w = .ok (.tuple #[]) (w.setCells g o vs) := by
  refine ⟨(Builtin.zeroCells (Value.agg #[.int .u64 0, .slice none 0 0]).cells m).toList, by simp [Builtin.zeroCells, Value.cells], ?_⟩
  have hl : (Builtin.zeroCells (Value.agg #[.int .u64 0, .slice none 0 0]).cells m).toList.length = m * 2 := by simp [Builtin.zeroCells, Value.cells]
  have h1 : ∀ v ∈ (Builtin.zeroCells (Value.agg #[.int .u64 0, .slice none 0 0]).cells m).toList, v.oneCell' = true := by
    intro v hv
    have hb := size_zeroCells (Value.agg #[.int .u64 0, .slice none 0 0]).cells m
    simp [Builtin.zeroCells, Value.cells] at hv
    obtain ⟨j, hj, rfl⟩ := hv
    have : j % 2 < 2 := Nat.mod_lt _ (by omega)
    match h2 : j % 2, this with
    | 0, _ => rfl
    | 1, _ => rfl
  have hst := run_storeCells_cells (P := P) g o (Builtin.zeroCells (Value.agg #[.int .u64 0, .slice none 0 0]).cells m).toList 0 w (fun j hj => (cell_some hg (by rw [hl] at hj; omega)).1) (fun j hj => (cell_some hg (by rw [hl] at hj; omega)).2) h1
  simp only [Nat.add_zero] at hst
  obtain ⟨m', rfl⟩ : ∃ m', m = m' + 1 := ⟨m - 1, by omega⟩
  simp [Builtin.clear_, run_underlying ht, hz, hst, Result.andThen]

theorem cellsS_one {E : List Seg} {w : World} {G : Nat → Prop} (h : ∀ e ∈ E, Recs w G e.v e.recs) : ∀ u ∈ cellsS E, u.oneCell' = true := by
  intro u hu
  simp only [cellsS, List.mem_flatMap] at hu
  obtain ⟨e, he, hu⟩ := hu
  obtain ⟨a, c, hv⟩ := (h e he).slice
  simp only [Seg.cells, List.mem_cons, List.not_mem_nil, or_false] at hu
  rcases hu with rfl | rfl
  · rfl
  · rw [hv]; rfl

set_option maxRecDepth 100000 in
set_option maxHeartbeats 4000000 in
theorem delete_walk (w : World) (G : Nat → Prop) (sv : Value) (E : List Seg) (k : Nat) (h : SegM w G sv E) (hk0 : 0 < k) (hk : k < E.length) (hl : E.length ≤ 1000000) :
    Calls Tryz.prog 62 #[sv, .int .i64 0, .int .i64 (k : Int)] w fun e w' => ∃ c x, e = .returned (.slice x (E.length - k) c) ∧ SegM w' G (.slice x (E.length - k) c) (E.drop k) ∧ Turn (fun j => sv.ownBlock = some j) w w' := by
  obtain ⟨i0, hi, hz0, hs, hz2⟩ := info_parts info_seg
  have ht := Tryz.underlying77
  rcases h.own.2 with ⟨hv, h0⟩ | ⟨g, off, cap, cur, hv, hg, hnc, hcm, hfit, htk⟩
  · omega
  subst hv
  have ho := h.own
  have hone := cellsS_one h.recs
  have hdl : ((cellsS E).drop (k * 2)).length = (E.length - k) * 2 := by rw [List.length_drop, cellsS_len]; omega
  have e1 : ∀ u : World, (Instr.slice 77 (.slice (some ⟨g, off, none⟩) E.length cap) (some (.int .i64 0)) (some (.int .i64 (k : Int))) (some (.int .i64 (E.length : Int)))).run Tryz.prog u = .ok (.slice (some ⟨g, off, none⟩) k E.length) u := fun u => by
    have a1 : k ≤ E.length := by omega
    have a2 : E.length ≠ 0 := by omega
    simp [Instr.slice, run_underlying ht, Instr.sliceBounds, Instr.sliceBound, asIntOf, sizeOf, typeInfo, hi, Result.andThen, Addr.add, a1, a2, hnc]
  have e2 : ∀ u : World, (Instr.slice 77 (.slice (some ⟨g, off, none⟩) E.length cap) none (some (.int .i64 0)) none).run Tryz.prog u = .ok (.slice (some ⟨g, off, none⟩) 0 cap) u := fun u => by
    simp [Instr.slice, run_underlying ht, Instr.sliceBounds, Instr.sliceBound, asIntOf, sizeOf, typeInfo, hi, Result.andThen, Addr.add]
  have e3 : ∀ u : World, (Instr.slice 77 (.slice (some ⟨g, off, none⟩) E.length cap) (some (.int .i64 (k : Int))) none none).run Tryz.prog u = .ok (.slice (some ⟨g, off + k * 2, none⟩) (E.length - k) (cap - k)) u := fun u => by
    have a1 : k ≤ E.length := by omega
    have a2 : ¬ cap = k := by omega
    simp [Instr.slice, run_underlying ht, Instr.sliceBounds, Instr.sliceBound, asIntOf, sizeOf, typeInfo, hi, Result.andThen, hs, Addr.add_lit, a1, a2]
  have e4 : ∀ u : World, (Instr.slice 77 (.slice (some ⟨g, off, none⟩) (E.length - k) cap) (some (.int .i64 ((E.length - k : Nat) : Int))) (some (.int .i64 (E.length : Int))) none).run Tryz.prog u = .ok (.slice (some ⟨g, off + (E.length - k) * 2, none⟩) k (cap - (E.length - k))) u := fun u => by
    have a1 : E.length - k ≤ E.length := by omega
    have a2 : ¬ cap = E.length - k := by omega
    have a3 : E.length - (E.length - k) = k := by omega
    have a4 : ¬ (cap : Int) = ((E.length - k : Nat) : Int) := by omega
    have a5 : ((E.length - k : Nat) : Int) ≤ (E.length : Int) := by omega
    simp [Instr.slice, run_underlying ht, Instr.sliceBounds, Instr.sliceBound, asIntOf, sizeOf, typeInfo, hi, Result.andThen, hs, Addr.add_lit, a1, a2, a3, a5, hnc]
  have hrun := fun u hu => run_append_room_cells (P := Tryz.prog) u 77 77 82 i0 ht hi g off 0 cap ⟨g, off + k * 2, none⟩ (E.length - k) (cap - k) ((cellsS E).drop (k * 2)) (by rw [hdl, hs]) hu (fun x hx => hone x (List.mem_of_mem_drop hx)) (by omega)
  have hgd : w.drew.heap[g]? = some (.cells cur 82 (0, 0)) := hg
  have hcs : E.length * 2 ≤ cap * 2 := by omega
  have hrd := hrun w.drew (fun j u hu => by
    rw [List.getElem?_drop] at hu
    rw [Addr.add_lit, Nat.add_assoc]
    exact ho.cells _ u hu) (fun j hj => by rw [Nat.zero_mul, Nat.add_zero]; exact (cell_some hgd (by omega)).1) (fun j hj => by rw [Nat.zero_mul, Nat.add_zero]; exact (cell_some hgd (by omega)).2)
  rw [Nat.zero_mul, Nat.add_zero, Nat.zero_add] at hrd
  obtain ⟨cur1, g1, z1, q1⟩ := heap_setCells ((cellsS E).drop (k * 2)) off w.drew cur hgd (by omega)
  have t1 : Turn (fun j => j = g) w (w.drew.setCells g off ((cellsS E).drop (k * 2))) := ((Turn.refl (fun j => j = g) w).drew).then (Turn.grown (grown_setCells g _ _ _) (fun k e => by cases e; rfl))
  generalize w.drew.setCells g off ((cellsS E).drop (k * 2)) = w1 at *
  obtain ⟨vs, hvs, hclr⟩ := run_clear_segs (P := Tryz.prog) (w := w1) (t := 77) (ty := 0) ht (zeroSeg _) g (off + (E.length - k) * 2) (E.length - (E.length - k)) (cap - (E.length - k)) (by omega) g1 (by omega)
  obtain ⟨cur2, g2, z2, q2⟩ := heap_setCells vs (off + (E.length - k) * 2) w1 cur1 g1 (by omega)
  have t2 : Turn (fun j => j = g) w (w1.setCells g (off + (E.length - k) * 2) vs) := t1.then (Turn.grown (grown_setCells g _ _ _) (fun k e => by cases e; rfl))
  generalize hW2 : w1.setCells g (off + (E.length - k) * 2) vs = w2 at *
  have hfin : SegM w2 G (.slice (some ⟨g, off, none⟩) (E.length - k) cap) (E.drop k) := by
    refine ⟨?_, h.blk, fun e he => ?_, h.apart.sublist (List.drop_sublist _ _)⟩
    · rw [List.length_drop]
      refine ⟨by rw [cellsS_len, List.length_drop], .inr ⟨g, off, cap, cur2, rfl, g2, by omega, hcm, by omega, ?_⟩⟩
      apply List.ext_getElem?
      intro j
      rw [List.getElem?_take, List.getElem?_drop]
      split
      · rename_i hj
        rw [show cur2.toList[off + j]? = cur2[off + j]? by simp, q2, if_neg (by omega), q1, if_pos (by omega), cellsS_drop]
        rw [show off + j - off = j by omega]
      · rename_i hj
        rw [List.getElem?_eq_none (by rw [cellsS_len, List.length_drop]; omega)]
    · have he' := h.recs e (List.mem_of_mem_drop he)
      have hq := he'
      obtain ⟨xs, h1, _⟩ := hq
      have ng : ∀ {e' : TypeId} {s n : Nat} {u : Value} {xs : List Value}, OwnSl w e' s u n xs → e' ≠ 82 → ∀ k, u.ownBlock = some k → ¬ k = g := fun h' he k hk hgk => h'.neObj hg he k hk hgk
      exact he'.blocks t2 (ng h1 (by decide)) (fun u n xs ho' k hk _ => ng ho' (by decide) k hk)
  have Hf := hide hfin
  have Ht := hide t2
  clear hfin t2 t1 q1 q2 g1 g2 z1 z2 hrun hone ho h htk hgd hdl
  have hkn : ¬ (0 : Int) = (k : Int) := by omega
  have hln : ((E.length - k : Nat) : Int) = (E.length : Int) - k := by omega
  have hkl : k ≤ E.length := by omega
  go_enter Tryz.func62, Tryz.ntmps62
  go_wp2_with fail
  go_region_law (refine step_append_run rfl (.tmp 22) (.tmp 25) 77 rfl _ _ _ _ rfl rfl hrd ?_)
  all_goals
    go_wp2
    go_ret
    exact ⟨cap, _, rfl, unhide Hf, (unhide Ht).mono (fun j hj => by rw [hj]; rfl)⟩
end Go.Proofs.YthikiahhochjmaaGreatDoor
