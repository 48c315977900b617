/- All segments made safe. -/
import Derived.Test.YthikiahhochjmaaGreatDoorJSmall
import Derived.Deep.RegionWith
import Derived.Deep.RegionHeld3
namespace Go.Proofs.YthikiahhochjmaaGreatDoor
open Go.RowKit Go.Maps
set_option linter.unusedVariables false
set_option linter.unusedSimpArgs false

/-- segments that are read -/
def SegR (w : World) (G : Nat → Prop) (x : Value) (E : List Seg) : Prop :=
  ∃ a c, x = .slice a E.length c ∧ ∀ (i : Nat) (e : Seg), E[i]? = some e → ∃ g off, a = some ⟨g, off, none⟩ ∧ G g ∧ w.cell? ⟨g, off + i * 2, none⟩ = some (.int .u64 (e.first : Int)) ∧ w.cell? ⟨g, off + i * 2 + 1, none⟩ = some e.v
theorem SegR.turn {F G : Nat → Prop} {w w' : World} {x : Value} {E : List Seg} (h : SegR w G x E) (T : Turn F w w') (hF : ∀ j, G j → ¬ F j) : SegR w' G x E := by
  obtain ⟨a, c, hx, h⟩ := h
  refine ⟨a, c, hx, fun i e he => ?_⟩
  obtain ⟨g, off, h1, h2, h3, h4⟩ := h i e he
  exact ⟨g, off, h1, h2, T.cell h3 (hF g h2), T.cell h4 (hF g h2)⟩
theorem SegM.r {w : World} {G : Nat → Prop} {sv : Value} {E : List Seg} (h : SegM w G sv E) : SegR w G sv E := by
  obtain ⟨a, c, rfl⟩ := h.slice
  refine ⟨a, c, rfl, fun i e he => ?_⟩
  obtain ⟨g, off, cap, hv, _, hg, h1, h2, _⟩ := h.at i e he
  simp only [Value.slice.injEq, true_and] at hv
  exact ⟨g, off, hv.1, hg, h1, h2⟩
theorem info_seg : (Tryz.prog.info? 82).map (fun i => (i.zero, i.size, i.bytes)) = some (some (.agg #[.int .u64 0, .slice none 0 0]), 2, 32) := by kernel_rfl

theorem segs_from {w : World} {G : Nat → Prop} {sv : Value} {E : List Seg} (h : SegM w G sv E) (k : Nat) (hk : k ≤ E.length) :
    ∃ x, (∀ u : World, (Instr.slice 77 sv (some (.int .i64 (k : Int))) none none).run Tryz.prog u = .ok x u) ∧ SegR w G x (E.drop k) := by
  obtain ⟨i0, hi, hz0, hs, hz2⟩ := info_parts info_seg
  have ht := Tryz.underlying77
  have hr := h.r
  obtain ⟨a, c, rfl, hat⟩ := hr
  have hdl : (E.drop k).length = E.length - k := List.length_drop
  have hdr : ∀ (i : Nat) (e : Seg), (E.drop k)[i]? = some e → E[k + i]? = some e := fun i e he => by rwa [List.getElem?_drop] at he
  rcases h.own.2 with ⟨hv, h0⟩ | ⟨g, off, cap, cur, hv, hg, hnc, hcm, hfit, htk⟩
  · have hE : E = [] := List.eq_nil_of_length_eq_zero h0
    subst hE
    obtain rfl : k = 0 := by simpa using hk
    simp at hv
    obtain ⟨rfl, rfl⟩ := hv
    refine ⟨.slice none 0 0, fun u => ?_, none, 0, rfl, fun i e he => by simp at he⟩
    simp [Instr.slice, run_underlying ht, Instr.sliceBounds, Instr.sliceBound, asIntOf, sizeOf, typeInfo, hi, Result.andThen]
  · simp only [Value.slice.injEq, true_and] at hv
    obtain ⟨rfl, rfl⟩ := hv
    have hle : (k : Int) ≤ (E.length : Int) := by omega
    by_cases hc : c = k
    · subst hc
      have hE : E.drop c = [] := List.eq_nil_of_length_eq_zero (by omega)
      refine ⟨.slice (some ⟨g, off, none⟩) 0 0, fun u => ?_, _, 0, by rw [hE]; rfl, fun i e he => by rw [hE] at he; simp at he⟩
      have : E.length = c := by omega
      simp [Instr.slice, run_underlying ht, Instr.sliceBounds, Instr.sliceBound, asIntOf, sizeOf, typeInfo, hi, Result.andThen, this]
    · refine ⟨.slice (some ⟨g, off + k * 2, none⟩) (E.length - k) (c - k), fun u => ?_, _, _, by rw [hdl], fun i e he => ?_⟩
      · simp [Instr.slice, run_underlying ht, Instr.sliceBounds, Instr.sliceBound, asIntOf, sizeOf, typeInfo, hi, Result.andThen, hc, hs, Addr.add_lit, hle, hk]
      · obtain ⟨g', off', h1, h2, h3, h4⟩ := hat (k + i) e (hdr i e he)
        simp at h1
        obtain ⟨rfl, rfl⟩ := h1
        refine ⟨g, off + k * 2, rfl, h2, ?_, ?_⟩
        · rw [show off + k * 2 + i * 2 = off + (k + i) * 2 by omega]; exact h3
        · rw [show off + k * 2 + i * 2 + 1 = off + (k + i) * 2 + 1 by omega]; exact h4
theorem segs_to {w : World} {G : Nat → Prop} {sv : Value} {E : List Seg} (h : SegM w G sv E) (k : Nat) (hk : k ≤ E.length) :
    ∃ x, (∀ u : World, (Instr.slice 77 sv none (some (.int .i64 (k : Int))) none).run Tryz.prog u = .ok x u) ∧ SegR w G x (E.take k) := by
  obtain ⟨i0, hi, hz0, hs, hz2⟩ := info_parts info_seg
  have ht := Tryz.underlying77
  have hr := h.r
  obtain ⟨a, c, rfl, hat⟩ := hr
  have hdl : (E.take k).length = k := by rw [List.length_take]; omega
  have hdr : ∀ (i : Nat) (e : Seg), (E.take k)[i]? = some e → E[i]? = some e := fun i e he => by
    rw [List.getElem?_take] at he; split at he
    · exact he
    · cases he
  rcases h.own.2 with ⟨hv, h0⟩ | ⟨g, off, cap, cur, hv, hg, hnc, hcm, hfit, htk⟩
  · have hE : E = [] := List.eq_nil_of_length_eq_zero h0
    subst hE
    obtain rfl : k = 0 := by simpa using hk
    simp at hv
    obtain ⟨rfl, rfl⟩ := hv
    refine ⟨.slice none 0 0, fun u => ?_, none, 0, rfl, fun i e he => by simp at he⟩
    simp [Instr.slice, run_underlying ht, Instr.sliceBounds, Instr.sliceBound, asIntOf, sizeOf, typeInfo, hi, Result.andThen]
  · simp only [Value.slice.injEq, true_and] at hv
    obtain ⟨rfl, rfl⟩ := hv
    have hle : k ≤ c := by omega
    refine ⟨.slice (some ⟨g, off, none⟩) k c, fun u => ?_, _, _, by rw [hdl], fun i e he => ?_⟩
    · by_cases hc0 : c = 0
      · obtain rfl : k = 0 := by omega
        subst hc0
        simp [Instr.slice, run_underlying ht, Instr.sliceBounds, Instr.sliceBound, asIntOf, sizeOf, typeInfo, hi, Result.andThen, Addr.add]
      · simp [Instr.slice, run_underlying ht, Instr.sliceBounds, Instr.sliceBound, asIntOf, sizeOf, typeInfo, hi, Result.andThen, Addr.add, hle, hc0]
    · obtain ⟨g', off', h1, h2, h3, h4⟩ := hat i e (hdr i e he)
      exact ⟨g', off', h1, h2, h3, h4⟩

theorem settleF_step {s : Sg} {r : List Sg} {S : Dk} : settleF (s :: r) S = if syncC S (nameS s.first) ≠ 0 then (syncC S (nameS s.first), syncS S (nameS s.first)) else settleF r (syncS S (nameS s.first)) := rfl
theorem drop_sg {E : List Seg} {k : Nat} {e : Seg} (h : E[k]? = some e) : (E.map Seg.sg).drop k = e.sg :: (E.map Seg.sg).drop (k + 1) := by
  have hk : k < (E.map Seg.sg).length := by simpa using (List.getElem?_eq_some_iff.1 h).1
  rw [List.drop_eq_getElem_cons hk]
  congr 1
  have := (List.getElem?_eq_some_iff.1 h).2
  simp [this]

set_option maxRecDepth 100000 in
set_option maxHeartbeats 4000000 in
theorem settle_walk (w : World) (H : Nat → Prop) (J D : Nat) (X : Jn) (S : Dk) (h : JAt w H J D X S) (fit : Fit X) :
    Calls Tryz.prog 53 #[.pointer (some ⟨J, 0, none⟩)] w fun e w' => e = .returned (.int .i64 (settleJ X S).1) ∧ Turn H w w' ∧ JAt w' (NF w H) J D (settleJ X S).2.1 (settleJ X S).2.2 := by
  obtain ⟨F, G, sv, E, d, m, hn, hF, hG⟩ := h
  have c0 : w.cell? ⟨J, 0, none⟩ = some (.pointer (some ⟨D, 0, none⟩)) := cell_obj m.obj 0
  have c2 : w.cell? ⟨J, 2, none⟩ = some sv := cell_obj m.obj 2
  have c3 : w.cell? ⟨J, 3, none⟩ = some (.int .i64 (X.settled : Int)) := cell_obj m.obj 3
  have hXl : X.segs.length = E.length := by rw [m.segs, List.length_map]
  have hset : X.settled ≤ E.length := by rw [← hXl]; exact fit.settled
  obtain ⟨x, hx, hr⟩ := segs_from m.seg X.settled hset
  have hfirst : ∀ e ∈ E, e.first < 100 := fun e he => (fit.first e.sg (by rw [m.segs]; exact List.mem_map.2 ⟨e, he, rfl⟩)).1
  obtain ⟨xa, xc, rfl, hat⟩ := hr
  obtain ⟨sa, sc, hsv⟩ := m.seg.slice
  have hel : E.length ≤ 1000000 := by rw [← hXl]; exact fit.segs
  have hJ := m.home
  have c0n : ∀ n, (w.drewN n).cell? ⟨J, 0, none⟩ = some (.pointer (some ⟨D, 0, none⟩)) := fun n => c0
  have d' : ∀ n, DAt (w.drewN n) D F S := fun n => d.turn ((Turn.refl (fun _ => False) w).drewN n) (fun _ _ _ h => h)
  have T0 : ∀ n, Turn F w (w.drewN n) := fun n => (Turn.refl F w).drewN n
  have hsz0 : ∀ n, (w.drewN n).heap.size = w.heap.size := fun n => by simp
  generalize hK : X.settled = K at *
  subst hsv
  go_enter Tryz.func53, Tryz.ntmps53
  go_wp2_with fail
  go_quiet (fail)
  have d' := d' nq
  have T0 := T0 nq
  have hsz0 := hsz0 nq
  generalize w.drewN nq = w0 at *
  go_wp2_with fail
  go_loopw [16] (fun i wr => ∃ (k : Nat) (Sk : Dk) (F' : Nat → Prop), i = .int .i64 (k : Int) ∧ k ≤ E.length - K ∧ DAt wr D F' Sk ∧ (∀ j, F' j → (F j ∨ w.heap.size ≤ j) ∧ j < wr.heap.size) ∧ Turn F w wr ∧ Hid (settleF (X.segs.drop K) S = settleF ((X.segs.drop K).drop k) Sk)) (fun i _ => (E.length - K) - (intOf i).toNat)
  case atStart => exact ⟨0, S, F, rfl, Nat.zero_le _, d', (fun j hj => ⟨.inl hj, by rw [hsz0]; exact (hF j hj).2⟩), T0, hide (by simp)⟩
  case round =>
    obtain ⟨k, Sk, F', rfl, hk, dk, hF', Tk, hS⟩ := hrel
    by_cases hlt : k < E.length - K
    · obtain ⟨e, he⟩ : ∃ e, (E.drop K)[k]? = some e := ⟨(E.drop K)[k]'(by rw [List.length_drop]; exact hlt), by simp⟩
      obtain ⟨g, off, hxa, hgG, q0, q1⟩ := hat k e he
      have heE : e ∈ E := List.mem_of_mem_drop (List.mem_of_getElem? he)
      have hf := hfirst e heE
      have hst : (X.segs.drop K).drop k = e.sg :: (X.segs.drop K).drop (k + 1) := by
        rw [m.segs, ← List.map_drop]; exact drop_sg he
      have p0 := Tk.cell q0 (fun hf => hn g hf hgG)
      have p1 := Tk.cell q1 (fun hf => hn g hf hgG)
      have pJ := Tk.cell c0 (fun hf => hn J hf hJ)
      have e1 : (Seg.sg e).first = e.first := rfl
      rw [hst, settleF_step, e1] at hS
      subst hxa
      obtain ⟨ra, rc, hv⟩ := (m.seg.recs e heE).slice
      rw [hv] at p1
      have sw := Tk.size
      have TA : Turn (fun _ => False) wr (wr.alloc (.cells #[.int .u64 (e.first : Int), .slice ra e.recs.length rc] 82)) := (Turn.refl _ wr).alloc _
      have kA := heap_alloc_new wr (.cells #[.int .u64 (e.first : Int), .slice ra e.recs.length rc] 82)
      have hdl : (E.drop K).length = E.length - K := List.length_drop
      clear hst he hdl heE q0 q1 hv
      generalize e.first = f at *
      generalize e.recs.length = rl at *
      go_wp2_with fail
      generalize wr.alloc (.cells #[.int .u64 (f : Int), .slice ra rl rc] 82) = W at *
      have a0 : W.drew.cell? ⟨wr.heap.size, 0, none⟩ = some (.int .u64 (f : Int)) := cell_obj kA 0
      have a1 : W.drew.cell? ⟨wr.heap.size, 1, none⟩ = some (.slice ra rl rc) := cell_obj kA 1
      have aJ : W.drew.cell? ⟨J, 0, none⟩ = some (.pointer (some ⟨D, 0, none⟩)) := TA.cell pJ id
      have dW : DAt W.drew D F' Sk := dk.turn TA.drew (fun _ _ _ h => h)
      have lA := TA.size
      have hn1 := name_walk' f hf (.slice ra rl rc) W.drew
      have GJ : ¬ F' J := fun q => by
        have q1 := (hF' J q).1
        have q2 := (hG J hJ).2
        rcases q1 with q1 | q1
        · exact hn J q1 hJ
        · omega
      have GA : ¬ F' wr.heap.size := fun q => by have := (hF' _ q).2; omega
      clear pJ p0 p1 kA dk
      go_region_held3 (fun u => u.cell? ⟨J, 0, none⟩ = some (.pointer (some ⟨D, 0, none⟩)) ∧ u.cell? ⟨wr.heap.size, 0, none⟩ = some (.int .u64 (f : Int)) ∧ u.cell? ⟨wr.heap.size, 1, none⟩ = some (.slice ra rl rc)) (first | exact ⟨aJ, a0, a1⟩ | exact ⟨bJ, b0, b1⟩ | exact ⟨gJ, g0, g1⟩ | go_keep)
        (first
        | (go_at_call 60; refine hn1.mono ?_; rintro y w1 ⟨rfl, t1⟩; have bJ := t1.cell aJ id; have b0 := t1.cell a0 id; have b1 := t1.cell a1 id; have d1 := dW.turn t1 (fun _ _ _ h => h); have s1 : W.heap.size ≤ w1.heap.size := t1.size)
        | (go_at_call 69; refine (Sync_walk w1 D F' Sk (nameB f) (nameB_len f) d1).mono ?_; rintro y w2 ⟨rfl, t2, d2⟩; have gJ := t2.cell bJ (fun hf => GJ hf); have g0 := t2.cell b0 (fun hf => GA hf); have g1 := t2.cell b1 (fun hf => GA hf)))
      have hF2 : ∀ j, NF w1 F' j ∧ j < w2.heap.size → (F j ∨ w.heap.size ≤ j) ∧ j < w2.heap.size := by
        rintro j ⟨hj | hj, hl⟩
        · exact ⟨(hF' j hj).1, hl⟩
        · exact ⟨.inr (by omega), hl⟩
      have T2 : Turn F w w2 := (Tk.then ((TA.drew.then t1).mono (fun _ h => h.elim))).trans t2 (fun j hj => (hF' j hj).1)
      have d3 : DAt w2 D (fun j => NF w1 F' j ∧ j < w2.heap.size) (syncS Sk (nameB f).data.toList) := d2.mono (fun j hj hl => ⟨hj, hl⟩)
      rw [nameB_list] at *
      clear d2 d1 dW t2 t1 hn1 TA bJ b0 b1 gJ g0 g1 a0 a1 aJ Tk hF' GJ GA
      by_cases hc : syncC Sk (nameS f) = 0
      · rw [if_neg (by rw [hc]; simp)] at hS
        rw [hc]
        clear hc
        generalize syncS Sk (nameS f) = S2 at *
        go_wp2
        exact ⟨⟨k + 1, S2, _, by go_num, by omega, d3, hF2, T2, hS⟩, by simp [intOf]; omega⟩
      · rw [if_pos hc] at hS
        have hb : (syncC Sk (nameS f) != 0) = true := by simpa using hc
        have ej : settleJ X S = (syncC Sk (nameS f), X, syncS Sk (nameS f)) := by
          unfold settleJ
          rw [hK, unhide hS, if_neg hc]
        have Hej := hide ej
        have fin : JAt w2 (NF w H) J D X (syncS Sk (nameS f)) := disk_done T2 (d3.mono (fun j hj _ => (hF2 j hj).1)) m hn hF hG
        clear hc ej hS
        generalize syncC Sk (nameS f) = y at *
        generalize syncS Sk (nameS f) = S2 at *
        go_wp2
        go_ret
        rw [unhide Hej]
        exact ⟨rfl, T2.mono (fun j hj => (hF j hj).1), fin⟩
    · have hend : (X.segs.drop K).drop k = [] := List.drop_of_length_le (by rw [List.length_drop, hXl]; omega)
      rw [hend] at hS
      have ej : settleJ X S = (0, { X with settled := X.segs.length - 1 }, Sk) := by
        unfold settleJ
        rw [hK, unhide hS]; rfl
      have Hej := hide ej
      have m1 := m.turn Tk (fun j hg hf => hn j hf hg)
      have hmx : max ((E.length : Int) - 1) 0 = ((E.length - 1 : Nat) : Int) := by omega
      obtain ⟨m2, t2⟩ := m1.re 3 (.int .i64 ((E.length - 1 : Nat) : Int)) { X with settled := X.segs.length - 1 } rfl (by rw [hXl]; rfl)
      have q2 : wr.cell? ⟨J, 2, none⟩ = some (.slice sa E.length sc) := cell_obj m1.obj 2
      have f3 : wr.frozen? ⟨J, 3, none⟩ = false := frozen_obj m1.obj 3
      have q3 : wr.cell? ⟨J, 3, none⟩ = some (.int .i64 (X.settled : Int)) := cell_obj m1.obj 3
      have fin : JAt (wr.setCell ⟨J, 3, none⟩ (.int .i64 ((E.length - 1 : Nat) : Int))) (NF w H) J D { X with settled := X.segs.length - 1 } Sk := by
        have sw := Tk.size
        have s2 := t2.size
        refine ⟨F', G, _, _, dk.turn t2 (fun j hj _ hjJ => ?_), m2, fun j hj hg => ?_, fun j hj => ?_, fun j hj => ⟨.inl (hG j hj).1, by have := (hG j hj).2; omega⟩⟩
        · have q1 := (hF' j hj).1
          have q2 := (hG J hJ).2
          rcases q1 with q1 | q1
          · exact hn j q1 (hjJ ▸ hJ)
          · omega
        · have q1 := (hF' j hj).1
          have q2 := (hG j hg).2
          rcases q1 with q1 | q1
          · exact hn j q1 hg
          · omega
        · refine ⟨?_, by have := (hF' j hj).2; omega⟩
          rcases (hF' j hj).1 with q1 | q1
          · exact .inl (hF j q1).1
          · exact .inr q1
      have T3 : Turn H w (wr.setCell ⟨J, 3, none⟩ (.int .i64 ((E.length - 1 : Nat) : Int))) := (Tk.mono (fun j hj => (hF j hj).1)).then (t2.mono (fun j hj => by rw [hj]; exact (hG J hJ).1))
      have HT := hide T3
      have Hf := hide fin
      clear fin T3 m1 m2 t2 ej hS hend hat hx m d dk
      go_wp2
      go_ret
      rw [unhide Hej]
      exact ⟨rfl, unhide HT, unhide Hf⟩
end Go.Proofs.YthikiahhochjmaaGreatDoor
