/- Segments taken away, from the first on; Trim. -/
import Derived.Test.YthikiahhochjmaaGreatDoorJApp
import Derived.Test.YthikiahhochjmaaGreatDoorJDelete
namespace Go.Proofs.YthikiahhochjmaaGreatDoor
open Go.RowKit Go.Maps
set_option linter.unusedVariables false
set_option linter.unusedSimpArgs false

theorem dropF_step {s : Sg} {r : List Sg} {S : Dk} : dropF (s :: r) S = if removeC S (nameS s.first) ≠ 0 then (removeC S (nameS s.first), removeS S (nameS s.first)) else dropF r (removeS S (nameS s.first)) := rfl
theorem settleJ_settled (X : Jn) (S : Dk) (h : (settleJ X S).1 = 0) : (settleJ X S).2.1.settled = X.segs.length - 1 := by
  unfold settleJ at h ⊢
  simp only at h ⊢
  rw [if_pos h]

set_option maxRecDepth 100000 in
set_option maxHeartbeats 4000000 in
theorem drop_j (w : World) (H : Nat → Prop) (J D : Nat) (X : Jn) (S : Dk) (c : Nat) (h : JAt w H J D X S) (fit : Fit X) (hc : c = 0 ∨ c + 1 ≤ X.segs.length) :
    Calls Tryz.prog 43 #[.pointer (some ⟨J, 0, none⟩), .int .i64 (c : Int)] w fun e w' => e = .returned (.int .i64 (dropJ X S c).1) ∧ Turn H w w' ∧ JAt w' (NF w H) J D (dropJ X S c).2.1 (dropJ X S c).2.2 := by
  by_cases hc0 : c = 0
  · have ej : dropJ X S c = (0, X, S) := by unfold dropJ; rw [if_pos hc0]
    have Hej := hide ej
    have h1 : JAt w (NF w H) J D X S := h.mono (fun j hj _ => .inl hj)
    subst hc0
    clear ej h hc
    go_enter Tryz.func43, Tryz.ntmps43
    go_wp2
    go_ret
    rw [unhide Hej]
    exact ⟨rfl, Turn.refl _ _, h1⟩
  have hcl : c + 1 ≤ X.segs.length := by omega
  have hci : ((c : Int) == 0) = false := by rw [beq_eq_false_iff_ne]; omega
  have hset := settle_walk w H J D X S h fit
  obtain ⟨hs1, hs2, hs3⟩ := settleJ_segs X S
  by_cases hz : (settleJ X S).1 = 0
  · have ej : dropJ X S c = ((dropF (X.segs.take c) (settleJ X S).2.2).1, if (dropF (X.segs.take c) (settleJ X S).2.2).1 = 0 then { (settleJ X S).2.1 with segs := X.segs.drop c, settled := (settleJ X S).2.1.settled - c } else (settleJ X S).2.1, (dropF (X.segs.take c) (settleJ X S).2.2).2) := by
      unfold dropJ; rw [if_neg hc0, if_neg (by rw [hz]; simp)]
    have hst := settleJ_settled X S hz
    have Hej := hide ej
    rw [hz] at hset
    clear ej hz h hc
    generalize (settleJ X S).2.1 = X1 at *
    generalize (settleJ X S).2.2 = S1 at *
    go_enter Tryz.func43, Tryz.ntmps43
    go_wp2_with fail
    refine hset.mono ?_
    rintro y w1 ⟨rfl, T1, F, G, sv, E, d, m, hn, hF, hG⟩
    have c2 : w1.cell? ⟨J, 2, none⟩ = some sv := cell_obj m.obj 2
    have hXE : X.segs = E.map Seg.sg := by rw [← hs1]; exact m.segs
    have hXl : X.segs.length = E.length := by rw [hXE, List.length_map]
    obtain ⟨x, hx, hr⟩ := segs_to m.seg c (by omega)
    obtain ⟨xa, xc, rfl, hat⟩ := hr
    have htl : (E.take c).length = c := by rw [List.length_take]; omega
    rw [htl] at hx
    have hfirst : ∀ e ∈ E, e.first < 100 := fun e he => ((fit.seg hXE).1 e he).1
    have hJ := m.home
    have c0 : w1.cell? ⟨J, 0, none⟩ = some (.pointer (some ⟨D, 0, none⟩)) := cell_obj m.obj 0
    obtain ⟨sa, sc, hsv⟩ := m.seg.slice
    subst hsv
    have hEl : E.length ≤ 1000000 := (fit.seg hXE).2
    go_wp2_with fail
    go_loopw [23] (fun i wr => ∃ (k : Nat) (Sk : Dk) (F' : Nat → Prop), i = .int .i64 (k : Int) ∧ k ≤ c ∧ DAt wr D F' Sk ∧ (∀ j, F' j → (F j ∨ w1.heap.size ≤ j) ∧ j < wr.heap.size) ∧ Turn F w1 wr ∧ Hid (dropF (X.segs.take c) S1 = dropF ((X.segs.take c).drop k) Sk)) (fun i _ => c - (intOf i).toNat)
    case atStart => exact ⟨0, S1, F, rfl, Nat.zero_le _, d, (fun j hj => ⟨.inl hj, (hF j hj).2⟩), Turn.refl _ _, hide (by simp)⟩
    case round =>
      obtain ⟨k, Sk, F', rfl, hk, dk, hF', Tk, hS⟩ := hrel
      by_cases hlt : k < c
      · obtain ⟨e, he⟩ : ∃ e, (E.take c)[k]? = some e := ⟨(E.take c)[k]'(by rw [htl]; exact hlt), List.getElem?_eq_getElem _⟩
        obtain ⟨g, off, hxa, hgG, q0, q1⟩ := hat k e he
        have heE : e ∈ E := List.mem_of_mem_take (List.mem_of_getElem? he)
        have hf := hfirst e heE
        have hstp : (X.segs.take c).drop k = e.sg :: (X.segs.take c).drop (k + 1) := by
          rw [hXE, ← List.map_take]; exact drop_sg he
        have p0 := Tk.cell q0 (fun hf => hn g hf hgG)
        have p1 := Tk.cell q1 (fun hf => hn g hf hgG)
        have pJ := Tk.cell c0 (fun hf => hn J hf hJ)
        have e1 : (Seg.sg e).first = e.first := rfl
        rw [hstp, dropF_step, e1] at hS
        subst hxa
        obtain ⟨ra, rc, hv⟩ := (m.seg.recs e heE).slice
        rw [hv] at p1
        have sw := Tk.size
        have TA : Turn (fun _ => False) wr (wr.alloc (.cells #[.int .u64 (e.first : Int), .slice ra e.recs.length rc] 82)) := (Turn.refl _ wr).alloc _
        have kA := heap_alloc_new wr (.cells #[.int .u64 (e.first : Int), .slice ra e.recs.length rc] 82)
        clear hstp he heE q0 q1 hv
        generalize e.first = f at *
        generalize e.recs.length = rl at *
        go_wp2_with fail
        generalize wr.alloc (.cells #[.int .u64 (f : Int), .slice ra rl rc] 82) = W at *
        have a0 : W.drew.cell? ⟨wr.heap.size, 0, none⟩ = some (.int .u64 (f : Int)) := cell_obj kA 0
        have a1 : W.drew.cell? ⟨wr.heap.size, 1, none⟩ = some (.slice ra rl rc) := cell_obj kA 1
        have aJ : W.drew.cell? ⟨J, 0, none⟩ = some (.pointer (some ⟨D, 0, none⟩)) := TA.cell pJ id
        have dW : DAt W.drew D F' Sk := dk.turn TA.drew (fun _ _ _ h => h)
        have lA := TA.size
        have hn1 := name_walk' f hf (.slice ra rl rc) W.drew
        have GJ : ¬ F' J := fun q => by
          have q1 := (hF' J q).1
          have q2 := (hG J hJ).2
          rcases q1 with q1 | q1
          · exact hn J q1 hJ
          · omega
        have GA : ¬ F' wr.heap.size := fun q => by have := (hF' _ q).2; omega
        clear pJ p0 p1 kA dk
        go_region_held3 (fun u => u.cell? ⟨J, 0, none⟩ = some (.pointer (some ⟨D, 0, none⟩)) ∧ u.cell? ⟨wr.heap.size, 0, none⟩ = some (.int .u64 (f : Int)) ∧ u.cell? ⟨wr.heap.size, 1, none⟩ = some (.slice ra rl rc)) (first | exact ⟨aJ, a0, a1⟩ | exact ⟨bJ, b0, b1⟩ | exact ⟨gJ, g0, g1⟩ | go_keep)
          (first
          | (go_at_call 60; refine hn1.mono ?_; rintro y w3 ⟨rfl, t1⟩; have bJ := t1.cell aJ id; have b0 := t1.cell a0 id; have b1 := t1.cell a1 id; have d1 := dW.turn t1 (fun _ _ _ h => h); have s1 : W.heap.size ≤ w3.heap.size := t1.size)
          | (go_at_call 21; refine (Remove_walk w3 D F' Sk (nameB f) (nameB_len f) d1).mono ?_; rintro y w2 ⟨rfl, t2, d2⟩; have gJ := t2.cell bJ (fun hf => GJ hf); have g0 := t2.cell b0 (fun hf => GA hf); have g1 := t2.cell b1 (fun hf => GA hf)))
        have hF2 : ∀ j, NF w3 F' j ∧ j < w2.heap.size → (F j ∨ w1.heap.size ≤ j) ∧ j < w2.heap.size := by
          rintro j ⟨hj | hj, hl⟩
          · exact ⟨(hF' j hj).1, hl⟩
          · exact ⟨.inr (by omega), hl⟩
        have T2 : Turn F w1 w2 := (Tk.then ((TA.drew.then t1).mono (fun _ h => h.elim))).trans t2 (fun j hj => (hF' j hj).1)
        have d3 : DAt w2 D (fun j => NF w3 F' j ∧ j < w2.heap.size) (removeS Sk (nameB f).data.toList) := d2.mono (fun j hj hl => ⟨hj, hl⟩)
        rw [nameB_list] at *
        clear d2 d1 dW t2 t1 hn1 TA bJ b0 b1 gJ g0 g1 a0 a1 aJ Tk hF' GJ GA
        by_cases hcc : removeC Sk (nameS f) = 0
        · rw [if_neg (by rw [hcc]; simp)] at hS
          rw [hcc]
          clear hcc
          generalize removeS Sk (nameS f) = S2 at *
          go_wp2
          exact ⟨⟨k + 1, S2, _, by go_num, by omega, d3, hF2, T2, hS⟩, by simp [intOf]; omega⟩
        · rw [if_pos hcc] at hS
          have hb : (removeC Sk (nameS f) != 0) = true := by simpa using hcc
          have ej := unhide Hej
          rw [unhide hS, if_neg hcc] at ej
          have Hej2 := hide ej
          have fin : JAt w2 (NF w H) J D X1 (removeS Sk (nameS f)) := (disk_done T2 (d3.mono (fun j hj _ => (hF2 j hj).1)) m hn hF hG).nf T1.size
          clear hcc ej hS Hej
          generalize removeC Sk (nameS f) = y at *
          generalize removeS Sk (nameS f) = S2 at *
          go_wp2
          go_ret
          rw [unhide Hej2]
          exact ⟨rfl, T1.trans T2 (fun j hj => (hF j hj).1), fin⟩
      · have hend : (X.segs.take c).drop k = [] := List.drop_of_length_le (by rw [List.length_take, hXl]; omega)
        rw [hend] at hS
        have ej := unhide Hej
        rw [unhide hS] at ej
        have ej : dropJ X S c = (0, { X1 with segs := X.segs.drop c, settled := X1.settled - c }, Sk) := ej
        have Hej2 := hide ej
        have m1 := m.turn Tk (fun j hg hf => hn j hf hg)
        have q2 : wr.cell? ⟨J, 2, none⟩ = some (.slice sa E.length sc) := cell_obj m1.obj 2
        have hdl := delete_walk wr G _ E c m1.seg (by omega) (by omega) hEl
        clear ej hS hend hat hx
        go_wp2_with fail
        refine hdl.mono ?_
        rintro y w5 ⟨dc, dx, rfl, S5, t5⟩
        have hsvJ : ¬ (Value.slice sa E.length sc).ownBlock = some J := fun he => m1.seg.own.neObj m1.obj (by decide) J he rfl
        have o5 := t5.same m1.obj hsvJ
        have p2 : w5.cell? ⟨J, 2, none⟩ = some (.slice sa E.length sc) := cell_obj o5 2
        have f2 : w5.frozen? ⟨J, 2, none⟩ = false := frozen_obj o5 2
        obtain ⟨m6, t6⟩ := jmem_segs (D := D) { X1 with segs := X.segs.drop c } o5 S5 hJ (by rw [hXE, List.map_drop])
        have p3 : (w5.setCell ⟨J, 2, none⟩ (.slice dx (E.length - c) dc)).cell? ⟨J, 3, none⟩ = some (.int .i64 (X1.settled : Int)) := cell_obj m6.obj 3
        have f3 : (w5.setCell ⟨J, 2, none⟩ (.slice dx (E.length - c) dc)).frozen? ⟨J, 3, none⟩ = false := frozen_obj m6.obj 3
        have p3' : w5.cell? ⟨J, 3, none⟩ = some (.int .i64 (X1.settled : Int)) := cell_obj o5 3
        have f3' : w5.frozen? ⟨J, 3, none⟩ = false := frozen_obj o5 3
        have hset1 : ((X1.settled - c : Nat) : Int) = (X1.settled : Int) - (c : Int) := by omega
        obtain ⟨m7, t7⟩ := m6.re 3 (.int .i64 ((X1.settled - c : Nat) : Int)) { X1 with segs := X.segs.drop c, settled := X1.settled - c } rfl rfl
        have hFG : ∀ j, F' j → ¬ G j := fun j hj hg => by
          rcases (hF' j hj).1 with q | q
          · exact hn j q hg
          · have := (hG j hg).2; omega
        have d7 := ((dk.turn t5 (fun j hj _ hs => hFG j hj (m1.seg.blk j hs))).turn t6 (fun j hj _ hs => hFG j hj (by rw [hs]; exact hJ))).turn t7 (fun j hj _ hs => hFG j hj (by rw [hs]; exact hJ))
        have T7 := (((T1.trans Tk (fun j hj => (hF j hj).1)).trans t5 (fun j hj => (hG j (m1.seg.blk j hj)).1)).trans t6 (fun j hj => by rw [hj]; exact (hG J hJ).1)).trans t7 (fun j hj => by rw [hj]; exact (hG J hJ).1)
        have s1 := T1.size
        have J7 := jat_mk (H := NF w H) d7 m7 (fun j hj hg _ => hFG j hj hg) (fun j hj _ => by
          rcases (hF' j hj).1 with q | q
          · exact (hF j q).1
          · exact .inr (by omega)) (fun j hj _ => (hG j hj).1)
        rw [hset1] at T7 J7
        have HT7 := hide T7
        have HJ7 := hide J7
        have hsb : (0 : Int) ≤ (X1.settled : Int) ∧ (X1.settled : Int) ≤ 1000000 := by omega
        obtain ⟨hsb1, hsb2⟩ := hsb
        have hcb : (c : Int) ≤ 1000000 := by omega
        have hcs : (c : Int) ≤ (X1.settled : Int) := by omega
        clear T7 J7 d7 m7 t7 t6 m6 S5 t5 o5 hset1 m1 hFG hst hXl hXE
        go_wp2
        go_ret
        rw [unhide Hej2]
        exact ⟨rfl, unhide HT7, unhide HJ7⟩
  · have ej : dropJ X S c = ((settleJ X S).1, (settleJ X S).2.1, (settleJ X S).2.2) := by unfold dropJ; rw [if_neg hc0, if_pos hz]
    have Hej := hide ej
    have hb : ((settleJ X S).1 != 0) = true := by simpa using hz
    clear ej hz h hc hs1 hs2 hs3
    generalize (settleJ X S).1 = y at *
    generalize (settleJ X S).2.1 = X1 at *
    generalize (settleJ X S).2.2 = S1 at *
    go_enter Tryz.func43, Tryz.ntmps43
    go_wp2_with (go_at_call 53; refine hset.mono ?_; rintro y' w1 ⟨rfl, T1, J1⟩)
    go_ret
    rw [unhide Hej]
    exact ⟨rfl, T1, J1⟩
end Go.Proofs.YthikiahhochjmaaGreatDoor
