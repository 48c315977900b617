/- A record's frame into a new segment. -/
import Derived.Test.YthikiahhochjmaaGreatDoorJPush
namespace Go.Proofs.YthikiahhochjmaaGreatDoor
open Go.RowKit Go.Maps
set_option linter.unusedVariables false
set_option linter.unusedSimpArgs false

theorem settleJ_segs (X : Jn) (S : Dk) : (settleJ X S).2.1.segs = X.segs ∧ (settleJ X S).2.1.most = X.most ∧ (settleJ X S).2.1.down = X.down := by
  unfold settleJ; simp only; split <;> exact ⟨rfl, rfl, rfl⟩
theorem Fit.seg {X : Jn} (fit : Fit X) {E : List Seg} (h : X.segs = E.map Seg.sg) : (∀ e ∈ E, e.first < 100 ∧ e.recs.length ≤ 1000000) ∧ E.length ≤ 1000000 := by
  refine ⟨fun e he => fit.first e.sg (by rw [h]; exact List.mem_map.2 ⟨e, he, rfl⟩), ?_⟩
  have := fit.segs
  rw [h, List.length_map] at this
  exact this
theorem Fit.wide {X : Jn} (fit : Fit X) {E : List Seg} (h : X.segs = E.map Seg.sg) : (∀ e ∈ E, e.first < 10000000000 ∧ e.recs.length ≤ 1000000) ∧ E.length ≤ 1000001 := by
  have := fit.seg h
  exact ⟨fun e he => ⟨by have := (this.1 e he).1; omega, (this.1 e he).2⟩, by omega⟩

set_option maxRecDepth 100000 in
set_option maxHeartbeats 4000000 in
theorem begin_j (w : World) (H Bk : Nat → Prop) (J D : Nat) (X : Jn) (S : Dk) (pv rv : Value) (b : List Int) (h : JAt w H J D X S) (fit : Fit X) (hp : Row .u8 Bk w pv (packB b)) (hBk : ∀ j, Bk j → ¬ H j)
    (hr : OwnSl w 5 1 rv b.length (b.map (Value.int .u8))) (hrH : ∀ j, rv.ownBlock = some j → ¬ H j) (hnx : nextOf X.segs < 100) :
    Calls Tryz.prog 59 #[.pointer (some ⟨J, 0, none⟩), pv, rv] w fun e w' => e = .returned (.int .i64 (beginJ X S b).1) ∧ Turn H w w' ∧ JAt w' (Plus (NF w H) w rv) J D (beginJ X S b).2.1 (beginJ X S b).2.2 := by
  have hset := settle_walk w H J D X S h fit
  obtain ⟨hs1, hs2, hs3⟩ := settleJ_segs X S
  have hp := hp.lt
  obtain ⟨ra, rc, hrv⟩ := hr.form
  subst hrv
  by_cases hc : (settleJ X S).1 = 0
  · rw [hc] at hset
    have ej : beginJ X S b = (appendC (settleJ X S).2.2 (nameS (nextOf X.segs)) (packB b), if appendC (settleJ X S).2.2 (nameS (nextOf X.segs)) (packB b) = 0 then pushX (settleJ X S).2.1 b else (settleJ X S).2.1, appendS (settleJ X S).2.2 (nameS (nextOf X.segs)) (packB b)) := by
      unfold beginJ; rw [if_neg (by rw [hc]; simp)]
    have hpx : pushX (settleJ X S).2.1 b = { (settleJ X S).2.1 with segs := X.segs ++ [⟨nextOf X.segs, [b]⟩] } := by unfold pushX; rw [hs1]
    rw [hpx] at ej
    clear hc hpx h
    have Hej := hide ej
    clear ej
    have hfx := fit
    generalize (settleJ X S).2.1 = X1 at *
    generalize (settleJ X S).2.2 = S1 at *
    obtain ⟨pa, pc, hpv⟩ := hp.slice
    subst hpv
    go_enter Tryz.func59, Tryz.ntmps59
    go_wp2_with (go_at_call 53; refine hset.mono ?_; rintro y w1 ⟨rfl, T1, J1⟩)
    obtain ⟨F, G, sv, E, d, m, hn, hF, hG⟩ := J1
    have hXE : X.segs = E.map Seg.sg := by rw [← hs1]; exact m.segs
    obtain ⟨hE, hEl⟩ := fit.wide hXE
    refine (Next_walk w1 G J D sv E X1 m hE hEl).mono ?_
    rintro y w2 ⟨rfl, t2⟩
    rw [hs1]
    have hEl' := (fit.seg hXE).2
    generalize hN : nextOf X.segs = N at *
    have d2 := d.turn t2 (fun _ _ _ h => h)
    have m2 := m.turn t2 (fun _ _ h => h)
    have r2 := (hr.turn T1 (fun k hk => hrH k hk)).turn t2 (fun _ _ h => h)
    have p2 := (hp.turn T1 (fun k hk => hBk k hk.1)).turn t2 (fun _ _ h => h)
    have s01 := T1.size
    have s12 := t2.size
    have tA : Turn (fun _ => False) w2 (w2.alloc (.cells #[.slice ra b.length rc] 33)) := (Turn.refl _ w2).alloc _
    have kA := heap_alloc_new w2 (.cells #[.slice ra b.length rc] 33)
    have zA : (w2.alloc (.cells #[.slice ra b.length rc] 33)).heap.size = w2.heap.size + 1 := by simp
    have tB : Turn (fun _ => False) (w2.alloc (.cells #[.slice ra b.length rc] 33)) ((w2.alloc (.cells #[.slice ra b.length rc] 33)).alloc (.cells #[.int .u64 (N : Int), .slice (some ⟨w2.heap.size, 0, none⟩) 1 1] 82)) := (Turn.refl _ _).alloc _
    have kB := heap_alloc_new (w2.alloc (.cells #[.slice ra b.length rc] 33)) (.cells #[.int .u64 (N : Int), .slice (some ⟨w2.heap.size, 0, none⟩) 1 1] 82)
    have kA2 := tB.same kA id
    have tAB := tA.then tB
    rw [zA] at kB
    have zB : ((w2.alloc (.cells #[.slice ra b.length rc] 33)).alloc (.cells #[.int .u64 (N : Int), .slice (some ⟨w2.heap.size, 0, none⟩) 1 1] 82)).heap.size = w2.heap.size + 2 := by simp
    clear tA kA zA tB
    go_wp2_with fail
    generalize (w2.alloc (.cells #[.slice ra b.length rc] 33)).alloc (.cells #[.int .u64 (N : Int), .slice (some ⟨w2.heap.size, 0, none⟩) 1 1] 82) = W at *
    have dW := d2.turn tAB.drew (fun _ _ _ h => h)
    have mW := m2.turn tAB.drew (fun _ _ h => h)
    have rW := r2.turn tAB.drew (fun _ _ h => h)
    have pW := p2.turn tAB.drew (fun _ _ h => h)
    have aJ : W.drew.cell? ⟨J, 0, none⟩ = some (.pointer (some ⟨D, 0, none⟩)) := cell_obj mW.obj 0
    have a0 : W.drew.cell? ⟨w2.heap.size + 1, 0, none⟩ = some (.int .u64 (N : Int)) := cell_obj kB 0
    have a1 : W.drew.cell? ⟨w2.heap.size + 1, 1, none⟩ = some (.slice (some ⟨w2.heap.size, 0, none⟩) 1 1) := cell_obj kB 1
    have zW : W.drew.heap.size = w2.heap.size + 2 := zB
    have kBW : W.drew.heap[w2.heap.size + 1]? = some (.cells #[.int .u64 (N : Int), .slice (some ⟨w2.heap.size, 0, none⟩) 1 1] 82 (0, 0)) := kB
    have kAW : W.drew.heap[w2.heap.size]? = some (.cells #[.slice ra b.length rc] 33 (0, 0)) := kA2
    have hn1 := name_walk' N hnx (.slice (some ⟨w2.heap.size, 0, none⟩) 1 1) W.drew
    have GJ : ¬ F J := fun q => hn J q m.home
    have GA : ∀ i, ¬ F (w2.heap.size + i) := fun i q => by have := (hF _ q).2; omega
    have TW : Turn H w W.drew := (T1.then (t2.mono (fun _ h => h.elim))).then (tAB.drew.mono (fun _ h => h.elim))
    clear d2 m2 r2 p2 kB kA2 zB tAB d
    go_region_held3 (fun u => u.cell? ⟨J, 0, none⟩ = some (.pointer (some ⟨D, 0, none⟩)) ∧ u.cell? ⟨w2.heap.size + 1, 0, none⟩ = some (.int .u64 (N : Int)) ∧ u.cell? ⟨w2.heap.size + 1, 1, none⟩ = some (.slice (some ⟨w2.heap.size, 0, none⟩) 1 1)) (first | exact ⟨aJ, a0, a1⟩ | exact ⟨bJ, b0, b1⟩ | exact ⟨gJ, g0, g1⟩ | go_keep)
      (first
      | (go_at_call 60; refine hn1.mono ?_; rintro y w3 ⟨rfl, t3⟩; have bJ := t3.cell aJ id; have b0 := t3.cell a0 id; have b1 := t3.cell a1 id; have d3 := dW.turn t3 (fun _ _ _ h => h); have p3 := pW.turn t3 (fun _ _ h => h))
      | (go_at_call 23; refine (Append_walk w3 D F _ S1 (nameB N) _ (packB b) (nameB_len N) d3 p3).mono ?_; rintro y w4 ⟨rfl, t4, d4⟩; have gJ := t4.cell bJ GJ; have g0 := t4.cell b0 (GA 1); have g1 := t4.cell b1 (GA 1)))
    have s3 := t3.size
    have s4 := t4.size
    have m4 := (mW.turn t3 (fun _ _ h => h)).turn t4 (fun j hg hf => hn j hf hg)
    have r4 := (rW.turn t3 (fun _ _ h => h)).turn t4 (fun k hk hf => by
      rcases (hF k hf).1 with q | q
      · exact hrH k hk q
      · obtain ⟨cur, hcur⟩ := hr.lt k hk
        have := (Array.getElem?_eq_some_iff.1 hcur).1
        omega)
    have kA4 := t4.same (t3.same kAW id) (GA 0)
    have kB4 := t4.same (t3.same kBW id) (GA 1)
    have d5 : DAt w4 D (fun j => NF w3 F j ∧ j < w4.heap.size) (appendS S1 (nameB N).data.toList (packB b)) := d4.mono (fun j hj hl => ⟨hj, hl⟩)
    have T4 : Turn H w w4 := (TW.then (t3.mono (fun _ h => h.elim))).trans t4 (fun j hj => (hF j hj).1)
    rw [nameB_list] at *
    clear hn1 mW rW pW p3 kAW kBW d3 d4 aJ a0 a1 bJ b0 b1 dW
    have hjm : X1 = ⟨X1.most, X.segs, X1.settled, X1.down⟩ := by rw [← hs1]
    have gG : ∀ j, G j → NF w H j ∧ j < w1.heap.size := hG
    have apF : ∀ j, NF w3 F j ∧ j < w4.heap.size → NF w H j := by
      rintro j ⟨hj | hj, _⟩
      · exact (hF j hj).1
      · exact .inr (by omega)
    have hrb : ∀ j, (Value.slice ra b.length rc).ownBlock = some j → j < w.heap.size ∧ ¬ H j := fun j hj => by
      obtain ⟨cur, hcur⟩ := hr.lt j hj
      exact ⟨(Array.getElem?_eq_some_iff.1 hcur).1, hrH j hj⟩
    by_cases hc : appendC S1 (nameS N) (packB b) = 0
    · have ej := unhide Hej
      rw [if_pos hc, hc] at ej
      rw [hc]
      clear hc Hej
      have Hej := hide ej
      clear ej
      generalize appendS S1 (nameS N) (packB b) = S2 at *
      go_wp2_with fail
      have tD : Turn (fun _ => False) w4 w4.drew := (Turn.refl _ _).drew
      have tC : Turn (fun _ => False) w4.drew (w4.drew.alloc (.cells #[.int .u64 (N : Int), .slice (some ⟨w2.heap.size, 0, none⟩) 1 1] 82)) := (Turn.refl _ _).alloc _
      have kC : (w4.drew.alloc (.cells #[.int .u64 (N : Int), .slice (some ⟨w2.heap.size, 0, none⟩) 1 1] 82)).heap[w4.heap.size]? = some (.cells #[.int .u64 (N : Int), .slice (some ⟨w2.heap.size, 0, none⟩) 1 1] 82 (0, 0)) := heap_alloc_new w4.drew _
      have zC : (w4.drew.alloc (.cells #[.int .u64 (N : Int), .slice (some ⟨w2.heap.size, 0, none⟩) 1 1] 82)).heap.size = w4.heap.size + 1 := by simp
      have tDC := tD.then tC
      have m5 := m4.turn tDC (fun _ _ h => h)
      have c2 : w4.drew.cell? ⟨J, 2, none⟩ = some sv := cell_obj m4.obj 2
      have c2a := tC.cell c2 id
      have f2 : w4.drew.frozen? ⟨J, 2, none⟩ = false := frozen_obj m4.obj 2
      have b0 : w4.drew.cell? ⟨w2.heap.size + 1, 0, none⟩ = some (.int .u64 (N : Int)) := cell_obj kB4 0
      have b1 : w4.drew.cell? ⟨w2.heap.size + 1, 1, none⟩ = some (.slice (some ⟨w2.heap.size, 0, none⟩) 1 1) := cell_obj kB4 1
      have hx := recs_one (G := fun j => (Value.slice ra b.length rc).ownBlock = some j ∨ j = w2.heap.size) w2.heap.size (tDC.same kA4 id) (r4.turn tDC (fun _ _ h => h)) (.inr rfl) (fun j hj => .inl hj)
      obtain ⟨sv', w6, hrun, hS6, t6⟩ := segs_push (e := ⟨N, .slice (some ⟨w2.heap.size, 0, none⟩) 1 1, [b]⟩) m5.seg hx (fun x hx' j hj he => by
        have hg := ((m5.seg.recs x hx').blk j hj).1
        simp [Value.ownBlock] at he
        have := (hG j hg).2
        omega) w4.heap.size kC hEl'
      obtain ⟨na, nc, hnv⟩ := hS6.slice
      rw [List.length_append, List.length_singleton] at hnv
      subst hnv
      have hsvJ : ∀ j, sv.ownBlock = some j → j ≠ J := m5.seg.own.neObj m5.obj (by decide)
      have ho6 := t6.same m5.obj (fun h => hsvJ J h rfl)
      have f6 : w6.frozen? ⟨J, 2, none⟩ = false := frozen_obj ho6 2
      have q6 : w6.cell? ⟨J, 2, none⟩ = some sv := cell_obj ho6 2
      obtain ⟨m7, t7⟩ := jmem_segs (D := D) { X1 with segs := X.segs ++ [⟨N, [b]⟩] } ho6 (hS6.mono (fun j hj _ => hj)) (.inl m5.home) (by rw [hXE]; simp [Seg.sg])
      have c2w : w4.cell? ⟨J, 2, none⟩ = some sv := c2
      have hJ4 : J < w4.heap.size := (Array.getElem?_eq_some_iff.1 m4.obj).1
      have hJn : ¬ J = w4.heap.size := by omega
      have hFG : ∀ j, NF w3 F j ∧ j < w4.heap.size → ¬ G j := by
        rintro j ⟨q | q, _⟩ hg
        · exact hn j q hg
        · have := (hG j hg).2; omega
      have d7 := ((d5.turn tDC (fun _ _ _ h => h)).turn t6 (fun j hj _ hs => hFG j hj (m5.seg.blk j hs))).turn t7 (fun j hj _ hs => hFG j hj (by rw [hs]; exact m5.home))
      have T7 := ((T4.then (tDC.mono (fun _ h => h.elim))).trans t6 (fun j hj => (hG j (m5.seg.blk j hj)).1)).trans t7 (fun j hj => by rw [hj]; exact (hG J m5.home).1)
      have z6 := t6.size
      have J7 := jat_mk (H := Plus (NF w H) w (.slice ra b.length rc)) d7 m7 (fun j hj hg hl => by
        rcases hg with hg | hg | hg
        · exact hFG j hj hg
        · rcases hj.1 with q | q
          · rcases hg with hg | hg
            · rcases (hF j q).1 with q' | q'
              · exact (hrb j hg).2 q'
              · have := (hrb j hg).1; omega
            · have := (hF j q).2; omega
          · rcases hg with hg | hg
            · have := (hrb j hg).1; omega
            · omega
        · rw [zC] at hg
          have := hj.2; omega) (fun j hj hl => .inl (apF j hj)) (fun j hj hl => by
        rcases hj with hj | hj | hj
        · exact .inl (hG j hj).1
        · rcases hj with hj | hj
          · exact .inr (.inl hj)
          · exact .inl (.inr (by omega))
        · rw [zC] at hj
          exact .inl (.inr (by omega)))
      have HT7 := hide T7
      have HJ7 := hide J7
      clear T7 J7 d7 m7 t7 t6 hS6 hx m5 kC ho6 m4 r4 kA4 kB4 d5 hr hp fit
      go_region_law (refine step_append_run rfl (.tmp 35) (.tmp 37) 77 rfl _ _ _ _ rfl rfl hrun ?_)
      all_goals
        go_wp2
        go_ret
        rw [unhide Hej]
        exact ⟨rfl, unhide HT7, unhide HJ7⟩
    · have ej := unhide Hej
      rw [if_neg hc] at ej
      clear Hej
      have hb : (appendC S1 (nameS N) (packB b) != 0) = true := by simpa using hc
      have fin : JAt w4 (Plus (NF w H) w (.slice ra b.length rc)) J D X1 (appendS S1 (nameS N) (packB b)) := jat_mk d5 m4 (fun j hj hg hl => by
        rcases hj.1 with q | q
        · exact hn j q hg
        · have := (hG j hg).2; omega) (fun j hj hl => .inl (apF j hj)) (fun j hj hl => .inl (hG j hj).1)
      clear hc
      have Hej := hide ej
      clear ej
      generalize appendC S1 (nameS N) (packB b) = y at *
      generalize appendS S1 (nameS N) (packB b) = S2 at *
      go_wp2
      go_ret
      rw [unhide Hej]
      exact ⟨rfl, T4, fin⟩
  · have ej : beginJ X S b = settleJ X S := by unfold beginJ; rw [if_pos hc]
    rw [ej]
    have hb : ((settleJ X S).1 != 0) = true := by simpa using hc
    clear hc ej h hs1 hs2 hs3 hp hr
    generalize (settleJ X S).1 = x at *
    generalize (settleJ X S).2.1 = X1 at *
    generalize (settleJ X S).2.2 = S1 at *
    generalize (packB b).length = pl at *
    go_enter Tryz.func59, Tryz.ntmps59
    go_wp2_with (go_at_call 53; refine hset.mono ?_; rintro y w1 ⟨rfl, T1, J1⟩)
    go_ret
    exact ⟨rfl, T1, J1.mono (fun j hj _ => .inl hj)⟩
end Go.Proofs.YthikiahhochjmaaGreatDoor
