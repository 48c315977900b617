/- All segments of a disk. -/
import Derived.Test.YthikiahhochjmaaGreatDoorJRead
import Derived.WalkMore
namespace Go.Proofs.YthikiahhochjmaaGreatDoor
open Go.RowKit Go.Maps Go.Sort
set_option linter.unusedVariables false
set_option linter.unusedSimpArgs false

theorem findF_step (S : Dk) (n : Nm) (r : List Nm) (all : List Sg) (en : Nat × Nat) : findF S (n :: r) all en =
    if markB n then
      match numOf n with
      | none => (12, [], 0, 0)
      | some f => if 0 < all.length ∧ follows f all en = false then (12, [], 0, 0) else if (readG S f).1 ≠ 0 then ((readG S f).1, [], 0, 0) else findF S r (all ++ [⟨f, (readG S f).2.1⟩]) (readG S f).2.2
    else findF S r all en := rfl
/-- what numberOf answers at each of these names, from a world on -/
def Numbers (w : World) (l : List Nm) : Prop :=
  ∀ n ∈ l, ∀ u : World, Turn (fun _ => False) w u → Calls Tryz.prog 65 #[.string ⟨n.toArray⟩] u fun e w' => e = .returned (numR n) ∧ Turn (fun _ => False) u w'
theorem Numbers.turn {w w1 : World} {l : List Nm} (h : Numbers w l) (t : Turn (fun _ => False) w w1) : Numbers w1 l := fun n hn u hu => h n hn u (t.then hu)

theorem own_cell {w : World} {e : TypeId} {v : Value} {n : Nat} {xs : List Value} (h : OwnSl w e 1 v n xs) (k : Nat) (u : Value) (hu : xs[k]? = some u) :
    ∃ g off c, v = .slice (some ⟨g, off, none⟩) n c ∧ w.cell? ⟨g, off + k, none⟩ = some u ∧ v.ownBlock = some g := by
  have hk : k < xs.length := (List.getElem?_eq_some_iff.1 hu).1
  have h' := h
  rcases h.2 with ⟨rfl, h0⟩ | ⟨g, off, cap, cur, rfl, _⟩
  · have := h.1; omega
  · exact ⟨g, off, cap, rfl, h'.cells k u hu, rfl⟩
theorem readG_len {S : Dk} (h : Well S) (f : Nat) : 10 * (readG S f).2.1.length ≤ S.size := by
  unfold readG
  split
  · simp
  · split
    · simp
    · exact Nat.le_trans (scan_bounds _ (readD S (nameS f)) (Nat.le_refl _)).2 (readD_len h _)
theorem SegM.notEnd {w : World} {G F : Nat → Prop} {sv : Value} {E : List Seg} (h : SegM w G sv E) {w' : World} (T : Turn F w w') (hF : ∀ j, G j → ¬ F j) : SegM w' G sv E := h.turn T hF

set_option maxRecDepth 100000 in
set_option maxHeartbeats 8000000 in
theorem find_j (w : World) (F : Nat → Prop) (D : Nat) (S : Dk) (d : DAt w D F S) (hby : ∀ x ∈ S.fs, Bytes x.d) (hsz : S.size ≤ 1000000) (hN : Numbers w (namesL S)) (hf : ∀ n ∈ namesL S, markB n = true → ∀ v, numOf n = some v → v < 100) :
    Calls Tryz.prog 50 #[.pointer (some ⟨D, 0, none⟩)] w fun e w' => ∃ sv E, e = .returned (.tuple #[sv, .agg #[.int .i64 ((findJ S).2.2.1 : Nat), .int .i64 ((findJ S).2.2.2 : Nat)], .int .i64 (findJ S).1]) ∧
      SegM w' (fun j => w.heap.size ≤ j) sv E ∧ E.map Seg.sg = (findJ S).2.1 ∧ Turn (fun _ => False) w w' := by
  have hnl : (namesL S).length ≤ 64 := by
    have := d.well.files
    unfold namesL; split
    · simp
    · rw [List.length_map]; exact this
  have tA : Turn (fun _ => False) w (w.alloc (.cells #[.int .i64 0, .int .i64 0] 90)) := (Turn.refl _ w).alloc _
  have kA := heap_alloc_new w (.cells #[.int .i64 0, .int .i64 0] 90)
  have hnm := Names_walk _ D F S (d.turn tA (fun _ _ _ h => h))
  have zA : (w.alloc (.cells #[.int .i64 0, .int .i64 0] 90)).heap.size = w.heap.size + 1 := by simp
  go_enter Tryz.func50, Tryz.ntmps50
  go_wp2_with fail
  go_step3
  go_wp2_with fail
  refine hnm.mono ?_
  rintro y w1 ⟨nv, rfl, hnr, t1⟩
  rw [zA] at hnr
  have ho := OwnSl.of_owns hnr
  obtain ⟨na, nc, rfl⟩ := ho.form
  have k1 := t1.same kA id
  have tB : Turn (fun _ => False) w1 (w1.alloc (.cells #[.int .i64 0, .int .i64 0] 90)) := (Turn.refl _ w1).alloc _
  have kB := heap_alloc_new w1 (.cells #[.int .i64 0, .int .i64 0] 90)
  have T1 := (tA.then t1).then tB
  have k1B := tB.same k1 id
  have hoB := ho.turn tB (fun _ _ h => h)
  have s1 := t1.size
  rw [zA] at s1
  have hnrlt : ∀ j, (Value.slice na (namesL S).length nc).ownBlock = some j → w.heap.size + 1 ≤ j := fun j hj => own_base hnr j hj
  clear hnm hnr k1 kA zA tA t1 ho tB
  go_wp2_with fail
  go_step3
  have hB0 : (w1.alloc (.cells #[.int .i64 0, .int .i64 0] 90)).heap.size = w1.heap.size + 1 := by simp
  generalize hWB : w1.alloc (.cells #[.int .i64 0, .int .i64 0] 90) = WB at *
  clear hWB
  generalize hEB : w1.heap.size = eb at *
  clear hEB
  go_wp2_with fail
  go_loopw [6, 7, 21] (fun fault all i wr => ∃ (k : Nat) (E : List Seg) (en : Nat × Nat), fault = .int .i64 (namesC S) ∧ i = .int .i64 (k : Int) ∧ k ≤ (namesL S).length ∧ E.length ≤ k ∧ SegM wr (fun j => eb + 1 ≤ j) all E ∧ wr.heap[eb]? = some (.cells #[.int .i64 (en.1 : Int), .int .i64 (en.2 : Int)] 90 (0, 0)) ∧
      wr.heap[w.heap.size]? = some (.cells #[.int .i64 0, .int .i64 0] 90 (0, 0)) ∧ Turn (fun j => j = eb) WB wr ∧ eb + 1 ≤ wr.heap.size ∧ (∀ e ∈ E, e.first < 100 ∧ e.recs.length ≤ 1000000) ∧ Hid (findF S (namesL S) [] (0, 0) = findF S ((namesL S).drop k) (E.map Seg.sg) en)) (fun _ _ i _ => (namesL S).length - (intOf i).toNat)
  case atStart => exact ⟨0, [], (0, 0), rfl, rfl, Nat.zero_le _, Nat.le_refl _, segM_none _ _, kB, k1B, Turn.refl _ _, by omega, (by simp), hide (by simp)⟩
  case round =>
    obtain ⟨k, E, en, rfl, rfl, hk, hEk, hS, hend, hres, hT, hszr, hE, hF⟩ := hrel
    obtain ⟨sa, sc, hsv⟩ := hS.slice
    subst hsv
    by_cases hlt : k < (namesL S).length
    · obtain ⟨n, hn⟩ : ∃ n, (namesL S)[k]? = some n := ⟨(namesL S)[k], List.getElem?_eq_getElem _⟩
      have hnm : n ∈ namesL S := List.mem_of_getElem? hn
      have hdn : namesC S = 0 := by
        unfold namesC
        unfold namesL at hlt
        split
        · rename_i hd; rw [if_pos hd] at hlt; simp at hlt
        · rfl
      obtain ⟨g, off, c', hna, hnc, hgb⟩ := own_cell hoB k (encStr n) (by rw [List.getElem?_map, hn]; rfl)
      simp only [Value.slice.injEq, true_and] at hna
      obtain ⟨rfl, rfl⟩ := hna
      have hge : ¬ g = eb := fun he => by
        have := hoB.neObj kB (by decide) g rfl
        exact this he
      have p0 := hT.cell hnc hge
      rw [show encStr n = .string ⟨n.toArray⟩ from rfl] at p0
      have hTw : Turn (fun _ => False) w wr := T1.trans hT (fun j hj => .inr (by omega))
      have hnum := hN n hnm
      have hdrop : (namesL S).drop k = n :: (namesL S).drop (k + 1) := by
        rw [List.drop_eq_getElem_cons hlt]
        have := (List.getElem?_eq_some_iff.1 hn).2
        rw [this]
      rw [hdrop, findF_step] at hF
      have hF := unhide hF
      have hpre := fun u => prefix_walk ⟨n.toArray⟩ u
      rw [show (⟨n.toArray⟩ : ByteArray).data.toList = n from rfl] at hpre
      unfold numR at hnum
      rw [hdn]
      have hnl' : (namesL S).length ≤ 64 := hnl
      clear hn hnc hdrop
      by_cases hmk : markB n = true
      · rw [if_pos hmk] at hF
        rw [hmk] at hpre
        have hfl := hf n hnm hmk
        cases hno : numOf n with
        | none =>
          rw [hno] at hF hnum
          simp only at hF
          have ej : findJ S = (12, [], 0, 0) := by unfold findJ; rw [if_neg (by rw [hdn]; simp)]; exact hF
          have Hej := hide ej
          clear ej hF hmk hno hfl
          generalize hLn : (namesL S).length = LN at *
          simp only [Option.getD_none, Option.isSome_none] at hnum
          go_wp2_with (first
            | (go_at_call 65; refine (hnum _ hTw).mono ?_; rintro y w2 ⟨rfl, t2⟩; have k2 := t2.same hres id; have r0 := cell_obj k2 0; have r1 := cell_obj k2 1; have f0 := frozen_obj k2 0; have f1 := frozen_obj k2 1)
            | (go_at_call 66; refine (hpre _).mono ?_; rintro y w3 ⟨rfl, hw⟩; have hw := hw.symm; subst hw))
          obtain ⟨k3, t3⟩ := pair_set k2 (.int .i64 0) (.int .i64 0)
          have tw : Turn (fun _ => False) w _ := (hTw.then t2).trans t3 (fun j hj => .inr (by omega))
          generalize (w2.setCell ⟨w.heap.size, 0, none⟩ (.int .i64 0)).setCell ⟨w.heap.size, 1, none⟩ (.int .i64 0) = W3 at *
          have z0 := cell_obj k3 0
          have z1 := cell_obj k3 1
          try rw [Exit.noGoto_ret]
          refine bodyPost_ret (v := .tuple #[.slice none 0 0, .agg #[.int .i64 0, .int .i64 0], .int .i64 12]) (by simp [results, Tryz.results50, z0, z1, go_sem]) rfl ?_
          rw [unhide Hej]
          exact ⟨_, [], rfl, segM_none _ _, rfl, tw⟩
        | some f =>
          rw [hno] at hF hnum
          simp only at hF
          have hf100 : f < 100 := hfl f hno
          simp only [Option.getD_some, Option.isSome_some] at hnum
          have hE2 : ∀ e ∈ E, e.first < 10000000000 ∧ e.recs.length ≤ 1000000 := fun e he => ⟨by have := (hE e he).1; omega, (hE e he).2⟩
          have e0 := cell_obj hend 0
          have e1 := cell_obj hend 1
          have hfo : ∀ u, Turn (fun _ => False) wr u → Calls Tryz.prog 67 #[.int .u64 (f : Int), .slice sa E.length sc, .agg #[.int .i64 (en.1 : Int), .int .i64 (en.2 : Int)]] u fun e w' => e = .returned (.bool (follows f (E.map Seg.sg) en)) ∧ Turn (fun _ => False) u w' := fun u hu => follows_walk u _ _ E f en (hS.turn hu (fun _ _ h => h)) hE2 (by omega)
          clear hno hfl hmk
          by_cases hbad : 0 < (E.map Seg.sg).length ∧ follows f (E.map Seg.sg) en = false
          · rw [if_pos hbad] at hF
            have ej : findJ S = (12, [], 0, 0) := by unfold findJ; rw [if_neg (by rw [hdn]; simp)]; exact hF
            have Hej := hide ej
            obtain ⟨hb0, hb1⟩ := hbad
            rw [List.length_map] at hb0
            rw [hb1] at hfo
            clear ej hF hb1
            have hb0i : (0 : Int) < (E.length : Int) := by omega
            generalize hLn : (namesL S).length = LN at *
            generalize hEn : E.length = En at *
            go_wp2_with (first
              | (go_at_call 65; refine (hnum _ hTw).mono ?_; rintro y w2 ⟨rfl, t2⟩; have e0' := t2.cell e0 id; have e1' := t2.cell e1 id)
              | (go_at_call 66; refine (hpre _).mono ?_; rintro y w3 ⟨rfl, hw⟩; have hw := hw.symm; subst hw)
              | (go_at_call 67; refine (hfo _ t2).mono ?_; rintro y w4 ⟨rfl, t4⟩; have k2 := (t2.then t4).same hres id; have r0 := cell_obj k2 0; have r1 := cell_obj k2 1; have f0 := frozen_obj k2 0; have f1 := frozen_obj k2 1))
            obtain ⟨k3, t3⟩ := pair_set k2 (.int .i64 0) (.int .i64 0)
            have tw : Turn (fun _ => False) w _ := ((hTw.then t2).then t4).trans t3 (fun j hj => .inr (by omega))
            generalize (w4.setCell ⟨w.heap.size, 0, none⟩ (.int .i64 0)).setCell ⟨w.heap.size, 1, none⟩ (.int .i64 0) = W3 at *
            have z0 := cell_obj k3 0
            have z1 := cell_obj k3 1
            try rw [Exit.noGoto_ret]
            refine bodyPost_ret (v := .tuple #[.slice none 0 0, .agg #[.int .i64 0, .int .i64 0], .int .i64 12]) (by simp [results, Tryz.results50, z0, z1, go_sem]) rfl ?_
            rw [unhide Hej]
            exact ⟨_, [], rfl, segM_none _ _, rfl, tw⟩
          · rw [if_neg hbad] at hF
            have hgo : Hid (¬ (0 < E.length ∧ follows f (E.map Seg.sg) en = false)) := hide (by rw [List.length_map] at hbad; exact hbad)
            have hrl := readG_len d.well f
            have hri : (readG S f).1 = 0 → (readG S f).2.1.length ≤ 1000000 := fun _ => by omega
            have tS : ∀ u : World, Turn (fun _ => False) u (u.alloc (.cells #[.int .u64 (f : Int), .slice none 0 0] 82)) := fun u => (Turn.refl _ u).alloc _
            have hread : ∀ u, Turn (fun _ => False) wr u → Calls Tryz.prog 68 #[.pointer (some ⟨u.heap.size, 0, none⟩), .pointer (some ⟨D, 0, none⟩)] (u.alloc (.cells #[.int .u64 (f : Int), .slice none 0 0] 82)) fun e w' => e = .returned (.tuple #[.agg #[.int .i64 ((readG S f).2.2.1 : Nat), .int .i64 ((readG S f).2.2.2 : Nat)], .int .i64 (readG S f).1]) ∧ Turn (fun j => j = u.heap.size) (u.alloc (.cells #[.int .u64 (f : Int), .slice none 0 0] 82)) w' ∧
                ∃ x, w'.heap[u.heap.size]? = some (.cells #[.int .u64 (f : Int), x] 82 (0, 0)) ∧ ((readG S f).1 = 0 → Lists w' (u.heap.size + 1) x (readG S f).2.1) := fun u hu => by
              have dU := (((d.mono (G := fun j => F j ∧ j < w.heap.size) (fun j hj hl => ⟨hj, hl⟩)).turn hTw (fun _ _ _ h => h)).turn hu (fun _ _ _ h => h)).turn (tS u) (fun _ _ _ h => h)
              have := read_j _ _ D u.heap.size S f hf100 dU (heap_alloc_new u _) hby
              rwa [show (u.alloc (.cells #[.int .u64 (f : Int), .slice none 0 0] 82)).heap.size = u.heap.size + 1 by simp] at this
            have HF := hide hF
            clear hF hbad
            have key : ∀ (u : World), Turn (fun _ => False) wr u → True := fun _ _ => trivial
            by_cases hE0 : E.length = 0
            · generalize hLn : (namesL S).length = LN at *
              have hE0i : ¬ (0 : Int) < (E.length : Int) := by omega
              clear hE0
              go_wp2_with (first
                | (go_at_call 65; refine (hnum _ hTw).mono ?_; rintro y w2 ⟨rfl, t2⟩; have e0' := t2.cell e0 id; have e1' := t2.cell e1 id)
                | (go_at_call 66; refine (hpre _).mono ?_; rintro y w3 ⟨rfl, hw⟩; have hw := hw.symm; subst hw))
              have tU : Turn (fun _ => False) wr w2 := t2
              have sU := tU.size
              have hSU := (hS.turn tU (fun _ _ h => h)).turn (tS w2) (fun _ _ h => h)
              have hendU := (tS w2).same (tU.same hend id) id
              have hresU := (tS w2).same (tU.same hres id) id
              have hltE : eb < w2.heap.size := (Array.getElem?_eq_some_iff.1 (tU.same hend id)).1
              have hltR : w.heap.size < w2.heap.size := (Array.getElem?_eq_some_iff.1 (tU.same hres id)).1
              have hTU : Turn (fun j => j = eb) WB (w2.alloc (.cells #[.int .u64 (f : Int), .slice none 0 0] 82)) := hT.then ((tU.then (tS w2)).mono (fun _ h => h.elim))
              refine (hread w2 tU).mono ?_
              rintro y w5 ⟨rfl, t5, x, hsb, hlx⟩
              have hend5 := t5.same hendU (by omega)
              have hres5 := t5.same hresU (by omega)
              have q0 := cell_obj hend5 0
              have q1 := cell_obj hend5 1
              have g0 := frozen_obj hend5 0
              have g1 := frozen_obj hend5 1
              obtain ⟨k6, t6⟩ := pair_set hend5 (.int .i64 ((readG S f).2.2.1 : Int)) (.int .i64 ((readG S f).2.2.2 : Int))
              have hres6 := t6.same hres5 (by omega)
              have hsb6 := t6.same hsb (by omega)
              have hSlt : ∀ j, (Value.slice sa E.length sc).ownBlock = some j → j < w2.heap.size := fun j hj => by
                obtain ⟨cur, hc⟩ := (hS.turn tU (fun _ _ h => h)).own.lt j hj
                exact (Array.getElem?_eq_some_iff.1 hc).1
              have hS5 := (hS.turn tU (fun _ _ h => h)).mono (G' := fun j => eb + 1 ≤ j ∧ j < w2.heap.size) (fun j hj hl => ⟨hj, hl⟩)
              have hS6 := ((hS5.turn (tS w2) (fun _ _ h => h)).turn t5 (fun j hj hh => by omega)).turn t6 (fun j hj hh => by omega)
              have s5 := t5.size
              rw [show (w2.alloc (.cells #[.int .u64 (f : Int), .slice none 0 0] 82)).heap.size = w2.heap.size + 1 by simp] at s5
              have hT6 : Turn (fun j => j = eb) WB _ := (hTU.trans t5 (fun j hj => .inr (by have := hT.size; omega))).then t6
              have s6 := t6.size
              by_cases hc : (readG S f).1 = 0
              · have hL := hlx hc
                obtain ⟨xa, xc, hxv⟩ := hL.slice
                subst hxv
                have hF := unhide HF
                rw [if_neg (by rw [hc]; simp)] at hF
                have hri2 := hri hc
                rw [hc]
                have n0 := cell_obj hsb 0
                have n1 := cell_obj hsb 1
                have ne1 : ¬ w2.heap.size = eb := by omega
                have ne2 : ¬ eb = w2.heap.size := by omega
                have hL6 := hL.turn t6 (fun j hj hh => by omega)
                have tC : Turn (fun _ => False) ((w5.setCell ⟨eb, 0, none⟩ (.int .i64 ((readG S f).2.2.1 : Int))).setCell ⟨eb, 1, none⟩ (.int .i64 ((readG S f).2.2.2 : Int))) (((w5.setCell ⟨eb, 0, none⟩ (.int .i64 ((readG S f).2.2.1 : Int))).setCell ⟨eb, 1, none⟩ (.int .i64 ((readG S f).2.2.2 : Int))).alloc (.cells #[.int .u64 (f : Int), .slice xa (readG S f).2.1.length xc] 82)) := (Turn.refl _ _).alloc _
                have kC := heap_alloc_new ((w5.setCell ⟨eb, 0, none⟩ (.int .i64 ((readG S f).2.2.1 : Int))).setCell ⟨eb, 1, none⟩ (.int .i64 ((readG S f).2.2.2 : Int))) (.cells #[.int .u64 (f : Int), .slice xa (readG S f).2.1.length xc] 82)
                have z6 : ((w5.setCell ⟨eb, 0, none⟩ (.int .i64 ((readG S f).2.2.1 : Int))).setCell ⟨eb, 1, none⟩ (.int .i64 ((readG S f).2.2.2 : Int))).heap.size = w5.heap.size := by simp [World.setCell]
                obtain ⟨sv', w7, hrun, hS7, t7⟩ := segs_push (e := ⟨f, .slice xa (readG S f).2.1.length xc, (readG S f).2.1⟩) (hS6.turn tC (fun _ _ h => h)) (recs_of_lists (hL6.turn tC (fun _ _ h => h))) (fun x hx j hj he => by
                  have h1 := ((hS5.recs x hx).blk j hj).1
                  obtain ⟨vs, _, h2, _⟩ := hL
                  have := h2 j he
                  omega) _ kC (by omega)
                rw [z6] at hrun
                have hend7 := t7.same (tC.same k6 id) (fun hh => by have := hSlt eb hh; have := hS5.blk eb hh; omega)
                have hres7 := t7.same (tC.same hres6 id) (fun hh => by have := hS5.blk _ hh; omega)
                have hT7 := (hT6.then (tC.mono (fun _ h => h.elim))).trans t7 (fun j hj => .inr (by have := (hS5.blk j hj).1; omega))
                have s7 := t7.size
                have zC : (((w5.setCell ⟨eb, 0, none⟩ (.int .i64 ((readG S f).2.2.1 : Int))).setCell ⟨eb, 1, none⟩ (.int .i64 ((readG S f).2.2.2 : Int))).alloc (.cells #[.int .u64 (f : Int), .slice xa (readG S f).2.1.length xc] 82)).heap.size = w5.heap.size + 1 := by simp [World.setCell]
                rw [zC] at s7 hS7
                have Hrel := hide (And.intro (hS7.mono (G' := fun j => eb + 1 ≤ j) (fun j hj hl => by rcases hj with hj | hj | hj <;> omega)) (And.intro hend7 (And.intro hres7 hT7)))
                have HF2 := hide hF
                clear hF HF hS7 hend7 hres7 hT7 hT6 hS6 hS5 hSU hTU hL hL6 tC kC t7 t6 t5 hsb6 hend5 hres5 hres6 k6 hendU hresU hread hS
                go_wp2_with (at_builtin; refine list_append_run rfl _ _ 77 rfl _ _ _ _ rfl rfl hrun ?_)
                obtain ⟨r1, r2, r3, r4⟩ := unhide Hrel
                refine ⟨⟨k + 1, E ++ [⟨f, .slice xa (readG S f).2.1.length xc, (readG S f).2.1⟩], (readG S f).2.2, rfl, by go_num, by omega, by simp; omega, r1, r2, r3, r4, by omega, fun e he => ?_, ?_⟩, by simp [intOf]; omega⟩
                · rcases List.mem_append.1 he with he | he
                  · exact hE e he
                  · simp at he; subst he; exact ⟨hf100, hri2⟩
                · refine hide ?_
                  rw [List.map_append]
                  exact unhide HF2
              · have hF := unhide HF
                rw [if_pos hc] at hF
                have ej : findJ S = ((readG S f).1, [], 0, 0) := by unfold findJ; rw [if_neg (by rw [hdn]; simp)]; exact hF
                have Hej := hide ej
                have hne : ((readG S f).1 != 0) = true := by simpa using hc
                have k2 := hres6
                have R0 := cell_obj hres5 0
                have R1 := cell_obj hres5 1
                have F0 := frozen_obj hres5 0
                have F1 := frozen_obj hres5 1
                have ne1 : ¬ w.heap.size = eb := by omega
                have ne2 : ¬ eb = w.heap.size := by omega
                have hTw6 : Turn (fun _ => False) w _ := T1.trans hT6 (fun j hj => .inr (by omega))
                clear hF ej hS6 hS5 hSU HF hsb6 hres5 hlx hE2 hri hgo
                generalize (readG S f).1 = rc at *
                generalize (readG S f).2.2.1 = wh at *
                generalize (readG S f).2.2.2 = tn at *
                go_wp2
                obtain ⟨k3, t3⟩ := pair_set k2 (.int .i64 0) (.int .i64 0)
                have tw : Turn (fun _ => False) w _ := hTw6.trans t3 (fun j hj => .inr (by omega))
                generalize (((w5.setCell ⟨eb, 0, none⟩ (.int .i64 (wh : Int))).setCell ⟨eb, 1, none⟩ (.int .i64 (tn : Int))).setCell ⟨w.heap.size, 0, none⟩ (.int .i64 0)).setCell ⟨w.heap.size, 1, none⟩ (.int .i64 0) = W3 at *
                have z0 := cell_obj k3 0
                have z1 := cell_obj k3 1
                try rw [Exit.noGoto_ret]
                refine bodyPost_ret (v := .tuple #[.slice none 0 0, .agg #[.int .i64 0, .int .i64 0], .int .i64 rc]) (by simp [results, Tryz.results50, z0, z1, go_sem]) rfl ?_
                rw [unhide Hej]
                exact ⟨_, [], rfl, segM_none _ _, rfl, tw⟩
            · have hfw : follows f (E.map Seg.sg) en = true := by
                have := unhide hgo
                cases hq : follows f (E.map Seg.sg) en
                · exact absurd ⟨by omega, hq⟩ this
                · rfl
              rw [hfw] at hfo
              generalize hLn : (namesL S).length = LN at *
              have hE0i : (0 : Int) < (E.length : Int) := by omega
              clear hE0 hfw
              go_wp2_with (first
                | (go_at_call 65; refine (hnum _ hTw).mono ?_; rintro y w2 ⟨rfl, t2⟩; have e0' := t2.cell e0 id; have e1' := t2.cell e1 id)
                | (go_at_call 66; refine (hpre _).mono ?_; rintro y w3 ⟨rfl, hw⟩; have hw := hw.symm; subst hw)
                | (go_at_call 67; refine (hfo _ t2).mono ?_; rintro y w4 ⟨rfl, t4⟩))
              have tU : Turn (fun _ => False) wr w4 := (t2.then t4)
              have sU := tU.size
              have hSU := (hS.turn tU (fun _ _ h => h)).turn (tS w4) (fun _ _ h => h)
              have hendU := (tS w4).same (tU.same hend id) id
              have hresU := (tS w4).same (tU.same hres id) id
              have hltE : eb < w4.heap.size := (Array.getElem?_eq_some_iff.1 (tU.same hend id)).1
              have hltR : w.heap.size < w4.heap.size := (Array.getElem?_eq_some_iff.1 (tU.same hres id)).1
              have hTU : Turn (fun j => j = eb) WB (w4.alloc (.cells #[.int .u64 (f : Int), .slice none 0 0] 82)) := hT.then ((tU.then (tS w4)).mono (fun _ h => h.elim))
              refine (hread w4 tU).mono ?_
              rintro y w5 ⟨rfl, t5, x, hsb, hlx⟩
              have hend5 := t5.same hendU (by omega)
              have hres5 := t5.same hresU (by omega)
              have q0 := cell_obj hend5 0
              have q1 := cell_obj hend5 1
              have g0 := frozen_obj hend5 0
              have g1 := frozen_obj hend5 1
              obtain ⟨k6, t6⟩ := pair_set hend5 (.int .i64 ((readG S f).2.2.1 : Int)) (.int .i64 ((readG S f).2.2.2 : Int))
              have hres6 := t6.same hres5 (by omega)
              have hsb6 := t6.same hsb (by omega)
              have hSlt : ∀ j, (Value.slice sa E.length sc).ownBlock = some j → j < w4.heap.size := fun j hj => by
                obtain ⟨cur, hc⟩ := (hS.turn tU (fun _ _ h => h)).own.lt j hj
                exact (Array.getElem?_eq_some_iff.1 hc).1
              have hS5 := (hS.turn tU (fun _ _ h => h)).mono (G' := fun j => eb + 1 ≤ j ∧ j < w4.heap.size) (fun j hj hl => ⟨hj, hl⟩)
              have hS6 := ((hS5.turn (tS w4) (fun _ _ h => h)).turn t5 (fun j hj hh => by omega)).turn t6 (fun j hj hh => by omega)
              have s5 := t5.size
              rw [show (w4.alloc (.cells #[.int .u64 (f : Int), .slice none 0 0] 82)).heap.size = w4.heap.size + 1 by simp] at s5
              have hT6 : Turn (fun j => j = eb) WB _ := (hTU.trans t5 (fun j hj => .inr (by have := hT.size; omega))).then t6
              have s6 := t6.size
              by_cases hc : (readG S f).1 = 0
              · have hL := hlx hc
                obtain ⟨xa, xc, hxv⟩ := hL.slice
                subst hxv
                have hF := unhide HF
                rw [if_neg (by rw [hc]; simp)] at hF
                have hri2 := hri hc
                rw [hc]
                have n0 := cell_obj hsb 0
                have n1 := cell_obj hsb 1
                have ne1 : ¬ w4.heap.size = eb := by omega
                have ne2 : ¬ eb = w4.heap.size := by omega
                have hL6 := hL.turn t6 (fun j hj hh => by omega)
                have tC : Turn (fun _ => False) ((w5.setCell ⟨eb, 0, none⟩ (.int .i64 ((readG S f).2.2.1 : Int))).setCell ⟨eb, 1, none⟩ (.int .i64 ((readG S f).2.2.2 : Int))) (((w5.setCell ⟨eb, 0, none⟩ (.int .i64 ((readG S f).2.2.1 : Int))).setCell ⟨eb, 1, none⟩ (.int .i64 ((readG S f).2.2.2 : Int))).alloc (.cells #[.int .u64 (f : Int), .slice xa (readG S f).2.1.length xc] 82)) := (Turn.refl _ _).alloc _
                have kC := heap_alloc_new ((w5.setCell ⟨eb, 0, none⟩ (.int .i64 ((readG S f).2.2.1 : Int))).setCell ⟨eb, 1, none⟩ (.int .i64 ((readG S f).2.2.2 : Int))) (.cells #[.int .u64 (f : Int), .slice xa (readG S f).2.1.length xc] 82)
                have z6 : ((w5.setCell ⟨eb, 0, none⟩ (.int .i64 ((readG S f).2.2.1 : Int))).setCell ⟨eb, 1, none⟩ (.int .i64 ((readG S f).2.2.2 : Int))).heap.size = w5.heap.size := by simp [World.setCell]
                obtain ⟨sv', w7, hrun, hS7, t7⟩ := segs_push (e := ⟨f, .slice xa (readG S f).2.1.length xc, (readG S f).2.1⟩) (hS6.turn tC (fun _ _ h => h)) (recs_of_lists (hL6.turn tC (fun _ _ h => h))) (fun x hx j hj he => by
                  have h1 := ((hS5.recs x hx).blk j hj).1
                  obtain ⟨vs, _, h2, _⟩ := hL
                  have := h2 j he
                  omega) _ kC (by omega)
                rw [z6] at hrun
                have hend7 := t7.same (tC.same k6 id) (fun hh => by have := hSlt eb hh; have := hS5.blk eb hh; omega)
                have hres7 := t7.same (tC.same hres6 id) (fun hh => by have := hS5.blk _ hh; omega)
                have hT7 := (hT6.then (tC.mono (fun _ h => h.elim))).trans t7 (fun j hj => .inr (by have := (hS5.blk j hj).1; omega))
                have s7 := t7.size
                have zC : (((w5.setCell ⟨eb, 0, none⟩ (.int .i64 ((readG S f).2.2.1 : Int))).setCell ⟨eb, 1, none⟩ (.int .i64 ((readG S f).2.2.2 : Int))).alloc (.cells #[.int .u64 (f : Int), .slice xa (readG S f).2.1.length xc] 82)).heap.size = w5.heap.size + 1 := by simp [World.setCell]
                rw [zC] at s7 hS7
                have Hrel := hide (And.intro (hS7.mono (G' := fun j => eb + 1 ≤ j) (fun j hj hl => by rcases hj with hj | hj | hj <;> omega)) (And.intro hend7 (And.intro hres7 hT7)))
                have HF2 := hide hF
                clear hF HF hS7 hend7 hres7 hT7 hT6 hS6 hS5 hSU hTU hL hL6 tC kC t7 t6 t5 hsb6 hend5 hres5 hres6 k6 hendU hresU hread hS
                go_wp2_with (at_builtin; refine list_append_run rfl _ _ 77 rfl _ _ _ _ rfl rfl hrun ?_)
                obtain ⟨r1, r2, r3, r4⟩ := unhide Hrel
                refine ⟨⟨k + 1, E ++ [⟨f, .slice xa (readG S f).2.1.length xc, (readG S f).2.1⟩], (readG S f).2.2, rfl, by go_num, by omega, by simp; omega, r1, r2, r3, r4, by omega, fun e he => ?_, ?_⟩, by simp [intOf]; omega⟩
                · rcases List.mem_append.1 he with he | he
                  · exact hE e he
                  · simp at he; subst he; exact ⟨hf100, hri2⟩
                · refine hide ?_
                  rw [List.map_append]
                  exact unhide HF2
              · have hF := unhide HF
                rw [if_pos hc] at hF
                have ej : findJ S = ((readG S f).1, [], 0, 0) := by unfold findJ; rw [if_neg (by rw [hdn]; simp)]; exact hF
                have Hej := hide ej
                have hne : ((readG S f).1 != 0) = true := by simpa using hc
                have k2 := hres6
                have R0 := cell_obj hres5 0
                have R1 := cell_obj hres5 1
                have F0 := frozen_obj hres5 0
                have F1 := frozen_obj hres5 1
                have ne1 : ¬ w.heap.size = eb := by omega
                have ne2 : ¬ eb = w.heap.size := by omega
                have hTw6 : Turn (fun _ => False) w _ := T1.trans hT6 (fun j hj => .inr (by omega))
                clear hF ej hS6 hS5 hSU HF hsb6 hres5 hlx hE2 hri hgo
                generalize (readG S f).1 = rc at *
                generalize (readG S f).2.2.1 = wh at *
                generalize (readG S f).2.2.2 = tn at *
                go_wp2
                obtain ⟨k3, t3⟩ := pair_set k2 (.int .i64 0) (.int .i64 0)
                have tw : Turn (fun _ => False) w _ := hTw6.trans t3 (fun j hj => .inr (by omega))
                generalize (((w5.setCell ⟨eb, 0, none⟩ (.int .i64 (wh : Int))).setCell ⟨eb, 1, none⟩ (.int .i64 (tn : Int))).setCell ⟨w.heap.size, 0, none⟩ (.int .i64 0)).setCell ⟨w.heap.size, 1, none⟩ (.int .i64 0) = W3 at *
                have z0 := cell_obj k3 0
                have z1 := cell_obj k3 1
                try rw [Exit.noGoto_ret]
                refine bodyPost_ret (v := .tuple #[.slice none 0 0, .agg #[.int .i64 0, .int .i64 0], .int .i64 rc]) (by simp [results, Tryz.results50, z0, z1, go_sem]) rfl ?_
                rw [unhide Hej]
                exact ⟨_, [], rfl, segM_none _ _, rfl, tw⟩
      · have hmk' : markB n = false := by simpa using hmk
        rw [if_neg hmk] at hF
        rw [hmk'] at hpre
        have HF := hide hF
        clear hF hmk hmk'
        generalize hLn : (namesL S).length = LN at *
        go_wp2_with (first
          | (go_at_call 65; refine (hnum _ hTw).mono ?_; rintro y w2 ⟨rfl, t2⟩)
          | (go_at_call 66; refine (hpre _).mono ?_; rintro y w3 ⟨rfl, hw⟩; have hw := hw.symm; subst hw))
        have s2 := t2.size
        exact ⟨⟨k + 1, E, en, rfl, by go_num, by omega, by omega, hS.turn t2 (fun _ _ h => h), t2.same hend id, t2.same hres id, hT.then (t2.mono (fun _ h => h.elim)), by omega, hE, HF⟩, by simp [intOf]; omega⟩
    · have hke : (namesL S).drop k = [] := List.drop_of_length_le (by omega)
      rw [hke] at hF
      have hF := unhide hF
      have hTw : Turn (fun _ => False) w wr := T1.trans hT (fun j hj => .inr (by omega))
      have k2 := hres
      have r0 := cell_obj k2 0
      have r1 := cell_obj k2 1
      have f0 := frozen_obj k2 0
      have f1 := frozen_obj k2 1
      have e0 := cell_obj hend 0
      have e1 := cell_obj hend 1
      by_cases hcn : namesC S = 0
      · have ej : findJ S = (0, E.map Seg.sg, en.1, en.2) := by unfold findJ; rw [if_neg (by rw [hcn]; simp)]; exact hF
        have Hej := hide ej
        clear hF ej
        rw [hcn]
        generalize hLn : (namesL S).length = LN at *
        generalize hNS : namesL S = NS at *
        go_wp2_with fail
        go_region
        all_goals
          go_wp2
          obtain ⟨k3, t3⟩ := pair_set k2 (.int .i64 (en.1 : Int)) (.int .i64 (en.2 : Int))
          have tw : Turn (fun _ => False) w _ := (hTw.trans t3 (fun j hj => .inr (by omega))).drew
          have S3 := (hS.turn t3 (fun j hj hh => by omega)).turn (F := fun _ => False) ((Turn.refl _ _).drew) (fun _ _ h => h)
          generalize (wr.setCell ⟨w.heap.size, 0, none⟩ (.int .i64 (en.1 : Int))).setCell ⟨w.heap.size, 1, none⟩ (.int .i64 (en.2 : Int)) = W3 at *
          have z0 : W3.drew.cell? ⟨w.heap.size, 0, none⟩ = _ := cell_obj k3 0
          have z1 : W3.drew.cell? ⟨w.heap.size, 1, none⟩ = _ := cell_obj k3 1
          have z0' : W3.cell? ⟨w.heap.size, 0, none⟩ = _ := cell_obj k3 0
          have z1' : W3.cell? ⟨w.heap.size, 1, none⟩ = _ := cell_obj k3 1
          try rw [Exit.noGoto_ret]
          refine bodyPost_ret (v := .tuple #[.slice sa E.length sc, .agg #[.int .i64 (en.1 : Int), .int .i64 (en.2 : Int)], .int .i64 0]) (by simp [results, Tryz.results50, z0', z1', go_sem]) rfl ?_
          rw [unhide Hej]
          exact ⟨_, E, rfl, S3.mono (fun j hj _ => by omega), rfl, tw⟩
      · have ej : findJ S = (namesC S, [], 0, 0) := by unfold findJ; rw [if_pos hcn]
        have Hej := hide ej
        have hne : (namesC S != 0) = true := by simpa using hcn
        clear hF ej
        generalize hLn : (namesL S).length = LN at *
        generalize namesC S = nc0 at *
        go_wp2
        obtain ⟨k3, t3⟩ := pair_set k2 (.int .i64 0) (.int .i64 0)
        have tw : Turn (fun _ => False) w _ := (hTw).trans t3 (fun j hj => .inr (by omega))
        generalize (wr.setCell ⟨w.heap.size, 0, none⟩ (.int .i64 0)).setCell ⟨w.heap.size, 1, none⟩ (.int .i64 0) = W3 at *
        have z0 := cell_obj k3 0
        have z1 := cell_obj k3 1
        try rw [Exit.noGoto_ret]
        refine bodyPost_ret (v := .tuple #[.slice none 0 0, .agg #[.int .i64 0, .int .i64 0], .int .i64 nc0]) (by simp [results, Tryz.results50, z0, z1, go_sem]) rfl ?_
        rw [unhide Hej]
        exact ⟨_, [], rfl, segM_none _ _, rfl, tw⟩
end Go.Proofs.YthikiahhochjmaaGreatDoor
