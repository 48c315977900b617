/- The law's open, walked. -/
import Derived.Test.YthikiahhochjmaaGreatDoorJTell
import Derived.Test.YthikiahhochjmaaGreatDoorJOpenP
import Derived.Test.YthikiahhochjmaaGreatDoorDStart
import Derived.Deep.RegionHeld3
namespace Go.Proofs.YthikiahhochjmaaGreatDoor
open Go.RowKit Go.Maps Go.Sort
set_option linter.unusedVariables false
set_option linter.unusedSimpArgs false

/-- elements between two places -/
theorem cutS_mid {P : Program} {w : World} {t e : TypeId} {i : TypeInfo} {ki kj : IntKind} {s : Nat} (ht : P.underlying t = some (.slice e)) (hi : P.info? e = some i) (hs : i.size = s) {v : Value} {n : Nat} {xs : List Value} (h : OwnSl w e s v n xs) (k m : Nat) (hk : k ≤ m) (hm : m ≤ n) :
    ∃ x, (∀ u : World, (Instr.slice t v (some (.int ki (k : Int))) (some (.int kj (m : Int))) none).run P u = .ok x u) ∧ Src s w x (m - k) ((xs.take (m * s)).drop (k * s)) := by
  have hl : ((xs.take (m * s)).drop (k * s)).length = (m - k) * s := by
    rw [List.length_drop, List.length_take, h.1, Nat.min_eq_left (Nat.mul_le_mul_right _ hm), Nat.sub_mul]
  have h' := h
  rcases h.2 with ⟨rfl, rfl⟩ | ⟨g, off, cap, cur, rfl, hg, hnc, hcm, hfit, htk⟩
  · obtain rfl : m = 0 := by omega
    obtain rfl : k = 0 := by omega
    refine ⟨.slice none 0 0, fun u => ?_, ⟨hl, .inl ⟨none, 0, rfl, fun _ => rfl, rfl⟩⟩⟩
    simp [Instr.slice, run_underlying ht, Instr.sliceBounds, Instr.sliceBound, asIntOf, sizeOf, typeInfo, hi, Result.andThen]
  · have hle : (k : Int) ≤ (m : Int) := by omega
    have hmc : m ≤ cap := by omega
    by_cases hc : cap = k
    · subst hc
      obtain rfl : m = cap := by omega
      refine ⟨.slice (some ⟨g, off, none⟩) 0 0, fun u => ?_, ⟨hl, .inl ⟨_, _, rfl, (fun h => by cases h), by omega⟩⟩⟩
      simp [Instr.slice, run_underlying ht, Instr.sliceBounds, Instr.sliceBound, asIntOf, sizeOf, typeInfo, hi, Result.andThen]
    · refine ⟨.slice (some ⟨g, off + k * s, none⟩) (m - k) (cap - k), fun u => ?_, ⟨hl, ?_⟩⟩
      · simp [Instr.slice, run_underlying ht, Instr.sliceBounds, Instr.sliceBound, asIntOf, sizeOf, typeInfo, hi, Result.andThen, hc, hs, Addr.add_lit, hle, hk, hmc]
      · by_cases h0 : m - k = 0
        · exact .inl ⟨_, _, by rw [h0], (fun h => by cases h), h0⟩
        · refine .inr ⟨_, _, rfl, by omega, fun j u hu => ?_⟩
          rw [List.getElem?_drop, List.getElem?_take] at hu
          split at hu
          · rw [Addr.add_lit, Nat.add_assoc]
            exact h'.cells _ u hu
          · cases hu
theorem AllM.mid {M : Nat → Prop} {w : World} {v : Value} {zss : List (List Int)} (h : AllM w M v zss) (k m : Nat) (hk : k ≤ m) (hm : m ≤ zss.length) (hb : ∀ z ∈ zss, Bytes z) (hl : zss.length ≤ maxLen) :
    ∃ x, (∀ u : World, (Instr.slice 29 v (some (.int .u64 (k : Int))) (some (.int .i64 (m : Int))) none).run Tryz.prog u = .ok x u) ∧ BArgs w x ((zss.take m).drop k) := by
  obtain ⟨i0, hi, hz0, hz1, hz2⟩ := info_parts info_sl
  obtain ⟨us, h1, _, h2, h3⟩ := h
  obtain ⟨x, hx, hsrc⟩ := cutS_mid (P := Tryz.prog) (ki := .u64) (kj := .i64) Tryz.underlying29 hi hz1 h1 k m hk (by omega)
  have hdl : ((zss.take m).drop k).length = m - k := by rw [List.length_drop, List.length_take]; omega
  refine ⟨x, hx, ?_⟩
  rcases hsrc with ⟨e0, ⟨a, c, rfl, hn0, hz⟩ | ⟨a, c, rfl, h0, hc⟩⟩
  · have hd0 : (zss.take m).drop k = [] := List.eq_nil_of_length_eq_zero (by omega)
    rw [hd0]
    exact ⟨Nat.zero_le _, ⟨a, c, rfl⟩, fun i hi => by simp at hi, fun z hz => by cases hz⟩
  · have hcell : ∀ i, i < m - k → ∃ u, us[k + i]? = some u ∧ w.cell? (a.add i) = some u := fun i hi => by
      have hu : us[k + i]? = some (us[k + i]'(by omega)) := by simp
      refine ⟨_, hu, hc i _ ?_⟩
      rw [Nat.mul_one, Nat.mul_one, List.getElem?_drop, List.getElem?_take, if_pos (by omega)]; exact hu
    obtain ⟨g, off, spot⟩ := a
    have hspot : spot = none := by
      obtain ⟨u, _, h⟩ := hcell 0 h0
      simpa [Addr.add] using World.cell?_spot h
    subst hspot
    refine ⟨by omega, ⟨_, _, by rw [hdl]⟩, fun i hi => ?_, fun z hz => hb z (List.mem_of_mem_take (List.mem_of_mem_drop hz))⟩
    rw [hdl] at hi
    obtain ⟨u, hu, hq⟩ := hcell i hi
    rw [Addr.add_lit] at hq
    refine ⟨g, off, c, u, by rw [hdl], hq, ?_⟩
    have hz : zss[k + i]? = some (((zss.take m).drop k).getD i []) := by
      rw [List.getD_eq_getElem?_getD, List.getElem?_drop, List.getElem?_take, if_pos (by omega), List.getElem?_eq_getElem (by omega)]; simp
    exact (h3 (k + i) u _ hu hz).mono (fun _ _ => trivial)

/-- a store into the truth -/
theorem Tr.disk {w : World} {T D J : Nat} {H M : Nat → Prop} {av : Value} {X : Jn} {S : Dk} {A : List (List Int)} {most first might safe : Nat} {more dn fell : Bool} (h : Tr w T D J H M av X S A most first might safe more dn fell) : ∃ F, DAt w D F S ∧ (∀ j, F j → H j) ∧ ¬ F T ∧ (∀ j, F j → ¬ M j) := by
  obtain ⟨F, d, hF⟩ := disk_of h.j
  exact ⟨F, d, hF, fun q => h.nH (hF T q), fun j hj => h.apart j (hF j hj)⟩

theorem tr_end {w w2 w7 wF : World} {T D J J3 n most first might safe f safe' : Nat} {H M F2 : Nat → Prop} {av x : Value} {X X3 : Jn} {S S3 : Dk} {A : List (List Int)} {more dn fell sd : Bool} (h : Tr w T D J H M av X S A most first might safe more dn fell)
    (j7 : JAt w7 (NF w2 F2) J3 D X3 S3) (T7 : Turn (fun j => j = T ∨ H j) w w7) (tF : Turn (fun j => j = T) w7 wF) (all7 : AllM w7 M x (A.take n)) (hF2 : ∀ j, F2 j → H j ∨ w.heap.size ≤ j) (GT : ¬ F2 T) (hw2 : w.heap.size ≤ w2.heap.size)
    (o : wF.heap[T]? = some (.cells #[.pointer (some ⟨D, 0, none⟩), .pointer (some ⟨J3, 0, none⟩), .int .i64 (most : Int), x, .int .u64 (f : Int), .int .u64 (f : Int), .int .i64 (safe' : Int), .bool false, .bool false, .bool sd] 32 (0, 0))) :
    ∃ H', (∀ j, H' j → H j ∨ w.heap.size ≤ j) ∧ Tr wF T D J3 H' M x X3 S3 (A.take n) most f f safe' false false sd ∧ Turn (fun j => j = T ∨ H j) w wF := by
  have hTl := (Array.getElem?_eq_some_iff.1 h.obj).1
  have GT' : ¬ NF w2 F2 T := by
    rintro (q | q)
    · exact GT q
    · omega
  have TF := T7.then (tF.mono (fun j e => .inl e))
  have sF := TF.size
  have s7 := tF.size
  refine ⟨fun j => NF w2 F2 j ∧ j < w7.heap.size, (fun j hj => by
    rcases hj.1 with q | q
    · exact hF2 j q
    · exact .inr (by omega)), ⟨o, (j7.mono (fun j hj hl => ⟨hj, hl⟩)).turn tF (fun j hj e => GT' (e ▸ hj.1)), all7.turn tF (fun j hj e => h.nM (e ▸ hj)), fun q => GT' q.1, h.nM, ?_, fun j hj => by have := hj.2; omega, fun j hj => by have := h.hM j hj; omega, fun z hz => h.bytes z (List.mem_of_mem_take hz)⟩, TF⟩
  rintro j ⟨hj | hj, _⟩ hm
  · rcases hF2 j hj with q | q
    · exact h.apart j q hm
    · have := h.hM j hm; omega
  · have := h.hM j hm; omega

/-- two numbers in order, for the walk's own reckoning -/
abbrev Leq (a b : Nat) : Prop := Nonempty (PLift (a ≤ b))
theorem dec_lt_no {a b : Nat} [h : Leq a b] : decide ((b : Int) < (a : Int)) = false := by obtain ⟨⟨h⟩⟩ := h; simp; omega
theorem dec_gt_no {a b : Nat} [h : Leq a b] : decide ((a : Int) > (b : Int)) = false := by obtain ⟨⟨h⟩⟩ := h; simp; omega
attribute [local go_sem ↓] dec_lt_no dec_gt_no

set_option maxRecDepth 100000 in
set_option maxHeartbeats 16000000 in
theorem topen_walk (w : World) (T D J : Nat) (H M : Nat → Prop) (av : Value) (X : Jn) (S S3 : Dk) (segs2 : List Sg) (A : List (List Int)) (most first might safe : Nat) (more dn fell : Bool) (h : Tr w T D J H M av X S A most first might safe more dn fell)
    (hO : openJ (startS S) = (0, segs2, S3)) (hR : Ready (startS S)) (h1 : 1 ≤ most) (h2 : most ≤ 1000) (fit : Fit (newX most segs2)) (f1 : first ≤ firstOf segs2) (f2 : firstOf segs2 ≤ might) (n1 : safe ≤ nextOf segs2) (n2 : nextOf segs2 ≤ A.length) (sd0 : Bool) (hfell : S.down = sd0) (safe' : Nat) (hsafe : safe' = if sd0 = true then nextOf segs2 else safe) (n3 : sd0 = false → nextOf segs2 = A.length)
    (fn : firstOf segs2 ≤ nextOf segs2) (hr : recsOf segs2 = (A.take (nextOf segs2)).drop (firstOf segs2)) (hs : ∀ z ∈ A, z.length ≤ 300) (hA : A.length ≤ 1000) :
    Calls Tryz.prog 14 #[.pointer (some ⟨T, 0, none⟩)] w fun e w' => e = .returned (.bool true) ∧
      ∃ J' av' H', (∀ j, H' j → H j ∨ w.heap.size ≤ j) ∧ Tr w' T D J' H' M av' (newX most segs2) S3 (A.take (nextOf segs2)) most (firstOf segs2) (firstOf segs2) safe' false false sd0 ∧ Turn (fun j => j = T ∨ H j) w w' := by
  obtain ⟨F, d, hFH, hFT, hFM⟩ := h.disk
  obtain ⟨aa, ac, hav⟩ := (h.all.my h.hM).slice
  subst hav
  have c0 := cell_obj h.obj 0
  have c9 := cell_obj h.obj 9
  simp at c0 c9
  have z9 := frozen_obj h.obj 9
  have hdn := Down_walk w D F S d
  rw [hfell] at hdn
  have t1 : Turn (fun j => j = T) w (w.setCell ⟨T, 9, none⟩ (.bool sd0)) := (Turn.refl (fun j => j = T) w).setCell (p := ⟨T, 9, none⟩) (.inl rfl) _
  have d1 := d.turn t1 (fun j hj _ e => hFT (e ▸ hj))
  have o1 := heap_setCell_obj (j := 9) h.obj (.bool sd0)
  simp at o1
  go_enter Tryz.func14, Tryz.ntmps14
  go_wp2_with fail
  refine hdn.mono ?_
  rintro e w' ⟨rfl, hw⟩
  have hw := hw.symm
  subst hw
  go_wp2_with fail
  refine (Start_walk _ D F S d1).mono ?_
  rintro e w2 ⟨rfl, t2, d2⟩
  have o2 := t2.same o1 hFT
  have hTl := (Array.getElem?_eq_some_iff.1 h.obj).1
  have s1 := t1.size
  have GT : ¬ NF (w.setCell ⟨T, 9, none⟩ (.bool sd0)) F T := by
    rintro (q | q)
    · exact hFT q
    · omega
  have T2 : Turn (fun j => j = T ∨ H j) w w2 := (t1.mono (fun j e => .inl e)).then (t2.mono (fun j hj => .inr (hFH j hj)))
  have hFx : ∀ j, NF (w.setCell ⟨T, 9, none⟩ (.bool sd0)) F j → H j ∨ w.heap.size ≤ j := fun j hj => by
    rcases hj with q | q
    · exact .inl (hFH j q)
    · exact .inr (by omega)
  have hn1 : nextOf segs2 ≤ 1000 := by omega
  have dD := d2.turn (Turn.drew (Turn.refl (fun _ => False) w2)) (fun _ _ _ h => h)
  have hop := open_j w2.drew _ D most (startS S) dD hR.bytes hR.size (hR.num _) hR.low h1 h2
  rw [hO] at hop
  unfold Opened at hop
  rw [hO] at hop
  have a0 : w2.drew.cell? ⟨T, 0, none⟩ = some (.pointer (some ⟨D, 0, none⟩)) := cell_obj o2 0
  have a2 : w2.drew.cell? ⟨T, 2, none⟩ = some (.int .i64 (most : Int)) := cell_obj o2 2
  clear hO hR d d1 d2 dD c0 c9 z9 hdn
  generalize NF (w.setCell ⟨T, 9, none⟩ (.bool sd0)) F = F2 at *
  clear hfell
  generalize hsd : sd0 = sd at *
  have Hsd := hide hsd
  clear hsd
  go_wp2_with fail
  go_region_held3 (fun u => u.cell? ⟨T, 0, none⟩ = some (.pointer (some ⟨D, 0, none⟩)) ∧ u.cell? ⟨T, 2, none⟩ = some (.int .i64 (most : Int))) (first | exact ⟨a0, a2⟩ | exact ⟨b0, b2⟩ | go_keep)
    (first
    | (go_at_call 24; refine hop.mono ?_; rintro e w3 ⟨p3, rfl, t3, hp⟩; have b0 := t3.cell a0 GT; have b2 := t3.cell a2 GT))
  rcases hp with ⟨_, J3, rfl, hJ3, j3⟩ | ⟨q, _⟩
  rotate_left
  · exact absurd rfl q
  have o3 := t3.same (show w2.drew.heap[T]? = _ from o2) GT
  have s2 := t2.size
  have s3 := t3.size
  have T3 : Turn (fun j => j = T ∨ H j) w w3 := (T2.then (Turn.refl _ w2).drew).trans t3 (fun j hj => (hFx j hj).elim (fun q => .inl (.inr q)) .inr)
  clear hop a0 a2 b0 b2 t1 t2 t3
  go_wp2_with fail
  refine wp_loop_rounds 1 ?_
  rw [rounds_succ]
  go_wp2_with fail
  have hrc := hr
  have hnx := next_jat w3 _ J3 D (newX most segs2) S3 j3 fit
  rw [show nextOf (newX most segs2).segs = nextOf segs2 from rfl] at hnx
  refine hnx.mono ?_
  rintro e w4 ⟨rfl, t4⟩
  have hlen : ∀ s ∈ segs2, ∀ b ∈ s.recs, b.length ≤ 1099511627776 := fun s hs' b hb => by
    have hb : b ∈ recsOf segs2 := List.mem_flatMap.2 ⟨s, hs', hb⟩
    rw [hr] at hb
    have := hs b (List.mem_of_mem_take (List.mem_of_mem_drop hb))
    omega
  have t4d : Turn (fun _ => False) w3 w4.drew := t4.then (Turn.drew (Turn.refl _ w4))
  have j4 := j3.same t4d
  have o4 : w4.drew.heap[T]? = _ := t4d.same o3 id
  have T4 : Turn (fun j => j = T ∨ H j) w w4.drew := T3.then (t4d.mono (fun _ q => q.elim))
  have hMn : ∀ j, M j → ¬ (j = T ∨ H j) := fun j hj q => by
    rcases q with q | q
    · exact h.nM (q ▸ hj)
    · exact h.apart j q hj
  have all4 := h.all.turn T4 hMn
  obtain ⟨xd, hxd, hbd⟩ := all4.mid (firstOf segs2) (nextOf segs2) fn n2 h.bytes (by unfold maxLen; omega)
  have hF : ∀ u, Turn (fun _ => False) w4.drew u → Calls Tryz.prog 19 #[.pointer (some ⟨J3, 0, none⟩)] u fun e w' => e = .returned (.int .u64 ((firstOf segs2 : Nat) : Int)) ∧ w' = u := fun u t => first_jat u _ J3 D (newX most segs2) S3 (j4.same t)
  have hN : ∀ u, Turn (fun _ => False) w4.drew u → Calls Tryz.prog 25 #[.pointer (some ⟨J3, 0, none⟩)] u fun e w' => e = .returned (.int .u64 ((nextOf segs2 : Nat) : Int)) ∧ Turn (fun _ => False) u w' := fun u t => next_jat u _ J3 D (newX most segs2) S3 (j4.same t) fit
  have hRc : ∀ u, Turn (fun _ => False) w4.drew u → Calls Tryz.prog 20 #[.pointer (some ⟨J3, 0, none⟩)] u fun e w' => ∃ x, e = .returned x ∧ Turn (fun _ => False) u w' ∧ ∀ v, Turn (fun _ => False) w' v → Calls Tryz.prog 28 #[x, xd, .func (.func 29) #[] #[]] v fun e w' => e = .returned (.bool true) ∧ Turn (fun _ => False) v w' := fun u t => by
    refine (records_j u _ J3 D (newX most segs2) S3 (j4.same t) fit hlen).mono ?_
    rintro e w' ⟨x, rfl, hL, tx⟩
    rw [show recsOf (newX most segs2).segs = _ from hr] at hL
    refine ⟨x, rfl, tx, fun v tv => ?_⟩
    exact same_lists x xd _ v ((bargs_of_lists hL (fun z hz => h.bytes z (List.mem_of_mem_take (List.mem_of_mem_drop hz))) (by rw [List.length_drop, List.length_take]; unfold maxLen; omega)).turn tv) ((hbd.turn (t.then tx)).turn tv)
  have a3 : w4.drew.cell? ⟨T, 3, none⟩ = some (.slice aa A.length ac) := cell_obj o4 3
  have a4 : w4.drew.cell? ⟨T, 4, none⟩ = some (.int .u64 (first : Int)) := cell_obj o4 4
  have a5 : w4.drew.cell? ⟨T, 5, none⟩ = some (.int .u64 (might : Int)) := cell_obj o4 5
  have a6 : w4.drew.cell? ⟨T, 6, none⟩ = some (.int .i64 (safe : Int)) := cell_obj o4 6
  have tW : Turn (fun _ => False) w4.drew w4.drew := Turn.refl _ _
  have hcv : wrap64 ((nextOf segs2 : Nat) : Int) = ((nextOf segs2 : Nat) : Int) := by unfold wrap64; omega
  have HK := hide (And.intro h (And.intro all4 (And.intro j4 (And.intro o4 (And.intro T4 (And.intro hMn (And.intro hr (And.intro hs (And.intro hA (And.intro hlen (And.intro fit (And.intro GT hFx))))))))))))
  clear h all4 j4 o4 T4 hMn hr hs hlen fit hbd hrc t4 t4d j3 o2 o3 T2 T3 o1 hFH hFT hFM GT hFx
  clear hnx
  go_wp2_with fail
  rw [hcv]
  generalize hnn : nextOf segs2 = n at *
  generalize hff : firstOf segs2 = f at *
  have Hnf := hide (And.intro hnn hff)
  have Hsafe := hide hsafe
  clear hsafe
  clear hnn hff hcv
  have i1 : Leq first f := ⟨⟨f1⟩⟩
  have i2 : Leq f might := ⟨⟨f2⟩⟩
  have i3 : Leq safe n := ⟨⟨n1⟩⟩
  have i4 : Leq n A.length := ⟨⟨n2⟩⟩
  have i5 : Leq f n := ⟨⟨fn⟩⟩
  have bf1 : (0 : Int) ≤ (f : Int) := by omega
  have bf2 : (f : Int) ≤ (n : Int) := by omega
  go_region_held3 (fun u => u.cell? ⟨T, 3, none⟩ = some (.slice aa A.length ac) ∧ u.cell? ⟨T, 4, none⟩ = some (.int .u64 (first : Int)) ∧ u.cell? ⟨T, 5, none⟩ = some (.int .u64 (might : Int)) ∧ u.cell? ⟨T, 6, none⟩ = some (.int .i64 (safe : Int))) (first | exact ⟨a3, a4, a5, a6⟩ | exact ⟨b3, b4, b5, b6⟩ | exact ⟨c3, c4, c5, c6⟩ | exact ⟨d3, d4, d5, d6⟩ | go_keep)
    (first
    | (go_at_call 19; refine (hF _ (by assumption)).mono ?_; rintro e w5 ⟨rfl, hw⟩; have hw := hw.symm; subst hw)
    | (go_at_call 25; refine (hN _ (by assumption)).mono ?_; rintro e w5 ⟨rfl, t5⟩; have tN := tW.then t5; have b3 := t5.cell a3 id; have b4 := t5.cell a4 id; have b5 := t5.cell a5 id; have b6 := t5.cell a6 id)
    | (go_at_call 20; refine (hRc _ (by assumption)).mono ?_; rintro e w6 ⟨xl, rfl, t6, hsm⟩; have tR := tN.then t6; have c3 := t6.cell b3 id; have c4 := t6.cell b4 id; have c5 := t6.cell b5 id; have c6 := t6.cell b6 id; have tS := Turn.refl (fun _ => False) w6)
    | (go_at_call 28; refine (hsm _ (by assumption)).mono ?_; rintro e w7 ⟨rfl, t7⟩; have tQ := tR.then t7; have d3 := t7.cell c3 id; have d4 := t7.cell c4 id; have d5 := t7.cell c5 id; have d6 := t7.cell c6 id))
  obtain ⟨h, all4, j4, o4, T4, hMn, hr, hs, hA, hlen, fit, GT, hFx⟩ := unhide HK
  have o7 := tQ.same o4 id
  have j7 := j4.same tQ
  have all7 := all4.turn tQ (fun _ _ => id)
  have T7 := T4.then (tQ.mono (fun _ q => q.elim))
  obtain ⟨xv, hxv, allx, _⟩ := all7.upto n n2
  have allx' := allx
  obtain ⟨us, _, _, hul, _⟩ := allx
  obtain ⟨xa, xc, hxf⟩ : ∃ a c, xv = .slice a n c := by
    obtain ⟨us, a, _, hl, _⟩ := allx'
    obtain ⟨y, c, hv⟩ := a.form
    exact ⟨y, c, by rw [hv, hl, List.length_take, Nat.min_eq_left n2]⟩
  subst hxf
  have s2d : w.heap.size ≤ w2.drew.heap.size := Nat.le_trans s1 s2
  have hTn : ¬ NF w2.drew F2 T := by
    rintro (q | q)
    · exact GT q
    · omega
  have hF8 : ∀ u, Turn (fun j => j = T) w7 u → Calls Tryz.prog 19 #[.pointer (some ⟨J3, 0, none⟩)] u fun e w' => e = .returned (.int .u64 (f : Int)) ∧ w' = u := fun u t => by
    have := first_jat u _ J3 D (newX most segs2) S3 (j7.turn t (fun j hj e => hTn (e ▸ hj)))
    rw [show firstOf (newX most segs2).segs = f from (unhide Hnf).2] at this
    exact this
  have g9 : w7.cell? ⟨T, 9, none⟩ = some (.bool sd) := cell_obj o7 9
  have g1 : w7.cell? ⟨T, 1, none⟩ = some (.pointer (some ⟨J, 0, none⟩)) := cell_obj o7 1
  have g7 : w7.cell? ⟨T, 7, none⟩ = some (.bool more) := cell_obj o7 7
  have g8 : w7.cell? ⟨T, 8, none⟩ = some (.bool dn) := cell_obj o7 8
  have f1' := frozen_obj o7 1
  have f3' := frozen_obj o7 3
  have f4' := frozen_obj o7 4
  have f5' := frozen_obj o7 5
  have f6' := frozen_obj o7 6
  have f7' := frozen_obj o7 7
  have f8' := frozen_obj o7 8
  have HK3 := hide (And.intro j7 (And.intro T7 (And.intro allx' (And.intro hFx (And.intro GT (And.intro s2d o7))))))
  have Hh := hide h
  clear h all4 j4 o4 T4 hMn hr hs hlen fit GT hFx HK o7 j7 all7 T7 allx' hF hN hRc hsm t5 t6 t7 tN tR tS tQ tW a3 a4 a5 a6 b3 b4 b5 b6 c3 c4 c5 c6 hxd hul
  cases sd
  · as_aux_lemma =>
      have hnA : n = A.length := n3 rfl
      clear n3
      subst hnA
      go_wp2_with fail
      refine (hF8 _ ((Turn.refl (fun j => j = T) w7).setCell (.inl rfl) _)).mono ?_
      rintro e w8 ⟨rfl, hw⟩
      have hw := hw.symm
      subst hw
      go_wp2_with fail
      refine (hF8 _ ((Turn.refl (fun j => j = T) w7).setCell (.inl rfl) _)).mono ?_
      rintro e w8 ⟨rfl, hw⟩
      have hw := hw.symm
      subst hw
      go_wp2
      go_ret
      obtain ⟨j7, T7, allx, hFx, GT, s2d, o7⟩ := unhide HK3
      have q3 := heap_setCell_obj (j := 3) o7 (.slice xa A.length xc)
      have q1 := heap_setCell_obj (j := 1) q3 (.pointer (some ⟨J3, 0, none⟩))
      have q4 := heap_setCell_obj (j := 4) q1 (.int .u64 (f : Int))
      have q5 := heap_setCell_obj (j := 5) q4 (.int .u64 (f : Int))
      have q7 := heap_setCell_obj (j := 7) q5 (.bool false)
      have q8 := heap_setCell_obj (j := 8) q7 (.bool false)
      obtain ⟨H', r0, r1, r2⟩ := tr_end (safe' := safe) (sd := false) (unhide Hh) j7 T7 ((((((Turn.refl (fun j => j = T) w7).setCell (.inl rfl) _).setCell (.inl rfl) _).setCell (.inl rfl) _).setCell (.inl rfl) _).setCell (.inl rfl) _ |>.setCell (.inl rfl) _) allx hFx GT s2d q8
      refine ⟨rfl, ?_⟩
      rw [show sd0 = false from unhide Hsd, show safe' = safe from (by simpa using unhide Hsafe), (unhide Hnf).1, (unhide Hnf).2]
      exact ⟨J3, _, H', r0, r1, r2⟩
  · as_aux_lemma =>
      clear n3
      go_wp2_with fail
      refine (hF8 _ (((Turn.refl (fun j => j = T) w7).setCell (.inl rfl) _).setCell (.inl rfl) _)).mono ?_
      rintro e w8 ⟨rfl, hw⟩
      have hw := hw.symm
      subst hw
      go_wp2_with fail
      refine (hF8 _ (((Turn.refl (fun j => j = T) w7).setCell (.inl rfl) _).setCell (.inl rfl) _)).mono ?_
      rintro e w8 ⟨rfl, hw⟩
      have hw := hw.symm
      subst hw
      go_wp2
      go_ret
      obtain ⟨j7, T7, allx, hFx, GT, s2d, o7⟩ := unhide HK3
      have q6 := heap_setCell_obj (j := 6) o7 (.int .i64 (n : Int))
      have q3 := heap_setCell_obj (j := 3) q6 (.slice xa n xc)
      have q1 := heap_setCell_obj (j := 1) q3 (.pointer (some ⟨J3, 0, none⟩))
      have q4 := heap_setCell_obj (j := 4) q1 (.int .u64 (f : Int))
      have q5 := heap_setCell_obj (j := 5) q4 (.int .u64 (f : Int))
      have q7 := heap_setCell_obj (j := 7) q5 (.bool false)
      have q8 := heap_setCell_obj (j := 8) q7 (.bool false)
      obtain ⟨H', r0, r1, r2⟩ := tr_end (safe' := n) (sd := true) (unhide Hh) j7 T7 (((((((Turn.refl (fun j => j = T) w7).setCell (.inl rfl) _).setCell (.inl rfl) _).setCell (.inl rfl) _).setCell (.inl rfl) _).setCell (.inl rfl) _).setCell (.inl rfl) _ |>.setCell (.inl rfl) _) allx hFx GT s2d q8
      refine ⟨rfl, ?_⟩
      rw [show sd0 = true from unhide Hsd, show safe' = n from (by simpa using unhide Hsafe), (unhide Hnf).1, (unhide Hnf).2]
      exact ⟨J3, _, H', r0, r1, r2⟩
end Go.Proofs.YthikiahhochjmaaGreatDoor
