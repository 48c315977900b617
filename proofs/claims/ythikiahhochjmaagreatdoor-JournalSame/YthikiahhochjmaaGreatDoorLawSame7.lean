/- JournalSame: opened anew without a fall. -/
import Derived.Test.YthikiahhochjmaaGreatDoorJSame
namespace Go.Proofs.YthikiahhochjmaaGreatDoor
open Go.RowKit Go.Maps Go.Sort
set_option linter.unusedVariables false
set_option linter.unusedSimpArgs false

/-- what stands between two records -/
structure SameAt (w wr : World) (D m k J : Nat) (X : Jn) (S : Dk) (H : Nat → Prop) (lv : Value) (zl : List (List Int)) : Prop where
  j : JAt wr H J D X S
  g : Grown 300 m k X S
  recs : recsOf X.segs = zl
  my : MyL wr w.heap.size lv zl
  own : ∀ j, lv.ownBlock = some j → w.heap.size ≤ j ∧ j < wr.heap.size ∧ ¬ H j
  hH : ∀ j, H j → w.heap.size ≤ j ∧ j < wr.heap.size
  bytes : ∀ z ∈ zl, Bytes z
  turn : Turn (fun j => w.heap.size ≤ j) w wr
theorem SameAt.calm {w wr w' : World} {D m k J : Nat} {X : Jn} {S : Dk} {H : Nat → Prop} {lv : Value} {zl : List (List Int)} (h : SameAt w wr D m k J X S H lv zl) (T : Turn (fun _ => False) wr w') : SameAt w w' D m k J X S H lv zl := by
  have s := T.size
  exact ⟨h.j.same T, h.g, h.recs, h.my.turn T (fun _ _ h => h) (fun _ _ h => h), fun j hj => ⟨(h.own j hj).1, by have := (h.own j hj).2.1; omega, (h.own j hj).2.2⟩, fun j hj => ⟨(h.hH j hj).1, by have := (h.hH j hj).2; omega⟩, h.bytes, h.turn.then (T.mono (fun _ h => h.elim))⟩
/-- a call on the journal or its disk -/
theorem SameAt.step {w wr w' : World} {D m k k' J J' : Nat} {X X' : Jn} {S S' : Dk} {H F : Nat → Prop} {lv : Value} {zl zl' : List (List Int)} (h : SameAt w wr D m k J X S H lv zl) (hF : ∀ j, F j → H j) (T : Turn F wr w') (j' : JAt w' (NF wr F) J' D X' S') (my : MyL w' w.heap.size lv zl → MyL w' w.heap.size lv zl') (hz : zl' = zl) (g : Grown 300 m k' X' S') (r : recsOf X'.segs = zl') : SameAt w w' D m k' J' X' S' (fun j => NF wr F j ∧ j < w'.heap.size) lv zl' := by
  have s := T.size
  have s0 := h.turn.size
  subst hz
  refine ⟨j'.mono (fun j hj hl => ⟨hj, hl⟩), g, r, h.my.turn T (fun j hj hh => (h.own j hj).2.2 (hF j hh)) (fun j hj hh => by have := (h.hH j (hF j hh)).1; omega), fun j hj => ⟨(h.own j hj).1, by have := (h.own j hj).2.1; omega, ?_⟩, ?_, h.bytes, h.turn.then (T.mono (fun j hj => (h.hH j (hF j hj)).1))⟩
  · rintro ⟨hh | hh, _⟩
    · exact (h.own j hj).2.2 (hF j hh)
    · have := (h.own j hj).2.1; omega
  · rintro j ⟨hj | hj, hl⟩
    · exact ⟨(h.hH j (hF j hj)).1, hl⟩
    · exact ⟨by omega, hl⟩
theorem ev_full {m : Nat} {segs : List Sg} (h : Ev m segs) : ∀ s ∈ segs, s.recs ≠ [] := by
  intro s hs h0
  obtain ⟨q, hq, rfl⟩ := List.getElem_of_mem hs
  have := (h q segs[q] (by simp [hq])).2.1
  rw [h0] at this; simp at this
theorem full_tail {segs : List Sg} (h : ∀ s ∈ segs, s.recs ≠ []) : ∀ l s, segs = l ++ [s] → l = [] ∨ s.recs ≠ [] := fun l s e => .inr (h s (by rw [e]; simp))
theorem recs_drop (segs : List Sg) (c first : Nat) (h : (recsOf (segs.drop c)).length = (recsOf segs).length - first) (h2 : first ≤ (recsOf segs).length) : recsOf (segs.drop c) = (recsOf segs).drop first := by
  have e : recsOf segs = recsOf (segs.take c) ++ recsOf (segs.drop c) := by
    unfold recsOf
    rw [← List.flatMap_append, List.take_append_drop]
  have hl := congrArg List.length e
  rw [List.length_append] at hl
  conv => rhs; rw [e]
  rw [List.drop_left' (by omega)]
theorem len_300 {m k : Nat} {X : Jn} {S : Dk} (h : Grown 300 m k X S) : ∀ s ∈ X.segs, ∀ b ∈ s.recs, b.length ≤ 1099511627776 := fun s hs b hb => by
  have := h.short b (List.mem_flatMap.2 ⟨s, hs, hb⟩); omega
/-- a record more, in the journal and in the law's list -/
theorem same_more {w wr w5 : World} {D m k J : Nat} {X X' : Jn} {S S' : Dk} {H : Nat → Prop} {lv bx : Value} {zl : List (List Int)} {bb : List Int} (h : SameAt w wr D m k J X S H lv zl) (hb : Bytes bb) (hx : Row .u8 (fun b => any b ∧ b < w.heap.size) wr bx bb) (hk : k < 100)
    (T : Turn H wr w5) (j5 : JAt w5 (NF wr H) J D X' S') (g : Grown 300 m (k + 1) X' S') (r : recsOf X'.segs = recsOf X.segs ++ [bb]) :
    ∃ lv' w6 H', (Builtin.append_ #[29, 29] 29 #[lv, .slice (some ⟨w5.heap.size, 0, none⟩) 1 1]).run Tryz.prog (w5.alloc (.cells #[bx] 33)) = .ok lv' w6 ∧ SameAt w w6 D m (k + 1) J X' S' H' lv' (zl ++ [bb]) := by
  have s5 := T.size
  have s0 := h.turn.size
  have my5 := h.my.turn T (fun j hj hh => (h.own j hj).2.2 hh) (fun j hj hh => by have := (h.hH j hh).1; omega)
  have hx5 := hx.turn T (fun b hb hh => by have h1 := (h.hH b hh).1; have := hb.2; omega)
  have hzl : zl.length = k := by rw [← h.recs]; exact h.g.count
  obtain ⟨lv', w6, hrun, my6, T6, o6⟩ := my5.push hx5 (by omega) (fun j hj => (h.own j hj).1)
  have s6 := T6.size
  have hlt : ∀ j, lv'.ownBlock = some j → j < w6.heap.size := fun j hj => by
    obtain ⟨us, o, _⟩ := my6
    obtain ⟨cur, hc⟩ := o.lt j hj
    exact (Array.getElem?_eq_some_iff.1 hc).1
  refine ⟨lv', w6, fun j => NF wr H j ∧ j < w5.heap.size, hrun, (j5.mono (fun j hj hl => ⟨hj, hl⟩)).turn T6 ?_, g, by rw [r, h.recs], my6, ?_, ?_, ?_, (h.turn.then (T.mono (fun j hj => (h.hH j hj).1))).then (T6.mono (fun j hj => (h.own j hj).1))⟩
  · rintro j ⟨hj | hj, hl⟩ ho
    · exact (h.own j ho).2.2 hj
    · have := (h.own j ho).2.1; omega
  · intro j hj
    rcases o6 j hj with ho | ho
    · refine ⟨(h.own j ho).1, hlt j hj, ?_⟩
      rintro ⟨hh | hh, _⟩
      · exact (h.own j ho).2.2 hh
      · have := (h.own j ho).2.1; omega
    · exact ⟨by omega, hlt j hj, fun hh => by have := hh.2; omega⟩
  · rintro j ⟨hj | hj, hl⟩
    · exact ⟨(h.hH j hj).1, by omega⟩
    · exact ⟨by omega, by omega⟩
  · intro z hz
    rcases List.mem_append.1 hz with hz | hz
    · exact h.bytes z hz
    · simp at hz; rw [hz]; exact hb
/-- Open, where the law does it -/
theorem same_open {w wr : World} {D m k J : Nat} {X : Jn} {S : Dk} {H : Nat → Prop} {lv : Value} {zl : List (List Int)} (h : SameAt w wr D m k J X S H lv zl) (h1 : 1 ≤ m) (h2 : m ≤ 1000) (hk : k < 100) :
    Calls Tryz.prog 24 #[.pointer (some ⟨D, 0, none⟩), .int .i64 (m : Int)] wr fun e w' => ∃ J' H', e = .returned (.tuple #[.pointer (some ⟨J', 0, none⟩), .int .i64 0]) ∧ SameAt w w' D m k J' (newX m X.segs) S H' lv zl := by
  obtain ⟨F, d, hF⟩ := disk_of h.j
  obtain ⟨q, hq⟩ := h.g.hold
  refine (open_held wr F D m S X.segs q d hq h.g.live (fun b hb => ⟨h.bytes b (by rw [← h.recs]; exact hb), by have := h.g.short b hb; omega⟩) (ev_tail h.g.ev) (fun s hs => ((h.g.fit hk h2).first s hs).1) (by rw [h.g.room]; decide) h1 h2).mono ?_
  rintro e w' ⟨J', rfl, T, j'⟩
  exact ⟨J', _, rfl, h.step hF T j' id rfl h.g.again h.recs⟩

set_option maxRecDepth 100000 in
set_option maxHeartbeats 16000000 in
theorem same_walk (w : World) (a0 : Int) (lv : Value) (zss : List (List Int)) (ov : Value) (ol : Nat) (f : Nat → Bool) (a3 : Int) (hl : BArgs w lv zss) (ho : Bools w ov ol f) :
    Calls Tryz.prog 7 #[.int .i64 a0, lv, ov, .int .i64 a3] w fun e w' => e = .returned (.bool true) ∧ Turn (fun _ => False) w w' := by
  obtain ⟨i0, hi, hz0, hz1, hz2⟩ := info_parts info_u8
  obtain ⟨n0, hn0, en0⟩ := rem9 a0 9 (by decide) (by decide)
  rw [show ((9 : Nat) : Int) = 9 from rfl] at en0
  have en : wrap64 (1 + wrap64 ((IntKind.u64.wrap a0).tmod 9)) = ((n0 + 1 : Nat) : Int) := by rw [en0]; unfold wrap64; omega
  have En := hide en
  clear en0 en
  obtain ⟨la, lc, rfl⟩ := hl.form
  obtain ⟨oa, oc, rfl⟩ := ho.form
  have hlm := hl.len
  have hom := ho.len
  unfold maxLen at hlm hom
  have HL := hide hl
  have HO := hide ho
  clear hl ho
  generalize hzl : zss.length = zn at *
  have Hzn := hide hzl
  clear hzl
  have hnew := New_walk 262144 w (by decide) (by decide)
  go_enter Tryz.func7, Tryz.ntmps7
  go_wp2_with fail
  rw [unhide En]
  generalize hm : n0 + 1 = m at *
  have hm1 : 1 ≤ m := by omega
  have hm2 : m ≤ 9 := by omega
  clear hm hn0
  refine hnew.mono ?_
  rintro e w1 ⟨rfl, t1, d1⟩
  go_wp2_with fail
  refine (open_new w1 _ _ m 262144 d1 (by decide) hm1 (by omega)).mono ?_
  rintro e w2 ⟨J, rfl, t2, hJ, J2⟩
  have s1 := t1.size
  have s2 := t2.size
  go_wp2_with (go_at_call 9; refine (awake_j _).mono ?_; rintro e w3 ⟨rfl, t3⟩)
  have s3 := t3.size
  have hS : SameAt w w3 w.heap.size m 0 J (newX m []) (newS 262144) (fun j => w.heap.size ≤ j ∧ j < w3.heap.size) (.slice none 0 0) [] :=
    ⟨(J2.same t3).mono (fun j hj hl => ⟨by rcases hj with h | h; exact h; omega, hl⟩), grown_new 300 m, rfl, myL_none _ _, fun j hj => by simp [Value.ownBlock] at hj, fun j hj => hj, (fun z hz => by cases hz), (((t1.mono (fun _ h => h.elim)).then t2).then (t3.mono (fun _ h => h.elim)))⟩
  clear hnew d1 t1 t2 t3 J2
  go_loopw [11, 13, 14] (fun jp lw i wr => ∃ (k J : Nat) (X : Jn) (S : Dk) (H : Nat → Prop) (zl : List (List Int)), jp = .pointer (some ⟨J, 0, none⟩) ∧ i = .int .i64 (k : Int) ∧ k ≤ 40 ∧ SameAt w wr w.heap.size m k J X S H lw zl) (fun _ _ i _ => 40 - (intOf i).toNat)
  case atStart => exact ⟨0, J, _, _, _, [], rfl, rfl, by omega, hS⟩
  case round =>
    obtain ⟨k, J, X, S, H, zl, rfl, rfl, hk, hS⟩ := hrel
    by_cases hlt : k < zn ∧ k < 40
    · obtain ⟨hlt, hk40⟩ := hlt
      obtain ⟨g, off, c', hla, hat⟩ := (unhide HL).at (by have := unhide Hzn; omega)
      obtain ⟨u, hu, hru⟩ := hat k (by have := unhide Hzn; omega)
      have hzb := (unhide HL).bytes _ (mem_getD (zss := zss) (k := k) (by have := unhide Hzn; omega))
      have hla' : la = some ⟨g, off, none⟩ := by simp at hla; exact hla.1
      subst hla'
      have gl := World.block_lt_of_cell? _ _ hu
      have T := hS.turn
      have hu' := T.cell hu (fun h => by simp only at h gl; omega)
      have hru' := hru.lt.turn T (fun b hb h => by have := hb.2; omega)
      generalize zss.getD k [] = z at *
      obtain ⟨za, zc, rfl⟩ := hru.slice
      obtain ⟨x', hx', hrx⟩ := cut_to (P := Tryz.prog) (ki := .i64) Tryz.underlying33 hi hz1 hru' (min 300 z.length) (by omega)
      have htk : z.take (min 300 z.length) = z.take 300 := by
        rcases Nat.le_total 300 z.length with h | h
        · rw [Nat.min_eq_left h]
        · rw [Nat.min_eq_right h, List.take_length, List.take_of_length_le h]
      rw [htk] at hrx
      generalize hzl : z.length = zl0 at *
      have hzlm : zl0 ≤ 9223372036854775807 := by have := hru.len; unfold maxLen at this; omega
      obtain ⟨ba, bc, hbx, hcase⟩ : ∃ ba bc, Row .u8 (fun b => any b ∧ b < w.heap.size) wr (.slice ba (z.take 300).length bc) (z.take 300) ∧
          ((300 < zl0 ∧ ∀ u : World, (Instr.slice 33 (.slice za zl0 zc) none (some (.int .i64 300)) none).run Tryz.prog u = .ok (.slice ba (z.take 300).length bc) u) ∨ (zl0 ≤ 300 ∧ ba = za ∧ bc = zc ∧ (z.take 300).length = zl0)) := by
        by_cases h : 300 < zl0
        · obtain ⟨ba, bc, rfl⟩ := hrx.slice
          exact ⟨ba, bc, hrx, .inl ⟨by omega, fun u => by have := hx' u; rw [show min 300 zl0 = 300 by omega] at this; exact this⟩⟩
        · have ht : z.take 300 = z := List.take_of_length_le (by omega)
          refine ⟨za, zc, by rw [ht, hzl]; exact hru', .inr ⟨by omega, rfl, rfl, by rw [ht]; exact hzl⟩⟩
      have hbb : Bytes (z.take 300) := fun y hy => hzb y (List.mem_of_mem_take hy)
      have hbl : (z.take 300).length ≤ 300 := by rw [List.length_take]; omega
      clear hrx htk hx' hru' hru hla hat hu hzb hzl
      generalize z.take 300 = bb at *
      have hg := grown_more (b := bb) hS.g hm1 hk40 (by decide) hbl
      have hap := append_j wr H _ J w.heap.size X S (.slice ba bb.length bc) bb hS.j (hS.g.fit (by omega) (by omega)) hbb hbx (by rw [hS.g.next]; omega)
      rw [hg.1] at hap
      have HX := hide (And.intro hbx (And.intro hg (And.intro hS (And.intro hbb hbl))))
      have hlk := hS.g.count
      obtain ⟨ma, mc, hmv⟩ := hS.my.slice
      subst hmv
      clear hbx hg hS hbb T
      generalize bb.length = bl at *
      rcases hcase with ⟨h4, hsl⟩ | ⟨h4, hba, hbc, hzb⟩
      rotate_left
      · subst hba hbc hzb
        go_wp2_with fail
        refine hap.mono ?_
        rintro e w5 ⟨rfl, t5, j5⟩
        obtain ⟨hbx, hg, hS, hbb, hbl⟩ := unhide HX
        obtain ⟨lv', w6, H6, hrun, h6⟩ := same_more hS hbb hbx (by omega) t5 j5 hg.2.1 hg.2.2
        generalize (appendJ X S bb).2.1 = X6 at *
        generalize (appendJ X S bb).2.2 = S6 at *
        have hl6 : (zl ++ [bb]).length = k + 1 := by rw [← h6.recs]; exact h6.g.count
        obtain ⟨na, nc, hnv⟩ := h6.my.slice
        subst hnv
        generalize zl ++ [bb] = zl6 at *
        rw [hl6] at h6 hrun
        have HS := hide h6
        have Hl6 := hide hl6
        clear hap HX hbx hg hS hbb hbl t5 j5 h6 hl6
        have hno : ¬ (k < ol ∧ f k = true) ∨ (k < ol ∧ f k = true) := by
          by_cases h : k < ol ∧ f k = true
          · exact .inr h
          · exact .inl h
        by_cases hk2 : k < ol
        · obtain ⟨og, ooff, oc2, hoa, hoc⟩ := (unhide HO).cell k hk2
          have hoa' : oa = some ⟨og, ooff, none⟩ := by simp at hoa; exact hoa.1
          subst hoa'
          have ogl := World.block_lt_of_cell? _ _ hoc
          have hoc' := (unhide HS).turn.cell hoc (fun h => by simp only at h ogl; omega)
          generalize f k = fk at *
          clear hoc hoa hno
          cases fk
          · have HSX := HS
            have hWX : w6 = w6 := rfl
            have hS6 := unhide HSX
            have hfit := hS6.g.fit (by omega) (by omega)
            have hnx := next_jat _ _ _ _ _ _ hS6.j hfit
            rw [hS6.g.next] at hnx
            have hrr : ∀ u, Turn (fun _ => False) w6 u → _ := fun u T => records_j u _ _ _ _ _ (hS6.j.same T) hfit (len_300 hS6.g)
            rw [hS6.recs] at hrr
            have Hrr := hide hrr
            clear hS6 hfit hrr
            go_wp2_with (first | (at_builtin; refine list_append_run rfl _ _ 29 rfl _ _ _ _ rfl rfl hrun ?_) | (go_at_call 25; refine hnx.mono ?_; rintro e w7 ⟨rfl, t7⟩; have hrc := unhide Hrr w7 t7) | (go_at_call 20; refine hrc.mono ?_; rintro e w8 ⟨xl, rfl, hL, t8⟩; have h8 := (unhide HSX).calm (t7.then t8); have hsm := same_lists _ _ _ w8 (bargs_of_lists hL h8.bytes (by have := unhide Hl6; unfold maxLen; omega)) (h8.my.bargs h8.bytes (by have := unhide Hl6; unfold maxLen; omega)); have H8 := hide h8; clear hL h8) | (go_at_call 28; refine hsm.mono ?_; rintro e w9 ⟨rfl, t9⟩))
            exact ⟨⟨k + 1, J, _, _, _, zl6, rfl, by go_num, by omega, (unhide H8).calm t9⟩, by simp [intOf]; omega⟩
          · have hop := same_open (unhide HS) hm1 (by omega) (by omega)
            go_wp2_with (first
              | (at_builtin; refine list_append_run rfl _ _ 29 rfl _ _ _ _ rfl rfl hrun ?_)
              | (go_at_call 24; refine hop.mono ?_; rintro e w66 ⟨J6, H66, rfl, h66⟩; have HSX := hide h66; clear h66))
            have hS6 := unhide HSX
            have hfit := hS6.g.fit (by omega) (by omega)
            have hnx := next_jat _ _ _ _ _ _ hS6.j hfit
            rw [hS6.g.next] at hnx
            have hrr : ∀ u, Turn (fun _ => False) w66 u → _ := fun u T => records_j u _ _ _ _ _ (hS6.j.same T) hfit (len_300 hS6.g)
            rw [hS6.recs] at hrr
            have Hrr := hide hrr
            clear hS6 hfit hrr
            go_wp2_with (first | (at_builtin; refine list_append_run rfl _ _ 29 rfl _ _ _ _ rfl rfl hrun ?_) | (go_at_call 25; refine hnx.mono ?_; rintro e w7 ⟨rfl, t7⟩; have hrc := unhide Hrr w7 t7) | (go_at_call 20; refine hrc.mono ?_; rintro e w8 ⟨xl, rfl, hL, t8⟩; have h8 := (unhide HSX).calm (t7.then t8); have hsm := same_lists _ _ _ w8 (bargs_of_lists hL h8.bytes (by have := unhide Hl6; unfold maxLen; omega)) (h8.my.bargs h8.bytes (by have := unhide Hl6; unfold maxLen; omega)); have H8 := hide h8; clear hL h8) | (go_at_call 28; refine hsm.mono ?_; rintro e w9 ⟨rfl, t9⟩))
            exact ⟨⟨k + 1, J6, _, _, _, zl6, rfl, by go_num, by omega, (unhide H8).calm t9⟩, by simp [intOf]; omega⟩
        · skip
          have HSX := HS
          have hS6 := unhide HSX
          have hfit := hS6.g.fit (by omega) (by omega)
          have hnx := next_jat _ _ _ _ _ _ hS6.j hfit
          rw [hS6.g.next] at hnx
          have hrr : ∀ u, Turn (fun _ => False) w6 u → _ := fun u T => records_j u _ _ _ _ _ (hS6.j.same T) hfit (len_300 hS6.g)
          rw [hS6.recs] at hrr
          have Hrr := hide hrr
          clear hS6 hfit hrr
          go_wp2_with (first | (at_builtin; refine list_append_run rfl _ _ 29 rfl _ _ _ _ rfl rfl hrun ?_) | (go_at_call 25; refine hnx.mono ?_; rintro e w7 ⟨rfl, t7⟩; have hrc := unhide Hrr w7 t7) | (go_at_call 20; refine hrc.mono ?_; rintro e w8 ⟨xl, rfl, hL, t8⟩; have h8 := (unhide HSX).calm (t7.then t8); have hsm := same_lists _ _ _ w8 (bargs_of_lists hL h8.bytes (by have := unhide Hl6; unfold maxLen; omega)) (h8.my.bargs h8.bytes (by have := unhide Hl6; unfold maxLen; omega)); have H8 := hide h8; clear hL h8) | (go_at_call 28; refine hsm.mono ?_; rintro e w9 ⟨rfl, t9⟩))
          exact ⟨⟨k + 1, J, _, _, _, zl6, rfl, by go_num, by omega, (unhide H8).calm t9⟩, by simp [intOf]; omega⟩
      go_wp2_with fail
      refine hap.mono ?_
      rintro e w5 ⟨rfl, t5, j5⟩
      obtain ⟨hbx, hg, hS, hbb, hbl⟩ := unhide HX
      obtain ⟨lv', w6, H6, hrun, h6⟩ := same_more hS hbb hbx (by omega) t5 j5 hg.2.1 hg.2.2
      generalize (appendJ X S bb).2.1 = X6 at *
      generalize (appendJ X S bb).2.2 = S6 at *
      have hl6 : (zl ++ [bb]).length = k + 1 := by rw [← h6.recs]; exact h6.g.count
      obtain ⟨na, nc, hnv⟩ := h6.my.slice
      subst hnv
      generalize zl ++ [bb] = zl6 at *
      rw [hl6] at h6 hrun
      have HS := hide h6
      have Hl6 := hide hl6
      clear hap HX hbx hg hS hbb hbl t5 j5 h6 hl6
      have hno : ¬ (k < ol ∧ f k = true) ∨ (k < ol ∧ f k = true) := by
        by_cases h : k < ol ∧ f k = true
        · exact .inr h
        · exact .inl h
      by_cases hk2 : k < ol
      · obtain ⟨og, ooff, oc2, hoa, hoc⟩ := (unhide HO).cell k hk2
        have hoa' : oa = some ⟨og, ooff, none⟩ := by simp at hoa; exact hoa.1
        subst hoa'
        have ogl := World.block_lt_of_cell? _ _ hoc
        have hoc' := (unhide HS).turn.cell hoc (fun h => by simp only at h ogl; omega)
        generalize f k = fk at *
        clear hoc hoa hno
        cases fk
        · have HSX := HS
          have hWX : w6 = w6 := rfl
          have hS6 := unhide HSX
          have hfit := hS6.g.fit (by omega) (by omega)
          have hnx := next_jat _ _ _ _ _ _ hS6.j hfit
          rw [hS6.g.next] at hnx
          have hrr : ∀ u, Turn (fun _ => False) w6 u → _ := fun u T => records_j u _ _ _ _ _ (hS6.j.same T) hfit (len_300 hS6.g)
          rw [hS6.recs] at hrr
          have Hrr := hide hrr
          clear hS6 hfit hrr
          go_wp2_with (first | (at_builtin; refine list_append_run rfl _ _ 29 rfl _ _ _ _ rfl rfl hrun ?_) | (go_at_call 25; refine hnx.mono ?_; rintro e w7 ⟨rfl, t7⟩; have hrc := unhide Hrr w7 t7) | (go_at_call 20; refine hrc.mono ?_; rintro e w8 ⟨xl, rfl, hL, t8⟩; have h8 := (unhide HSX).calm (t7.then t8); have hsm := same_lists _ _ _ w8 (bargs_of_lists hL h8.bytes (by have := unhide Hl6; unfold maxLen; omega)) (h8.my.bargs h8.bytes (by have := unhide Hl6; unfold maxLen; omega)); have H8 := hide h8; clear hL h8) | (go_at_call 28; refine hsm.mono ?_; rintro e w9 ⟨rfl, t9⟩))
          exact ⟨⟨k + 1, J, _, _, _, zl6, rfl, by go_num, by omega, (unhide H8).calm t9⟩, by simp [intOf]; omega⟩
        · have hop := same_open (unhide HS) hm1 (by omega) (by omega)
          go_wp2_with (first
            | (at_builtin; refine list_append_run rfl _ _ 29 rfl _ _ _ _ rfl rfl hrun ?_)
            | (go_at_call 24; refine hop.mono ?_; rintro e w66 ⟨J6, H66, rfl, h66⟩; have HSX := hide h66; clear h66))
          have hS6 := unhide HSX
          have hfit := hS6.g.fit (by omega) (by omega)
          have hnx := next_jat _ _ _ _ _ _ hS6.j hfit
          rw [hS6.g.next] at hnx
          have hrr : ∀ u, Turn (fun _ => False) w66 u → _ := fun u T => records_j u _ _ _ _ _ (hS6.j.same T) hfit (len_300 hS6.g)
          rw [hS6.recs] at hrr
          have Hrr := hide hrr
          clear hS6 hfit hrr
          go_wp2_with (first | (at_builtin; refine list_append_run rfl _ _ 29 rfl _ _ _ _ rfl rfl hrun ?_) | (go_at_call 25; refine hnx.mono ?_; rintro e w7 ⟨rfl, t7⟩; have hrc := unhide Hrr w7 t7) | (go_at_call 20; refine hrc.mono ?_; rintro e w8 ⟨xl, rfl, hL, t8⟩; have h8 := (unhide HSX).calm (t7.then t8); have hsm := same_lists _ _ _ w8 (bargs_of_lists hL h8.bytes (by have := unhide Hl6; unfold maxLen; omega)) (h8.my.bargs h8.bytes (by have := unhide Hl6; unfold maxLen; omega)); have H8 := hide h8; clear hL h8) | (go_at_call 28; refine hsm.mono ?_; rintro e w9 ⟨rfl, t9⟩))
          exact ⟨⟨k + 1, J6, _, _, _, zl6, rfl, by go_num, by omega, (unhide H8).calm t9⟩, by simp [intOf]; omega⟩
      · skip
        have HSX := HS
        have hS6 := unhide HSX
        have hfit := hS6.g.fit (by omega) (by omega)
        have hnx := next_jat _ _ _ _ _ _ hS6.j hfit
        rw [hS6.g.next] at hnx
        have hrr : ∀ u, Turn (fun _ => False) w6 u → _ := fun u T => records_j u _ _ _ _ _ (hS6.j.same T) hfit (len_300 hS6.g)
        rw [hS6.recs] at hrr
        have Hrr := hide hrr
        clear hS6 hfit hrr
        go_wp2_with (first | (at_builtin; refine list_append_run rfl _ _ 29 rfl _ _ _ _ rfl rfl hrun ?_) | (go_at_call 25; refine hnx.mono ?_; rintro e w7 ⟨rfl, t7⟩; have hrc := unhide Hrr w7 t7) | (go_at_call 20; refine hrc.mono ?_; rintro e w8 ⟨xl, rfl, hL, t8⟩; have h8 := (unhide HSX).calm (t7.then t8); have hsm := same_lists _ _ _ w8 (bargs_of_lists hL h8.bytes (by have := unhide Hl6; unfold maxLen; omega)) (h8.my.bargs h8.bytes (by have := unhide Hl6; unfold maxLen; omega)); have H8 := hide h8; clear hL h8) | (go_at_call 28; refine hsm.mono ?_; rintro e w9 ⟨rfl, t9⟩))
        exact ⟨⟨k + 1, J, _, _, _, zl6, rfl, by go_num, by omega, (unhide H8).calm t9⟩, by simp [intOf]; omega⟩
    · skip
      have hlk : zl.length = k := by rw [← hS.recs]; exact hS.g.count
      obtain ⟨ma, mc, hmv⟩ := hS.my.slice
      rw [hlk] at hmv
      subst hmv
      obtain ⟨f3, hf3, ef3⟩ := rem_u a3 (k + 1) (by omega) (by omega)
      rw [show ((k + 1 : Nat) : Int) = (k : Int) + 1 by omega] at ef3
      have hfit := hS.g.fit (by omega) (by omega)
      have ht := trim_j wr H J w.heap.size X S f3 hS.j hfit
      obtain ⟨g1, g2, g3, g4, g5, g6, g7, g8, ⟨q, g9⟩, g10, g11, g12⟩ := grown_trim (n := f3) hS.g hm1 (by omega) (by omega) (by omega)
      rw [g1] at ht
      have hcnt := hS.g.count
      have hfull : ∀ s ∈ (trimJ X S f3).2.1.segs, s.recs ≠ [] := by rw [g8]; exact fun s hs => ev_full hS.g.ev s (List.mem_of_mem_drop hs)
      have hfi : firstOf (trimJ X S f3).2.1.segs ≤ k := by rw [g3]; exact g6
      have hrd : recsOf (trimJ X S f3).2.1.segs = zl.drop (firstOf (trimJ X S f3).2.1.segs) := by
        rw [← hS.recs]
        conv => lhs; rw [g8]
        refine recs_drop X.segs _ _ ?_ (by rw [hcnt]; exact hfi)
        rw [← g8, g5, hcnt, g3]
      have hsh : ∀ b ∈ recsOf (trimJ X S f3).2.1.segs, Bytes b ∧ b.length ≤ 1048576 := by
        rw [hrd]
        intro b hb
        have hb := List.mem_of_mem_drop hb
        refine ⟨hS.bytes b hb, ?_⟩
        rw [← hS.recs] at hb
        have := hS.g.short b hb
        omega
      generalize (trimJ X S f3).2.1 = X4 at *
      generalize (trimJ X S f3).2.2 = S4 at *
      have HK := hide (And.intro hS (And.intro g2 (And.intro g4 (And.intro hfull (And.intro hrd (And.intro hsh (And.intro g9 (And.intro g10 g12))))))))
      have hfit4 := hide g2
      clear hS hfit g1 g2 g3 g4 g5 g6 g7 g8 g9 g10 g11 g12 hcnt hfull hrd hsh
      have Hlk := hide hlk
      clear hlk
      have hend : ¬ k < zn ∨ (k < zn ∧ ¬ k < 40) := by omega
      clear hlt
      have Hef := hide ef3
      generalize hxx : (IntKind.u64.wrap a3).tmod ((k : Int) + 1) = xx at *
      subst ef3
      rcases hend with h | ⟨h, h40⟩
      all_goals
        go_wp2_with fail
        refine ht.mono ?_
        rintro e w4 ⟨rfl, t4, j4⟩
        obtain ⟨hS, g2, g4, hfull, hrd, hsh, g9, g10, g12⟩ := unhide HK
        have hF4 := first_jat w4 _ J w.heap.size X4 S4 j4
        have hN4 := next_jat w4 _ J w.heap.size X4 S4 j4 g2
        rw [g4] at hN4
        have s4 := t4.size
        have sw := hS.turn.size
        have my4 := hS.my.turn t4 (fun j hj hh => (hS.own j hj).2.2 hh) (fun j hj hh => by have := (hS.hH j hh).1; omega)
        have hH4 : ∀ j, NF wr H j → w.heap.size ≤ j := fun j hj => by
          rcases hj with hj | hj
          · exact (hS.hH j hj).1
          · omega
        have own4 : ∀ j, (Value.slice ma k mc).ownBlock = some j → w.heap.size ≤ j ∧ ¬ NF wr H j := fun j hj => ⟨(hS.own j hj).1, by
          rintro (hh | hh)
          · exact (hS.own j hj).2.2 hh
          · have := (hS.own j hj).2.1; omega⟩
        have T4 : Turn (fun j => w.heap.size ≤ j) w w4 := hS.turn.then (t4.mono (fun j hj => (hS.hH j hj).1))
        have HW := hide (And.intro my4 (And.intro hH4 (And.intro own4 (And.intro T4 (And.intro j4 hS.bytes)))))
        have HK2 := hide (And.intro hfull (And.intro hrd (And.intro hsh (And.intro g9 (And.intro g10 (And.intro g12 g4))))))
        clear ht hS g2 g4 hfull hrd hsh g9 g10 g12 t4 j4 my4 hH4 own4 T4 HK
        go_wp2_with fail
        refine hF4.mono ?_
        rintro e w4' ⟨rfl, hw⟩
        have hw := hw.symm
        subst hw
        clear hF4
        generalize hfx : firstOf X4.segs = fi at *
        have Hfx := hide hfx
        clear hfx
        go_wp2_with fail
        refine hN4.mono ?_
        rintro e w5 ⟨rfl, t5⟩
        obtain ⟨my4, hH4, own4, T4, j4, hby⟩ := unhide HW
        obtain ⟨hfull, hrd, hsh, g9, g10, g12, g4⟩ := unhide HK2
        have j5 := j4.same t5
        have hG5 := segments_jat w5 _ J w.heap.size X4 S4 j5
        obtain ⟨F5, d5, hF5⟩ := disk_of j5
        have hop := open_held w5 F5 w.heap.size m S4 X4.segs q d5 g9 g10 hsh (full_tail hfull) (fun s hs => ((unhide hfit4).first s hs).1) (by rw [g12]; decide) hm1 (by omega)
        have my5 := my4.turn t5 (fun _ _ h => h) (fun _ _ h => h)
        have T5 := T4.then (t5.mono (fun _ h => h.elim))
        have s5 := t5.size
        have HW5 := hide (And.intro my5 (And.intro hH4 (And.intro own4 (And.intro T5 (And.intro hby hF5)))))
        clear HW my4 hH4 own4 T4 j4 j5 my5 T5 d5 hF5 t5 hby hN4
        clear hfull hrd hsh g9 g10 g12 g4
        go_wp2_with fail
        refine hG5.mono ?_
        rintro e w5' ⟨rfl, hw⟩
        have hw := hw.symm
        subst hw
        clear hG5
        generalize hsx : X4.segs.length = sl at *
        have Hsx := hide hsx
        clear hsx
        go_wp2_with fail
        refine hop.mono ?_
        rintro e w6 ⟨J6, rfl, t6, j6⟩
        obtain ⟨my5, hH4, own4, T5, hby, hF5⟩ := unhide HW5
        obtain ⟨hfull, hrd, hsh, g9, g10, g12, g4⟩ := unhide HK2
        have fit6 : Fit (newX m X4.segs) := ⟨(unhide hfit4).first, (unhide hfit4).segs, Nat.zero_le _, by show m ≤ 1000; omega⟩
        have hF6 := first_jat w6 _ J6 w.heap.size _ S4 j6
        have hN6 := next_jat w6 _ J6 w.heap.size _ S4 j6 fit6
        have my6 := my5.turn t6 (fun j hj hh => (own4 j hj).2 (hF5 j hh)) (fun j hj hh => by have := hH4 j (hF5 j hh); omega)
        have T6 := T5.then (t6.mono (fun j hj => hH4 j (hF5 j hj)))
        rw [show firstOf (newX m X4.segs).segs = fi from unhide Hfx] at hF6
        rw [show nextOf (newX m X4.segs).segs = k from g4] at hN6
        have hlen : ∀ s ∈ X4.segs, ∀ b ∈ s.recs, b.length ≤ 1099511627776 := fun s hs b hb => by
          have := (hsh b (List.mem_flatMap.2 ⟨s, hs, hb⟩)).2
          omega
        have HW6 := hide (And.intro my6 (And.intro T6 (And.intro hby (And.intro j6 (And.intro fit6 (And.intro hlen hrd))))))
        clear my5 hH4 own4 T5 hby hF5 hfull hrd hsh g9 g10 g12 g4 fit6 my6 T6 hlen j6 t6 hop
        have hfik : (fi : Int) ≤ (k : Int) := by omega
        have hF6' := hF6
        go_wp2_with fail
        refine hF6.mono ?_
        rintro e w6' ⟨rfl, hw⟩
        have hw := hw.symm
        subst hw
        go_wp2_with fail
        refine hF6'.mono ?_
        rintro e w6' ⟨rfl, hw⟩
        have hw := hw.symm
        subst hw
        go_wp2_with fail
        refine hN6.mono ?_
        rintro e w7 ⟨rfl, t7⟩
        obtain ⟨my6, T6, hby, j6, fit6, hlen, hrd⟩ := unhide HW6
        have j7 := j6.same t7
        have hG7 := segments_jat w7 _ J6 w.heap.size _ S4 j7
        rw [show (newX m X4.segs).segs.length = sl from unhide Hsx] at hG7
        have hR7 := records_j w7 _ J6 w.heap.size _ S4 j7 fit6 hlen
        rw [show recsOf (newX m X4.segs).segs = zl.drop fi from hrd] at hR7
        clear my6 T6 hby j6 fit6 hlen hrd j7 hF6 hF6' hN6
        go_wp2_with fail
        refine hG7.mono ?_
        rintro e w7' ⟨rfl, hw⟩
        have hw := hw.symm
        subst hw
        clear hG7
        go_wp2_with fail
        refine hR7.mono ?_
        rintro e w8 ⟨xl, rfl, hL, t8⟩
        obtain ⟨my6, T6, hby, j6, fit6, hlen, hrd⟩ := unhide HW6
        have t78 := t7.then t8
        have hF8 := first_jat w8 _ J6 w.heap.size _ S4 (j6.same t78)
        rw [show firstOf (newX m X4.segs).segs = fi from unhide Hfx] at hF8
        have my8 := my6.turn t78 (fun _ _ h => h) (fun _ _ h => h)
        obtain ⟨xd, hxd, hbd⟩ := my8.from_ fi (by have := unhide Hlk; omega) hby (by have := unhide Hlk; unfold maxLen; omega)
        have hsm := same_lists xl xd (zl.drop fi) w8 (bargs_of_lists hL (fun z hz => hby z (List.mem_of_mem_drop hz)) (by rw [List.length_drop]; have := unhide Hlk; unfold maxLen; omega)) hbd
        have HT8 := hide (T6.then (t78.mono (fun _ h => h.elim)))
        clear hR7 my6 T6 hby j6 fit6 hlen hrd hL my8 hbd t7 t8 t78 HW6 HW5 HK2
        go_wp2_with fail
        refine hF8.mono ?_
        rintro e w8' ⟨rfl, hw⟩
        have hw := hw.symm
        subst hw
        clear hF8
        go_wp2_with fail
        refine hsm.mono ?_
        rintro e w9 ⟨rfl, t9⟩
        clear hsm
        go_wp2
        go_ret
        exact ⟨rfl, ((unhide HT8).then (t9.mono (fun _ h => h.elim))).fresh (Nat.le_refl _)⟩
theorem JournalSame_law (w : World) (a0 : Int) (w0 : (Lit.int .i64 a0).wf = true) (lv : Value) (zss : List (List Int)) (hl : BArgs w lv zss) (ov : Value) (ol : Nat) (f : Nat → Bool) (ho : Bools w ov ol f) (a3 : Int) (w3 : (Lit.int .i64 a3).wf = true) :
    Calls Tryz.prog 7 #[.int .i64 a0, lv, ov, .int .i64 a3] w fun e w' => e = .returned (.bool true) ∧ Below w.heap.size w w' :=
  (same_walk w a0 lv zss ov ol f a3 hl ho).mono (fun e w' h => ⟨h.1, h.2.bel⟩)
end Go.Proofs.YthikiahhochjmaaGreatDoor
