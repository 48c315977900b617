/- SlotsTurns: saved turn by turn, opened anew, behind falls that take nothing. -/
import Derived.Test.YtodnnblnchjeiabVAwake
import Derived.Test.YtodnnblnchjeiabDStart
import Derived.Test.YtodnnblnchjeiabFArg
import Derived.Test.YtodnnblnchjeiabBWf
namespace Go.Proofs.Ytodnnblnchjeiab
open Go.RowKit Go.Maps
set_option linter.unusedVariables false
set_option linter.unusedSimpArgs false

/-- what stands between two turns -/
structure Turn8 (S : Dk) (k : Nat) (L : List Int) : Prop where
  q : Quiet S k L
  down : S.down = false
  arm : S.arm = 0
  size : S.size = 262144
  room : used S.fs ≤ 2040
  few : Few k L
  low : L.length ≤ 1000
theorem turn8_new : Turn8 (newS 262144) 0 [] := ⟨quiet_new _, rfl, rfl, rfl, by simp [newS, used], few_zero 0 (by decide), by simp⟩
theorem turn8_save {S : Dk} {k : Nat} {b L : List Int} (h : Turn8 S k L) (hb : Bytes b) (hl : b.length ≤ 1000) (hk : k < 30) :
    ∃ S', saveV ⟨k, L, false⟩ S b = (0, ⟨k + 1, b, false⟩, S') ∧ Turn8 S' (k + 1) b := by
  have fb : Few (k + 1) b := ⟨hb, by omega, by omega⟩
  obtain ⟨S', e, q, d, a, z, u, g⟩ := save_fine (k := 1000) h.q h.down h.arm h.few fb (by have := h.room; have := h.size; omega) h.low hl
  exact ⟨S', e, q, d, a, z.trans h.size, u, fb, hl⟩
theorem turn8_fall {S : Dk} {k : Nat} {L : List Int} (h : Turn8 S k L) (hw : Well S) : Turn8 (startS (crashS S [])) k L := by
  have hs : ∀ f ∈ S.fs, f.s ≤ f.d.length := fun f hf => (hw.good f hf).2
  have hw2 := well_crash hw []
  have hs2 : ∀ f ∈ (crashS S []).fs, f.s ≤ f.d.length := fun f hf => (hw2.good f hf).2
  obtain ⟨q, d, a, z⟩ := start_quiet (crash_quiet [] h.q)
  exact ⟨q, d, a, z.trans h.size, Nat.le_trans (used_start hs2) (Nat.le_trans (used_crash [] hs) h.room), h.few, h.low⟩

theorem opens_at {w : World} {B : Nat → Prop} {v : Value} {zs : List Int} (h : Row .i64 B w v zs) (k : Nat) (hk : k < zs.length) : ∃ b off c, v = .slice (some ⟨b, off, none⟩) zs.length c ∧ w.cell? ⟨b, off + k, none⟩ = some (.int .i64 (zs.getD k 0)) := by
  rcases h with ⟨_, _, _, _, _, h0⟩ | ⟨b, off, c, rfl, h1, h2, h3, h4⟩
  · rw [h0] at hk; simp at hk
  · exact ⟨b, off, c, rfl, h4 k hk⟩

set_option maxRecDepth 100000 in
set_option maxHeartbeats 8000000 in
theorem turns_walk (w : World) (lv : Value) (zss : List (List Int)) (ov : Value) (zo : List Int) (hl : BArgs w lv zss) (ho : Row .i64 any w ov zo) :
    Calls Try.prog 5 #[lv, ov] w fun e w' => e = .returned (.bool true) ∧ Turn (fun _ => False) w w' := by
  obtain ⟨i0, hi, hz0, hz1, hz2⟩ := info_parts info_u8
  have ho := ho.lt
  obtain ⟨la, lc, rfl⟩ := hl.form
  obtain ⟨oa, oc, rfl⟩ := ho.slice
  have hnew := New_walk 262144 w (by decide) (by decide)
  have HL := hide hl
  have HO := hide ho
  have hlm := hl.len
  have hom := ho.len
  unfold maxLen at hlm hom
  clear hl ho
  generalize hzl : zss.length = zl at *
  generalize hzo : zo.length = ol at *
  have Hzl := hide hzl
  have Hzo := hide hzo
  clear hzl hzo
  go_enter Try.func5, Try.ntmps5
  go_wp2_with fail
  refine hnew.mono ?_
  rintro e w1 ⟨rfl, t1, d1⟩
  go_wp2_with fail
  refine (open_fine w1 _ _ _ 0 [] d1 (quiet_new 262144) rfl (few_zero 0 (by decide))).mono ?_
  rintro e w2 ⟨X, rfl, t2, hX, v2⟩
  have s1 := t1.size
  have s2 := t2.size
  go_wp2_with (go_at_call 8; refine (awakeV _).mono ?_; rintro e w3 ⟨rfl, t3⟩)
  have s3 := t3.size
  have v3 : VAt w3 (fun j => w.heap.size ≤ j) X w.heap.size ⟨0, [], false⟩ (newS 262144) := (v2.same t3).mono (fun j hj _ => by
    rcases hj with h | h
    · exact h
    · omega)
  have T3 : Turn (fun j => w.heap.size ≤ j) w w3 := ((t1.then t2).then t3).mono (fun _ h => h.elim)
  clear hnew t1 t2 t3 v2 d1
  go_loopw [7, 9] (fun sp i wr => ∃ (k X : Nat) (S : Dk) (L : List Int), sp = .pointer (some ⟨X, 0, none⟩) ∧ i = .int .i64 (k : Int) ∧ k ≤ 30 ∧ VAt wr (fun j => w.heap.size ≤ j) X w.heap.size ⟨k, L, false⟩ S ∧ Turn8 S k L ∧ Turn (fun j => w.heap.size ≤ j) w wr) (fun _ i _ => 30 - (intOf i).toNat)
  case atStart => exact ⟨0, X, _, _, rfl, rfl, by omega, v3, turn8_new, T3⟩
  case round =>
    obtain ⟨k, X, S, L, rfl, rfl, hk, v, hG, T⟩ := hrel
    clear v3 T3
    by_cases hlt : k < zl ∧ k < 30
    · obtain ⟨hlt, hk30⟩ := hlt
      obtain ⟨g, off, c', hla, hat⟩ := (unhide HL).at (by have := unhide Hzl; omega)
      obtain ⟨u, hu, hru⟩ := hat k (by have := unhide Hzl; omega)
      have hzb := (unhide HL).bytes _ (mem_getD (zss := zss) (k := k) (by have := unhide Hzl; omega))
      have hla' : la = some ⟨g, off, none⟩ := by simp at hla; exact hla.1
      subst hla'
      have gl := World.block_lt_of_cell? _ _ hu
      have hu' := T.cell hu (fun h => by simp only at h gl; omega)
      have hru' := hru.lt.turn T (fun b hb h => by have := hb.2; omega)
      generalize zss.getD k [] = z at *
      obtain ⟨ua, uc, rfl⟩ := hru.slice
      obtain ⟨x', hx', hrx⟩ := cut_to (P := Try.prog) (ki := .i64) Try.underlying22 hi hz1 hru' (min 1000 z.length) (by omega)
      have htk : z.take (min 1000 z.length) = z.take 1000 := by
        rcases Nat.le_total 1000 z.length with h | h
        · rw [Nat.min_eq_left h]
        · rw [Nat.min_eq_right h, List.take_length, List.take_of_length_le h]
      rw [htk] at hrx
      -- the value that is saved
      obtain ⟨bx, hbx, hcase⟩ : ∃ bx, Row .u8 (fun b => any b ∧ b < w.heap.size) wr bx (z.take 1000) ∧ ((1000 < z.length ∧ bx = x') ∨ (z.length ≤ 1000 ∧ bx = .slice ua z.length uc)) := by
        by_cases h : 1000 < z.length
        · exact ⟨x', hrx, .inl ⟨h, rfl⟩⟩
        · exact ⟨_, by rw [List.take_of_length_le (by omega)]; exact hru', .inr ⟨by omega, rfl⟩⟩
      have hbb : Bytes (z.take 1000) := fun y hy => hzb y (List.mem_of_mem_take hy)
      have hbl : (z.take 1000).length ≤ 1000 := by rw [List.length_take]; omega
      obtain ⟨S', e', hG'⟩ := turn8_save hG hbb hbl hk30
      have hsv := saveV_w wr _ _ X w.heap.size ⟨k, L, false⟩ S bx (z.take 1000) v hbx (fun j hj _ hh => by have := hj.2; omega) hbb (by omega) (by show k < 1000; omega)
      rw [e'] at hsv
      simp only at hsv
      have hmin : 1000 < z.length → min 1000 z.length = 1000 := fun h => by omega
      have Hb := hide (And.intro hbx hbl)
      have hul : z.length ≤ 9223372036854775807 := by have := hru.len; unfold maxLen at this; omega
      clear v hG hla hat hzb hru hrx htk hbb hbx e' hbl hu
      have HX := hide hx'
      clear hx'
      generalize z.length = zn at *
      have hcase2 : (1000 < zn ∧ ∀ u : World, (Instr.slice 22 (.slice ua zn uc) none (some (.int .i64 1000)) none).run Try.prog u = .ok bx u) ∨ (zn ≤ 1000 ∧ bx = .slice ua zn uc) := by
        rcases hcase with ⟨h1, h2⟩ | h2
        · left
          refine ⟨h1, fun u => ?_⟩
          have := unhide HX u
          rw [hmin h1] at this
          rw [h2]; exact this
        · exact .inr h2
      clear hcase HX hmin
      generalize z.take 1000 = bb at *
      have s4 := T.size
      have HT := hide T
      clear T
      rcases hcase2 with ⟨h1, hx'⟩ | ⟨h1, h2⟩
      rotate_left
      · subst h2
        go_wp2_with fail
        refine hsv.mono ?_
        rintro e w5 ⟨rfl, t5, v5⟩
        have v5' : VAt w5 (fun j => w.heap.size ≤ j) X w.heap.size ⟨k + 1, bb, false⟩ S' := v5.mono (fun j hj _ => by rcases hj with h | h; exact h; omega)
        have T5 : Turn (fun j => w.heap.size ≤ j) w w5 := (unhide HT).then t5
        have R5 := (unhide Hb).1.turn t5 (fun b hb h => by have := hb.2; omega)
        have s5 := T5.size
        clear hsv t5 v5
        by_cases hk2 : k < ol
        · obtain ⟨og, ooff, oc2, hoa, hoc⟩ := opens_at (unhide HO) k (by have := unhide Hzo; omega)
          have hoa' : oa = some ⟨og, ooff, none⟩ := by simp at hoa; exact hoa.1
          subst hoa'
          have ogl := World.block_lt_of_cell? _ _ hoc
          have hoc' := T5.cell hoc (fun h => by simp only at h ogl; omega)
          generalize zo.getD k 0 = q at *
          clear hoc hoa
          by_cases hr0 : q.tmod 3 = 0
          · skip
            have hls := lastV_w _ _ X w.heap.size _ _ v5' (by have := (unhide Hb).2; show bb.length ≤ _; omega) (fun h => by cases h)
            go_wp2_with fail
            refine hls.mono ?_
            rintro e w7 ⟨lv7, rfl, o7, f7, t7⟩
            have hbw := bytes_walk _ _ lv7 _ bb w7 (row_of_sl o7) (R5.turn t7 (fun _ _ h => h))
            have HF := hide (And.intro (v5'.same t7) (And.intro hG' (T5.then (t7.mono (fun _ h => h.elim)))))
            clear hls o7 f7 t7
            go_wp2_with (first | (go_at_call 15; refine hbw.mono ?_; rintro e w0 ⟨rfl, hw0⟩; have hw0 := hw0.symm; subst hw0))
            exact ⟨⟨k + 1, X, S', bb, rfl, by go_num, by omega, (unhide HF).1, (unhide HF).2.1, (unhide HF).2.2⟩, by simp [intOf]; omega⟩
          · by_cases hr1 : q.tmod 3 = 1
            · have hcr := v5'.call (fun F dd => Crash_walk w5 w.heap.size F (fun _ => False) S' (.slice none 0 0) [] dd (row_none _ _ _) (fun _ h => h.elim))
              go_wp2_with fail
              refine hcr.mono ?_
              rintro e w51 ⟨rfl, t51, v51⟩
              have hst := v51.call (fun F dd => Start_walk w51 w.heap.size F (crashS S' []) dd)
              have s51 := t51.size
              have hGf := turn8_fall hG' v5'.well
              have R51 := R5.turn t51 (fun b hb h => by have := hb.2; omega)
              have T51 := T5.then t51
              clear hcr
              go_wp2_with fail
              refine hst.mono ?_
              rintro e w52 ⟨rfl, t52, v52⟩
              have hH : ∀ j, NF w51 (NF w5 (fun j => w.heap.size ≤ j)) j → w.heap.size ≤ j := fun j hj => by
                rcases hj with (h | h) | h
                · exact h
                · omega
                · omega
              have T52 : Turn (fun j => w.heap.size ≤ j) w w52 := T51.trans t52 (fun j hj => .inl (hH j (.inl hj)))
              have R52 := R51.turn t52 (fun b hb h => by have h2 := hH b (.inl h); have := hb.2; omega)
              obtain ⟨F5, d5, hF5⟩ := v52.disk
              have hHF : ∀ j, F5 j → w.heap.size ≤ j := fun j hj => hH j (hF5 j hj)
              clear hst v51 v52 t51 t52 R5 R51
              have hop := open_fine w52 _ w.heap.size _ (k + 1) bb d5 hGf.q hGf.down hGf.few
              go_wp2_with fail
              refine hop.mono ?_
              rintro e w6 ⟨X6, rfl, t6, hX6, v6⟩
              have v6' : VAt w6 (fun j => w.heap.size ≤ j) X6 w.heap.size ⟨k + 1, bb, false⟩ (startS (crashS S' [])) := v6.mono (fun j hj _ => by
                rcases hj with h | h
                · exact hHF j h
                · have := T52.size; omega)
              have T6 := T52.then (t6.mono (fun _ h => h.elim))
              have R6 := R52.turn t6 (fun _ _ h => h)
              clear hop v6
              have hls := lastV_w _ _ X6 w.heap.size _ _ v6' (by have := (unhide Hb).2; show bb.length ≤ _; omega) (fun h => by cases h)
              go_wp2_with fail
              refine hls.mono ?_
              rintro e w7 ⟨lv7, rfl, o7, f7, t7⟩
              have hbw := bytes_walk _ _ lv7 _ bb w7 (row_of_sl o7) (R6.turn t7 (fun _ _ h => h))
              have HF := hide (And.intro (v6'.same t7) (And.intro hGf (T6.then (t7.mono (fun _ h => h.elim)))))
              clear hls o7 f7 t7
              go_wp2_with (first | (go_at_call 15; refine hbw.mono ?_; rintro e w0 ⟨rfl, hw0⟩; have hw0 := hw0.symm; subst hw0))
              exact ⟨⟨k + 1, X6, (startS (crashS S' [])), bb, rfl, by go_num, by omega, (unhide HF).1, (unhide HF).2.1, (unhide HF).2.2⟩, by simp [intOf]; omega⟩
            · have e0 : (q.tmod 3 == 0) = false := by rw [beq_eq_false_iff_ne]; exact hr0
              have e1 : (q.tmod 3 == 1) = false := by rw [beq_eq_false_iff_ne]; exact hr1
              obtain ⟨F5, d5, hF5⟩ := v5'.disk
              have hop := open_fine w5 _ w.heap.size _ (k + 1) bb d5 hG'.q hG'.down hG'.few
              go_wp2_with fail
              refine hop.mono ?_
              rintro e w6 ⟨X6, rfl, t6, hX6, v6⟩
              have v6' : VAt w6 (fun j => w.heap.size ≤ j) X6 w.heap.size ⟨k + 1, bb, false⟩ S' := v6.mono (fun j hj _ => by
                rcases hj with h | h
                · exact hF5 j h
                · have := T5.size; omega)
              have T6 := T5.then (t6.mono (fun _ h => h.elim))
              have R6 := R5.turn t6 (fun _ _ h => h)
              clear hop v6
              have hls := lastV_w _ _ X6 w.heap.size _ _ v6' (by have := (unhide Hb).2; show bb.length ≤ _; omega) (fun h => by cases h)
              go_wp2_with fail
              refine hls.mono ?_
              rintro e w7 ⟨lv7, rfl, o7, f7, t7⟩
              have hbw := bytes_walk _ _ lv7 _ bb w7 (row_of_sl o7) (R6.turn t7 (fun _ _ h => h))
              have HF := hide (And.intro (v6'.same t7) (And.intro hG' (T6.then (t7.mono (fun _ h => h.elim)))))
              clear hls o7 f7 t7
              go_wp2_with (first | (go_at_call 15; refine hbw.mono ?_; rintro e w0 ⟨rfl, hw0⟩; have hw0 := hw0.symm; subst hw0))
              exact ⟨⟨k + 1, X6, S', bb, rfl, by go_num, by omega, (unhide HF).1, (unhide HF).2.1, (unhide HF).2.2⟩, by simp [intOf]; omega⟩
        · skip
          have hls := lastV_w _ _ X w.heap.size _ _ v5' (by have := (unhide Hb).2; show bb.length ≤ _; omega) (fun h => by cases h)
          go_wp2_with fail
          refine hls.mono ?_
          rintro e w7 ⟨lv7, rfl, o7, f7, t7⟩
          have hbw := bytes_walk _ _ lv7 _ bb w7 (row_of_sl o7) (R5.turn t7 (fun _ _ h => h))
          have HF := hide (And.intro (v5'.same t7) (And.intro hG' (T5.then (t7.mono (fun _ h => h.elim)))))
          clear hls o7 f7 t7
          go_wp2_with (first | (go_at_call 15; refine hbw.mono ?_; rintro e w0 ⟨rfl, hw0⟩; have hw0 := hw0.symm; subst hw0))
          exact ⟨⟨k + 1, X, S', bb, rfl, by go_num, by omega, (unhide HF).1, (unhide HF).2.1, (unhide HF).2.2⟩, by simp [intOf]; omega⟩
      · skip
        go_wp2_with fail
        refine hsv.mono ?_
        rintro e w5 ⟨rfl, t5, v5⟩
        have v5' : VAt w5 (fun j => w.heap.size ≤ j) X w.heap.size ⟨k + 1, bb, false⟩ S' := v5.mono (fun j hj _ => by rcases hj with h | h; exact h; omega)
        have T5 : Turn (fun j => w.heap.size ≤ j) w w5 := (unhide HT).then t5
        have R5 := (unhide Hb).1.turn t5 (fun b hb h => by have := hb.2; omega)
        have s5 := T5.size
        clear hsv t5 v5
        by_cases hk2 : k < ol
        · obtain ⟨og, ooff, oc2, hoa, hoc⟩ := opens_at (unhide HO) k (by have := unhide Hzo; omega)
          have hoa' : oa = some ⟨og, ooff, none⟩ := by simp at hoa; exact hoa.1
          subst hoa'
          have ogl := World.block_lt_of_cell? _ _ hoc
          have hoc' := T5.cell hoc (fun h => by simp only at h ogl; omega)
          generalize zo.getD k 0 = q at *
          clear hoc hoa
          by_cases hr0 : q.tmod 3 = 0
          · skip
            have hls := lastV_w _ _ X w.heap.size _ _ v5' (by have := (unhide Hb).2; show bb.length ≤ _; omega) (fun h => by cases h)
            go_wp2_with fail
            refine hls.mono ?_
            rintro e w7 ⟨lv7, rfl, o7, f7, t7⟩
            have hbw := bytes_walk _ _ lv7 _ bb w7 (row_of_sl o7) (R5.turn t7 (fun _ _ h => h))
            have HF := hide (And.intro (v5'.same t7) (And.intro hG' (T5.then (t7.mono (fun _ h => h.elim)))))
            clear hls o7 f7 t7
            go_wp2_with (first | (go_at_call 15; refine hbw.mono ?_; rintro e w0 ⟨rfl, hw0⟩; have hw0 := hw0.symm; subst hw0))
            exact ⟨⟨k + 1, X, S', bb, rfl, by go_num, by omega, (unhide HF).1, (unhide HF).2.1, (unhide HF).2.2⟩, by simp [intOf]; omega⟩
          · by_cases hr1 : q.tmod 3 = 1
            · have hcr := v5'.call (fun F dd => Crash_walk w5 w.heap.size F (fun _ => False) S' (.slice none 0 0) [] dd (row_none _ _ _) (fun _ h => h.elim))
              go_wp2_with fail
              refine hcr.mono ?_
              rintro e w51 ⟨rfl, t51, v51⟩
              have hst := v51.call (fun F dd => Start_walk w51 w.heap.size F (crashS S' []) dd)
              have s51 := t51.size
              have hGf := turn8_fall hG' v5'.well
              have R51 := R5.turn t51 (fun b hb h => by have := hb.2; omega)
              have T51 := T5.then t51
              clear hcr
              go_wp2_with fail
              refine hst.mono ?_
              rintro e w52 ⟨rfl, t52, v52⟩
              have hH : ∀ j, NF w51 (NF w5 (fun j => w.heap.size ≤ j)) j → w.heap.size ≤ j := fun j hj => by
                rcases hj with (h | h) | h
                · exact h
                · omega
                · omega
              have T52 : Turn (fun j => w.heap.size ≤ j) w w52 := T51.trans t52 (fun j hj => .inl (hH j (.inl hj)))
              have R52 := R51.turn t52 (fun b hb h => by have h2 := hH b (.inl h); have := hb.2; omega)
              obtain ⟨F5, d5, hF5⟩ := v52.disk
              have hHF : ∀ j, F5 j → w.heap.size ≤ j := fun j hj => hH j (hF5 j hj)
              clear hst v51 v52 t51 t52 R5 R51
              have hop := open_fine w52 _ w.heap.size _ (k + 1) bb d5 hGf.q hGf.down hGf.few
              go_wp2_with fail
              refine hop.mono ?_
              rintro e w6 ⟨X6, rfl, t6, hX6, v6⟩
              have v6' : VAt w6 (fun j => w.heap.size ≤ j) X6 w.heap.size ⟨k + 1, bb, false⟩ (startS (crashS S' [])) := v6.mono (fun j hj _ => by
                rcases hj with h | h
                · exact hHF j h
                · have := T52.size; omega)
              have T6 := T52.then (t6.mono (fun _ h => h.elim))
              have R6 := R52.turn t6 (fun _ _ h => h)
              clear hop v6
              have hls := lastV_w _ _ X6 w.heap.size _ _ v6' (by have := (unhide Hb).2; show bb.length ≤ _; omega) (fun h => by cases h)
              go_wp2_with fail
              refine hls.mono ?_
              rintro e w7 ⟨lv7, rfl, o7, f7, t7⟩
              have hbw := bytes_walk _ _ lv7 _ bb w7 (row_of_sl o7) (R6.turn t7 (fun _ _ h => h))
              have HF := hide (And.intro (v6'.same t7) (And.intro hGf (T6.then (t7.mono (fun _ h => h.elim)))))
              clear hls o7 f7 t7
              go_wp2_with (first | (go_at_call 15; refine hbw.mono ?_; rintro e w0 ⟨rfl, hw0⟩; have hw0 := hw0.symm; subst hw0))
              exact ⟨⟨k + 1, X6, (startS (crashS S' [])), bb, rfl, by go_num, by omega, (unhide HF).1, (unhide HF).2.1, (unhide HF).2.2⟩, by simp [intOf]; omega⟩
            · have e0 : (q.tmod 3 == 0) = false := by rw [beq_eq_false_iff_ne]; exact hr0
              have e1 : (q.tmod 3 == 1) = false := by rw [beq_eq_false_iff_ne]; exact hr1
              obtain ⟨F5, d5, hF5⟩ := v5'.disk
              have hop := open_fine w5 _ w.heap.size _ (k + 1) bb d5 hG'.q hG'.down hG'.few
              go_wp2_with fail
              refine hop.mono ?_
              rintro e w6 ⟨X6, rfl, t6, hX6, v6⟩
              have v6' : VAt w6 (fun j => w.heap.size ≤ j) X6 w.heap.size ⟨k + 1, bb, false⟩ S' := v6.mono (fun j hj _ => by
                rcases hj with h | h
                · exact hF5 j h
                · have := T5.size; omega)
              have T6 := T5.then (t6.mono (fun _ h => h.elim))
              have R6 := R5.turn t6 (fun _ _ h => h)
              clear hop v6
              have hls := lastV_w _ _ X6 w.heap.size _ _ v6' (by have := (unhide Hb).2; show bb.length ≤ _; omega) (fun h => by cases h)
              go_wp2_with fail
              refine hls.mono ?_
              rintro e w7 ⟨lv7, rfl, o7, f7, t7⟩
              have hbw := bytes_walk _ _ lv7 _ bb w7 (row_of_sl o7) (R6.turn t7 (fun _ _ h => h))
              have HF := hide (And.intro (v6'.same t7) (And.intro hG' (T6.then (t7.mono (fun _ h => h.elim)))))
              clear hls o7 f7 t7
              go_wp2_with (first | (go_at_call 15; refine hbw.mono ?_; rintro e w0 ⟨rfl, hw0⟩; have hw0 := hw0.symm; subst hw0))
              exact ⟨⟨k + 1, X6, S', bb, rfl, by go_num, by omega, (unhide HF).1, (unhide HF).2.1, (unhide HF).2.2⟩, by simp [intOf]; omega⟩
        · skip
          have hls := lastV_w _ _ X w.heap.size _ _ v5' (by have := (unhide Hb).2; show bb.length ≤ _; omega) (fun h => by cases h)
          go_wp2_with fail
          refine hls.mono ?_
          rintro e w7 ⟨lv7, rfl, o7, f7, t7⟩
          have hbw := bytes_walk _ _ lv7 _ bb w7 (row_of_sl o7) (R5.turn t7 (fun _ _ h => h))
          have HF := hide (And.intro (v5'.same t7) (And.intro hG' (T5.then (t7.mono (fun _ h => h.elim)))))
          clear hls o7 f7 t7
          go_wp2_with (first | (go_at_call 15; refine hbw.mono ?_; rintro e w0 ⟨rfl, hw0⟩; have hw0 := hw0.symm; subst hw0))
          exact ⟨⟨k + 1, X, S', bb, rfl, by go_num, by omega, (unhide HF).1, (unhide HF).2.1, (unhide HF).2.2⟩, by simp [intOf]; omega⟩
    · have hend : ¬ k < zl ∨ (k < zl ∧ k = 30) := by omega
      clear v hG hlt
      rcases hend with h | ⟨h, rfl⟩
      all_goals
        go_wp2
        go_ret
        exact ⟨rfl, T.fresh (Nat.le_refl _)⟩
theorem SlotsTurns_law (w : World) (lv : Value) (zss : List (List Int)) (hl : BArgs w lv zss) (ov : Value) (zo : List Int) (ho : Row .i64 any w ov zo) (hwf : ∀ n ∈ zo, (Lit.int .i64 n).wf = true) (hz : zo.length * 8 ≤ 140737488351232) :
    Calls Try.prog 5 #[lv, ov] w fun e w' => e = .returned (.bool true) ∧ Below w.heap.size w w' :=
  (turns_walk w lv zss ov zo hl ho).mono (fun e w' h => ⟨h.1, h.2.bel⟩)
end Go.Proofs.Ytodnnblnchjeiab
