/- Decode: which network bytes are. -/
import Derived.Test.YtmmlannnpndkcaaGReadN
namespace Go.Proofs.Ytmmlannnpndkcaa
open Go.RowKit Go.Maps
set_option linter.unusedVariables false
set_option linter.unusedSimpArgs false
set_option maxRecDepth 100000

/-- what a decoder answers -/
def DecAns (zs : List Int) (w' : World) (n : Int) (x : Value) (e : Int) : Prop := ∃ l, AR any w' x l ∧ decodeT zs = (n, l, e)

set_option maxHeartbeats 8000000 in
theorem decode_walk (B : Nat → Prop) (w : World) (v : Value) (zs : List Int) (hr : Row .u8 B w v zs) (hb : Bytes zs) (hl : zs.length ≤ 1000000) :
    Calls Try.prog 10 #[v] w fun e w' => ∃ n x k, e = .returned (.tuple #[.agg #[.int .i64 n, x], .int .i64 k]) ∧ DecAns zs w' n x k ∧ Turn (fun _ => False) w w' := by
  obtain ⟨i0, hi, hz0, hz1, hz2⟩ := info_parts info_u8
  have T1 := (Turn.refl (fun _ => False) w).alloc (.cells #[.int .i64 0, .slice none 0 0] 26)
  have hrb := heap_alloc_new w (.cells #[.int .i64 0, .slice none 0 0] 26)
  have R1 := hr.turn T1 (fun _ _ h => h)
  match zs, hl, hb, hr, R1 with
  | [], _, _, hr, _ =>
    obtain ⟨a, c, rfl⟩ := hr.slice
    clear hr
    go_enter Try.func10, Try.ntmps10
    go_wp2
    exact bodyPost_ret (v := .tuple #[.agg #[.int .i64 0, .slice none 0 0], .int .i64 9]) (by simp [results, Try.results10, go_sem]) rfl ⟨0, _, 9, rfl, ⟨[], ar_none _ _, rfl⟩, (Turn.refl _ _).alloc _⟩
  | z :: r, hl, hb, hr, R1 =>
    have hz := hb z (by simp)
    have hbr : Bytes r := fun x hx => hb x (by simp [hx])
    obtain ⟨g, off, c, hv, h0⟩ : ∃ g off c, v = .slice (some ⟨g, off, none⟩) (z :: r).length c ∧ w.cell? ⟨g, off, none⟩ = some (.int .u8 z) := by
      rcases hr with ⟨_, _, _, _, _, h⟩ | ⟨g, off, c, rfl, _, _, _, hc⟩
      · simp at h
      · exact ⟨g, off, c, rfl, by have := hc 0 (by simp); simpa using this⟩
    subst hv
    have h0' : (w.alloc (.cells #[.int .i64 0, .slice none 0 0] 26)).cell? ⟨g, off, none⟩ = some (.int .u8 z) := T1.cell h0 (fun h => h)
    have hlen : ((z :: r).length : Int) = (r.length : Int) + 1 := by simp
    have hln : (z :: r).length = r.length + 1 := rfl
    have hl' : r.length ≤ 1000000 := by simp at hl; omega
    by_cases h7 : z = 7
    · subst h7
      obtain ⟨x1, hx1, RC⟩ := cut_from (P := Try.prog) (ki := .i64) Try.underlying22 hi hz1 R1 1 (by simp)
      simp only [List.drop_succ_cons, List.drop_zero] at RC
      rw [hln] at hx1 ⊢
      have hx2 : ∀ u : World, (Instr.slice 22 (.slice (some ⟨g, off, none⟩) (r.length + 1) c) (some (.int .i64 1)) none none).run Try.prog u = .ok x1 u := hx1
      have Hn := fun u t => new_walk B x1 r u (RC.turn (w' := u) (F := fun _ => False) t (fun _ _ h => h)) (by omega)
      have Hd : Hid (decodeT (7 :: r) = if (netT r).2.2.2 ≠ 0 then (0, [], (netT r).2.2.2) else if BoundedN (netT r).1 (netT r).2.1 ∧ (netT r).2.1.Pairwise ltA ∧ (netT r).2.2.1 = [] then ((netT r).1, (netT r).2.1, 0) else (0, [], 10)) := hide (by unfold decodeT; simp)
      clear hr R1 hx1 hz hb RC hlen hln
      go_enter Try.func10, Try.ntmps10
      go_wp2_with fail
      generalize w.alloc (.cells #[.int .i64 0, .slice none 0 0] 26) = W1 at *
      have hrbw : w.heap.size < W1.heap.size := (Array.getElem?_eq_some_iff.1 hrb).1
      generalize hrbe : w.heap.size = rb at *
      refine (Hn _ (Turn.refl _ _)).mono ?_
      rintro en w2 ⟨p, rfl, hp1, hp2, D2, b2⟩
      have t2 : Turn (fun _ => False) W1 w2 := Turn.of_below b2
      have Hrd := read_walk _ w2 p r D2 hbr (fun b hb => by have := hb.2; omega) hl'
      have rb2 := t2.same hrb (fun h => h)
      have T2 := T1.then t2
      have Hrb := hide hrbe
      generalize netT r = N at *
      obtain ⟨n, l, r', e⟩ := N
      simp only at Hrd Hd
      clear b2 t2 hrb T1 Hn hx2 hrbe h0' h0
      go_wp2_with fail
      refine Hrd.mono ?_
      rintro en w3 ⟨x3, rfl, O3, D3, t3, own3⟩
      obtain ⟨xa, xc, rfl⟩ := O3.form
      have rb3 := t3.same rb2 (by unfold only; omega)
      have T3 := T2.trans t3 (fun j hj => .inr (by unfold only at hj; have := unhide Hrb; omega))
      have tX := (Turn.refl (fun _ => False) w3).alloc (.cells #[.int .i64 n, .slice xa l.length xc] 26)
      have nb4 := heap_alloc_new w3 (.cells #[.int .i64 n, .slice xa l.length xc] 26)
      have rb4 := tX.same rb3 (fun h => h)
      have O4 := O3.turn tX (fun _ _ h => h)
      have D4 := D3.turn tX (fun h => h) (fun _ _ h => h)
      have T4 := T3.then tX
      have sz3 := (Array.getElem?_eq_some_iff.1 rb3).1
      clear Hrd D2 rb2 T2 rb3 T3 t3 tX D3 O3 own3
      go_wp2_with fail
      generalize w3.alloc (.cells #[.int .i64 n, .slice xa l.length xc] 26) = W4 at *
      generalize w3.heap.size = nb at *
      refine (rerr_walk _ p r' e W4 D4).mono ?_
      rintro en w5 ⟨rfl, rfl⟩
      have n0 : w5.cell? ⟨nb, 0, none⟩ = some (.int .i64 n) := cell_obj nb4 0
      have n1 : w5.cell? ⟨nb, 1, none⟩ = some (.slice xa l.length xc) := cell_obj nb4 1
      by_cases he : e = 0
      · subst he
        have Hb := bounded_walk any w5 n _ l (O4.ar.mono (fun _ _ => trivial))
        by_cases c1 : BoundedN n l
        · rw [decide_eq_true c1] at Hb
          go_wp2_with fail
          refine Hb.mono ?_
          rintro en w6 ⟨rfl, t6⟩
          have nb6 := t6.same nb4 (fun h => h)
          have f1 : w6.cell? ⟨nb, 1, none⟩ = some (.slice xa l.length xc) := cell_obj nb6 1
          have Hr := rising_walk any w6 _ l ((O4.turn t6 (fun _ _ h => h)).ar.mono (fun _ _ => trivial))
          by_cases c2 : l.Pairwise ltA
          · rw [decide_eq_true c2] at Hr
            go_wp2_with fail
            refine Hr.mono ?_
            rintro en w7 ⟨rfl, t7⟩
            have D7 := (D4.turn t6 (fun h => h) (fun _ _ h => h)).turn t7 (fun h => h) (fun _ _ h => h)
            have t67 := t6.then t7
            have rb7 := t67.same rb4 (fun h => h)
            have nb7 := t67.same nb4 (fun h => h)
            have O7 := O4.turn t67 (fun _ _ h => h)
            have T7 := T4.then t67
            clear Hb Hr n0 n1 f1 nb6 t6 t7 D4 O4 rb4 nb4 T4
            go_wp2_with fail
            refine (rleft_walk _ p r' 0 w7 D7).mono ?_
            rintro en w8 ⟨rfl, rfl⟩
            by_cases c3 : r' = []
            · have hD : Hid (decodeT (7 :: r) = (n, l, 0)) := hide (by rw [unhide Hd]; rw [if_neg (by simp), if_pos (by exact ⟨c1, c2, c3⟩)])
              subst c3
              have f0 : w8.cell? ⟨nb, 0, none⟩ = some (.int .i64 n) := cell_obj nb7 0
              have f1 : w8.cell? ⟨nb, 1, none⟩ = some (.slice xa l.length xc) := cell_obj nb7 1
              have d0 : w8.cell? ⟨rb, 0, none⟩ = some (.int .i64 0) := cell_obj rb7 0
              have d1 : w8.cell? ⟨rb, 1, none⟩ = some (.slice none 0 0) := cell_obj rb7 1
              have y0 : w8.frozen? ⟨rb, 0, none⟩ = false := frozen_obj rb7 0
              have y1 : w8.frozen? ⟨rb, 1, none⟩ = false := frozen_obj rb7 1
              have q1 := heap_setCell_obj (j := 0) rb7 (.int .i64 n)
              have q2 := heap_setCell_obj (j := 1) q1 (.slice xa l.length xc)
              have e0 : ((w8.setCell ⟨rb, 0, none⟩ (.int .i64 n)).setCell ⟨rb, 1, none⟩ (.slice xa l.length xc)).cell? ⟨rb, 0, none⟩ = some (.int .i64 n) := by rw [cell_obj q2 0]; rfl
              have e1 : ((w8.setCell ⟨rb, 0, none⟩ (.int .i64 n)).setCell ⟨rb, 1, none⟩ (.slice xa l.length xc)).cell? ⟨rb, 1, none⟩ = some (.slice xa l.length xc) := by rw [cell_obj q2 1]; rfl
              have tf : Turn (fun j => j = rb) w8 ((w8.setCell ⟨rb, 0, none⟩ (.int .i64 n)).setCell ⟨rb, 1, none⟩ (.slice xa l.length xc)) := ((Turn.refl (fun j => j = rb) w8).setCell (p := ⟨rb, 0, none⟩) (.inl rfl) _).setCell (p := ⟨rb, 1, none⟩) (.inl rfl) _
              have AF : AR any _ _ l := ((O7.turn tf (fun j hj => OwnSl.neObj O7 rb7 (by decide) j hj)).ar).mono (fun _ _ => trivial)
              have TF := T7.trans tf (fun j hj => .inr (by have := unhide Hrb; omega))
              clear q1 q2 tf T7 O7 D7 c1 c2
              go_wp2
              exact bodyPost_ret (v := .tuple #[.agg #[.int .i64 n, .slice xa l.length xc], .int .i64 0]) (by simp [results, Try.results10, go_sem, e0, e1]) rfl ⟨n, _, 0, rfl, ⟨l, AF, unhide hD⟩, TF⟩
            · have hD : Hid (decodeT (7 :: r) = (0, [], 10)) := hide (by rw [unhide Hd]; rw [if_neg (by simp), if_neg (by rintro ⟨_, _, h⟩; exact c3 h)])
              have hpos : (0 : Int) < (r'.length : Int) := by
                have : r'.length ≠ 0 := fun h => c3 (List.eq_nil_of_length_eq_zero h)
                omega
              clear c1 c2 c3
              have d0 : w8.cell? ⟨rb, 0, none⟩ = some (.int .i64 0) := cell_obj rb7 0
              have d1 : w8.cell? ⟨rb, 1, none⟩ = some (.slice none 0 0) := cell_obj rb7 1
              have y0 : w8.frozen? ⟨rb, 0, none⟩ = false := frozen_obj rb7 0
              have y1 : w8.frozen? ⟨rb, 1, none⟩ = false := frozen_obj rb7 1
              have q1 := heap_setCell_obj (j := 0) rb7 (.int .i64 0)
              have q2 := heap_setCell_obj (j := 1) q1 (.slice none 0 0)
              have e0 : ((w8.setCell ⟨rb, 0, none⟩ (.int .i64 0)).setCell ⟨rb, 1, none⟩ (.slice none 0 0)).cell? ⟨rb, 0, none⟩ = some (.int .i64 0) := by rw [cell_obj q2 0]; rfl
              have e1 : ((w8.setCell ⟨rb, 0, none⟩ (.int .i64 0)).setCell ⟨rb, 1, none⟩ (.slice none 0 0)).cell? ⟨rb, 1, none⟩ = some (.slice none 0 0) := by rw [cell_obj q2 1]; rfl
              have tf : Turn (fun j => j = rb) w8 ((w8.setCell ⟨rb, 0, none⟩ (.int .i64 0)).setCell ⟨rb, 1, none⟩ (.slice none 0 0)) := ((Turn.refl (fun j => j = rb) w8).setCell (p := ⟨rb, 0, none⟩) (.inl rfl) _).setCell (p := ⟨rb, 1, none⟩) (.inl rfl) _
              have TF := T7.trans tf (fun j hj => .inr (by have := unhide Hrb; omega))
              clear q1 q2 tf
              go_wp2
              exact bodyPost_ret (v := .tuple #[.agg #[.int .i64 0, .slice none 0 0], .int .i64 10]) (by simp [results, Try.results10, go_sem, e0, e1]) rfl ⟨0, _, 10, rfl, ⟨[], ar_none _ _, unhide hD⟩, TF⟩
          · rw [decide_eq_false c2] at Hr
            have hD : Hid (decodeT (7 :: r) = (0, [], 10)) := hide (by rw [unhide Hd]; rw [if_neg (by simp), if_neg (by rintro ⟨_, h, _⟩; exact c2 h)])
            have rb6 := t6.same rb4 (fun h => h)
            have T6 := T4.then t6
            clear c1 c2
            go_wp2_with fail
            refine Hr.mono ?_
            rintro en w7 ⟨rfl, t7⟩
            have rb7 := t7.same rb6 (fun h => h)
            have T7 := T6.then t7
            have d0 : w7.cell? ⟨rb, 0, none⟩ = some (.int .i64 0) := cell_obj rb7 0
            have d1 : w7.cell? ⟨rb, 1, none⟩ = some (.slice none 0 0) := cell_obj rb7 1
            have y0 : w7.frozen? ⟨rb, 0, none⟩ = false := frozen_obj rb7 0
            have y1 : w7.frozen? ⟨rb, 1, none⟩ = false := frozen_obj rb7 1
            have q1 := heap_setCell_obj (j := 0) rb7 (.int .i64 0)
            have q2 := heap_setCell_obj (j := 1) q1 (.slice none 0 0)
            have e0 : ((w7.setCell ⟨rb, 0, none⟩ (.int .i64 0)).setCell ⟨rb, 1, none⟩ (.slice none 0 0)).cell? ⟨rb, 0, none⟩ = some (.int .i64 0) := by rw [cell_obj q2 0]; rfl
            have e1 : ((w7.setCell ⟨rb, 0, none⟩ (.int .i64 0)).setCell ⟨rb, 1, none⟩ (.slice none 0 0)).cell? ⟨rb, 1, none⟩ = some (.slice none 0 0) := by rw [cell_obj q2 1]; rfl
            have tf : Turn (fun j => j = rb) w7 ((w7.setCell ⟨rb, 0, none⟩ (.int .i64 0)).setCell ⟨rb, 1, none⟩ (.slice none 0 0)) := ((Turn.refl (fun j => j = rb) w7).setCell (p := ⟨rb, 0, none⟩) (.inl rfl) _).setCell (p := ⟨rb, 1, none⟩) (.inl rfl) _
            have TF := T7.trans tf (fun j hj => .inr (by have := unhide Hrb; omega))
            clear q1 q2 tf
            go_wp2
            exact bodyPost_ret (v := .tuple #[.agg #[.int .i64 0, .slice none 0 0], .int .i64 10]) (by simp [results, Try.results10, go_sem, e0, e1]) rfl ⟨0, _, 10, rfl, ⟨[], ar_none _ _, unhide hD⟩, TF⟩
        · rw [decide_eq_false c1] at Hb
          have hD : Hid (decodeT (7 :: r) = (0, [], 10)) := hide (by rw [unhide Hd]; rw [if_neg (by simp), if_neg (by rintro ⟨h, _, _⟩; exact c1 h)])
          clear c1
          go_wp2_with fail
          refine Hb.mono ?_
          rintro en w6 ⟨rfl, t6⟩
          have rb6 := t6.same rb4 (fun h => h)
          have T6 := T4.then t6
          have d0 : w6.cell? ⟨rb, 0, none⟩ = some (.int .i64 0) := cell_obj rb6 0
          have d1 : w6.cell? ⟨rb, 1, none⟩ = some (.slice none 0 0) := cell_obj rb6 1
          have y0 : w6.frozen? ⟨rb, 0, none⟩ = false := frozen_obj rb6 0
          have y1 : w6.frozen? ⟨rb, 1, none⟩ = false := frozen_obj rb6 1
          have q1 := heap_setCell_obj (j := 0) rb6 (.int .i64 0)
          have q2 := heap_setCell_obj (j := 1) q1 (.slice none 0 0)
          have e0 : ((w6.setCell ⟨rb, 0, none⟩ (.int .i64 0)).setCell ⟨rb, 1, none⟩ (.slice none 0 0)).cell? ⟨rb, 0, none⟩ = some (.int .i64 0) := by rw [cell_obj q2 0]; rfl
          have e1 : ((w6.setCell ⟨rb, 0, none⟩ (.int .i64 0)).setCell ⟨rb, 1, none⟩ (.slice none 0 0)).cell? ⟨rb, 1, none⟩ = some (.slice none 0 0) := by rw [cell_obj q2 1]; rfl
          have tf : Turn (fun j => j = rb) w6 ((w6.setCell ⟨rb, 0, none⟩ (.int .i64 0)).setCell ⟨rb, 1, none⟩ (.slice none 0 0)) := ((Turn.refl (fun j => j = rb) w6).setCell (p := ⟨rb, 0, none⟩) (.inl rfl) _).setCell (p := ⟨rb, 1, none⟩) (.inl rfl) _
          have TF := T6.trans tf (fun j hj => .inr (by have := unhide Hrb; omega))
          clear q1 q2 tf
          go_wp2
          exact bodyPost_ret (v := .tuple #[.agg #[.int .i64 0, .slice none 0 0], .int .i64 10]) (by simp [results, Try.results10, go_sem, e0, e1]) rfl ⟨0, _, 10, rfl, ⟨[], ar_none _ _, unhide hD⟩, TF⟩
      · have hD : Hid (decodeT (7 :: r) = (0, [], e)) := hide (by rw [unhide Hd]; rw [if_pos (by exact he)])
        have hbe : (e != 0) = true := by rw [bne_iff_ne]; exact he
        have d0 : w5.cell? ⟨rb, 0, none⟩ = some (.int .i64 0) := cell_obj rb4 0
        have d1 : w5.cell? ⟨rb, 1, none⟩ = some (.slice none 0 0) := cell_obj rb4 1
        have y0 : w5.frozen? ⟨rb, 0, none⟩ = false := frozen_obj rb4 0
        have y1 : w5.frozen? ⟨rb, 1, none⟩ = false := frozen_obj rb4 1
        have q1 := heap_setCell_obj (j := 0) rb4 (.int .i64 0)
        have q2 := heap_setCell_obj (j := 1) q1 (.slice none 0 0)
        have e0 : ((w5.setCell ⟨rb, 0, none⟩ (.int .i64 0)).setCell ⟨rb, 1, none⟩ (.slice none 0 0)).cell? ⟨rb, 0, none⟩ = some (.int .i64 0) := by rw [cell_obj q2 0]; rfl
        have e1 : ((w5.setCell ⟨rb, 0, none⟩ (.int .i64 0)).setCell ⟨rb, 1, none⟩ (.slice none 0 0)).cell? ⟨rb, 1, none⟩ = some (.slice none 0 0) := by rw [cell_obj q2 1]; rfl
        have tf : Turn (fun j => j = rb) w5 ((w5.setCell ⟨rb, 0, none⟩ (.int .i64 0)).setCell ⟨rb, 1, none⟩ (.slice none 0 0)) := ((Turn.refl (fun j => j = rb) w5).setCell (p := ⟨rb, 0, none⟩) (.inl rfl) _).setCell (p := ⟨rb, 1, none⟩) (.inl rfl) _
        have TF := T4.trans tf (fun j hj => .inr (by have := unhide Hrb; omega))
        clear q1 q2 tf
        go_wp2
        exact bodyPost_ret (v := .tuple #[.agg #[.int .i64 0, .slice none 0 0], .int .i64 e]) (by simp [results, Try.results10, go_sem, e0, e1]) rfl ⟨0, _, e, rfl, ⟨[], ar_none _ _, unhide hD⟩, TF⟩
    · have hD : Hid (decodeT (z :: r) = (0, [], 10)) := hide (by unfold decodeT; simp [h7])
      have hbe : (z != 7) = true := by rw [bne_iff_ne]; exact h7
      rw [hln]
      clear hr R1 hb h7 hln hlen
      go_enter Try.func10, Try.ntmps10
      go_wp2
      exact bodyPost_ret (v := .tuple #[.agg #[.int .i64 0, .slice none 0 0], .int .i64 10]) (by simp [results, Try.results10, go_sem]) rfl ⟨0, _, 10, rfl, ⟨[], ar_none _ _, unhide hD⟩, (Turn.refl _ _).alloc _⟩
end Go.Proofs.Ytmmlannnpndkcaa
