/- Save and Last. -/
import Derived.Test.YtodnnblnchjeiaaVLay
namespace Go.Proofs.Ytodnnblnchjeiaa
open Go.RowKit Go.Maps
set_option linter.unusedVariables false
set_option linter.unusedSimpArgs false

theorem saveV_1 {X : Sl} {S : Dk} {b : List Int} (h : ¬ (X.down = true ∨ S.down = true)) (h2 : 1048576 < (numB (X.n + 1) ++ b).length) : saveV X S b = (4, X, S) := by unfold saveV; rw [if_neg h, if_pos h2]
theorem saveV_2 {X : Sl} {S : Dk} {b : List Int} (h : ¬ (X.down = true ∨ S.down = true)) (h2 : ¬ 1048576 < (numB (X.n + 1) ++ b).length) (h3 : fitsV S (X.n + 1) (frameV (X.n + 1) b) = false) : saveV X S b = (4, X, S) := by unfold saveV; rw [if_neg h, if_neg h2, if_pos h3]
theorem saveV_3 {X : Sl} {S : Dk} {b : List Int} (h : ¬ (X.down = true ∨ S.down = true)) (h2 : ¬ 1048576 < (numB (X.n + 1) ++ b).length) (h3 : fitsV S (X.n + 1) (frameV (X.n + 1) b) = true) : saveV X S b =
    if (layV S X.n (frameV (X.n + 1) b)).1 ≠ 0 then ((layV S X.n (frameV (X.n + 1) b)).1, { X with down := decide ((layV S X.n (frameV (X.n + 1) b)).1 = 3) }, (layV S X.n (frameV (X.n + 1) b)).2) else (0, ⟨X.n + 1, b, X.down⟩, (layV S X.n (frameV (X.n + 1) b)).2) := by unfold saveV; rw [if_neg h, if_neg h2, if_neg (by rw [h3]; simp)]

set_option maxRecDepth 100000 in
set_option maxHeartbeats 4000000 in
theorem saveV_w (w : World) (H Bk : Nat → Prop) (X D : Nat) (x : Sl) (S : Dk) (v : Value) (b : List Int) (h : VAt w H X D x S) (hr : Row .u8 Bk w v b) (hB : ∀ j, Bk j → j < w.heap.size → ¬ H j) (hb : Bytes b) (hbl : b.length ≤ 1048576) (hn : x.n < 1000) :
    Calls Try.prog 14 #[.pointer (some ⟨X, 0, none⟩), v] w fun e w' => e = .returned (.int .i64 (saveV x S b).1) ∧ Turn H w w' ∧ VAt w' (NF w H) X D (saveV x S b).2.1 (saveV x S b).2.2 := by
  obtain ⟨i0, hi, hz0, hz1, hz2⟩ := info_parts info_u8
  have hr := hr.lt
  obtain ⟨va, vc, rfl⟩ := hr.slice
  obtain ⟨c0, c1, c3⟩ := h.ptr
  have hNF : VAt w (NF w H) X D x S := h.mono (fun j hj _ => .inl hj)
  by_cases hd : x.down = true ∨ S.down = true
  · have ej := hide (save_down (X := x) (S := S) b hd)
    have htl := toldV_w w H X D x S 3 h
    obtain ⟨F, d, hF⟩ := h.disk
    have hdn := Down_walk w D F S d
    generalize b.length = bl at *
    by_cases hx : x.down = true
    · rw [hx] at c3
      clear hr d hdn hNF h hx
      go_enter Try.func14, Try.ntmps14
      go_wp2_with (go_at_call 25; refine htl.mono ?_; rintro y w1 ⟨rfl, t1, v1⟩)
      go_ret
      rw [unhide ej]
      exact ⟨rfl, t1, v1⟩
    · have hs : S.down = true := hd.resolve_left hx
      rw [show x.down = false by simpa using hx] at c3
      rw [hs] at hdn
      clear hr d hNF h hx
      go_enter Try.func14, Try.ntmps14
      go_wp2_with (first
        | (go_at_call 19; refine hdn.mono ?_; rintro y w0 ⟨rfl, hw0⟩; have hw0 := hw0.symm; subst hw0)
        | (go_at_call 25; refine htl.mono ?_; rintro y w1 ⟨rfl, t1, v1⟩))
      go_ret
      rw [unhide ej]
      exact ⟨rfl, t1, v1⟩
  have hx : x.down = false := by simpa using (fun e => hd (.inl e) : ¬ x.down = true)
  have hs : S.down = false := by simpa using (fun e => hd (.inr e) : ¬ S.down = true)
  obtain ⟨F, d, hF⟩ := h.disk
  have hdn := Down_walk w D F S d
  rw [hs] at hdn
  rw [hx] at c3
  have hnum := num_walk (x.n + 1) w (by omega)
  rw [show ((x.n + 1 : Nat) : Int) = (x.n : Int) + 1 by omega] at hnum
  have hnl := numB_ten (x.n + 1) (by omega)
  have hnb := numB_bytes (x.n + 1)
  have HR := hide hr
  generalize hbl2 : b.length = bl
  rw [hbl2] at HR hr
  have Hbl := hide hbl2
  have hbl' : bl ≤ 1048576 := by omega
  clear d hF hbl2 hbl
  go_enter Try.func14, Try.ntmps14
  go_wp2_with (first
    | (go_at_call 19; refine hdn.mono ?_; rintro y w0 ⟨rfl, hw0⟩; have hw0 := hw0.symm; subst hw0))
  refine hnum.mono ?_
  rintro y w1 ⟨nv, rfl, hown, hbel⟩
  have t1 : Turn (fun _ => False) w w1 := Turn.of_below hbel
  have o1 := OwnSl.of_owns hown
  have f1 := own_base hown
  have r1 := (unhide HR).turn t1 (fun _ _ h => h)
  obtain ⟨v2, w2, hrun, o2, t2, l2⟩ := append_sl (P := Try.prog) (ty := 32) Try.underlying32 hi hz0 hz1 hz2 rfl o1 r1 (by have := unhide Hbl; omega)
  obtain ⟨na, nc, rfl⟩ := o1.form
  obtain ⟨pa, pc, rfl⟩ := o2.form
  have s1 := t1.size
  have T2 : Turn (fun _ => False) w w2 := t1.trans t2 (fun j hj => .inr (f1 j hj))
  have l2' : ∀ j, (Value.slice pa (numB (x.n + 1) ++ b).length pc).ownBlock = some j → w.heap.size ≤ j := fun j hj => by
    rcases l2 j hj with h | h
    · exact f1 j h
    · omega
  have hcb : Bytes (numB (x.n + 1) ++ b) := fun z hz => (List.mem_append.1 hz).elim (hnb z) (hb z)
  have hcl : (numB (x.n + 1) ++ b).length ≤ 1048586 := by rw [List.length_append]; have := unhide Hbl; omega
  have hpk := Pack_walk _ _ _ w2 hcb (row_of_sl o2)
  have hV2 := h.tight T2
  have hr2 := (unhide HR).turn T2 (fun _ _ h => h)
  have s2 := T2.size
  have HV := hide (And.intro hV2 (And.intro hr2 T2))
  clear hnum hown hbel t1 t2 o1 r1 l2 f1 hV2 hr2 T2 HR hr hnl hnb hdn
  have hx' := hide hx
  have hdd := hide hd
  clear hx hd h hNF
  generalize (numB (x.n + 1)).length = nl at *
  by_cases hbig : 1048576 < (numB (x.n + 1) ++ b).length
  · have ej := hide (saveV_1 (unhide hdd) hbig)
    rw [show packC (numB (x.n + 1) ++ b) = 4 by unfold packC; rw [if_pos hbig]] at hpk
    clear hcb hbig o2 hcl
    generalize (packD (numB (x.n + 1) ++ b)).length = dl at *
    generalize (numB (x.n + 1) ++ b).length = cl at *
    go_wp2_with (first
      | (at_builtin; refine list_append_run rfl _ _ 32 rfl _ _ _ _ rfl rfl hrun ?_)
      | (go_at_call 26; refine hpk.mono ?_; rintro y w3 ⟨pv, rfl, ho, hf, t3⟩))
    go_ret
    obtain ⟨hV2, hr2, T2⟩ := unhide HV
    rw [unhide ej]
    exact ⟨rfl, (T2.then t3).mono (fun _ h => h.elim), (hV2.same t3).mono (fun j hj _ => .inl hj.1)⟩
  have HS2 := hide (fun h => saveV_2 (unhide hdd) hbig h : fitsV S (x.n + 1) (frameV (x.n + 1) b) = false → saveV x S b = (4, x, S))
  have HS3 := hide (fun h => saveV_3 (unhide hdd) hbig h : fitsV S (x.n + 1) (frameV (x.n + 1) b) = true → saveV x S b = _)
  rw [show packC (numB (x.n + 1) ++ b) = 0 by unfold packC; rw [if_neg hbig], show packD (numB (x.n + 1) ++ b) = frameV (x.n + 1) b by unfold packD; rw [if_neg hbig]; rfl] at hpk
  have hdv := hide hcl
  clear hcb hbig o2 hcl
  generalize (numB (x.n + 1) ++ b).length = cl at *
  go_wp2_with (first
    | (at_builtin; refine list_append_run rfl _ _ 32 rfl _ _ _ _ rfl rfl hrun ?_))
  refine hpk.mono ?_
  rintro y w3 ⟨pv, rfl, ho, hf, t3⟩
  obtain ⟨qa, qc, rfl⟩ := ho.form
  obtain ⟨hV2, hr2, T2⟩ := unhide HV
  have hV3 := hV2.same t3
  have hr3 := hr2.turn t3 (fun _ _ h => h)
  have T3 := T2.then t3
  have s3 := T3.size
  have hnm := nameV_w (x.n + 1) w3
  rw [show ((x.n + 1 : Nat) : Int) = (x.n : Int) + 1 by omega] at hnm
  have hfr : ∀ j, (Value.slice qa (frameV (x.n + 1) b).length qc).ownBlock = some j → w.heap.size ≤ j := fun j hj => by have := hf j hj; omega
  have HV3 := hide (And.intro hV3 (And.intro hr3 (And.intro T3 (And.intro ho hfr))))
  clear hpk hf hV2 hr2 T2 t3 hV3 hr3 T3 ho hfr HV hrun l2'
  generalize hpl : (frameV (x.n + 1) b).length = pl at *
  have Hpl := hide hpl
  clear hpl
  go_wp2_with fail
  refine hnm.mono ?_
  rintro y w4 ⟨rfl, t4⟩
  obtain ⟨hV3, hr3, T3, ho, hfr⟩ := unhide HV3
  have hV4 := hV3.same t4
  have hr4 := hr3.turn t4 (fun _ _ h => h)
  have T4 := T3.then t4
  have o4 : OwnSl w4 5 1 (.slice qa pl qc) (frameV (x.n + 1) b).length ((frameV (x.n + 1) b).map (Value.int .u8)) := by
    rw [show (frameV (x.n + 1) b).length = pl from unhide Hpl]; exact ho.turn t4 (fun _ _ h => h)
  have q4 := row_of_sl o4
  have hft := fitsV_w w4 _ _ X D x S (x.n + 1) _ _ hV4 q4
  have HV4 := hide (And.intro hV4 (And.intro hr4 (And.intro T4 (And.intro q4 hfr))))
  clear hnm hV3 hr3 T3 ho hfr HV3 t4 o4 hV4 hr4 T4 q4
  go_wp2_with fail
  refine hft.mono ?_
  rintro y w5 ⟨rfl, t5⟩
  obtain ⟨hV4, hr4, T4, q4, hfr⟩ := unhide HV4
  have hV5 := hV4.same t5
  have hr5 := hr4.turn t5 (fun _ _ h => h)
  have T5 := T4.then t5
  have q5 := q4.turn t5 (fun _ _ h => h)
  have s5 := T5.size
  cases hfit : fitsV S (x.n + 1) (frameV (x.n + 1) b)
  · have ej := hide (unhide HS2 hfit)
    have fin := hide (And.intro (T5.mono (G := H) (fun _ h => h.elim)) (hV5.mono (H' := NF w H) (fun j hj _ => .inl hj.1)))
    clear hft hV4 hr4 T4 q4 hfr HV4 t5 hV5 hr5 T5 q5 hfit
    go_wp2
    go_ret
    rw [unhide ej]
    exact ⟨rfl, (unhide fin).1, (unhide fin).2⟩
  have ej := hide (unhide HS3 hfit)
  have hly := layV_w w5 _ _ X D x S _ _ hV5 q5 (fun j hj _ hh => by have := hfr j hj; have := hh.2; omega)
  have HT5 := hide (And.intro T5 hr5)
  clear hft hV4 hr4 T4 q4 hfr HV4 t5 hV5 hr5 T5 q5 hfit HS2 HS3
  go_wp2_with fail
  refine hly.mono ?_
  rintro y w6 ⟨rfl, t6, v6⟩
  obtain ⟨T5, hr5⟩ := unhide HT5
  have T6 : Turn H w w6 := (T5.mono (fun _ h => h.elim)).trans t6 (fun j hj => .inl hj.1)
  have v6' : VAt w6 (NF w H) X D x (layV S x.n (frameV (x.n + 1) b)).2 := v6.mono (fun j hj _ => by
    rcases hj with hj | hj
    · exact .inl hj.1
    · exact .inr (by omega))
  have r6 := hr5.turn t6 (fun j hj hh => hB j hj.1 hj.2 hh.1)
  have s6 := T6.size
  have HT6 := hide (And.intro T6 (And.intro v6' r6))
  clear HT5 T5 hr5 T6 v6 v6' r6 t6 hly
  by_cases hc : (layV S x.n (frameV (x.n + 1) b)).1 ≠ 0
  · have ej2 := hide ((unhide ej).trans (if_pos hc))
    obtain ⟨T6, v6', r6⟩ := unhide HT6
    have htl := toldV_w w6 _ X D x _ (layV S x.n (frameV (x.n + 1) b)).1 v6'
    have e1 : ((layV S x.n (frameV (x.n + 1) b)).1 == 0) = false := by rw [beq_eq_false_iff_ne]; exact hc
    clear hc v6' r6 T6 ej
    generalize (layV S x.n (frameV (x.n + 1) b)).1 = lc at *
    go_wp2_with (first | (go_at_call 25; refine htl.mono ?_; rintro y w7 ⟨rfl, t7, v7⟩))
    go_ret
    rw [unhide ej2]
    refine ⟨rfl, (unhide HT6).1.trans t7 (fun j hj => hj), v7.nf s6⟩
  have ej2 := hide ((unhide ej).trans (if_neg hc))
  obtain ⟨T6, v6', r6⟩ := unhide HT6
  rw [show (layV S x.n (frameV (x.n + 1) b)).1 = 0 by omega]
  have hcl := clone_walk _ _ _ w6 (show Row .u8 _ w6 (.slice va bl vc) b from r6) (by have := unhide Hbl; omega)
  have c1' := v6'.ptr.2.1
  clear ej hc r6 T6 v6'
  go_wp2_with fail
  refine hcl.mono ?_
  rintro y w7 ⟨dv, rfl, o7, f7, t7⟩
  obtain ⟨da, dc, rfl⟩ := o7.form
  obtain ⟨T6, F, G, v, d, m, hn1, hF, hG⟩ := (show _ ∧ VAt _ _ _ _ _ _ from ⟨(unhide HT6).1, (unhide HT6).2.1⟩)
  have m7 := m.turn t7 (fun _ _ h => h)
  have d7 := d.turn t7 (fun _ _ _ h => h)
  have s7 := t7.size
  have k1 := cell_obj m7.obj 1
  have k2 := cell_obj m7.obj 2
  have g1 := frozen_obj m7.obj 1
  have g2 := frozen_obj m7.obj 2
  have ms := (m7.mono (G' := fun j => G j ∨ w6.heap.size ≤ j) (fun j hj _ => .inl hj)).set (x.n + 1) b (.slice da b.length dc) o7 (fun j hj => .inr (f7 j hj))
  have hX : H X ∨ w.heap.size ≤ X := (hG X m.home).1
  have hXl := (hG X m.home).2
  have fin : Turn H w ((w7.setCell ⟨X, 1, none⟩ (.int .u64 ((x.n + 1 : Nat) : Int))).setCell ⟨X, 2, none⟩ (.slice da b.length dc)) ∧ VAt ((w7.setCell ⟨X, 1, none⟩ (.int .u64 ((x.n + 1 : Nat) : Int))).setCell ⟨X, 2, none⟩ (.slice da b.length dc)) (NF w H) X D ⟨x.n + 1, b, x.down⟩ (layV S x.n (frameV (x.n + 1) b)).2 := by
    refine ⟨(T6.then (t7.mono (fun _ h => h.elim))).trans ms.2 (fun j hj => by subst hj; exact hX), fun j => F j ∧ j < w6.heap.size, fun j => (G j ∧ j < w6.heap.size) ∨ (w6.heap.size ≤ j ∧ j < ((w7.setCell ⟨X, 1, none⟩ (.int .u64 ((x.n + 1 : Nat) : Int))).setCell ⟨X, 2, none⟩ (.slice da b.length dc)).heap.size), _, ((d7.mono (fun j hj _ => ⟨hj, (hF j hj).2⟩)).turn ms.2 (fun j hj _ hX2 => by subst hX2; exact hn1 _ hj.1 m.home)), ms.1.mono (fun j hj hl => ?_), ?_, ?_, ?_⟩
    · rcases hj with hj | hj
      · exact .inl ⟨hj, (hG j hj).2⟩
      · exact .inr ⟨hj, hl⟩
    · rintro j hj (hg | hg)
      · exact hn1 j hj.1 hg.1
      · omega
    · intro j hj
      have hl := ms.2.size
      exact ⟨(hF j hj.1).1, by omega⟩
    · have hl := ms.2.size
      rintro j (hj | hj)
      · exact ⟨(hG j hj.1).1, by omega⟩
      · exact ⟨.inr (by omega), hj.2⟩
  rw [show ((x.n + 1 : Nat) : Int) = (x.n : Int) + 1 by omega] at fin
  have HF := hide fin
  clear fin ms m7 d7 m d T6 hn1 hF hG hcl t7 f7 o7
  go_wp2
  go_ret
  rw [unhide ej2]
  exact ⟨rfl, unhide HF⟩

set_option maxRecDepth 100000 in
set_option maxHeartbeats 2000000 in
theorem lastV_w (w : World) (H : Nat → Prop) (X D : Nat) (x : Sl) (S : Dk) (h : VAt w H X D x S) (hl : x.d.length ≤ 140737488355328) (h0 : x.n = 0 → x.d = []) :
    Calls Try.prog 9 #[.pointer (some ⟨X, 0, none⟩)] w fun e w' => ∃ v, e = .returned (.tuple #[v, .int .u64 (x.n : Int), .bool (decide (x.n ≠ 0))]) ∧ OwnSl w' 5 1 v x.d.length (x.d.map (Value.int .u8)) ∧ (∀ j, v.ownBlock = some j → w.heap.size ≤ j) ∧ Turn (fun _ => False) w w' := by
  obtain ⟨c0, c1, c3⟩ := h.ptr
  obtain ⟨F, G, v, d, m, hn, hF, hG⟩ := h
  have c2 := cell_obj m.obj 2
  by_cases hz : x.n = 0
  · have e := h0 hz
    rw [hz] at c1
    rw [e, hz]
    clear m d hn hF hG hl h0 hz e c2 c0 c3
    go_enter Try.func9, Try.ntmps9
    go_wp2
    go_ret3
    exact ⟨_, rfl, ⟨rfl, .inl ⟨rfl, rfl⟩⟩, fun j hj => by simp [Value.ownBlock] at hj, Turn.refl _ _⟩
  · have e1 : ((x.n : Int) == 0) = false := by rw [beq_eq_false_iff_ne]; omega
    rw [decide_eq_true (show x.n ≠ 0 from hz)]
    obtain ⟨va, vc, rfl⟩ := m.own.form
    have a1 : w.drew.cell? ⟨X, 1, none⟩ = some (.int .u64 (x.n : Int)) := c1
    have a2 : w.drew.cell? ⟨X, 2, none⟩ = some (.slice va x.d.length vc) := c2
    have tD : Turn (fun _ => False) w w.drew := (Turn.refl _ w).drew
    have hcl := clone_walk _ _ _ w.drew ((row_of_sl m.own).turn tD (fun _ _ h => h)) hl
    clear d hn hF hG h0 hz c0 c3 m c2
    have Hlen := hide hl
    clear hl
    generalize hdl : x.d.length = dl at *
    have Hdl := hide hdl
    clear hdl
    go_enter Try.func9, Try.ntmps9
    go_wp2_with fail
    go_region_held3 (fun u => u.cell? ⟨X, 1, none⟩ = some (.int .u64 (x.n : Int)) ∧ u.cell? ⟨X, 2, none⟩ = some (.slice va dl vc)) (first | exact ⟨a1, a2⟩ | exact ⟨b1, b2⟩ | go_keep)
      (first
      | (go_at_call 21; refine hcl.mono ?_; rintro y w1 ⟨dv, rfl, o1, f1, t1⟩; have b1 := t1.cell a1 id; have b2 := t1.cell a2 id))
    all_goals
      go_wp2
      go_ret3
      exact ⟨dv, rfl, o1, f1, tD.then t1⟩
end Go.Proofs.Ytodnnblnchjeiaa
