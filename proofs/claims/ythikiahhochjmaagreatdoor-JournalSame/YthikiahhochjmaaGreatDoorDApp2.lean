/- Append to a new file; where there is no room; Append whole. -/
import Derived.Test.YthikiahhochjmaaGreatDoorDApp
namespace Go.Proofs.YthikiahhochjmaaGreatDoor
open Go.RowKit Go.Maps
set_option linter.unusedVariables false

theorem well_new_file {S : Dk} {n : Nm} {zs : List Int} (h : Well S) (hg : getK Fl.n n S.fs = none) (hgood : goodB n = true) (hful : fullB S n zs = false) : Well (appS S n zs) := by
  rw [appS_new hg]
  simp [fullB, hg] at hful
  obtain ⟨u1, u2⟩ := used_new (f := ⟨n, zs, 0⟩) hg
  have hroom := h.room
  have hfiles := h.files
  refine ⟨h.rise.put, fun x hx => ?_, by simp only; rw [u1]; simp; omega, h.size, by simp only; rw [u2]; omega, h.arm⟩
  simp only at hx
  rcases mem_putK.1 hx with rfl | ⟨hx, _⟩
  · exact ⟨hgood, Nat.zero_le _⟩
  · exact h.good x hx

set_option maxRecDepth 100000 in
set_option maxHeartbeats 1000000 in
theorem append_new (w : World) (B : Nat) (F : Nat → Prop) (Bk : Nat → Prop) (mv : Option Nat) (E : List Ent) (S : Dk) (s : ByteArray) (bv : Value) (zs : List Int) (hs : s.size ≤ maxLen) (m : DMem w B mv E S) (hF : ∀ j, DFoot B mv E j → F j) (hrow : Row .u8 Bk w bv zs)
    (hr : refuse S s.data.toList = 0) (hg : getK Ent.n s.data.toList E = none) (hful : fullB S s.data.toList zs = false) :
    Calls Tryz.prog 23 #[.pointer (some ⟨B, 0, none⟩), .string s, bv] w fun x w' => x = .returned (.int .i64 (hitC S)) ∧ Turn F w w' ∧ DAt w' B (NF w F) (hitS (appS S s.data.toList zs)) := by
  have hgS : getK Fl.n s.data.toList S.fs = none := by rw [m.get, hg]; rfl
  have hwell := well_new_file m.well hgS (refuse_up hr).2 hful
  have hs16 : s.size ≤ 16 := by have := (goodB_len (refuse_up hr).2).2; have h2 : s.data.toList.length = s.size := Array.length_toList; omega
  have hrf := refusal_walk w B mv E S s hs m
  rw [hr] at hrf
  have hl := (m.look hs).1 hg
  obtain ⟨a', c', hbv⟩ := hrow.slice
  subst hbv
  have cB : w.cell? ⟨B, 1, none⟩ = some (.map mv) := cell_obj m.obj 1
  have tA : Turn (fun _ => False) w (w.alloc (.cells #[.slice none 0 0, .int .i64 0] 84)) := (Turn.refl _ w).alloc _
  have k0 : (w.alloc (.cells #[.slice none 0 0, .int .i64 0] 84)).heap[w.heap.size]? = some (.cells #[.slice none 0 0, .int .i64 0] 84 (0, 0)) := heap_alloc_new w _
  have mA := m.turn tA (fun _ _ => id)
  have hrowA := hrow.turn tA (fun _ _ => id)
  have hsz := m.well.size
  have hroom := m.well.room
  have hzl := hrow.len
  unfold maxLen at hzl
  obtain ⟨ac0, ac1, ac2, ac3⟩ := mA.afters
  have hful' := hful
  simp [fullB, hgS] at hful'
  have hfl : S.fs.length = E.length := by rw [m.fs]; simp
  have hA : decide ((S.size : Int) - (used S.fs : Nat) < (zs.length : Int)) = false := by simp; omega
  have hE64 : decide ((64 : Int) ≤ (E.length : Int)) = false := by simp; omega
  have Hful := hide hful'
  clear hful'
  go_enter Tryz.func23, Tryz.ntmps23
  go_wp2_with (go_at_call 47; refine hrf.mono ?_; rintro x w0 ⟨rfl, hw0⟩; have hw0 := hw0.symm; subst hw0)
  generalize w.alloc (.cells #[.slice none 0 0, .int .i64 0] 84) = W at *
  have hne := after_ne W
  refine wp_region_after (by kernel_rfl) (by kernel_rfl) ?_
  repeat (go_big_quiet_step ((go_at_call 48; exact after_of _ (ac3 _))))
  refine wpQuiet_nil ?_
  rintro _ ⟨q, rfl⟩
  have tQ : Turn (fun _ => False) W q.w := Turn.of_below q.bel
  have mQ := mA.turn tQ (fun _ _ => id)
  have kQ := tQ.same k0 id
  have rowQ := hrowA.turn tQ (fun _ _ => id)
  have hzb : zs.length ≤ 16777216 := by have := (unhide Hful).1; omega
  have tq : Turn (fun _ => False) w q.w := tA.then tQ
  generalize q.w = u at *
  clear ac0 ac1 ac2 ac3 hne mA hrowA k0 hA hE64
  obtain ⟨i0, hi, hz0, hz1, hz2⟩ := info_u8'
  have oN : OwnSl u 5 1 (.slice none 0 0) ([] : List Int).length (([] : List Int).map (Value.int .u8)) := ⟨rfl, .inl ⟨rfl, rfl⟩⟩
  obtain ⟨v', w3, hrun, o3, t3, hl3⟩ := append_sl (P := Tryz.prog) (ty := 33) Tryz.underlying33 hi hz0 hz1 hz2 rfl oN rowQ (by simp; omega)
  rw [List.nil_append] at o3
  obtain ⟨p3, c3, hv3⟩ := o3.form
  subst hv3
  have t3' : Turn (fun _ => False) u w3 := t3.mono (fun j hj => by simp [Value.ownBlock] at hj)
  have hl3' : ∀ j, (Value.slice p3 zs.length c3).ownBlock = some j → u.heap.size ≤ j := fun j hj => by
    rcases hl3 j hj with h | h
    · simp [Value.ownBlock] at h
    · exact h
  clear hl3 t3
  have k3 := t3'.same kQ id
  have c0 : u.cell? ⟨w.heap.size, 0, none⟩ = some (.slice none 0 0) := cell_obj kQ 0
  have d0 : w3.cell? ⟨w.heap.size, 0, none⟩ = some (.slice none 0 0) := cell_obj k3 0
  have f0 : w3.frozen? ⟨w.heap.size, 0, none⟩ = false := frozen_obj k3 0
  have k4 := heap_setCell_obj (j := 0) k3 (.slice p3 zs.length c3)
  have t4 : Turn (fun j => j = w.heap.size) w3 (w3.setCell ⟨w.heap.size, 0, none⟩ (.slice p3 zs.length c3)) := (Turn.refl (fun j => j = w.heap.size) w3).setCell (p := ⟨w.heap.size, 0, none⟩) (.inl rfl) _
  have m4 := (mQ.turn t3' (fun _ _ => id)).turn t4 (fun j hj q => by have := m.lt j hj; omega)
  have hszq : w.heap.size < u.heap.size := (Array.getElem?_eq_some_iff.1 kQ).1
  have o4 := o3.turn t4 (fun j hj q => by have := hl3' j hj; omega)
  have b0 : (w3.setCell ⟨w.heap.size, 0, none⟩ (.slice p3 zs.length c3)).cell? ⟨w.heap.size, 0, none⟩ = some (.slice p3 zs.length c3) := cell_obj k4 0
  have b1 : (w3.setCell ⟨w.heap.size, 0, none⟩ (.slice p3 zs.length c3)).cell? ⟨w.heap.size, 1, none⟩ = some (.int .i64 0) := cell_obj k4 1
  have t04 : Turn F w (w3.setCell ⟨w.heap.size, 0, none⟩ (.slice p3 zs.length c3)) := ((tq.then t3').mono (fun _ h => h.elim)).trans t4 (fun j hj => .inr (by omega))
  have hcr : Calls Tryz.prog 49 #[.pointer (some ⟨B, 0, none⟩), .string s, .agg #[.slice p3 zs.length c3, .int .i64 0]] (w3.setCell ⟨w.heap.size, 0, none⟩ (.slice p3 zs.length c3)) fun x w' => x = .returned (.tuple #[]) ∧ Turn F w w' ∧ ∃ b, DMem w' B (some b) (putK Ent.n ⟨s.data.toList, .slice p3 zs.length c3, zs, 0⟩ E) (appS S s.data.toList zs) ∧ (mv = some b ∨ w.heap.size ≤ b) := by
    have hszw := t04.size
    cases mv with
    | none =>
      refine (create_none _ B E S (appS S s.data.toList zs) ⟨s.data.toList, .slice p3 zs.length c3, zs, 0⟩ p3 zs.length c3 s hs16 m4 rfl rfl o4 (appS_new hgS) hwell).mono ?_
      rintro x w' ⟨h1, h2, b, h3, h4⟩
      exact ⟨h1, t04.then (h2.mono (fun j hj => by subst hj; exact hF j (.inl rfl))), b, h4, .inr (by omega)⟩
    | some b =>
      refine (create_some _ B b E S (appS S s.data.toList zs) ⟨s.data.toList, .slice p3 zs.length c3, zs, 0⟩ p3 zs.length c3 s hs16 m4 rfl rfl o4 (fun x hx _ j h1 h2 => ?_) (appS_new hgS) hwell).mono ?_
      · have q1 := m.lt j (.inr (.inr ⟨x, hx, h1⟩)); have q2 := hl3' j h2; omega
      · rintro x w' ⟨h1, h2, h4⟩
        exact ⟨h1, t04.then (h2.mono (fun j hj => by rcases hj with rfl | rfl; exact hF _ (.inl rfl); exact hF _ (.inr (.inl rfl)))), b, h4, .inl rfl⟩
  clear m4 t4 t04 o4 k4 hwell mQ
  have hd := (refuse_up hr).1
  go_wp2_with (first | (at_builtin; refine list_append_run rfl _ _ 33 rfl _ _ _ _ rfl rfl hrun ?_) | (go_at_call 49; refine hcr.mono ?_; rintro x w5 ⟨rfl, t5, b, m5, hb5⟩))
  cases hh : hitB S
  all_goals
    have hw5 := hit_walk w5 B _ _ (appS S s.data.toList zs) hd m5
    rw [(hit_app S s.data.toList zs).1, hh] at hw5
    refine hw5.mono ?_
    rintro x w6 ⟨rfl, t6, m6⟩
    have ht : Turn F w w6 := t5.then (t6.mono (fun j hj => by subst hj; exact hF j (.inl rfl)))
    have hfin : DAt w6 B (NF w F) (hitS (appS S s.data.toList zs)) := by
      refine ⟨_, _, m6, fun j hj => ?_⟩
      rcases foot_put hj with hj | hj
      · rcases hj with rfl | hj | hj
        · exact .inl (hF _ (.inl rfl))
        · rcases hb5 with h | h
          · exact .inl (hF j (.inr (.inl (by rw [h]; exact hj))))
          · cases hj; exact .inr h
        · exact .inl (hF j (.inr (.inr hj)))
      · have := hl3' j hj; exact .inr (by omega)
    have Hh := hide hh
    clear hw5 hh
    go_wp2
    go_ret
    exact ⟨ret_int (by unfold hitC; rw [unhide Hh]; rfl), ht, hfin⟩

set_option maxRecDepth 100000 in
set_option maxHeartbeats 1000000 in
theorem append_full (w : World) (B : Nat) (Bk : Nat → Prop) (mv : Option Nat) (E : List Ent) (S : Dk) (s : ByteArray) (bv : Value) (zs : List Int) (hs : s.size ≤ maxLen) (m : DMem w B mv E S) (hrow : Row .u8 Bk w bv zs)
    (hr : refuse S s.data.toList = 0) (hful : fullB S s.data.toList zs = true) :
    Calls Tryz.prog 23 #[.pointer (some ⟨B, 0, none⟩), .string s, bv] w fun x w' => x = .returned (.int .i64 4) ∧ Turn (fun _ => False) w w' := by
  have hrf := refusal_walk w B mv E S s hs m
  rw [hr] at hrf
  obtain ⟨a', c', hbv⟩ := hrow.slice
  subst hbv
  have cB : w.cell? ⟨B, 1, none⟩ = some (.map mv) := cell_obj m.obj 1
  have hsz := m.well.size
  have hroom := m.well.room
  have hzl := hrow.len
  unfold maxLen at hzl
  have hfl : S.fs.length = E.length := by rw [m.fs]; simp
  have key : ∀ (p : Option Addr) (n c : Nat) (z : Int) (is : Bool), (Instr.lookup 64 (.map mv) (.string s) true).run Tryz.prog w = .ok (.tuple #[.agg #[.slice p n c, .int .i64 z], .bool is]) w →
      (S.size < used S.fs + zs.length ∨ (is = false ∧ 64 ≤ E.length)) →
      Calls Tryz.prog 23 #[.pointer (some ⟨B, 0, none⟩), .string s, .slice a' zs.length c'] w fun x w' => x = .returned (.int .i64 4) ∧ Turn (fun _ => False) w w' := by
    intro p n c z is hl hcase
    have tA : Turn (fun _ => False) w (w.alloc (.cells #[.slice p n c, .int .i64 z] 84)) := (Turn.refl _ w).alloc _
    obtain ⟨ac0, ac1, ac2, ac3⟩ := (m.turn tA (fun _ _ => id)).afters
    by_cases hbig : S.size < used S.fs + zs.length
    · have hA : decide ((S.size : Int) - (used S.fs : Nat) < (zs.length : Int)) = true := by simp; omega
      clear hcase m hful hrow hr hbig
      go_enter Tryz.func23, Tryz.ntmps23
      go_wp2_with (go_at_call 47; refine hrf.mono ?_; rintro x w0 ⟨rfl, hw0⟩; have hw0 := hw0.symm; subst hw0)
      generalize w.alloc (.cells #[.slice p n c, .int .i64 z] 84) = W at *
      have hne := after_ne W
      refine wp_region_after (by kernel_rfl) (by kernel_rfl) ?_
      repeat (go_big_quiet_step ((go_at_call 48; exact after_of _ (ac3 _))))
      refine wpQuiet_nil ?_
      rintro _ ⟨q, rfl⟩
      have tq : Turn (fun _ => False) w q.w := tA.then (Turn.of_below q.bel)
      go_wp2
      go_ret
      exact ⟨rfl, tq⟩
    · obtain ⟨his, h64⟩ : is = false ∧ 64 ≤ E.length := by
        rcases hcase with h | h
        · exact absurd h hbig
        · exact h
      subst his
      have hA : decide ((S.size : Int) - (used S.fs : Nat) < (zs.length : Int)) = false := by simp; omega
      have hE64 : decide ((64 : Int) ≤ (E.length : Int)) = true := by simp; omega
      clear hcase m hful hrow hr hbig h64 hfl
      go_enter Tryz.func23, Tryz.ntmps23
      go_wp2_with (go_at_call 47; refine hrf.mono ?_; rintro x w0 ⟨rfl, hw0⟩; have hw0 := hw0.symm; subst hw0)
      generalize w.alloc (.cells #[.slice p n c, .int .i64 z] 84) = W at *
      have hne := after_ne W
      refine wp_region_after (by kernel_rfl) (by kernel_rfl) ?_
      repeat (go_big_quiet_step ((go_at_call 48; exact after_of _ (ac3 _))))
      refine wpQuiet_nil ?_
      rintro _ ⟨q, rfl⟩
      have tq : Turn (fun _ => False) w q.w := tA.then (Turn.of_below q.bel)
      go_wp2
      go_ret
      exact ⟨rfl, tq⟩
  cases hg : getK Ent.n s.data.toList E with
  | none =>
    refine key _ _ _ _ _ ((m.look hs).1 hg) ?_
    simp [fullB, m.get, hg] at hful
    rcases hful with h | h
    · exact .inl h
    · exact .inr ⟨rfl, by omega⟩
  | some e =>
    have hl := (m.look hs).2 e hg
    obtain ⟨p, c, hv⟩ := m.form (getK_some hg).1
    rw [hv] at hl
    refine key _ _ _ _ _ hl ?_
    simp [fullB, m.get, hg] at hful
    exact .inl hful

set_option maxHeartbeats 400000 in
theorem append_no (w : World) (B : Nat) (mv : Option Nat) (E : List Ent) (S : Dk) (s : ByteArray) (bv : Value) (hs : s.size ≤ maxLen) (m : DMem w B mv E S) (hr : refuse S s.data.toList ≠ 0) :
    Calls Tryz.prog 23 #[.pointer (some ⟨B, 0, none⟩), .string s, bv] w fun x w' => x = .returned (.int .i64 (refuse S s.data.toList)) ∧ w' = w := by
  have hrf := refusal_walk w B mv E S s hs m
  have hne : (refuse S s.data.toList != 0) = true := by simpa using hr
  clear hr m
  generalize refuse S s.data.toList = x at *
  go_enter Tryz.func23, Tryz.ntmps23
  go_wp2_with (go_at_call 47; refine hrf.mono ?_; rintro x w0 ⟨rfl, hw0⟩; have hw0 := hw0.symm; subst hw0)
  go_ret
  exact ⟨rfl, rfl⟩

/-- Append -/
theorem Append_walk (w : World) (B : Nat) (F : Nat → Prop) (Bk : Nat → Prop) (S : Dk) (s : ByteArray) (bv : Value) (zs : List Int) (hs : s.size ≤ maxLen) (h : DAt w B F S) (hrow : Row .u8 Bk w bv zs) :
    Calls Tryz.prog 23 #[.pointer (some ⟨B, 0, none⟩), .string s, bv] w fun x w' => x = .returned (.int .i64 (appendC S s.data.toList zs)) ∧ Turn F w w' ∧ DAt w' B (NF w F) (appendS S s.data.toList zs) := by
  obtain ⟨mv, E, m, hF⟩ := h
  by_cases hr : refuse S s.data.toList = 0
  · cases hful : fullB S s.data.toList zs
    · have e1 : appendC S s.data.toList zs = hitC S := by unfold appendC hitC; rw [hr, hful]; simp
      have e2 : appendS S s.data.toList zs = hitS (appS S s.data.toList zs) := by unfold appendS; rw [hr, hful]; simp
      rw [e1, e2]
      cases hg : getK Ent.n s.data.toList E with
      | none => exact append_new w B F Bk mv E S s bv zs hs m hF hrow hr hg hful
      | some e => exact append_old w B F Bk mv E S s bv zs hs m hF hrow hr e hg hful
    · have e1 : appendC S s.data.toList zs = 4 := by unfold appendC; rw [hr, hful]; simp
      have e2 : appendS S s.data.toList zs = S := by unfold appendS; rw [hr, hful]; simp
      rw [e1, e2]
      refine (append_full w B Bk mv E S s bv zs hs m hrow hr hful).mono ?_
      rintro x w' ⟨h1, h2⟩
      exact ⟨h1, h2.mono (fun _ h => h.elim), mv, E, m.turn h2 (fun _ _ => id), fun j hj => .inl (hF j hj)⟩
  · have e1 : appendC S s.data.toList zs = refuse S s.data.toList := by unfold appendC; rw [if_pos hr]
    have e2 : appendS S s.data.toList zs = S := by unfold appendS; rw [if_pos hr]
    rw [e1, e2]
    refine (append_no w B mv E S s bv hs m hr).mono ?_
    rintro x w' ⟨h1, rfl⟩
    exact ⟨h1, Turn.refl _ _, mv, E, m, fun j hj => .inl (hF j hj)⟩
end Go.Proofs.YthikiahhochjmaaGreatDoor
