/- A search runs. -/
import Derived.Test.YtombpfpfeebnpaaSRun
import Derived.Deep.LoopGhost
import Derived.WalkMore
import Derived.Deep.RegionHeld3
namespace Go.Proofs.Ytombpfpfeebnpaa
open Go.RowKit Go.Maps
set_option linter.unusedVariables false
set_option linter.unusedSimpArgs false
set_option maxRecDepth 100000

theorem Dij.pop_few {n : Nat} {E : Goes} {s : Int} {L : List Int} {T R : List It} (h : Dij n E s L T R E) {x : It} (hx : IsMin T x) : R.length < n := by
  have := (h.pop (T' := T.filter (fun u => decide (u.1 ≠ x.1))) hx.1 hx.2 (fun u => by simp)).few
  rw [List.length_append, List.length_singleton] at this
  omega
theorem Dij.id_lt {n : Nat} {E : Goes} {s : Int} {L : List Int} {T R : List It} {Dn : Goes} (h : Dij n E s L T R Dn) {x : It} (hx : x ∈ T) : x.1 < n := by
  have := (List.getElem?_eq_some_iff.1 ((h.heap x).1 hx).1).1; rw [h.len] at this; exact this

set_option maxHeartbeats 16000000 in
theorem run_out {w : World} {s0 S db n H G : Nat} {MB : Nat → Prop} {l : List Ar} {M : List It → World → Prop} {s : Int} {L : List Int} {T : List It} {f : Nat} {caps : Array Value} {go : It → Bool} (hB : BoundedN (n : Int) l)
    (h : RI s0 S db n H G (.func (.func 46) #[.pointer (some ⟨G, 0, none⟩)] #[]) (.func (.func 47) #[] #[]) MB (fun _ => False) l M (goesF l) s w L T [] (goesF l)) (hM : MoreOK f caps s0 MB M go) (hs0 : s0 ≤ w.heap.size) (hS : s0 ≤ S) (hdb : s0 ≤ db) (hMB : ∀ j, MB j → j < s0) :
    Calls Try.prog 28 #[.pointer (some ⟨S, 0, none⟩), .func (.func f) #[] caps] w fun e w' => e = .returned (.tuple #[]) ∧ Turn (fun j => s0 ≤ j ∨ MB j) w w' ∧ ∃ L T R, SrAt w' S (.func (.func 46) #[.pointer (some ⟨G, 0, none⟩)] #[]) (.func (.func 47) #[] #[]) db n (.pointer (some ⟨H, 0, none⟩)) L ∧ M R w' ∧ Dij n (goesF l) s L T R (goesF l) ∧ (∀ y ∈ R, go y = true) ∧ (T = [] ∨ ∃ x, IsMin T x ∧ go x = false) := by
  go_enter Try.func28, Try.ntmps28
  go_wp2_with fail
  go_step3
  go_wp2_with fail
  go_step3
  go_wp2_with fail
  go_loopg [] n (fun k wr => ∃ L T R, k = n - R.length ∧ RI s0 S db n H G (.func (.func 46) #[.pointer (some ⟨G, 0, none⟩)] #[]) (.func (.func 47) #[] #[]) MB (fun _ => False) l M (goesF l) s wr L T R (goesF l) ∧ Hid (∀ y ∈ R, go y = true) ∧ Turn (fun j => s0 ≤ j ∨ MB j) w wr)
  case atStart => exact ⟨L, T, [], by simp, h, hide (by simp), Turn.refl _ _⟩
  case round =>
    obtain ⟨L, T, R, rfl, hI, hgo, tr⟩ := hrel
    have hs1 : s0 ≤ wr.heap.size := Nat.le_trans hs0 tr.size
    have c3 : wr.cell? ⟨S, 3, none⟩ = some (.pointer (some ⟨H, 0, none⟩)) := cell_obj hI.sr.1 3
    have hp := hI.hp.pure
    by_cases hT : T = []
    · subst hT
      have hpop := pop_empty hp
      simp only [itV] at hpop
      have HI := hide hI
      clear h hs0 hS hdb hB hI
      go_wp2_with (go_at_call 48; refine hpop.mono ?_; rintro e w2 ⟨rfl, t2, h2⟩)
      rw [Exit.noGoto_normal]
      have t3 := (Turn.refl (fun _ => False) w2).alloc (.cells #[.int .i64 0, .int .i64 0] 71)
      have hR := (unhide HI).heap hM t2 h2 (unhide HI).dj
      have hR2 : RI s0 S db n H G _ _ MB (fun _ => False) l M (goesF l) s w2 L [] R (goesF l) := ⟨hR.1, hR.2.1, hR.2.2.1, hR.2.2.2, (unhide HI).dj⟩
      go_end0
      exact ⟨rfl, (tr.then (t2.mono (fun j q => .inl q.1.1))).then (t3.mono (fun _ q => q.elim)), L, [], R, (hR2.quiet hM t3).sr, (hR2.quiet hM t3).mo, hR2.dj, unhide hgo, .inl rfl⟩
    · obtain ⟨x, hx⟩ := hI.hp.min hT
      have hpop := pop_ok hp x hx
      have hRn := hI.dj.pop_few hx
      have hxn := hI.dj.id_lt hx.1
      obtain ⟨id, rk⟩ := x
      simp only [itV] at hpop
      have HI := hide hI
      have hn22 := hB.2.1
      have hent : ∀ (args : Array Value) (w : World), (callFunc f args).run Try.prog w = .ok (.enter f args) w := hM.ent
      have Hx := hide hx
      clear hI hx h
      go_wp2_with fail
      refine hpop.mono ?_
      rintro e w2 ⟨rfl, t2, T2, h2, hl2⟩
      have hI3 := (unhide HI).popped hM hs1 (unhide Hx) t2 h2 hl2 (.cells #[.int .i64 (id : Int), .int .i64 rk] 71)
      have bx := heap_alloc_new w2 (.cells #[.int .i64 (id : Int), .int .i64 rk] 71)
      have tr3 : Turn (fun j => s0 ≤ j ∨ MB j) w (w2.alloc (.cells #[.int .i64 (id : Int), .int .i64 rk] 71)) := (tr.then (t2.mono (fun j q => .inl q.1.1))).alloc _
      have sx : s0 ≤ w2.heap.size := Nat.le_trans hs1 t2.size
      have hcall := hM.call R (w2.alloc (.cells #[.int .i64 (id : Int), .int .i64 rk] 71)) (id, rk) hI3.mo (Nat.le_trans hs0 tr3.size) (by omega) (show id < 4194304 by have : id < n := hxn; omega)
      simp only [itV] at hcall
      have H3 := hide hI3
      clear hI3 hpop t2 h2 hl2 hp c3
      have HDj := hide (unhide HI).dj
      clear HI
      go_wp2_with fail
      refine hcall.mono ?_
      rintro e w4 ⟨rfl, t4, m4⟩
      have tr4 : Turn (fun j => s0 ≤ j ∨ MB j) w w4 := tr3.then (t4.mono (fun j q => by rcases q with q | q; exact .inr q; exact .inl q.1))
      by_cases hg : go (id, rk) = true
      · rw [if_pos hg] at m4
        have hI4 := (unhide H3).told hS hdb hMB t4 m4
        have bx4 := t4.same bx (fun q => by
          rcases q with q | q
          · have := hMB _ q; omega
          · obtain ⟨c, hc⟩ := q.2; rw [bx] at hc; simp at hc)
        generalize w2.heap.size = xb at *
        have x0 : w4.cell? ⟨xb, 0, none⟩ = some (.int .i64 (id : Int)) := cell_obj bx4 0
        have s00 := cell_obj hI4.sr.1 0
        simp only [List.getElem?_toArray, List.getElem?_cons_zero] at s00
        have Hout := Out_ask w4.drew G n l (hI4.gr.quiet (Turn.refl (fun _ => False) w4).drew) hB (id : Int)
        have H4 := hide hI4
        clear hI4 hcall H3 t4 m4 bx tr3 tr
        go_wp2_with fail
        go_region_held3 (fun u => u.cell? ⟨S, 0, none⟩ = some (.func (.func 46) #[.pointer (some ⟨G, 0, none⟩)] #[]) ∧ u.cell? ⟨xb, 0, none⟩ = some (.int .i64 (id : Int))) (first | exact ⟨s00, x0⟩ | exact ⟨k0, k1⟩ | go_keep)
          (first
          | (go_at_call 46; refine Hout.mono ?_; rintro e w5 ⟨y, rfl, O5, t5, own5⟩; obtain ⟨ya, yc, rfl⟩ := O5.form; have k0 := t5.cell (show w4.drew.cell? ⟨S, 0, none⟩ = _ from s00) (fun h => h); have k1 := t5.cell (show w4.drew.cell? ⟨xb, 0, none⟩ = _ from x0) (fun h => h)))
        rotate_left
        all_goals try exact absurd rfl (by assumption)
        have hI5 := ((unhide H4).quiet hM (((Turn.refl (fun _ => False) w4).drew).then t5)).begin (ko := keT) (A := ends keF l n (id : Int))
        have bx5 := (((Turn.refl (fun _ => False) w4).drew).then t5).same bx4 (fun q => q)
        have tr5 := tr4.then ((((Turn.refl (fun _ => False) w4).drew).then t5).mono (F := fun _ => False) (G := fun j => s0 ≤ j ∨ MB j) (fun _ q => q.elim))
        have hmem : Hid (∀ a, a ∈ ends keF l n (id : Int) ↔ a ∈ l ∧ keF a = (id : Int)) := hide (fun a => ends_iff hB)
        have hso : Hid (∀ j, (Value.slice ya (ends keF l n (id : Int)).length yc).ownBlock = some j → s0 ≤ j) := hide (fun j hj => Nat.le_trans (Nat.le_trans hs0 tr4.size) (own5 j hj))
        have hAl : (ends keF l n (id : Int)).length ≤ 4194304 := by
          have h1 := both_len hB
          have h2 := hB.2.2.1
          have h3 : (ends keF l n (id : Int)).length ≤ (both l n).length := List.length_filter_le _ _
          omega
        generalize ends keF l n (id : Int) = A at *
        have H5 := hide hI5
        clear H4 hI5 Hout s00 x0 bx4 tr4 t5 own5 k0 k1
        go_wp2_with fail
        go_loopw [32] (fun i wr => ∃ (k : Nat) (L2 : List Int) (T3 : List It), i = .int .i64 (k : Int) ∧ k ≤ A.length ∧ Hid (RI s0 S db n H G (.func (.func 46) #[.pointer (some ⟨G, 0, none⟩)] #[]) (.func (.func 47) #[] #[]) MB (fun j => j = xb) l M (goesF l) s wr L2 T3 (R ++ [(id, rk)]) (DnK (goesF l) id keT A k)) ∧ wr.heap[xb]? = some (.cells #[.int .i64 (id : Int), .int .i64 rk] 71 (0, 0)) ∧ OA wr (.slice ya A.length yc) A ∧ Hid (Turn (fun j => s0 ≤ j ∨ MB j) w wr)) (fun i _ => A.length - (intOf i).toNat)
        case atStart => exact ⟨0, L, T2, rfl, Nat.zero_le _, H5, bx5, O5, hide tr5⟩
        case round =>
          obtain ⟨k, L2, T3, rfl, hk, HI6, bx6, O6, tr6⟩ := hrel
          by_cases hlt : k < A.length
          · obtain ⟨z, hz⟩ := lt_take hlt
            obtain ⟨g, off, c', hv, _, hcl⟩ := O6.ar.form (by omega)
            simp only [Value.slice.injEq] at hv
            obtain ⟨rfl, _, rfl⟩ := hv
            obtain ⟨q0, q1, q2⟩ := hcl k z hz
            have hzm := (unhide hmem z).1 (List.mem_of_getElem? hz)
            obtain ⟨f', t, y⟩ := z
            simp only at q0 q1 q2
            have hfr := hB.2.2.2 _ hzm.1
            unfold okA at hfr
            simp only at hfr
            have hkey : keF (f', t, y) = (id : Int) := hzm.2
            unfold keF at hkey
            simp only at hkey
            obtain ⟨tn, htn⟩ : ∃ tn : Nat, t = (tn : Int) := ⟨(t).toNat, by omega⟩
            have hI6 := unhide HI6
            have hE := fairF hB
            obtain ⟨old, hold⟩ : ∃ old, L2[tn]? = some old := ⟨L2[tn]'(by rw [hI6.dj.len]; omega), by simp [hI6.dj.len, show tn < n by omega]⟩
            have hrk := hI6.dj.rng id rk (hI6.dj.took (id, rk) (by simp)).1
            obtain ⟨d, hd⟩ : ∃ d, d = min (rk + y) INF := ⟨_, rfl⟩
            have hdr : rk ≤ d := by have := hrk.2; omega
            have hadd := fun u => add_walk rk y u hrk.1 hrk.2 (by omega) (by show y ≤ (1152921504606846976 : Int); omega)
            rw [← hd] at hadd
            have hA : goesF l (id : Int) t y := by
              rw [← hkey]; exact hzm.1
            have t6 := (Turn.refl (fun _ => False) wr).alloc (.cells #[.int .i64 f', .int .i64 t, .int .i64 y] 46)
            have ab := heap_alloc_new wr (.cells #[.int .i64 f', .int .i64 t, .int .i64 y] 46)
            have hsw : s0 ≤ wr.heap.size := Nat.le_trans hs0 (unhide tr6).size
            have hxw : xb < wr.heap.size := (Array.getElem?_eq_some_iff.1 bx6).1
            have hse : ∀ u, Turn (fun _ => False) (wr.alloc (.cells #[.int .i64 f', .int .i64 t, .int .i64 y] 46)).drew u → Calls Try.prog 49 #[.pointer (some ⟨S, 0, none⟩), .int .i64 t, .int .i64 d] u fun e w' => e = .returned (.tuple #[]) ∧ Turn (fun j => HB s0 (fun j => j = xb) u j ∨ j = db) u w' ∧ ∃ L' T', Hid (RI s0 S db n H G (.func (.func 46) #[.pointer (some ⟨G, 0, none⟩)] #[]) (.func (.func 47) #[] #[]) MB (fun j => j = xb) l M (goesF l) s w' L' T' (R ++ [(id, rk)]) (DnK (goesF l) id keT A (k + 1))) := by
              intro u tu
              have tu2 : Turn (fun _ => False) wr u := (t6.drew).then tu
              exact (hI6.quiet hM tu2).see (x := (id, rk)) hM hE hdb (Nat.le_trans hsw tu2.size) (fun j hj => by rw [hj]; exact Nat.lt_of_lt_of_le hxw tu2.size) hz htn htn hA hold hd
            have s1w := cell_obj hI6.sr.1 1
            simp only [List.getElem?_toArray, List.getElem?_cons_zero, List.getElem?_cons_succ] at s1w
            have hsr := hI6.sr
            have hend := end_along (wr.alloc (.cells #[.int .i64 f', .int .i64 t, .int .i64 y] 46)).drew f' t y
            simp only at hend
            have s1 := t6.cell s1w (fun h => h)
            have bx6' := t6.same bx6 (fun h => h)
            have x1 : (wr.alloc (.cells #[.int .i64 f', .int .i64 t, .int .i64 y] 46)).cell? ⟨xb, 1, none⟩ = some (.int .i64 rk) := cell_obj bx6' 1
            have a0 : (wr.alloc (.cells #[.int .i64 f', .int .i64 t, .int .i64 y] 46)).cell? ⟨wr.heap.size, 0, none⟩ = some (.int .i64 f') := cell_obj ab 0
            have a1 : (wr.alloc (.cells #[.int .i64 f', .int .i64 t, .int .i64 y] 46)).cell? ⟨wr.heap.size, 1, none⟩ = some (.int .i64 t) := cell_obj ab 1
            have a2 : (wr.alloc (.cells #[.int .i64 f', .int .i64 t, .int .i64 y] 46)).cell? ⟨wr.heap.size, 2, none⟩ = some (.int .i64 y) := cell_obj ab 2
            have HH := hide (And.intro hsr (And.intro O6 bx6))
            clear hI6 HI6 hold hfr hzm hA hcl hkey hrk hdr hd hz hsr s1w bx6' htn hE
            go_wp2_with fail
            have hsab : wr.heap.size < (wr.alloc (.cells #[.int .i64 f', .int .i64 t, .int .i64 y] 46)).heap.size := (Array.getElem?_eq_some_iff.1 ab).1
            generalize wr.alloc (.cells #[.int .i64 f', .int .i64 t, .int .i64 y] 46) = W at *
            generalize hab : wr.heap.size = ab' at *
            have Hab := hide (And.intro hab (And.intro hsab (And.intro hxw hsw)))
            have HT := hide (And.intro t6 ab)
            clear hab hsab hxw hsw t6 ab
            go_region_held3 (fun u => u.cell? ⟨S, 1, none⟩ = some (.func (.func 47) #[] #[]) ∧ u.cell? ⟨ab', 0, none⟩ = some (.int .i64 f') ∧ u.cell? ⟨ab', 1, none⟩ = some (.int .i64 t) ∧ u.cell? ⟨ab', 2, none⟩ = some (.int .i64 y) ∧ u.cell? ⟨xb, 1, none⟩ = some (.int .i64 rk)) (first | exact ⟨s1, a0, a1, a2, x1⟩ | exact ⟨k1, k2, k3, k4, k5⟩ | exact ⟨r1, r2, r3, r4, r5⟩ | go_keep)
              (first
              | (go_at_call 47; refine hend.mono ?_; rintro e w7 ⟨rfl, t7⟩; have k1 := t7.cell (show W.drew.cell? ⟨S, 1, none⟩ = _ from s1) (fun h => h); have k2 := t7.cell (show W.drew.cell? ⟨ab', 0, none⟩ = _ from a0) (fun h => h); have k3 := t7.cell (show W.drew.cell? ⟨ab', 1, none⟩ = _ from a1) (fun h => h); have k4 := t7.cell (show W.drew.cell? ⟨ab', 2, none⟩ = _ from a2) (fun h => h); have k5 := t7.cell (show W.drew.cell? ⟨xb, 1, none⟩ = _ from x1) (fun h => h))
              | (go_at_call 50; refine (hadd _).mono ?_; rintro e w8 ⟨rfl, rfl⟩)
              | (go_at_call 49; refine (hse _ t7).mono ?_; rintro e w9 ⟨rfl, t9, L3, T4, H9⟩; obtain ⟨⟨r1, r2, r3, r4, r5⟩, bx9, O9⟩ := seen_all HH HT t7 t9))
            have tr9 : Hid (Turn (fun j => s0 ≤ j ∨ MB j) w w9) := hide ((unhide tr6).then ((((unhide HT).1.drew).then t7).mono (F := fun _ => False) (fun _ q => q.elim) |>.then (t9.mono (fun j q => q.elim (fun q => .inl q.1.1) (fun q => .inl (by rw [q]; exact hdb))))))
            clear hse hend hadd s1 a0 a1 a2 x1 k1 k2 k3 k4 k5 r1 r2 r3 r4 r5 t7 t9 HT HH Hab tr6 H5
            go_wp2_with fail
            exact ⟨⟨k + 1, L3, T4, by go_num, by omega, H9, bx9, O9, tr9⟩, by simp [intOf]; omega⟩
          · obtain rfl : k = A.length := by omega
            have hIe := (unhide HI6).over (x := (id, rk)) (by
              intro t y hty
              exact ⟨_, (unhide hmem _).2 ⟨hty, rfl⟩, rfl, rfl⟩)
            have hgo2 : Hid (∀ y ∈ R ++ [(id, rk)], go y = true) := hide (fun y hy => by
              rcases List.mem_append.1 hy with hy | hy
              · exact unhide hgo y hy
              · rw [List.mem_singleton] at hy; rw [hy]; exact hg)
            have tr7 := unhide tr6
            have hke : n - (R ++ [(id, rk)]).length < n - R.length := by rw [List.length_append, List.length_singleton]; omega
            clear HI6 hmem tr6 H5
            go_wp2_with fail
            go_roundg (n - (R ++ [(id, rk)]).length)
            case measure => exact hke
            case rel => exact ⟨L2, T3, R ++ [(id, rk)], rfl, hIe, hgo2, tr7⟩
      · have hgf : go (id, rk) = false := by simpa using hg
        rw [if_neg hg] at m4
        rw [hgf]
        have hsr := (unhide H3).told_sr hS hdb hMB t4
        clear hcall t4 bx tr3 tr
        go_wp2_with fail
        rw [Exit.noGoto_normal]
        go_end0
        exact ⟨rfl, tr4, L, T, R, hsr, m4, unhide HDj, unhide hgo, .inr ⟨(id, rk), unhide Hx, hgf⟩⟩
set_option maxHeartbeats 16000000 in
theorem run_in {w : World} {s0 S db n H G : Nat} {MB : Nat → Prop} {l : List Ar} {M : List It → World → Prop} {s : Int} {L : List Int} {T : List It} {f : Nat} {caps : Array Value} {go : It → Bool} (hB : BoundedN (n : Int) l)
    (h : RI s0 S db n H G (.func (.func 21) #[.pointer (some ⟨G, 0, none⟩)] #[]) (.func (.func 32) #[] #[]) MB (fun _ => False) l M (goesB l) s w L T [] (goesB l)) (hM : MoreOK f caps s0 MB M go) (hs0 : s0 ≤ w.heap.size) (hS : s0 ≤ S) (hdb : s0 ≤ db) (hMB : ∀ j, MB j → j < s0) :
    Calls Try.prog 28 #[.pointer (some ⟨S, 0, none⟩), .func (.func f) #[] caps] w fun e w' => e = .returned (.tuple #[]) ∧ Turn (fun j => s0 ≤ j ∨ MB j) w w' ∧ ∃ L T R, SrAt w' S (.func (.func 21) #[.pointer (some ⟨G, 0, none⟩)] #[]) (.func (.func 32) #[] #[]) db n (.pointer (some ⟨H, 0, none⟩)) L ∧ M R w' ∧ Dij n (goesB l) s L T R (goesB l) ∧ (∀ y ∈ R, go y = true) ∧ (T = [] ∨ ∃ x, IsMin T x ∧ go x = false) := by
  go_enter Try.func28, Try.ntmps28
  go_wp2_with fail
  go_step3
  go_wp2_with fail
  go_step3
  go_wp2_with fail
  go_loopg [] n (fun k wr => ∃ L T R, k = n - R.length ∧ RI s0 S db n H G (.func (.func 21) #[.pointer (some ⟨G, 0, none⟩)] #[]) (.func (.func 32) #[] #[]) MB (fun _ => False) l M (goesB l) s wr L T R (goesB l) ∧ Hid (∀ y ∈ R, go y = true) ∧ Turn (fun j => s0 ≤ j ∨ MB j) w wr)
  case atStart => exact ⟨L, T, [], by simp, h, hide (by simp), Turn.refl _ _⟩
  case round =>
    obtain ⟨L, T, R, rfl, hI, hgo, tr⟩ := hrel
    have hs1 : s0 ≤ wr.heap.size := Nat.le_trans hs0 tr.size
    have c3 : wr.cell? ⟨S, 3, none⟩ = some (.pointer (some ⟨H, 0, none⟩)) := cell_obj hI.sr.1 3
    have hp := hI.hp.pure
    by_cases hT : T = []
    · subst hT
      have hpop := pop_empty hp
      simp only [itV] at hpop
      have HI := hide hI
      clear h hs0 hS hdb hB hI
      go_wp2_with (go_at_call 48; refine hpop.mono ?_; rintro e w2 ⟨rfl, t2, h2⟩)
      rw [Exit.noGoto_normal]
      have t3 := (Turn.refl (fun _ => False) w2).alloc (.cells #[.int .i64 0, .int .i64 0] 71)
      have hR := (unhide HI).heap hM t2 h2 (unhide HI).dj
      have hR2 : RI s0 S db n H G _ _ MB (fun _ => False) l M (goesB l) s w2 L [] R (goesB l) := ⟨hR.1, hR.2.1, hR.2.2.1, hR.2.2.2, (unhide HI).dj⟩
      go_end0
      exact ⟨rfl, (tr.then (t2.mono (fun j q => .inl q.1.1))).then (t3.mono (fun _ q => q.elim)), L, [], R, (hR2.quiet hM t3).sr, (hR2.quiet hM t3).mo, hR2.dj, unhide hgo, .inl rfl⟩
    · obtain ⟨x, hx⟩ := hI.hp.min hT
      have hpop := pop_ok hp x hx
      have hRn := hI.dj.pop_few hx
      have hxn := hI.dj.id_lt hx.1
      obtain ⟨id, rk⟩ := x
      simp only [itV] at hpop
      have HI := hide hI
      have hn22 := hB.2.1
      have hent : ∀ (args : Array Value) (w : World), (callFunc f args).run Try.prog w = .ok (.enter f args) w := hM.ent
      have Hx := hide hx
      clear hI hx h
      go_wp2_with fail
      refine hpop.mono ?_
      rintro e w2 ⟨rfl, t2, T2, h2, hl2⟩
      have hI3 := (unhide HI).popped hM hs1 (unhide Hx) t2 h2 hl2 (.cells #[.int .i64 (id : Int), .int .i64 rk] 71)
      have bx := heap_alloc_new w2 (.cells #[.int .i64 (id : Int), .int .i64 rk] 71)
      have tr3 : Turn (fun j => s0 ≤ j ∨ MB j) w (w2.alloc (.cells #[.int .i64 (id : Int), .int .i64 rk] 71)) := (tr.then (t2.mono (fun j q => .inl q.1.1))).alloc _
      have sx : s0 ≤ w2.heap.size := Nat.le_trans hs1 t2.size
      have hcall := hM.call R (w2.alloc (.cells #[.int .i64 (id : Int), .int .i64 rk] 71)) (id, rk) hI3.mo (Nat.le_trans hs0 tr3.size) (by omega) (show id < 4194304 by have : id < n := hxn; omega)
      simp only [itV] at hcall
      have H3 := hide hI3
      clear hI3 hpop t2 h2 hl2 hp c3
      have HDj := hide (unhide HI).dj
      clear HI
      go_wp2_with fail
      refine hcall.mono ?_
      rintro e w4 ⟨rfl, t4, m4⟩
      have tr4 : Turn (fun j => s0 ≤ j ∨ MB j) w w4 := tr3.then (t4.mono (fun j q => by rcases q with q | q; exact .inr q; exact .inl q.1))
      by_cases hg : go (id, rk) = true
      · rw [if_pos hg] at m4
        have hI4 := (unhide H3).told hS hdb hMB t4 m4
        have bx4 := t4.same bx (fun q => by
          rcases q with q | q
          · have := hMB _ q; omega
          · obtain ⟨c, hc⟩ := q.2; rw [bx] at hc; simp at hc)
        generalize w2.heap.size = xb at *
        have x0 : w4.cell? ⟨xb, 0, none⟩ = some (.int .i64 (id : Int)) := cell_obj bx4 0
        have s00 := cell_obj hI4.sr.1 0
        simp only [List.getElem?_toArray, List.getElem?_cons_zero] at s00
        have Hout := In_ask w4.drew G n l (hI4.gr.quiet (Turn.refl (fun _ => False) w4).drew) hB (id : Int)
        have H4 := hide hI4
        clear hI4 hcall H3 t4 m4 bx tr3 tr
        go_wp2_with fail
        go_region_held3 (fun u => u.cell? ⟨S, 0, none⟩ = some (.func (.func 21) #[.pointer (some ⟨G, 0, none⟩)] #[]) ∧ u.cell? ⟨xb, 0, none⟩ = some (.int .i64 (id : Int))) (first | exact ⟨s00, x0⟩ | exact ⟨k0, k1⟩ | go_keep)
          (first
          | (go_at_call 21; refine Hout.mono ?_; rintro e w5 ⟨y, rfl, O5, t5, own5⟩; obtain ⟨ya, yc, rfl⟩ := O5.form; have k0 := t5.cell (show w4.drew.cell? ⟨S, 0, none⟩ = _ from s00) (fun h => h); have k1 := t5.cell (show w4.drew.cell? ⟨xb, 0, none⟩ = _ from x0) (fun h => h)))
        rotate_left
        all_goals try exact absurd rfl (by assumption)
        have hI5 := ((unhide H4).quiet hM (((Turn.refl (fun _ => False) w4).drew).then t5)).begin (ko := keF) (A := ends keT l n (id : Int))
        have bx5 := (((Turn.refl (fun _ => False) w4).drew).then t5).same bx4 (fun q => q)
        have tr5 := tr4.then ((((Turn.refl (fun _ => False) w4).drew).then t5).mono (F := fun _ => False) (G := fun j => s0 ≤ j ∨ MB j) (fun _ q => q.elim))
        have hmem : Hid (∀ a, a ∈ ends keT l n (id : Int) ↔ a ∈ l ∧ keT a = (id : Int)) := hide (fun a => ends_iff hB)
        have hso : Hid (∀ j, (Value.slice ya (ends keT l n (id : Int)).length yc).ownBlock = some j → s0 ≤ j) := hide (fun j hj => Nat.le_trans (Nat.le_trans hs0 tr4.size) (own5 j hj))
        have hAl : (ends keT l n (id : Int)).length ≤ 4194304 := by
          have h1 := both_len hB
          have h2 := hB.2.2.1
          have h3 : (ends keT l n (id : Int)).length ≤ (both l n).length := List.length_filter_le _ _
          omega
        generalize ends keT l n (id : Int) = A at *
        have H5 := hide hI5
        clear H4 hI5 Hout s00 x0 bx4 tr4 t5 own5 k0 k1
        go_wp2_with fail
        go_loopw [32] (fun i wr => ∃ (k : Nat) (L2 : List Int) (T3 : List It), i = .int .i64 (k : Int) ∧ k ≤ A.length ∧ Hid (RI s0 S db n H G (.func (.func 21) #[.pointer (some ⟨G, 0, none⟩)] #[]) (.func (.func 32) #[] #[]) MB (fun j => j = xb) l M (goesB l) s wr L2 T3 (R ++ [(id, rk)]) (DnK (goesB l) id keF A k)) ∧ wr.heap[xb]? = some (.cells #[.int .i64 (id : Int), .int .i64 rk] 71 (0, 0)) ∧ OA wr (.slice ya A.length yc) A ∧ Hid (Turn (fun j => s0 ≤ j ∨ MB j) w wr)) (fun i _ => A.length - (intOf i).toNat)
        case atStart => exact ⟨0, L, T2, rfl, Nat.zero_le _, H5, bx5, O5, hide tr5⟩
        case round =>
          obtain ⟨k, L2, T3, rfl, hk, HI6, bx6, O6, tr6⟩ := hrel
          by_cases hlt : k < A.length
          · obtain ⟨z, hz⟩ := lt_take hlt
            obtain ⟨g, off, c', hv, _, hcl⟩ := O6.ar.form (by omega)
            simp only [Value.slice.injEq] at hv
            obtain ⟨rfl, _, rfl⟩ := hv
            obtain ⟨q0, q1, q2⟩ := hcl k z hz
            have hzm := (unhide hmem z).1 (List.mem_of_getElem? hz)
            obtain ⟨f', t, y⟩ := z
            simp only at q0 q1 q2
            have hfr := hB.2.2.2 _ hzm.1
            unfold okA at hfr
            simp only at hfr
            have hkey : keT (f', t, y) = (id : Int) := hzm.2
            unfold keT at hkey
            simp only at hkey
            obtain ⟨tn, htn⟩ : ∃ tn : Nat, f' = (tn : Int) := ⟨(f').toNat, by omega⟩
            have hI6 := unhide HI6
            have hE := fairB hB
            obtain ⟨old, hold⟩ : ∃ old, L2[tn]? = some old := ⟨L2[tn]'(by rw [hI6.dj.len]; omega), by simp [hI6.dj.len, show tn < n by omega]⟩
            have hrk := hI6.dj.rng id rk (hI6.dj.took (id, rk) (by simp)).1
            obtain ⟨d, hd⟩ : ∃ d, d = min (rk + y) INF := ⟨_, rfl⟩
            have hdr : rk ≤ d := by have := hrk.2; omega
            have hadd := fun u => add_walk rk y u hrk.1 hrk.2 (by omega) (by show y ≤ (1152921504606846976 : Int); omega)
            rw [← hd] at hadd
            have hA : goesB l (id : Int) f' y := by
              rw [← hkey]; exact hzm.1
            have t6 := (Turn.refl (fun _ => False) wr).alloc (.cells #[.int .i64 f', .int .i64 t, .int .i64 y] 46)
            have ab := heap_alloc_new wr (.cells #[.int .i64 f', .int .i64 t, .int .i64 y] 46)
            have hsw : s0 ≤ wr.heap.size := Nat.le_trans hs0 (unhide tr6).size
            have hxw : xb < wr.heap.size := (Array.getElem?_eq_some_iff.1 bx6).1
            have hse : ∀ u, Turn (fun _ => False) (wr.alloc (.cells #[.int .i64 f', .int .i64 t, .int .i64 y] 46)).drew u → Calls Try.prog 49 #[.pointer (some ⟨S, 0, none⟩), .int .i64 f', .int .i64 d] u fun e w' => e = .returned (.tuple #[]) ∧ Turn (fun j => HB s0 (fun j => j = xb) u j ∨ j = db) u w' ∧ ∃ L' T', Hid (RI s0 S db n H G (.func (.func 21) #[.pointer (some ⟨G, 0, none⟩)] #[]) (.func (.func 32) #[] #[]) MB (fun j => j = xb) l M (goesB l) s w' L' T' (R ++ [(id, rk)]) (DnK (goesB l) id keF A (k + 1))) := by
              intro u tu
              have tu2 : Turn (fun _ => False) wr u := (t6.drew).then tu
              exact (hI6.quiet hM tu2).see (x := (id, rk)) hM hE hdb (Nat.le_trans hsw tu2.size) (fun j hj => by rw [hj]; exact Nat.lt_of_lt_of_le hxw tu2.size) hz htn htn hA hold hd
            have s1w := cell_obj hI6.sr.1 1
            simp only [List.getElem?_toArray, List.getElem?_cons_zero, List.getElem?_cons_succ] at s1w
            have hsr := hI6.sr
            have hend := end_To (wr.alloc (.cells #[.int .i64 f', .int .i64 t, .int .i64 y] 46)).drew f' t y
            simp only at hend
            have s1 := t6.cell s1w (fun h => h)
            have bx6' := t6.same bx6 (fun h => h)
            have x1 : (wr.alloc (.cells #[.int .i64 f', .int .i64 t, .int .i64 y] 46)).cell? ⟨xb, 1, none⟩ = some (.int .i64 rk) := cell_obj bx6' 1
            have a0 : (wr.alloc (.cells #[.int .i64 f', .int .i64 t, .int .i64 y] 46)).cell? ⟨wr.heap.size, 0, none⟩ = some (.int .i64 f') := cell_obj ab 0
            have a1 : (wr.alloc (.cells #[.int .i64 f', .int .i64 t, .int .i64 y] 46)).cell? ⟨wr.heap.size, 1, none⟩ = some (.int .i64 t) := cell_obj ab 1
            have a2 : (wr.alloc (.cells #[.int .i64 f', .int .i64 t, .int .i64 y] 46)).cell? ⟨wr.heap.size, 2, none⟩ = some (.int .i64 y) := cell_obj ab 2
            have HH := hide (And.intro hsr (And.intro O6 bx6))
            clear hI6 HI6 hold hfr hzm hA hcl hkey hrk hdr hd hz hsr s1w bx6' htn hE
            go_wp2_with fail
            have hsab : wr.heap.size < (wr.alloc (.cells #[.int .i64 f', .int .i64 t, .int .i64 y] 46)).heap.size := (Array.getElem?_eq_some_iff.1 ab).1
            generalize wr.alloc (.cells #[.int .i64 f', .int .i64 t, .int .i64 y] 46) = W at *
            generalize hab : wr.heap.size = ab' at *
            have Hab := hide (And.intro hab (And.intro hsab (And.intro hxw hsw)))
            have HT := hide (And.intro t6 ab)
            clear hab hsab hxw hsw t6 ab
            go_region_held3 (fun u => u.cell? ⟨S, 1, none⟩ = some (.func (.func 32) #[] #[]) ∧ u.cell? ⟨ab', 0, none⟩ = some (.int .i64 f') ∧ u.cell? ⟨ab', 1, none⟩ = some (.int .i64 t) ∧ u.cell? ⟨ab', 2, none⟩ = some (.int .i64 y) ∧ u.cell? ⟨xb, 1, none⟩ = some (.int .i64 rk)) (first | exact ⟨s1, a0, a1, a2, x1⟩ | exact ⟨k1, k2, k3, k4, k5⟩ | exact ⟨r1, r2, r3, r4, r5⟩ | go_keep)
              (first
              | (go_at_call 32; refine hend.mono ?_; rintro e w7 ⟨rfl, t7⟩; have k1 := t7.cell (show W.drew.cell? ⟨S, 1, none⟩ = _ from s1) (fun h => h); have k2 := t7.cell (show W.drew.cell? ⟨ab', 0, none⟩ = _ from a0) (fun h => h); have k3 := t7.cell (show W.drew.cell? ⟨ab', 1, none⟩ = _ from a1) (fun h => h); have k4 := t7.cell (show W.drew.cell? ⟨ab', 2, none⟩ = _ from a2) (fun h => h); have k5 := t7.cell (show W.drew.cell? ⟨xb, 1, none⟩ = _ from x1) (fun h => h))
              | (go_at_call 50; refine (hadd _).mono ?_; rintro e w8 ⟨rfl, rfl⟩)
              | (go_at_call 49; refine (hse _ t7).mono ?_; rintro e w9 ⟨rfl, t9, L3, T4, H9⟩; obtain ⟨⟨r1, r2, r3, r4, r5⟩, bx9, O9⟩ := seen_all HH HT t7 t9))
            have tr9 : Hid (Turn (fun j => s0 ≤ j ∨ MB j) w w9) := hide ((unhide tr6).then ((((unhide HT).1.drew).then t7).mono (F := fun _ => False) (fun _ q => q.elim) |>.then (t9.mono (fun j q => q.elim (fun q => .inl q.1.1) (fun q => .inl (by rw [q]; exact hdb))))))
            clear hse hend hadd s1 a0 a1 a2 x1 k1 k2 k3 k4 k5 r1 r2 r3 r4 r5 t7 t9 HT HH Hab tr6 H5
            go_wp2_with fail
            exact ⟨⟨k + 1, L3, T4, by go_num, by omega, H9, bx9, O9, tr9⟩, by simp [intOf]; omega⟩
          · obtain rfl : k = A.length := by omega
            have hIe := (unhide HI6).over (x := (id, rk)) (by
              intro t y hty
              exact ⟨_, (unhide hmem _).2 ⟨hty, rfl⟩, rfl, rfl⟩)
            have hgo2 : Hid (∀ y ∈ R ++ [(id, rk)], go y = true) := hide (fun y hy => by
              rcases List.mem_append.1 hy with hy | hy
              · exact unhide hgo y hy
              · rw [List.mem_singleton] at hy; rw [hy]; exact hg)
            have tr7 := unhide tr6
            have hke : n - (R ++ [(id, rk)]).length < n - R.length := by rw [List.length_append, List.length_singleton]; omega
            clear HI6 hmem tr6 H5
            go_wp2_with fail
            go_roundg (n - (R ++ [(id, rk)]).length)
            case measure => exact hke
            case rel => exact ⟨L2, T3, R ++ [(id, rk)], rfl, hIe, hgo2, tr7⟩
      · have hgf : go (id, rk) = false := by simpa using hg
        rw [if_neg hg] at m4
        rw [hgf]
        have hsr := (unhide H3).told_sr hS hdb hMB t4
        clear hcall t4 bx tr3 tr
        go_wp2_with fail
        rw [Exit.noGoto_normal]
        go_end0
        exact ⟨rfl, tr4, L, T, R, hsr, m4, unhide HDj, unhide hgo, .inr ⟨(id, rk), unhide Hx, hgf⟩⟩
end Go.Proofs.Ytombpfpfeebnpaa
