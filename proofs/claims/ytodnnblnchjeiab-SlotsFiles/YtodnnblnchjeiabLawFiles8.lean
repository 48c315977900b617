/- SlotsFiles: s1 for odd numbers, s0 for even ones; what another wrote is told. -/
import Derived.Test.YtodnnblnchjeiabVFiles
import Derived.Test.YtodnnblnchjeiabBWf
namespace Go.Proofs.Ytodnnblnchjeiab
open Go.RowKit Go.Maps
set_option linter.unusedVariables false
set_option linter.unusedSimpArgs false

set_option maxRecDepth 100000 in
set_option maxHeartbeats 4000000 in
theorem files_walk (w : World) (a : Int) (bv : Value) (zb : List Int) (cv : Value) (zc : List Int) (hb : Row .u8 any w bv zb) (hc : Row .u8 any w cv zc) (bb : Bytes zb) (bc : Bytes zc) :
    Calls Try.prog 3 #[.int .i64 a, bv, cv] w fun e w' => e = .returned (.bool true) ∧ Turn (fun _ => False) w w' := by
  obtain ⟨n, hn, en⟩ := rem_mod a 9 (by decide) (by decide)
  rw [show ((9 : Nat) : Int) = 9 from rfl] at en
  have En := hide en
  have hb := hb.lt
  have hc := hc.lt
  obtain ⟨ba, bcp, rfl⟩ := hb.slice
  obtain ⟨ca, ccp, rfl⟩ := hc.slice
  have hnew := New_walk 100000 w (by decide) (by decide)
  clear en
  go_enter Try.func3, Try.ntmps3
  go_wp2_with fail
  refine hnew.mono ?_
  rintro e w1 ⟨rfl, t1, d1⟩
  go_wp2_with fail
  refine (open_fine w1 _ _ _ 0 [] d1 (quiet_new 100000) rfl (few_zero 0 (by decide))).mono ?_
  rintro e w2 ⟨X, rfl, t2, hX, v2⟩
  have s1 := t1.size
  have s2 := t2.size
  go_wp2_with fail
  refine (awakeV _).mono ?_
  rintro e w3 ⟨rfl, t3⟩
  have s3 := t3.size
  have v3 : VAt w3 (fun j => w.heap.size ≤ j) X w.heap.size ⟨0, [], false⟩ (newS 100000) := (v2.same t3).mono (fun j hj _ => by
    rcases hj with h | h
    · exact h
    · omega)
  have T3 := (t1.then t2).then t3
  have HV := hide (And.intro v3 T3)
  clear hnew t1 t2 t3 v2 v3 T3 d1
  by_cases hbig : 2000 < zb.length ∨ 2000 < zc.length
  · have hb1 : 2000 < zb.length ∨ (zb.length ≤ 2000 ∧ 2000 < zc.length) := by omega
    generalize zb.length = lb at *
    generalize zc.length = lc at *
    clear hbig hb hc
    rcases hb1 with hb1 | ⟨hb1, hb2⟩
    all_goals
      go_wp2_with (go_at_call 8; refine (awakeV _).mono ?_; rintro e w4 ⟨rfl, t4⟩)
      go_ret
      exact ⟨rfl, (unhide HV).2.then t4⟩
  have hlb : zb.length ≤ 2000 := by omega
  have hlc : zc.length ≤ 2000 := by omega
  clear hbig
  generalize hblen : zb.length = lb at *
  generalize hclen : zc.length = lc at *
  have Hbl := hide hblen
  have Hcl := hide hclen
  have HB := hide hb
  have HC := hide hc
  clear hblen hclen hb hc
  go_wp2_with fail
  rw [show wrap64 ((IntKind.u64.wrap a).tmod 9) = (n : Int) from unhide En]
  go_loopw [12] (fun i wr => ∃ (k : Nat) (S : Dk) (L : List Int), i = .int .i64 (k : Int) ∧ k ≤ n ∧ VAt wr (fun j => w.heap.size ≤ j) X w.heap.size ⟨k, L, false⟩ S ∧ Grow8 S k zb L ∧ Turn (fun j => w.heap.size ≤ j) w wr ∧ Hid (k = 0 → S = newS 100000)) (fun i _ => n - (intOf i).toNat)
  case atStart => exact ⟨0, _, _, rfl, by omega, (unhide HV).1, grow_new zb, (unhide HV).2.mono (fun _ h => h.elim), hide (fun _ => rfl)⟩
  case round =>
    obtain ⟨k, S, L, rfl, hk, v, hG, T, h0⟩ := hrel
    by_cases hlt : k < n
    · obtain ⟨S', e', hG'⟩ := grow_save hG bb (by have := unhide Hbl; omega) (by omega)
      have s4 := T.size
      have rb := (unhide HB).turn T (fun b hb h => by have := hb.2; omega)
      have hsv := saveV_w wr _ _ X w.heap.size ⟨k, L, false⟩ S (.slice ba lb bcp) zb v rb (fun j hj _ hh => by have := hj.2; omega) bb (by have := unhide Hbl; omega) (by show k < 1000; omega)
      rw [e'] at hsv
      simp only at hsv
      clear v hG rb HV h0
      go_wp2_with (go_at_call 9; refine hsv.mono ?_; rintro e w5 ⟨rfl, t5, v5⟩)
      exact ⟨⟨k + 1, S', zb, by go_num, by omega, v5.mono (fun j hj _ => by rcases hj with h | h; exact h; omega), hG', T.then t5, hide (fun h => by omega)⟩, by simp [intOf]; omega⟩
    · have hkn : k = n := by omega
      subst hkn
      obtain ⟨F, d, hF⟩ := v.disk
      have hna := Names_walk wr w.heap.size F S d
      obtain ⟨g1, g2⟩ := grow_names hG
      rw [g1] at hna
      have HA := hide (And.intro d (And.intro hF T))
      have HG := hide hG
      have HG2 := hide g2
      clear v hG T d hF HV g1 g2
      go_wp2_with fail
      refine hna.mono ?_
      rintro e w5 ⟨nv, rfl, hv, t5⟩
      have ho := OwnSl.of_owns hv
      obtain ⟨va, vc, rfl⟩ := ho.form
      obtain ⟨d, hF, T⟩ := unhide HA
      have d5 := d.turn t5 (fun _ _ _ h => h)
      have T5 := T.then (t5.mono (fun _ h => h.elim))
      have HA5 := hide (And.intro d5 (And.intro hF T5))
      rw [show (namesL S).length = (if k = 0 then [] else if k = 1 then [[115, 49]] else [[115, 48], [115, 49]] : List Nm).length by rw [unhide HG2]] at *
      rw [unhide HG2] at ho
      have hkk : k = 0 ∨ k = 1 ∨ 2 ≤ k := by omega
      clear hna hv d hF T d5 T5 HA t5
      have HO := hide ho
      have hz0 : 0 ≤ zc.getD 0 0 ∧ zc.getD 0 0 < 256 := by
        by_cases h : 0 < zc.length
        · exact getD_byte bc h
        · rw [List.eq_nil_of_length_eq_zero (by omega : zc.length = 0)]; decide
      have hcell : 0 < lc → ∃ b off, ca = some ⟨b, off, none⟩ ∧ w5.cell? ⟨b, off, none⟩ = some (.int .u8 (zc.getD 0 0)) := fun h => by
        have r5 := (unhide HC).turn (unhide HA5).2.2 (fun b hb h => by have := hb.2; omega)
        rcases r5 with ⟨_, _, h1, _, _, h2⟩ | ⟨b, off, c, h1, h2, h3, h4, h5⟩
        · have := unhide Hcl; rw [h2] at this; simp at this; omega
        · simp at h1
          have h6 := h5 0 (by have := unhide Hcl; omega)
          rw [Nat.add_zero] at h6
          exact ⟨b, off, h1.1, h6⟩
      generalize hzc : zc.getD 0 0 = z0 at *
      have Hzc := hide hzc
      have HCell := hide hcell
      clear hzc hcell ho
      generalize hnl : (if k = 0 then [] else if k = 1 then [[115, 49]] else [[115, 48], [115, 49]] : List Nm) = NLs at *
      have s5 := (unhide HA5).2.2.size
      rcases hkk with rfl | rfl | hk2
      · obtain rfl : NLs = [] := by rw [← hnl]; rfl
        have hS := unhide h0 rfl
        subst hS
        clear HO HG2 hnl HG h0
        rw [show ([] : List Nm).length = 0 from rfl]
        by_cases hl0 : lc = 0
        · subst hl0
          go_wp2
          go_ret
          exact ⟨rfl, (unhide HA5).2.2.fresh (Nat.le_refl _)⟩
        · obtain ⟨b, off, rfl, hcl⟩ := unhide HCell (by omega)
          clear HCell
          have e0 : ((lc : Int) == 0) = false := by rw [beq_eq_false_iff_ne]; omega
          have e1 : (0 : Int) < (lc : Int) := by omega
          by_cases hz1 : z0 = 0
          · subst hz1
            go_wp2
            go_ret
            exact ⟨rfl, (unhide HA5).2.2.fresh (Nat.le_refl _)⟩
          · by_cases hz2 : z0 = 165
            · subst hz2
              go_wp2
              go_ret
              exact ⟨rfl, (unhide HA5).2.2.fresh (Nat.le_refl _)⟩
            · obtain ⟨d5, hF, T5⟩ := unhide HA5
              have e2 : (z0 == 0) = false := by rw [beq_eq_false_iff_ne]; exact hz1
              have e3 : (z0 == 165) = false := by rw [beq_eq_false_iff_ne]; exact hz2
              have r5 := (unhide HC).turn T5 (fun b hb h => by have := hb.2; omega)
              have hap := Append_walk w5 w.heap.size F _ _ ⟨#[115, 48]⟩ _ zc (by decide) d5 r5
              obtain ⟨b1, b2⟩ := bad_append zc (by have := unhide Hcl; omega)
              rw [show (⟨#[115, 48]⟩ : ByteArray).data.toList = [115, 48] from rfl, b1, b2] at hap
              have hlz : 0 < zc.length := by have := unhide Hcl; omega
              have hbo := bad_open zc hlz (by rw [unhide Hzc]; exact hz2) (by rw [unhide Hzc]; exact hz1)
              have hbb := bad_bytes bc
              have HT := hide (And.intro T5 (And.intro hF (And.intro hbo hbb)))
              clear d5 hF T5 r5 b1 b2 hbo hbb HA5
              go_wp2_with fail
              refine hap.mono ?_
              rintro e w6 ⟨rfl, t6, d6⟩
              obtain ⟨T5, hF, hbo, hbb⟩ := unhide HT
              have hop := openV_w w6 _ w.heap.size _ d6 hbb
              rw [hbo] at hop
              have T6 : Turn (fun j => w.heap.size ≤ j) w w6 := T5.trans t6 (fun j hj => .inl (hF j hj))
              have HT6 := hide T6
              clear T5 hF hbo hbb d6 t6 T6 hap HT
              go_wp2_with fail
              refine hop.mono ?_
              rintro e w7 ⟨p, rfl, t7, hh⟩
              have hp : p = none := by
                rcases hh with ⟨h, _⟩ | ⟨_, h⟩
                · exact absurd h (by decide)
                · exact h
              subst hp
              clear hh hop
              go_wp2
              go_ret
              exact ⟨rfl, ((unhide HT6).then (t7.mono (fun _ h => h.elim))).fresh (Nat.le_refl _)⟩
      · obtain rfl : NLs = [[115, 49]] := by rw [← hnl]; rfl
        obtain ⟨g, off, hva, hc1⟩ : ∃ g off, va = some ⟨g, off, none⟩ ∧ w5.cell? ⟨g, off, none⟩ = some (.string ⟨#[115, 49]⟩) := by
          have ho := unhide HO
          rcases ho.2 with ⟨hv, h0⟩ | ⟨g, off, cap, cur, hv, _⟩
          · simp at h0
          · cases hv
            exact ⟨g, off, rfl, ho.cells 0 _ rfl⟩
        subst hva
        clear HO HG2 hnl HG h0
        rw [show ([[115, 49]] : List Nm).length = 1 from rfl]
        by_cases hl0 : lc = 0
        · subst hl0
          go_wp2
          go_ret
          exact ⟨rfl, (unhide HA5).2.2.fresh (Nat.le_refl _)⟩
        · obtain ⟨b, off, rfl, hcl⟩ := unhide HCell (by omega)
          clear HCell
          have e0 : ((lc : Int) == 0) = false := by rw [beq_eq_false_iff_ne]; omega
          have e1 : (0 : Int) < (lc : Int) := by omega
          by_cases hz1 : z0 = 0
          · subst hz1
            go_wp2
            go_ret
            exact ⟨rfl, (unhide HA5).2.2.fresh (Nat.le_refl _)⟩
          · have e2 : (z0 == 0) = false := by rw [beq_eq_false_iff_ne]; exact hz1
            by_cases hz2 : z0 = 165
            · subst hz2
              go_wp2
              go_ret
              exact ⟨rfl, (unhide HA5).2.2.fresh (Nat.le_refl _)⟩
            · have e3 : (z0 == 165) = false := by rw [beq_eq_false_iff_ne]; exact hz2
              go_wp2
              go_ret
              exact ⟨rfl, (unhide HA5).2.2.fresh (Nat.le_refl _)⟩
      · obtain rfl : NLs = [[115, 48], [115, 49]] := by rw [← hnl, if_neg (by omega), if_neg (by omega)]
        obtain ⟨g, off, hva, hc1, hc2⟩ : ∃ g off, va = some ⟨g, off, none⟩ ∧ w5.cell? ⟨g, off, none⟩ = some (.string ⟨#[115, 48]⟩) ∧ w5.cell? ⟨g, off + 1, none⟩ = some (.string ⟨#[115, 49]⟩) := by
          have ho := unhide HO
          rcases ho.2 with ⟨hv, h0⟩ | ⟨g, off, cap, cur, hv, _⟩
          · simp at h0
          · cases hv
            exact ⟨g, off, rfl, ho.cells 0 _ rfl, ho.cells 1 _ rfl⟩
        subst hva
        have k0 : ((k : Int) == 0) = false := by rw [beq_eq_false_iff_ne]; omega
        have k1 : ((k : Int) == 1) = false := by rw [beq_eq_false_iff_ne]; omega
        have k2 : (1 : Int) < (k : Int) := by omega
        clear HO HG2 hnl HG h0
        rw [show ([[115, 48], [115, 49]] : List Nm).length = 2 from rfl]
        by_cases hl0 : lc = 0
        · subst hl0
          go_wp2
          go_ret
          exact ⟨rfl, (unhide HA5).2.2.fresh (Nat.le_refl _)⟩
        · obtain ⟨b, off, rfl, hcl⟩ := unhide HCell (by omega)
          clear HCell
          have e0 : ((lc : Int) == 0) = false := by rw [beq_eq_false_iff_ne]; omega
          have e1 : (0 : Int) < (lc : Int) := by omega
          by_cases hz1 : z0 = 0
          · subst hz1
            go_wp2
            go_ret
            exact ⟨rfl, (unhide HA5).2.2.fresh (Nat.le_refl _)⟩
          · have e2 : (z0 == 0) = false := by rw [beq_eq_false_iff_ne]; exact hz1
            by_cases hz2 : z0 = 165
            · subst hz2
              go_wp2
              go_ret
              exact ⟨rfl, (unhide HA5).2.2.fresh (Nat.le_refl _)⟩
            · have e3 : (z0 == 165) = false := by rw [beq_eq_false_iff_ne]; exact hz2
              go_wp2
              go_ret
              exact ⟨rfl, (unhide HA5).2.2.fresh (Nat.le_refl _)⟩
theorem SlotsFiles_law (w : World) (a : Int) (wa : (Lit.int .i64 a).wf = true) (bv : Value) (zb : List Int) (hb : Row .u8 any w bv zb) (hwf : ∀ n ∈ zb, (Lit.int .u8 n).wf = true) (hz : zb.length * 1 ≤ 140737488351232)
    (cv : Value) (zc : List Int) (hc : Row .u8 any w cv zc) (hwc : ∀ n ∈ zc, (Lit.int .u8 n).wf = true) (hzc : zc.length * 1 ≤ 140737488351232) :
    Calls Try.prog 3 #[.int .i64 a, bv, cv] w fun e w' => e = .returned (.bool true) ∧ Below w.heap.size w w' :=
  (files_walk w a bv zb cv zc hb hc (bytes_wf hwf) (bytes_wf hwc)).mono (fun e w' h => ⟨h.1, h.2.bel⟩)
end Go.Proofs.Ytodnnblnchjeiab
