/- JournalPlays. -/
import Derived.Test.YthikiahhochjmaaGreatDoorJStand4
import Derived.Test.YthikiahhochjmaaGreatDoorJAwake
import Derived.Test.YthikiahhochjmaaGreatDoorJOps
import Derived.Deep.RegionHeld3
namespace Go.Proofs.YthikiahhochjmaaGreatDoor
open Go.RowKit Go.Maps Go.Sort
set_option linter.unusedVariables false
set_option linter.unusedSimpArgs false
set_option maxRecDepth 100000

theorem Stand.armed {w : World} {T D b0 most n : Nat} (h : Stand w T D b0 most n) (hb : b0 ≤ w.heap.size) :
    Calls Tryz.prog 13 #[.pointer (some ⟨D, 0, none⟩), .int .i64 0] w fun e w' => e = .returned (.int .i64 0) ∧ Turn (fun j => b0 ≤ j) w w' ∧ Stand w' T D b0 most n := by
  obtain ⟨J, H, M, av, X, S, A, first, might, safe, more, dn, fell, s⟩ := h
  obtain ⟨F, d, hFH, hFM, hFT, hfin⟩ := s.tr.diskcall
  refine (Arm_walk w D F S 0 (by decide) d).mono ?_
  rintro e w' ⟨rfl, t, d'⟩
  have tr' := hfin w' _ t (d'.mono (fun j hj _ => .inl hj))
  refine ⟨rfl, t.mono (fun j hj => s.hH j (hFH j hj)), J, _, M, av, X, _, A, first, might, safe, more, dn, fell, ⟨tr', s.hT, fun j hj => ?_, s.hM, s.len, s.fit, s.nx, ?_⟩⟩
  · rcases hj.1 with q | q
    · exact s.hH j q
    · exact Nat.le_trans hb q
  · rcases s.is with ⟨rfl, rfl, k, hc⟩ | ⟨rfl, hs⟩
    · exact .inl ⟨rfl, rfl, k, ⟨hc.jv.fs rfl, hc.top, hc.safe, hc.sd, hc.xd, hc.st, hc.size, hc.mo⟩⟩
    · obtain ⟨segs, k', f, j, q⟩ := hs.jv
      exact .inr ⟨rfl, ⟨⟨segs, k', f, j.fs rfl, q⟩, hs.sd, hs.xd, hs.size⟩⟩

set_option maxHeartbeats 4000000 in
theorem plays_walk (w : World) (sd : Int) (v : Value) (n : Nat) (K N : Nat → Int) (BV KV : Nat → Value) (Z Q : Nat → List Int) (h : OpsIn w v n K N BV KV Z Q) (m : Nat) (hm : wrap64 (1 + wrap64 ((IntKind.u64.wrap sd).tmod 12)) = (m : Int)) (h1 : 1 ≤ m) (h2 : m ≤ 1000) :
    Calls Tryz.prog 3 #[.int .i64 sd, v] w fun e w' => e = .returned (.bool true) ∧ Turn (fun _ => False) w w' := by
  obtain ⟨a, c, rfl, hnM, hcells⟩ := h.form
  have Hb := begin_stand w m h1 h2
  rw [← hm] at Hb
  have HM := hide hm
  have HH := hide h
  have HC := hide hcells
  clear hm h hcells
  go_enter Tryz.func3, Tryz.ntmps3
  go_wp2_with fail
  refine Hb.mono ?_
  rintro e w1 ⟨T, D, rfl, t1, st1⟩
  clear Hb
  go_wp2_with fail
  refine (awake_j w1).mono ?_
  rintro e w2 ⟨rfl, t2⟩
  have st2 := st1.quiet t2
  have T2 := t1.then t2
  clear st1 t1 t2
  go_wp2_with fail
  go_loopw [6] (fun i wr => ∃ k : Nat, i = .int .i64 (k : Int) ∧ k ≤ n ∧ k ≤ 80 ∧ Stand wr T D w.heap.size m k ∧ Turn (fun _ => False) w wr) (fun i _ => 80 - (intOf i).toNat)
  case atStart => exact ⟨0, rfl, Nat.zero_le _, Nat.zero_le _, st2, T2⟩
  case round =>
    obtain ⟨k, rfl, hk, hk8, hst, tr⟩ := hrel
    clear st2 T2
    by_cases hlt : k < n
    · by_cases hl8 : k < 80
      · obtain ⟨b, off, rfl, q0, q1, q2, q3⟩ := unhide HC k hlt
        have q0 := tr.cell q0 (fun h => h)
        have q1 := tr.cell q1 (fun h => h)
        have q2 := tr.cell q2 (fun h => h)
        have q3 := tr.cell q3 (fun h => h)
        obtain ⟨J, H, M, av, X, S, A, first, might, safe, more, dn, fell, s⟩ := hst
        obtain ⟨F, d, hFH, hFM, hFT, hfin⟩ := s.tr.diskcall
        have hd := Down_walk wr D F S d
        rw [s.down] at hd
        have g0 := cell_obj s.tr.obj 0
        have g8 := cell_obj s.tr.obj 8
        simp at g0 g8
        clear hfin hFH hFM hFT d
        have hl8i : (k : Int) < 80 := by omega
        have r1 := (((unhide HH).rows k hlt).1.lt).turn tr (fun _ _ h => h)
        have r2 := (((unhide HH).rows k hlt).2.lt).turn tr (fun _ _ h => h)
        have Hstep := Stand.step (w := wr) ⟨J, H, M, av, X, S, A, first, might, safe, more, dn, fell, s⟩ (by omega) h1 h2 tr.size (K k) (N k) ((unhide HH).size k hlt).1 (BV k) (KV k) (Z k) (Q k) ((unhide HH).bytes k hlt) (r1.mono (fun b hb => hb.2)) (r2.mono (fun b hb => hb.2)) ((unhide HH).size k hlt).2.2
        clear s r1 r2
        go_wp2_with fail
        refine hd.mono ?_
        rintro e w3 ⟨rfl, rfl⟩
        clear hd
        cases dn
        · go_wp2_with fail
          refine Hstep.mono ?_
          rintro e w4 ⟨rfl, t4, J4, H4, M4, av4, X4, S4, A4, first4, might4, safe4, more4, dn4, fell4, s4⟩
          have tr4 := tr.trans t4 (fun j hj => .inr hj)
          have st4 : Stand w4 T D w.heap.size m (k + 1) := ⟨J4, H4, M4, av4, X4, S4, A4, first4, might4, safe4, more4, dn4, fell4, s4⟩
          have g0' := cell_obj s4.tr.obj 0
          have g8' := cell_obj s4.tr.obj 8
          simp at g0' g8'
          have hd4 : Calls Tryz.prog 10 #[.pointer (some ⟨D, 0, none⟩)] w4 fun e w' => e = .returned (.bool dn4) ∧ w' = w4 := by
            obtain ⟨F4, d4, _⟩ := s4.tr.diskcall
            have := Down_walk w4 D F4 S4 d4
            rwa [s4.down] at this
          clear Hstep q0 q1 q2 q3 g0 g8 tr t4
          cases dn4
          · have ht4 := s4.told (by omega)
            clear s4
            go_wp2_with fail
            refine hd4.mono ?_
            rintro e w5 ⟨rfl, rfl⟩
            go_wp2_with fail
            refine ht4.mono ?_
            rintro e w6 ⟨rfl, t6⟩
            have st6 := st4.quiet t6
            have tr6 := tr4.then t6
            clear ht4 hd4 st4 tr4 t6 g0' g8'
            go_wp2
            exact ⟨⟨k + 1, by go_num, by omega, by omega, st6, tr6⟩, by simp [intOf]; omega⟩
          · clear s4
            clear hd4
            go_wp2
            exact ⟨⟨k + 1, by go_num, by omega, by omega, st4, tr4⟩, by simp [intOf]; omega⟩
        · go_wp2_with fail
          refine Hstep.mono ?_
          rintro e w4 ⟨rfl, t4, J4, H4, M4, av4, X4, S4, A4, first4, might4, safe4, more4, dn4, fell4, s4⟩
          have tr4 := tr.trans t4 (fun j hj => .inr hj)
          have st4 : Stand w4 T D w.heap.size m (k + 1) := ⟨J4, H4, M4, av4, X4, S4, A4, first4, might4, safe4, more4, dn4, fell4, s4⟩
          have g0' := cell_obj s4.tr.obj 0
          have g8' := cell_obj s4.tr.obj 8
          simp at g0' g8'
          have hd4 : Calls Tryz.prog 10 #[.pointer (some ⟨D, 0, none⟩)] w4 fun e w' => e = .returned (.bool dn4) ∧ w' = w4 := by
            obtain ⟨F4, d4, _⟩ := s4.tr.diskcall
            have := Down_walk w4 D F4 S4 d4
            rwa [s4.down] at this
          clear Hstep q0 q1 q2 q3 g0 g8 tr t4
          cases dn4
          · have ht4 := s4.told (by omega)
            clear s4
            go_wp2_with fail
            refine hd4.mono ?_
            rintro e w5 ⟨rfl, rfl⟩
            go_wp2_with fail
            refine ht4.mono ?_
            rintro e w6 ⟨rfl, t6⟩
            have st6 := st4.quiet t6
            have tr6 := tr4.then t6
            clear ht4 hd4 st4 tr4 t6 g0' g8'
            go_wp2
            exact ⟨⟨k + 1, by go_num, by omega, by omega, st6, tr6⟩, by simp [intOf]; omega⟩
          · clear s4
            clear hd4
            go_wp2
            exact ⟨⟨k + 1, by go_num, by omega, by omega, st4, tr4⟩, by simp [intOf]; omega⟩
      · have hl8i : ¬ (k : Int) < 80 := by omega
        have g0 : ∃ J H M av X S A first might safe more dn fell, Std wr T D w.heap.size m k J H M av X S A first might safe more dn fell := hst
        obtain ⟨J, H, M, av, X, S, A, first, might, safe, more, dn, fell, s⟩ := g0
        have g0 := cell_obj s.tr.obj 0
        simp at g0
        clear s
        have Ha := hst.armed tr.size
        clear hst
        go_wp2_with fail
        refine Ha.mono ?_
        rintro e w7 ⟨rfl, t7, st7⟩
        have tr7 := tr.trans t7 (fun j hj => .inr hj)
        have Ho := st7.topen (by omega) h1 h2 tr7.size
        clear Ha tr t7 st7 g0
        go_wp2_with fail
        refine Ho.mono ?_
        rintro e w8 ⟨rfl, t8, J8, H8, M8, av8, X8, S8, A8, first8, might8, safe8, more8, fell8, s8⟩
        have ht8 := s8.told (by omega)
        have tr8 := tr7.trans t8 (fun j hj => .inr hj)
        clear Ho tr7 t8 s8
        go_wp2_with fail
        refine ht8.mono ?_
        rintro e w9 ⟨rfl, t9⟩
        have tr9 := tr8.then t9
        clear ht8 tr8 t9
        go_wp2
        go_ret
        exact ⟨rfl, tr9⟩
    · have hlti : ¬ (k : Int) < (n : Int) := by omega
      have g0 : ∃ J H M av X S A first might safe more dn fell, Std wr T D w.heap.size m k J H M av X S A first might safe more dn fell := hst
      obtain ⟨J, H, M, av, X, S, A, first, might, safe, more, dn, fell, s⟩ := g0
      have g0 := cell_obj s.tr.obj 0
      simp at g0
      clear s
      have Ha := hst.armed tr.size
      clear hst
      go_wp2_with fail
      refine Ha.mono ?_
      rintro e w7 ⟨rfl, t7, st7⟩
      have tr7 := tr.trans t7 (fun j hj => .inr hj)
      have Ho := st7.topen (by omega) h1 h2 tr7.size
      clear Ha tr t7 st7 g0
      go_wp2_with fail
      refine Ho.mono ?_
      rintro e w8 ⟨rfl, t8, J8, H8, M8, av8, X8, S8, A8, first8, might8, safe8, more8, fell8, s8⟩
      have ht8 := s8.told (by omega)
      have tr8 := tr7.trans t8 (fun j hj => .inr hj)
      clear Ho tr7 t8 s8
      go_wp2_with fail
      refine ht8.mono ?_
      rintro e w9 ⟨rfl, t9⟩
      have tr9 := tr8.then t9
      clear ht8 tr8 t9
      go_wp2
      go_ret
      exact ⟨rfl, tr9⟩
theorem JournalPlays_law (w : World) (a : Int) (wa : (Lit.int .i64 a).wf = true) (lv : Value) (n : Nat) (K N : Nat → Int) (BV KV : Nat → Value) (Z Q : Nat → List Int) (hl : OpsIn w lv n K N BV KV Z Q) :
    Calls Tryz.prog 3 #[.int .i64 a, lv] w fun e w' => e = .returned (.bool true) ∧ Below w.heap.size w w' := by
  have h0 : 0 ≤ IntKind.u64.wrap a := by rw [IntKind.wrap_u64]; omega
  have ht : (IntKind.u64.wrap a).tmod 12 = IntKind.u64.wrap a % 12 := Int.tmod_eq_emod_of_nonneg h0
  have hm : wrap64 (1 + wrap64 ((IntKind.u64.wrap a).tmod 12)) = ((1 + (IntKind.u64.wrap a % 12).toNat : Nat) : Int) := by rw [ht]; generalize IntKind.u64.wrap a = u at *; unfold wrap64; omega
  exact (plays_walk w a lv n K N BV KV Z Q hl _ hm (by omega) (by omega)).mono (fun e w' h => ⟨h.1, h.2.bel⟩)
end Go.Proofs.YthikiahhochjmaaGreatDoor
