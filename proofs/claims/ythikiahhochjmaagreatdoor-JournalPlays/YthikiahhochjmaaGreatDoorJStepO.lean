/- JournalPlays: the steps that open: KOpen, KCrash. -/
import Derived.Test.YthikiahhochjmaaGreatDoorJTopen
import Derived.Test.YthikiahhochjmaaGreatDoorJStep
namespace Go.Proofs.YthikiahhochjmaaGreatDoor
open Go.RowKit Go.Maps
set_option linter.unusedVariables false
set_option linter.unusedSimpArgs false

set_option maxRecDepth 100000 in
set_option maxHeartbeats 4000000 in
theorem open_step (w : World) (T D J : Nat) (H M : Nat → Prop) (av : Value) (X : Jn) (S S3 : Dk) (segs2 : List Sg) (A : List (List Int)) (most first might safe : Nat) (more dn fell : Bool) (h : Tr w T D J H M av X S A most first might safe more dn fell) (N : Int) (bv kv : Value)
    (hO : openJ (startS S) = (0, segs2, S3)) (hR : Ready (startS S)) (h1 : 1 ≤ most) (h2 : most ≤ 1000) (fit : Fit (newX most segs2)) (f1 : first ≤ firstOf segs2) (f2 : firstOf segs2 ≤ might) (n1 : safe ≤ nextOf segs2) (n2 : nextOf segs2 ≤ A.length) (sd0 : Bool) (hfell : S.down = sd0) (safe' : Nat) (hsafe : safe' = if sd0 = true then nextOf segs2 else safe) (n3 : sd0 = false → nextOf segs2 = A.length)
    (fn : firstOf segs2 ≤ nextOf segs2) (hr : recsOf segs2 = (A.take (nextOf segs2)).drop (firstOf segs2)) (hs : ∀ z ∈ A, z.length ≤ 300) (hA : A.length ≤ 1000) :
    Calls Tryz.prog 11 #[.pointer (some ⟨T, 0, none⟩), .agg #[.int .i64 5, .int .i64 N, bv, kv]] w fun e w' => e = .returned (.bool true) ∧
      ∃ J' av' H', (∀ j, H' j → H j ∨ w.heap.size ≤ j) ∧ Tr w' T D J' H' M av' (newX most segs2) S3 (A.take (nextOf segs2)) most (firstOf segs2) (firstOf segs2) safe' false false sd0 ∧ Turn (fun j => j = T ∨ H j) w w' := by
  have ta := (Turn.refl (fun _ => False) w).alloc (.cells #[.int .i64 5, .int .i64 N, bv, kv] 36)
  have ko : (w.alloc (.cells #[.int .i64 5, .int .i64 N, bv, kv] 36)).heap[w.heap.size]? = some (.cells #[.int .i64 5, .int .i64 N, bv, kv] 36 (0, 0)) := heap_alloc_new w _
  have q0 : (w.alloc (.cells #[.int .i64 5, .int .i64 N, bv, kv] 36)).cell? ⟨w.heap.size, 0, none⟩ = some (.int .i64 5) := cell_obj ko 0
  have ht := topen_walk _ T D J H M av X S S3 segs2 A most first might safe more dn fell (h.calm ta) hO hR h1 h2 fit f1 f2 n1 n2 sd0 hfell safe' hsafe n3 fn hr hs hA
  have tq := ta.mono (G := fun j => j = T ∨ H j) (fun _ q => q.elim)
  have HSZ := hide ta.size
  clear h hO hR fit hr hs ko ta n3 hsafe hfell
  go_enter Tryz.func11, Tryz.ntmps11
  go_wp2_with fail
  refine ht.mono ?_
  rintro e w2 ⟨rfl, J', av', H', hb, g, t2⟩
  have T2 := tq.then t2
  have HB : Hid (∀ j, H' j → H j ∨ w.heap.size ≤ j) := hide (fun j hj => (hb j hj).imp id (fun q => Nat.le_trans (unhide HSZ) q))
  have G := hide g
  clear hb
  clear ht g t2 q0 tq
  go_wp2_with fail
  go_ret
  exact ⟨rfl, J', av', H', unhide HB, unhide G, T2⟩

set_option maxRecDepth 100000 in
set_option maxHeartbeats 4000000 in
theorem crash_step (w : World) (T D J : Nat) (H M : Nat → Prop) (av : Value) (X : Jn) (S S3 : Dk) (segs2 : List Sg) (A : List (List Int)) (most first might safe : Nat) (more dn fell : Bool) (h : Tr w T D J H M av X S A most first might safe more dn fell) (N : Int) (bv kv : Value) (ks : List Int) (hrow : Row .i64 (fun b => b < w.heap.size ∧ ¬ H b ∧ b ≠ T) w kv ks)
    (hO : openJ (startS (crashS S ks)) = (0, segs2, S3)) (hR : Ready (startS (crashS S ks))) (h1 : 1 ≤ most) (h2 : most ≤ 1000) (fit : Fit (newX most segs2)) (f1 : first ≤ firstOf segs2) (f2 : firstOf segs2 ≤ might) (n1 : safe ≤ nextOf segs2) (n2 : nextOf segs2 ≤ A.length) (sd0 : Bool) (hfell : (crashS S ks).down = sd0) (safe' : Nat) (hsafe : safe' = if sd0 = true then nextOf segs2 else safe) (n3 : sd0 = false → nextOf segs2 = A.length)
    (fn : firstOf segs2 ≤ nextOf segs2) (hr : recsOf segs2 = (A.take (nextOf segs2)).drop (firstOf segs2)) (hs : ∀ z ∈ A, z.length ≤ 300) (hA : A.length ≤ 1000) :
    Calls Tryz.prog 11 #[.pointer (some ⟨T, 0, none⟩), .agg #[.int .i64 4, .int .i64 N, bv, kv]] w fun e w' => e = .returned (.bool true) ∧
      ∃ J' av' H', (∀ j, H' j → H j ∨ w.heap.size ≤ j) ∧ Tr w' T D J' H' M av' (newX most segs2) S3 (A.take (nextOf segs2)) most (firstOf segs2) (firstOf segs2) safe' false false sd0 ∧ Turn (fun j => j = T ∨ H j) w w' := by
  have ta := (Turn.refl (fun _ => False) w).alloc (.cells #[.int .i64 4, .int .i64 N, bv, kv] 36)
  have ko : (w.alloc (.cells #[.int .i64 4, .int .i64 N, bv, kv] 36)).heap[w.heap.size]? = some (.cells #[.int .i64 4, .int .i64 N, bv, kv] 36 (0, 0)) := heap_alloc_new w _
  have hnH : ¬ H w.heap.size := fun q => by have := h.hH _ q; omega
  have hTl := (Array.getElem?_eq_some_iff.1 h.obj).1
  have g := h.calm ta
  have hrW := hrow.turn ta (fun _ _ q => q)
  obtain ⟨kx, kc, rfl⟩ := hrow.slice
  have tq := ta.mono (G := fun j => j = T ∨ H j) (fun _ q => q.elim)
  have HK := hide (And.intro hO (And.intro hR (And.intro fit (And.intro hr (And.intro hs (And.intro n3 (And.intro hsafe hfell)))))))
  clear h hrow hO hR fit hr hs n3 hsafe hfell
  go_enter Tryz.func11, Tryz.ntmps11
  have q0 : (w.alloc (.cells #[.int .i64 4, .int .i64 N, bv, .slice kx ks.length kc] 36)).cell? ⟨w.heap.size, 0, none⟩ = some (.int .i64 4) := cell_obj ko 0
  go_upto_region 26 with fail
  clear q0
  have HSZ := hide ta.size
  generalize w.alloc (.cells #[.int .i64 4, .int .i64 N, bv, .slice kx ks.length kc] 36) = W at *
  generalize hbo : w.heap.size = bo at *
  have Hbo := hide hbo
  clear hbo
  have q3 : W.drew.cell? ⟨bo, 3, none⟩ = some (.slice kx ks.length kc) := cell_obj ko 3
  have c0 : W.drew.cell? ⟨T, 0, none⟩ = some (.pointer (some ⟨D, 0, none⟩)) := cell_obj g.obj 0
  have g1 := g.calm ((Turn.refl (fun _ => False) W).drew)
  obtain ⟨F, d, hFH, hFM, hFT, hfin⟩ := g1.diskcall
  have hFb : ¬ F bo := fun q => hnH (hFH _ q)
  have hcr := Crash_walk W.drew D F (fun b => b < bo ∧ ¬ H b ∧ b ≠ T) S _ ks d (hrW.turn ((Turn.refl (fun _ => False) W).drew) (fun _ _ q => q)) (fun b hb q => hb.2.1 (hFH b q))
  have Hfin := hide hfin
  have HFH := hide hFH
  clear hfin hFH hFM ko g g1 d hrW
  go_region_held3 (fun u => u.cell? ⟨T, 0, none⟩ = some (.pointer (some ⟨D, 0, none⟩)) ∧ u.cell? ⟨bo, 3, none⟩ = some (.slice kx ks.length kc)) (first | exact ⟨c0, q3⟩ | exact ⟨b0, b1⟩ | go_keep)
    (first
    | (go_at_call 30; refine hcr.mono ?_; rintro e w2 ⟨rfl, t2, d2⟩; have b0 := t2.cell c0 hFT; have b1 := t2.cell q3 hFb))
  have g2 := unhide Hfin w2 _ t2 d2
  have T2 := tq.then ((Turn.undrew t2).mono (G := fun j => j = T ∨ H j) (fun j hj => .inr (unhide HFH j hj)))
  obtain ⟨hO, hR, fit, hr, hs, n3, hsafe, hfell⟩ := unhide HK
  have ht := topen_walk _ T D J _ M av X (crashS S ks) S3 segs2 A most first might safe more dn fell g2 hO hR h1 h2 fit f1 f2 n1 n2 sd0 hfell safe' hsafe n3 fn hr hs hA
  clear hO hR fit hr hs n3 hsafe hfell HK hcr c0 q3 b0 b1 t2 d2 g2 Hfin HFH
  go_wp2_with fail
  refine ht.mono ?_
  rintro e w3 ⟨rfl, J', av', H', hb, g3, t3⟩
  have s2 := T2.size
  have HB : Hid (∀ j, H' j → H j ∨ w.heap.size ≤ j) := hide (fun j hj => by
    rcases hb j hj with q | q
    · rcases q.1 with q | q
      · exact .inl q
      · exact .inr (by rw [unhide Hbo]; exact Nat.le_trans (unhide HSZ) q)
    · exact .inr (Nat.le_trans s2 q))
  have T3 := T2.trans t3 (fun j hj => by
    rcases hj with q | q
    · exact .inl (.inl q)
    · rcases q.1 with q | q
      · exact .inl (.inr q)
      · exact .inr (by have : W.drew.heap.size = W.heap.size := rfl; have hw0 := tq.size; omega))
  have G := hide g3
  clear ht g3 t3 T2 hb s2
  go_wp2_with fail
  go_ret
  exact ⟨rfl, J', av', H', unhide HB, unhide G, T3⟩
end Go.Proofs.YthikiahhochjmaaGreatDoor
