/- RoadBack: what is encoded is decoded; what is decoded is what it is encoded as. -/
import Derived.Test.YtmmlannnpndkcaaLawEnc10
import Derived.Test.YtmmlannnpndkcaaGDecode
import Derived.Test.YtmmlannnpndkcaaBWf
namespace Go.Proofs.Ytmmlannnpndkcaa
open Go.RowKit Go.Maps
set_option linter.unusedVariables false
set_option linter.unusedSimpArgs false
set_option maxRecDepth 100000

theorem enc_bytes (n : Int) (l : List Ar) : Bytes (encB n l) := by
  unfold encB
  intro x hx
  rcases List.mem_cons.1 hx with rfl | hx
  · omega
  · refine (bytes_append (bytes_append (numB_bytes _) (numB_bytes _)) ?_) x hx
    intro z hz
    simp only [List.mem_flatMap] at hz
    obtain ⟨a, _, hz⟩ := hz
    exact arcB_bytes a z hz
theorem enc_len {n : Int} {l : List Ar} (h : BoundedN n l) (hl : l.length ≤ 300) : (encB n l).length ≤ 1000000 := by
  obtain ⟨h1, h2, h3, h4⟩ := h
  have a1 := arcsB_len n h2 l h4
  have a2 := numB_ten n.toNat (by omega)
  have a3 := numB_ten l.length (by omega)
  unfold encB
  simp only [List.length_cons, List.length_append]
  omega
theorem size_set (w : World) (p : Addr) (v : Value) : (w.setCell p v).heap.size = w.heap.size := by simp [World.setCell]

set_option maxHeartbeats 16000000 in
theorem back_walk (w : World) (n : Int) (v : Value) (l : List Ar) (hr : AR any w v l) (v2 : Value) (zs : List Int) (hrb : Row .u8 any w v2 zs) (hb : Bytes zs) :
    Calls Try.prog 6 #[.agg #[.int .i64 n, v], v2] w fun e w' => e = .returned (.bool true) ∧ Turn (fun _ => False) w w' := by
  obtain ⟨a, c, rfl⟩ := hr.slice
  have hzlen := hrb.len
  unfold maxLen at hzlen
  have T0 := (Turn.refl (fun _ => False) w).alloc (.cells #[.int .i64 n, .slice a l.length c] 26)
  have hbx := heap_alloc_new w (.cells #[.int .i64 n, .slice a l.length c] 26)
  have Hc := cut_walk _ _ n _ l (hr.lt.quiet T0)
  have hL : (l.take 300).length ≤ 300 := by rw [List.length_take]; omega
  clear hr
  go_enter Try.func6, Try.ntmps6
  go_wp2_with fail
  generalize w.alloc (.cells #[.int .i64 n, .slice a l.length c] 26) = W at *
  have hbw : w.heap.size < W.heap.size := (Array.getElem?_eq_some_iff.1 hbx).1
  generalize hbs : w.heap.size = b at *
  refine Hc.mono ?_
  rintro e w1 ⟨x, rfl, A1, t1⟩
  generalize l.take 300 = L at *
  have hb1 := t1.same hbx (fun h => h)
  obtain ⟨ax, cx, rfl⟩ := A1.slice
  have b1 := heap_setCell_obj (j := 0) hb1 (.int .i64 n)
  have b2 : ((w1.setCell ⟨b, 0, none⟩ (.int .i64 n)).setCell ⟨b, 1, none⟩ (.slice ax L.length cx)).heap[b]? = some (.cells #[.int .i64 n, .slice ax L.length cx] 26 (0, 0)) := (heap_setCell_obj (j := 1) b1 (.slice ax L.length cx)).trans (by rfl)
  have t2 : Turn (fun j => j = b) w1 ((w1.setCell ⟨b, 0, none⟩ (.int .i64 n)).setCell ⟨b, 1, none⟩ (.slice ax L.length cx)) := ((Turn.refl (fun j => j = b) w1).setCell (p := ⟨b, 0, none⟩) (.inl rfl) _).setCell (p := ⟨b, 1, none⟩) (.inl rfl) _
  have f0 : w1.cell? ⟨b, 0, none⟩ = some (.int .i64 n) := cell_obj hb1 0
  have f1 : w1.cell? ⟨b, 1, none⟩ = some (.slice a l.length c) := cell_obj hb1 1
  have z0 : w1.frozen? ⟨b, 0, none⟩ = false := frozen_obj hb1 0
  have z1 : w1.frozen? ⟨b, 1, none⟩ = false := frozen_obj hb1 1
  have A2 := A1.turn t2 (fun j hj => by have := hj.2; omega)
  have T2 := (T0.then t1).trans t2 (fun j hj => .inr (by omega))
  have Hs := sort_call _ _ L (by omega) (A2.mono (fun _ _ => trivial))
  have hSl := sort_len L
  generalize sortA L = S at *
  have hS3 : S.length ≤ 300 := by omega
  clear hSl
  have Hbs := hide hbs
  clear Hc b1 t1 A1 T0 hbs t2 hbx hb1 A2
  go_wp2_with fail
  generalize (w1.setCell ⟨b, 0, none⟩ (.int .i64 n)).setCell ⟨b, 1, none⟩ (.slice ax L.length cx) = W2 at *
  clear f0 f1 z0 z1
  refine Hs.mono ?_
  rintro e w3 ⟨y, rfl, O3, t3, own3⟩
  obtain ⟨ay, cy, rfl⟩ := O3.form
  have b3 := t3.same b2 (fun h => h)
  have b4 : (w3.setCell ⟨b, 1, none⟩ (.slice ay S.length cy)).heap[b]? = some (.cells #[.int .i64 n, .slice ay S.length cy] 26 (0, 0)) := (heap_setCell_obj (j := 1) b3 (.slice ay S.length cy)).trans (by rfl)
  have t4 : Turn (fun j => j = b) w3 (w3.setCell ⟨b, 1, none⟩ (.slice ay S.length cy)) := (Turn.refl (fun j => j = b) w3).setCell (p := ⟨b, 1, none⟩) (.inl rfl) _
  have A4 := (O3.turn t4 (fun j hj => OwnSl.neObj O3 b3 (by decide) j hj)).ar
  have T4 := (T2.then t3).trans t4 (fun j hj => .inr (by have := unhide Hbs; omega))
  have f1 : w3.cell? ⟨b, 1, none⟩ = some (.slice ax L.length cx) := cell_obj b3 1
  have z1 : w3.frozen? ⟨b, 1, none⟩ = false := frozen_obj b3 1
  have g0 : (w3.setCell ⟨b, 1, none⟩ (.slice ay S.length cy)).cell? ⟨b, 0, none⟩ = some (.int .i64 n) := cell_obj b4 0
  have g1 : (w3.setCell ⟨b, 1, none⟩ (.slice ay S.length cy)).cell? ⟨b, 1, none⟩ = some (.slice ay S.length cy) := cell_obj b4 1
  have He := encode_any _ _ n _ S A4
  clear Hs b2 b3 t3 O3 own3 T2 t4
  go_wp2_with fail
  generalize w3.setCell ⟨b, 1, none⟩ (.slice ay S.length cy) = W4 at *
  clear f1 z1 g0 g1
  refine He.mono ?_
  rintro e w5 ⟨x5, k5, rfl, E5, t5⟩
  have b5 := t5.same b4 (fun h => h)
  have A5 := A4.quiet t5
  have T5 := T4.then t5
  rcases E5 with ⟨hB, hR, rfl, R5⟩ | ⟨hbad, rfl, rfl⟩
  · have Hd := decode_walk _ w5 x5 (encB n S) R5 (enc_bytes n S) (enc_len hB hS3)
    have hde := decode_encode hB hR
    clear He b4 A4 T4 t5 R5 hB hR
    go_wp2_with fail
    refine Hd.mono ?_
    rintro e w6 ⟨m, y6, k6, rfl, ⟨l6, A6, hd6⟩, t6⟩
    rw [hde] at hd6
    simp only [Prod.mk.injEq] at hd6
    obtain ⟨rfl, rfl, rfl⟩ := hd6
    obtain ⟨a6, c6, rfl⟩ := A6.slice
    have tX := (Turn.refl (fun _ => False) w6).alloc (.cells #[.int .i64 n, .slice a6 S.length c6] 26)
    have mb := heap_alloc_new w6 (.cells #[.int .i64 n, .slice a6 S.length c6] 26)
    have b6 := (tX.same (t6.same b5 (fun h => h)) (fun h => h))
    have Hn := net_same _ n n _ _ S S (A6.quiet tX) (((A5.quiet t6).quiet tX).mono (B' := any) (fun _ _ => trivial))
    rw [show decide (n = n ∧ S = S) = true by simp] at Hn
    have m0 : (w6.alloc (.cells #[.int .i64 n, .slice a6 S.length c6] 26)).cell? ⟨w6.heap.size, 0, none⟩ = some (.int .i64 n) := cell_obj mb 0
    have m1 : (w6.alloc (.cells #[.int .i64 n, .slice a6 S.length c6] 26)).cell? ⟨w6.heap.size, 1, none⟩ = some (.slice a6 S.length c6) := cell_obj mb 1
    have g0 : (w6.alloc (.cells #[.int .i64 n, .slice a6 S.length c6] 26)).cell? ⟨b, 0, none⟩ = some (.int .i64 n) := cell_obj b6 0
    have g1 : (w6.alloc (.cells #[.int .i64 n, .slice a6 S.length c6] 26)).cell? ⟨b, 1, none⟩ = some (.slice ay S.length cy) := cell_obj b6 1
    have T6 := (T5.then t6).then tX
    clear Hd hde A6 A5 T5 t6 tX b5
    go_wp2_with fail
    refine Hn.mono ?_
    rintro e w7 ⟨rfl, t7⟩
    have TB := T6.then t7
    clear Hn m0 m1 g0 g1 mb b6 T6 t7
    have hrv := hrb.turn TB (fun _ _ h => h)
    by_cases h4 : 4000 < zs.length
    · have h4i : (4000 : Int) < (zs.length : Int) := by omega
      obtain ⟨a2, c2, rfl⟩ := hrb.slice
      clear hrv hrb
      go_wp2_with fail
      refine (awake_walk _).mono ?_
      rintro e u1 ⟨rfl, s1⟩
      go_wp2
      go_ret
      exact ⟨rfl, TB.then s1⟩
    · have h4i : ¬ (4000 : Int) < (zs.length : Int) := by omega
      have Hdv := decode_walk any _ _ zs hrv hb (by omega)
      obtain ⟨a2, c2, rfl⟩ := hrb.slice
      go_wp2_with fail
      refine Hdv.mono ?_
      rintro e u1 ⟨m, y, k, rfl, ⟨l2, B1, hd⟩, s1⟩
      obtain ⟨ya, yc, rfl⟩ := B1.slice
      have sX := (Turn.refl (fun _ => False) u1).alloc (.cells #[.int .i64 m, .slice ya l2.length yc] 26)
      have mb := heap_alloc_new u1 (.cells #[.int .i64 m, .slice ya l2.length yc] 26)
      have B2 := B1.quiet sX
      have U2 := (TB.then s1).then sX
      have hr2 := (hrv.turn s1 (fun _ _ h => h)).turn sX (fun _ _ h => h)
      clear Hdv B1 s1 sX hrv hrb
      by_cases hk : k = 0
      · subst hk
        obtain ⟨e1, e2, e3⟩ := encode_decode hb hd
        have He := encode_any any _ m _ l2 B2
        have m0 : (u1.alloc (.cells #[.int .i64 m, .slice ya l2.length yc] 26)).cell? ⟨u1.heap.size, 0, none⟩ = some (.int .i64 m) := cell_obj mb 0
        have m1 : (u1.alloc (.cells #[.int .i64 m, .slice ya l2.length yc] 26)).cell? ⟨u1.heap.size, 1, none⟩ = some (.slice ya l2.length yc) := cell_obj mb 1
        clear hd
        go_wp2_with fail
        refine He.mono ?_
        rintro e u3 ⟨x3, k3, rfl, E3, s3⟩
        rcases E3 with ⟨_, _, rfl, R3⟩ | ⟨h, _⟩
        · rw [e3] at R3
          have hr3 := hr2.turn s3 (fun _ _ h => h)
          have U3 := U2.then s3
          clear He m0 m1 mb B2 hr2 U2 s3 e1 e2 e3
          go_wp2_with fail
          refine (awake_walk _).mono ?_
          rintro e u4 ⟨rfl, s4⟩
          have Hy := bytes_walk _ _ _ _ zs u4 (R3.turn s4 (fun _ _ h => h)) (hr3.turn s4 (fun _ _ h => h))
          have U4 := U3.then s4
          clear R3 hr3 s4
          go_wp2_with fail
          refine Hy.mono ?_
          rintro e u5 ⟨rfl, rfl⟩
          go_wp2
          go_ret
          exact ⟨rfl, U4⟩
        · exact absurd ⟨e1, e2⟩ h
      · have hbn : (k != 0) = true := by rw [bne_iff_ne]; exact hk
        clear hd hk B2 hr2 mb
        go_wp2_with fail
        refine (awake_walk _).mono ?_
        rintro e u4 ⟨rfl, s4⟩
        go_wp2
        go_ret
        exact ⟨rfl, U2.then s4⟩
  · have TB := T5
    clear He b4 A4 T4 t5 hbad b5 A5 T5
    have hrv := hrb.turn TB (fun _ _ h => h)
    by_cases h4 : 4000 < zs.length
    · have h4i : (4000 : Int) < (zs.length : Int) := by omega
      obtain ⟨a2, c2, rfl⟩ := hrb.slice
      clear hrv hrb
      go_wp2_with fail
      refine (awake_walk _).mono ?_
      rintro e u1 ⟨rfl, s1⟩
      go_wp2
      go_ret
      exact ⟨rfl, TB.then s1⟩
    · have h4i : ¬ (4000 : Int) < (zs.length : Int) := by omega
      have Hdv := decode_walk any _ _ zs hrv hb (by omega)
      obtain ⟨a2, c2, rfl⟩ := hrb.slice
      go_wp2_with fail
      refine Hdv.mono ?_
      rintro e u1 ⟨m, y, k, rfl, ⟨l2, B1, hd⟩, s1⟩
      obtain ⟨ya, yc, rfl⟩ := B1.slice
      have sX := (Turn.refl (fun _ => False) u1).alloc (.cells #[.int .i64 m, .slice ya l2.length yc] 26)
      have mb := heap_alloc_new u1 (.cells #[.int .i64 m, .slice ya l2.length yc] 26)
      have B2 := B1.quiet sX
      have U2 := (TB.then s1).then sX
      have hr2 := (hrv.turn s1 (fun _ _ h => h)).turn sX (fun _ _ h => h)
      clear Hdv B1 s1 sX hrv hrb
      by_cases hk : k = 0
      · subst hk
        obtain ⟨e1, e2, e3⟩ := encode_decode hb hd
        have He := encode_any any _ m _ l2 B2
        have m0 : (u1.alloc (.cells #[.int .i64 m, .slice ya l2.length yc] 26)).cell? ⟨u1.heap.size, 0, none⟩ = some (.int .i64 m) := cell_obj mb 0
        have m1 : (u1.alloc (.cells #[.int .i64 m, .slice ya l2.length yc] 26)).cell? ⟨u1.heap.size, 1, none⟩ = some (.slice ya l2.length yc) := cell_obj mb 1
        clear hd
        go_wp2_with fail
        refine He.mono ?_
        rintro e u3 ⟨x3, k3, rfl, E3, s3⟩
        rcases E3 with ⟨_, _, rfl, R3⟩ | ⟨h, _⟩
        · rw [e3] at R3
          have hr3 := hr2.turn s3 (fun _ _ h => h)
          have U3 := U2.then s3
          clear He m0 m1 mb B2 hr2 U2 s3 e1 e2 e3
          go_wp2_with fail
          refine (awake_walk _).mono ?_
          rintro e u4 ⟨rfl, s4⟩
          have Hy := bytes_walk _ _ _ _ zs u4 (R3.turn s4 (fun _ _ h => h)) (hr3.turn s4 (fun _ _ h => h))
          have U4 := U3.then s4
          clear R3 hr3 s4
          go_wp2_with fail
          refine Hy.mono ?_
          rintro e u5 ⟨rfl, rfl⟩
          go_wp2
          go_ret
          exact ⟨rfl, U4⟩
        · exact absurd ⟨e1, e2⟩ h
      · have hbn : (k != 0) = true := by rw [bne_iff_ne]; exact hk
        clear hd hk B2 hr2 mb
        go_wp2_with fail
        refine (awake_walk _).mono ?_
        rintro e u4 ⟨rfl, s4⟩
        go_wp2
        go_ret
        exact ⟨rfl, U2.then s4⟩
theorem RoadBack_law (w : World) (n : Int) (hn : (Lit.int .i64 n).wf = true) (v : Value) (l : List Ar) (hr : AR any w v l) (v2 : Value) (zs : List Int) (hrb : Row .u8 any w v2 zs) (hwf : ∀ n ∈ zs, (Lit.int .u8 n).wf = true) (hreach : zs.length * 1 ≤ 140737488351232) :
    Calls Try.prog 6 #[.agg #[.int .i64 n, v], v2] w fun e w' => e = .returned (.bool true) ∧ Below w.heap.size w w' :=
  (back_walk w n v l hr v2 zs hrb (bytes_wf hwf)).mono (fun e w' h => ⟨h.1, h.2.blw⟩)
end Go.Proofs.Ytmmlannnpndkcaa
