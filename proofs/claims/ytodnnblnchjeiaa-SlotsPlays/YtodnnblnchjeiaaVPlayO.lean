/- The law's open: behind a fall, or none. -/
import Derived.Test.YtodnnblnchjeiaaVEnv
namespace Go.Proofs.Ytodnnblnchjeiaa
open Go.RowKit Go.Maps
set_option linter.unusedVariables false
set_option linter.unusedSimpArgs false

set_option maxRecDepth 100000 in
set_option maxHeartbeats 8000000 in
theorem open_p (w0 w : World) (V : Vars) (A : Vals) (x : Sl) (S : Dk) (n m : Nat) (L B R : List Int) (h : Env w0 w V A x S L B) (hn : A.n = n) (hd : (startS S).down = false) (hq : Quiet (startS S) m R) (hm : (m = n ∧ R = L) ∨ (m = n + 1 ∧ R = B ∧ A.u = true)) (few : Few m R) (hn0 : n < 900) (hL0 : n = 0 → L = []) :
    Calls Try.prog 7 #[.pointer (some ⟨V.d, 0, none⟩), .pointer (some ⟨V.u, 0, none⟩), .pointer (some ⟨V.n, 0, none⟩), .pointer (some ⟨V.x, 0, none⟩), .pointer (some ⟨V.l, 0, none⟩), .pointer (some ⟨V.s, 0, none⟩), .pointer (some ⟨V.w, 0, none⟩)] w
      fun e w' => e = .returned (.bool true) ∧ ∃ X lv, Env w0 w' V ⟨A.D, X, lv, A.x, m, false, false⟩ ⟨m, R, false⟩ (startS S) R B := by
  obtain ⟨nd, c, ge, ⟨H, M, v, r1, r2, hH, hM⟩, T⟩ := h
  subst hn
  have hVl := c.lt
  have k0 : w.cell? ⟨V.d, 0, none⟩ = some (.pointer (some ⟨A.D, 0, none⟩)) := cell_obj c.d 0
  have hst := v.call (fun F dd => Start_walk w A.D F S dd)
  go_enter Try.func7, Try.ntmps7
  go_wp2_with fail
  refine hst.mono ?_
  rintro e w1 ⟨rfl, t1, v1⟩
  have s1 := t1.size
  have c1 := c.turn t1 (fun j hj hh => (hH j hh).2.2 hj)
  have k1 : w1.cell? ⟨V.d, 0, none⟩ = some (.pointer (some ⟨A.D, 0, none⟩)) := cell_obj c1.d 0
  obtain ⟨F, d, hF⟩ := v1.disk
  have hop := open_fine w1 F A.D (startS S) m R d hq hd few
  have HE := hide (And.intro c1 (And.intro t1 (And.intro hF (And.intro r1 (And.intro r2 (And.intro hH (And.intro hM T)))))))
  clear hst v v1 c c1 t1 hF r1 r2 hH hM T d
  go_wp2_with fail
  refine hop.mono ?_
  rintro e w2 ⟨X, rfl, t2, hX, v2⟩
  have hls := lastV_w w2 _ X A.D _ _ v2 (by have := few.2.1; show R.length ≤ _; omega) (fun h0 => by
    rcases hm with ⟨e1, e2⟩ | ⟨e1, _⟩
    · show R = []; rw [e2]; exact hL0 (by have : m = 0 := h0; omega)
    · have : m = 0 := h0; omega)
  clear hop
  go_wp2_with fail
  refine wp_loop_rounds 1 ?_
  rw [rounds_succ]
  go_wp2_with fail
  refine hls.mono ?_
  rintro e w3 ⟨lv, rfl, o3, f3, t3⟩
  obtain ⟨c1, t1, hF, r1, r2, hH, hM, T⟩ := unhide HE
  have t23 := t2.then t3
  have c3 := c1.turn t23 (fun _ _ h => h)
  have r1' := r1.turn (t1.trans t23 (fun _ h => h.elim)) (fun b hb => (hM b hb).2.2.2)
  have r2' := r2.turn (t1.trans t23 (fun _ h => h.elim)) (fun b hb => (hM b hb).2.2.2)
  have v3 := v2.same t3
  have T3 : Turn (fun j => w0.heap.size ≤ j) w0 w3 := (T.then (t1.mono (fun j hj => (hH j hj).1))).then (t23.mono (fun _ h => h.elim))
  have s2 := t2.size
  have s3 := t3.size
  have s0 := T.size
  have hv3 : VAt w3 (fun j => NF w1 (NF w H) j ∧ j < w3.heap.size) X A.D ⟨m, R, false⟩ (startS S) := v3.mono (fun j hj hl => ⟨by
    rcases hj with hj | hj
    · exact .inl (hF j hj)
    · exact .inr hj, hl⟩)
  have hHH : ∀ j, (NF w1 (NF w H) j ∧ j < w3.heap.size) → w0.heap.size ≤ j ∧ j < w3.heap.size ∧ j ∉ V.list := by
    rintro j ⟨(hh | hh) | hh, hl⟩
    · exact ⟨(hH j hh).1, hl, (hH j hh).2.2⟩
    · exact ⟨by omega, hl, fun hv => by have := hVl j hv; omega⟩
    · exact ⟨by omega, hl, fun hv => by have := hVl j hv; omega⟩
  have hMM : ∀ j, M j → w0.heap.size ≤ j ∧ j < w3.heap.size ∧ j ∉ V.list ∧ ¬ (NF w1 (NF w H) j ∧ j < w3.heap.size) := by
    intro j hj
    refine ⟨(hM j hj).1, by have := (hM j hj).2.1; omega, (hM j hj).2.2.1, ?_⟩
    rintro ⟨(hh | hh) | hh, _⟩
    · exact (hM j hj).2.2.2 hh
    · have := (hM j hj).2.1; omega
    · have := (hM j hj).2.1; omega
  have HR := hide (And.intro r1' (And.intro r2' (And.intro hv3 (And.intro hHH (And.intro hMM T3)))))
  have hx3 := row_of_sl o3
  obtain ⟨la, lc, rfl⟩ := o3.form
  have q1 : w3.cell? ⟨V.u, 0, none⟩ = some (.bool A.u) := cell_obj c3.u 0
  have q2 : w3.cell? ⟨V.n, 0, none⟩ = some (.int .u64 (A.n : Int)) := cell_obj c3.n 0
  have q3 : w3.cell? ⟨V.x, 0, none⟩ = some A.x := cell_obj c3.x 0
  have q4 : w3.cell? ⟨V.l, 0, none⟩ = some A.l := cell_obj c3.l 0
  clear hls t1 t2 t3 t23 hF r1 r2 hH hM T c1 v2 v3 hv3 hHH hMM T3 f3 o3 HE hVl k0 k1
  rcases hm with ⟨e1, e2⟩ | ⟨e1, e2, e3⟩
  · subst e1 e2
    have hby := bytes_walk _ _ _ _ R w3 hx3 (unhide HR).1
    have g1 : w3.frozen? ⟨V.s, 0, none⟩ = false := frozen_obj c3.s 0
    have p1 : w3.cell? ⟨V.s, 0, none⟩ = some (.pointer (some ⟨A.X, 0, none⟩)) := cell_obj c3.s 0
    have cS := c3.setS nd X
    have tS : Turn (fun j => j ∈ V.list) w3 (w3.setCell ⟨V.s, 0, none⟩ (.pointer (some ⟨X, 0, none⟩))) := turn_var (by simp [Vars.list]) _
    have g2 := frozen_obj cS.u 0
    have p2 := cell_obj cS.u 0
    have cU := cS.setU nd false
    have tU := tS.then (turn_var (V := V) (r := V.u) (by simp [Vars.list]) (.bool false))
    have g3 := frozen_obj cU.w 0
    have p3 := cell_obj cU.w 0
    have cW := cU.setW nd false
    have tW := tU.then (turn_var (V := V) (r := V.w) (by simp [Vars.list]) (.bool false))
    obtain ⟨r1', r2', hv3, hHH, hMM, T3⟩ := unhide HR
    have fin := hide (Env.put (A := ⟨A.D, X, A.l, A.x, A.n, false, false⟩) nd ge cW T3 tW hv3 r1' r2' hHH hMM)
    clear r1' r2' hv3 hHH hMM T3 HR cS cU cW tS tU tW hx3 c3 hq few hd
    generalize R.length = rl at *
    have hnn : (A.n : Int) ≤ 900 := by omega
    have by3 : ∀ (P : Ending → World → Prop), P (.returned (.bool true)) w3 → Calls Try.prog 10 #[.slice la rl lc, A.l] w3 P := fun P hP => hby.mono (fun e w' h => by rw [h.1, h.2]; exact hP)
    clear hby
    cases hu : A.u
    all_goals
      rw [hu] at q1
      by_cases h0 : A.n = 0
      · have hz := hide h0
        rw [h0] at q2 fin ⊢
        clear h0 hu
        go_wp2_with (first | (go_at_call 10; refine by3 _ ?_))
        go_ret
        exact ⟨rfl, _, _, by rw [show A.n = 0 from unhide hz]; exact unhide fin⟩
      · have e0 : (0 : Int) < (A.n : Int) := by omega
        have e1 : ((A.n : Int) == (A.n : Int) + 1) = false := by rw [beq_eq_false_iff_ne]; omega
        have e2 : decide (A.n ≠ 0) = true := decide_eq_true h0
        rw [e2]
        clear h0 e2 hu
        go_wp2_with (first | (go_at_call 10; refine by3 _ ?_))
        go_ret
        exact ⟨rfl, _, _, unhide fin⟩
  · subst e1 e2
    obtain ⟨xa, xc, hax⟩ := (unhide HR).2.1.slice
    have rX : Row .u8 M w3 (.slice xa R.length xc) R := by rw [← hax]; exact (unhide HR).2.1
    have hby := bytes_walk _ _ _ _ R w3 hx3 rX
    rw [hax] at q3
    rw [e3] at q1
    have g5 := frozen_obj c3.l 0
    have cL := c3.setL nd (.slice xa R.length xc)
    have tL : Turn (fun j => j ∈ V.list) w3 (w3.setCell ⟨V.l, 0, none⟩ (.slice xa R.length xc)) := turn_var (by simp [Vars.list]) _
    have g4 := frozen_obj cL.n 0
    have p4 := cell_obj cL.n 0
    have cN := cL.setN nd (A.n + 1)
    have tN := tL.then (turn_var (V := V) (r := V.n) (by simp [Vars.list]) (.int .u64 ((A.n + 1 : Nat) : Int)))
    have g1 := frozen_obj cN.s 0
    have p1 := cell_obj cN.s 0
    have cS := cN.setS nd X
    have tS := tN.then (turn_var (V := V) (r := V.s) (by simp [Vars.list]) (.pointer (some ⟨X, 0, none⟩)))
    have g2 := frozen_obj cS.u 0
    have p2 := cell_obj cS.u 0
    have cU := cS.setU nd false
    have tU := tS.then (turn_var (V := V) (r := V.u) (by simp [Vars.list]) (.bool false))
    have g3 := frozen_obj cU.w 0
    have p3 := cell_obj cU.w 0
    have cW := cU.setW nd false
    have tW := tU.then (turn_var (V := V) (r := V.w) (by simp [Vars.list]) (.bool false))
    obtain ⟨r1', r2', hv3, hHH, hMM, T3⟩ := unhide HR
    have fin := hide (Env.put (A := ⟨A.D, X, .slice xa R.length xc, A.x, A.n + 1, false, false⟩) nd ge cW T3 tW hv3 rX r2' hHH hMM)
    clear rX hax r1' r2' hv3 hHH hMM T3 HR cS cU cW cL cN tS tU tW tL tN hx3 c3 hq few hd
    generalize R.length = rl at *
    have hnn : (A.n : Int) ≤ 900 := by omega
    have by3 : ∀ (P : Ending → World → Prop), P (.returned (.bool true)) w3 → Calls Try.prog 10 #[.slice la rl lc, .slice xa rl xc] w3 P := fun P hP => hby.mono (fun e w' h => by rw [h.1, h.2]; exact hP)
    clear hby
    rw [show decide (A.n + 1 ≠ 0) = true from decide_eq_true (by omega), show ((A.n + 1 : Nat) : Int) = (A.n : Int) + 1 by omega]
    rw [show ((A.n + 1 : Nat) : Int) = (A.n : Int) + 1 by omega] at fin g1 p1 g2 p2 g3 p3
    go_wp2_with (first | (go_at_call 10; refine by3 _ ?_))
    go_ret
    exact ⟨rfl, _, _, unhide fin⟩
end Go.Proofs.Ytodnnblnchjeiaa
