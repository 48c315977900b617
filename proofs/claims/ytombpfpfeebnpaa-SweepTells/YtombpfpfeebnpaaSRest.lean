/- The reference's To and Dist. -/
import Derived.Test.YtombpfpfeebnpaaSFrom
import Derived.Test.YtombpfpfeebnpaaSTurn
import Derived.Test.YtombpfpfeebnpaaLawTwo11
namespace Go.Proofs.Ytombpfpfeebnpaa
open Go.RowKit Go.Maps
set_option linter.unusedVariables false
set_option linter.unusedSimpArgs false
set_option maxRecDepth 100000

set_option maxHeartbeats 8000000 in
theorem rto_walk (w : World) (N : Nat) (sv : Value) (l : List Ar) (hr : AR any w sv l) (hL : Looked N l) (v : Int) :
    Calls Try.prog 15 #[.agg #[.int .i64 (N : Int), sv], .int .i64 v] w fun e w' => ∃ b L, e = .returned (.slice (some ⟨b, 0, none⟩) N N) ∧ ND w' b N L ∧ w.heap.size ≤ b ∧ IsDs N (goesB l) v L ∧ Turn (fun _ => False) w w' := by
  obtain ⟨sa, sc, rfl⟩ := hr.slice
  have T0 := (Turn.refl (fun _ => False) w).alloc (.cells #[.int .i64 (N : Int), .slice sa l.length sc] 24)
  have hR0 := hr.quiet T0
  have ht := rturned_walk _ (N : Int) _ l hR0 (by have := hL.2.1; omega)
  have HL := hide (looked_flips hL)
  clear hr hL hR0
  go_enter Try.func15, Try.ntmps15
  go_wp2_with fail
  refine ht.mono ?_
  rintro e w1 ⟨x, rfl, O1, t1⟩
  have hf := rfrom_walk w1 N x (flips l) (O1.ar.mono (fun _ _ => trivial)) (unhide HL) v
  have T1 := T0.then t1
  clear ht O1 t1 T0
  go_wp2_with fail
  refine hf.mono ?_
  rintro e w2 ⟨b, L, rfl, hD, hb, hds, t2⟩
  rw [goes_flips'] at hds
  have T2 := T1.then t2
  have hb2 : w.heap.size ≤ b := by have := T1.size; omega
  have Hds := hide hds
  clear hf T1 t2 hds hb
  go_wp2_with fail
  go_ret
  exact ⟨b, L, rfl, hD, hb2, unhide Hds, T2⟩

set_option maxHeartbeats 8000000 in
theorem rdist_walk (w : World) (N : Nat) (sv : Value) (l : List Ar) (hr : AR any w sv l) (hL : Looked N l) (a b : Int) (ha : I32 a) (hb : I32 b) :
    Calls Try.prog 17 #[.agg #[.int .i64 (N : Int), sv], .agg #[.int .i32 a, .int .i32 b]] w fun e w' => ∃ d, e = .returned (.int .i64 d) ∧ IsD N (goesF l) a b d ∧ Turn (fun _ => False) w w' := by
  have hra : -2147483648 ≤ a ∧ a ≤ 2147483647 := by unfold I32 at ha; simp [Lit.wf, IntKind.min, IntKind.max, IntKind.signed, IntKind.bits] at ha; omega
  have hrb : -2147483648 ≤ b ∧ b ≤ 2147483647 := by unfold I32 at hb; simp [Lit.wf, IntKind.min, IntKind.max, IntKind.signed, IntKind.bits] at hb; omega
  have hwa : IntKind.i64.wrap a = a := by rw [IntKind.wrap_i64]; omega
  have hwb : IntKind.i64.wrap b = b := by rw [IntKind.wrap_i64]; omega
  have hN2 : N ≤ 60 := by have := hL.1; omega
  obtain ⟨sa, sc, rfl⟩ := hr.slice
  have T0 := (Turn.refl (fun _ => False) w).alloc (.cells #[.int .i64 (N : Int), .slice sa l.length sc] 24)
  have h0 := heap_alloc_new w (.cells #[.int .i64 (N : Int), .slice sa l.length sc] 24)
  have T1 := (Turn.refl (fun _ => False) (w.alloc (.cells #[.int .i64 (N : Int), .slice sa l.length sc] 24))).alloc (.cells #[.int .i32 a, .int .i32 b] 26)
  have h1 := heap_alloc_new (w.alloc (.cells #[.int .i64 (N : Int), .slice sa l.length sc] 24)) (.cells #[.int .i32 a, .int .i32 b] 26)
  have h0' := T1.same h0 (fun h => h)
  have TT := T0.then T1
  have hR := hr.quiet TT
  rw [alloc_size] at h1
  have HL := hide hL
  clear hr hL T0 T1 h0 ha hb
  have e0 : ∀ {u : World}, u = (w.alloc (.cells #[.int .i64 (N : Int), .slice sa l.length sc] 24)).alloc (.cells #[.int .i32 a, .int .i32 b] 26) → u.cell? ⟨w.heap.size, 0, none⟩ = some (.int .i64 (N : Int)) ∧ u.cell? ⟨w.heap.size, 1, none⟩ = some (.slice sa l.length sc) ∧ u.cell? ⟨w.heap.size + 1, 0, none⟩ = some (.int .i32 a) ∧ u.cell? ⟨w.heap.size + 1, 1, none⟩ = some (.int .i32 b) := by
    intro u hu
    rw [hu]
    exact ⟨cell_obj h0' 0, cell_obj h0' 1, cell_obj h1 0, cell_obj h1 1⟩
  obtain ⟨n0, n1, p0, p1⟩ := e0 rfl
  clear e0 h0' h1
  by_cases hv : 0 ≤ a ∧ 0 ≤ b ∧ a < (N : Int) ∧ b < (N : Int)
  · have c1 : ¬ a < 0 := by omega
    have c2 : ¬ b < 0 := by omega
    have c3 : ¬ (N : Int) ≤ a := by omega
    have c4 : ¬ (N : Int) ≤ b := by omega
    have hf := fun (u : World) (hu : AR any u (.slice sa l.length sc) l) => rfrom_walk u N _ l hu (unhide HL) a
    have Hv := hide hv
    clear hv
    go_enter Try.func17, Try.ntmps17
    go_wp2_with fail
    generalize (w.alloc (.cells #[.int .i64 (N : Int), .slice sa l.length sc] 24)).alloc (.cells #[.int .i32 a, .int .i32 b] 26) = W at *
    have tdr := (Turn.refl (fun _ => False) W).drew
    have TD := TT.then tdr
    have hRd := hR.quiet tdr
    replace n0 : W.drew.cell? ⟨w.heap.size, 0, none⟩ = some (.int .i64 (N : Int)) := n0
    replace n1 : W.drew.cell? ⟨w.heap.size, 1, none⟩ = some (.slice sa l.length sc) := n1
    replace p0 : W.drew.cell? ⟨w.heap.size + 1, 0, none⟩ = some (.int .i32 a) := p0
    replace p1 : W.drew.cell? ⟨w.heap.size + 1, 1, none⟩ = some (.int .i32 b) := p1
    obtain ⟨b', rfl⟩ : ∃ b' : Nat, b = b' := ⟨b.toNat, by have := unhide Hv; omega⟩
    have hbN : (b' : Int) < (N : Int) := by omega
    have hb0 : (0 : Int) ≤ (b' : Int) := by omega
    clear TT hR tdr c1 c2 c3 c4
    go_region_with
      ((go_at_call 13; have gX := hf _ hRd; refine gX.mono ?_; rintro e w2 ⟨db, L, rfl, hD, hdb, hds, t2⟩; replace n0 := t2.cell n0 (fun h => h); replace n1 := t2.cell n1 (fun h => h); replace p0 := t2.cell p0 (fun h => h); replace p1 := t2.cell p1 (fun h => h); obtain ⟨x, hx⟩ : ∃ x, L[b']? = some x := ⟨L[b']'(by have := hds.1; omega), by simp [show b' < L.length by have := hds.1; omega]⟩; have cd := (hD.at hx).1; have HD := hide (hds.2 _ _ hx); replace TD := TD.then t2; clear t2 hds hD hx gX))
    all_goals
      go_wp2_with fail
      go_ret
      exact ⟨x, rfl, unhide HD, TD⟩
  · have hout : IsD N (goesF l) a b INF := by
      by_cases h2 : 0 ≤ a ∧ a < (N : Int)
      · exact isD_out (fairF (unhide HL).2.2.1) (by omega)
      · exact isD_none (fairF (unhide HL).2.2.1) h2
    have Hout := hide hout
    clear hout
    by_cases c1 : a < 0
    · go_enter Try.func17, Try.ntmps17
      go_wp2_with fail
      go_ret
      exact ⟨INF, rfl, unhide Hout, TT⟩
    by_cases c2 : b < 0
    · go_enter Try.func17, Try.ntmps17
      go_wp2_with fail
      go_ret
      exact ⟨INF, rfl, unhide Hout, TT⟩
    by_cases c3 : (N : Int) ≤ a
    · go_enter Try.func17, Try.ntmps17
      go_wp2_with fail
      go_ret
      exact ⟨INF, rfl, unhide Hout, TT⟩
    have c4 : (N : Int) ≤ b := by omega
    go_enter Try.func17, Try.ntmps17
    go_wp2_with fail
    go_ret
    exact ⟨INF, rfl, unhide Hout, TT⟩
end Go.Proofs.Ytombpfpfeebnpaa
