/- RoadEncodes: which bytes a network is, and which are none; what is handed in stays. -/
import Derived.Test.YtmmlannnpndkcaaGKept
import Derived.Test.YtmmlannnpndkcaaGREnc
import Derived.Test.YtmmlannnpndkcaaSHelp
namespace Go.Proofs.Ytmmlannnpndkcaa
open Go.RowKit Go.Maps
set_option linter.unusedVariables false
set_option linter.unusedSimpArgs false
set_option maxRecDepth 100000

/-- what both encoders answer -/
def EncAns (n : Int) (l : List Ar) (w' : World) (x : Value) (e : Int) (base : Nat) : Prop :=
  (BoundedN n l ∧ Rising l ∧ e = 0 ∧ Row .u8 (fun j => base ≤ j) w' x (encB n l)) ∨ (¬ (BoundedN n l ∧ Rising l) ∧ e = 10 ∧ x = .slice none 0 0)
theorem encode_any (B : Nat → Prop) (w : World) (n : Int) (v : Value) (l : List Ar) (hr : AR B w v l) :
    Calls Try.prog 17 #[.agg #[.int .i64 n, v]] w fun e w' => ∃ x k, e = .returned (.tuple #[x, .int .i64 k]) ∧ EncAns n l w' x k w.heap.size ∧ Turn (fun _ => False) w w' := by
  by_cases h : BoundedN n l ∧ Rising l
  · refine (encode_ok B w n v l hr h.1 h.2).mono ?_
    rintro e w' ⟨x, rfl, hO, t, own⟩
    exact ⟨x, 0, rfl, .inl ⟨h.1, h.2, rfl, hO.row.mono (fun j hj => own j hj)⟩, t⟩
  · refine (encode_bad B w n v l hr h).mono ?_
    rintro e w' ⟨rfl, t⟩
    exact ⟨_, 10, rfl, .inr ⟨h, rfl, rfl⟩, t⟩
theorem rencode_any (w : World) (n : Int) (v : Value) (l : List Ar) (hr : AR any w v l) (hl : l.length ≤ 1000000) :
    Calls Try.prog 18 #[.agg #[.int .i64 n, v]] w fun e w' => ∃ x k, e = .returned (.tuple #[x, .int .i64 k]) ∧ EncAns n l w' x k w.heap.size ∧ Turn (fun _ => False) w w' := by
  by_cases h : BoundedN n l ∧ Rising l
  · refine (rencode_ok w n v l hr hl h.1 h.2).mono ?_
    rintro e w' ⟨x, rfl, hO, t, own⟩
    exact ⟨x, 0, rfl, .inl ⟨h.1, h.2, rfl, hO.row.mono (fun j hj => own j hj)⟩, t⟩
  · refine (rencode_bad w n v l hr hl h).mono ?_
    rintro e w' ⟨rfl, t⟩
    exact ⟨_, 10, rfl, .inr ⟨h, rfl, rfl⟩, t⟩
/-- both answer alike -/
theorem EncAns.both {n : Int} {l : List Ar} {w w2 w' : World} {x x2 : Value} {e e2 : Int} {b b2 : Nat} (h : EncAns n l w x e b) (h2 : EncAns n l w2 x2 e2 b2) (t : Turn (fun _ => False) w w') (t2 : Turn (fun _ => False) w2 w') : e = e2 ∧ ∃ zs, Row .u8 any w' x zs ∧ Row .u8 any w' x2 zs := by
  rcases h with ⟨a, b, rfl, r⟩ | ⟨a, rfl, rfl⟩
  · rcases h2 with ⟨_, _, rfl, r2⟩ | ⟨a2, _⟩
    · exact ⟨rfl, _, (r.turn t (fun _ _ h => h)).mono (fun _ _ => trivial), (r2.turn t2 (fun _ _ h => h)).mono (fun _ _ => trivial)⟩
    · exact absurd ⟨a, b⟩ a2
  · rcases h2 with ⟨a2, b2, _⟩ | ⟨_, rfl, rfl⟩
    · exact absurd ⟨a2, b2⟩ a
    · exact ⟨rfl, [], row_none _ _ _, row_none _ _ _⟩

set_option maxHeartbeats 8000000 in
theorem encodes_walk (w : World) (n : Int) (v : Value) (l : List Ar) (hr : AR any w v l) :
    Calls Try.prog 4 #[.agg #[.int .i64 n, v]] w fun e w' => e = .returned (.bool true) ∧ Turn (fun _ => False) w w' := by
  obtain ⟨a, c, rfl⟩ := hr.slice
  have T0 := (Turn.refl (fun _ => False) w).alloc (.cells #[.int .i64 n, .slice a l.length c] 26)
  have hb := heap_alloc_new w (.cells #[.int .i64 n, .slice a l.length c] 26)
  have Hc := cut_walk _ _ n _ l (hr.lt.quiet T0)
  have hL : (l.take 300).length ≤ 300 := by rw [List.length_take]; omega
  clear hr
  go_enter Try.func4, Try.ntmps4
  go_wp2_with fail
  generalize w.alloc (.cells #[.int .i64 n, .slice a l.length c] 26) = W at *
  have hbw : w.heap.size < W.heap.size := (Array.getElem?_eq_some_iff.1 hb).1
  generalize hbs : w.heap.size = b at *
  refine Hc.mono ?_
  rintro e w1 ⟨x, rfl, A1, t1⟩
  generalize l.take 300 = L at *
  have hb1 := t1.same hb (fun h => h)
  obtain ⟨ax, cx, rfl⟩ := A1.slice
  have b1 := heap_setCell_obj (j := 0) hb1 (.int .i64 n)
  have b2 := heap_setCell_obj (j := 1) b1 (.slice ax L.length cx)
  have t2 : Turn (fun j => j = b) w1 (((w1.setCell ⟨b, 0, none⟩ (.int .i64 n)).setCell ⟨b, 1, none⟩ (.slice ax L.length cx)).alloc (.cells #[.int .i64 n, .slice ax L.length cx] 26)) := (((Turn.refl (fun j => j = b) w1).setCell (p := ⟨b, 0, none⟩) (.inl rfl) _).setCell (p := ⟨b, 1, none⟩) (.inl rfl) _).alloc _
  have k2 := heap_alloc_new ((w1.setCell ⟨b, 0, none⟩ (.int .i64 n)).setCell ⟨b, 1, none⟩ (.slice ax L.length cx)) (.cells #[.int .i64 n, .slice ax L.length cx] 26)
  have b3 := ((Turn.refl (fun _ => False) ((w1.setCell ⟨b, 0, none⟩ (.int .i64 n)).setCell ⟨b, 1, none⟩ (.slice ax L.length cx))).alloc (.cells #[.int .i64 n, .slice ax L.length cx] 26)).same b2 (fun h => h)
  have f0 : w1.cell? ⟨b, 0, none⟩ = some (.int .i64 n) := cell_obj hb1 0
  have f1 : w1.cell? ⟨b, 1, none⟩ = some (.slice a l.length c) := cell_obj hb1 1
  have z0 : w1.frozen? ⟨b, 0, none⟩ = false := frozen_obj hb1 0
  have z1 : w1.frozen? ⟨b, 1, none⟩ = false := frozen_obj hb1 1
  have hsz : ((w1.setCell ⟨b, 0, none⟩ (.int .i64 n)).setCell ⟨b, 1, none⟩ (.slice ax L.length cx)).heap.size = w1.heap.size := by simp [World.setCell]
  rw [hsz] at k2
  have hb1w : b < w1.heap.size := (Array.getElem?_eq_some_iff.1 hb1).1
  have A2 := A1.turn t2 (fun j hj => by have := hj.2; omega)
  have T2 : Turn (fun _ => False) w (((w1.setCell ⟨b, 0, none⟩ (.int .i64 n)).setCell ⟨b, 1, none⟩ (.slice ax L.length cx)).alloc (.cells #[.int .i64 n, .slice ax L.length cx] 26)) := (T0.then t1).trans t2 (fun j hj => .inr (by omega))
  have Ho := own_arc _ L (71, 0, 0) _ (by omega) (A2.mono (B' := any) (fun _ _ => trivial))
  unfold arV at Ho
  simp only at Ho
  have Hbs := hide hbs
  clear Hc b1 b2 t1 A1 T0 hbs hsz t2 hb hb1
  go_wp2_with fail
  generalize ((w1.setCell ⟨b, 0, none⟩ (.int .i64 n)).setCell ⟨b, 1, none⟩ (.slice ax L.length cx)).alloc (.cells #[.int .i64 n, .slice ax L.length cx] 26) = W2 at *
  generalize w1.heap.size = d at *
  clear f0 f1 z0 z1
  refine Ho.mono ?_
  rintro e w3 ⟨g, rfl, O3, t3, hg⟩
  have b4 := t3.same b3 (fun h => h)
  have k4 := t3.same k2 (fun h => h)
  have hdW : d < W2.heap.size := (Array.getElem?_eq_some_iff.1 k2).1
  have k5 := heap_setCell_obj (j := 1) k4 (.slice (some ⟨g, 0, none⟩) L.length (L.length + 3))
  have t5 : Turn (fun j => j = d) w3 (w3.setCell ⟨d, 1, none⟩ (.slice (some ⟨g, 0, none⟩) L.length (L.length + 3))) := (Turn.refl (fun j => j = d) w3).setCell (p := ⟨d, 1, none⟩) (.inl rfl) _
  have b5 := t5.same b4 (by omega)
  have A5 := (A2.quiet t3).turn t5 (fun j hj => by have := hj.2; omega)
  have O5 := O3.turn t5 (fun j hj => by simp [Value.ownBlock] at hj; omega)
  have T5 : Turn (fun _ => False) w (w3.setCell ⟨d, 1, none⟩ (.slice (some ⟨g, 0, none⟩) L.length (L.length + 3))) := (T2.then t3).trans t5 (fun j hj => .inr (by have := unhide Hbs; omega))
  have f1 : w3.cell? ⟨d, 1, none⟩ = some (.slice ax L.length cx) := cell_obj k4 1
  have z1 : w3.frozen? ⟨d, 1, none⟩ = false := frozen_obj k4 1
  have g0 : (w3.setCell ⟨d, 1, none⟩ (.slice (some ⟨g, 0, none⟩) L.length (L.length + 3))).cell? ⟨d, 0, none⟩ = some (.int .i64 n) := cell_obj k5 0
  have g1 : (w3.setCell ⟨d, 1, none⟩ (.slice (some ⟨g, 0, none⟩) L.length (L.length + 3))).cell? ⟨d, 1, none⟩ = some (.slice (some ⟨g, 0, none⟩) L.length (L.length + 3)) := cell_obj k5 1
  have He := encode_any _ _ n _ L O5.prefix
  clear Ho t5 t3 O3 b4 k4 A2 T2 b3 k2
  go_wp2_with fail
  generalize w3.setCell ⟨d, 1, none⟩ (.slice (some ⟨g, 0, none⟩) L.length (L.length + 3)) = w5 at *
  clear f1 z1 g0 g1
  refine He.mono ?_
  rintro e w6 ⟨x6, k6, rfl, E6, t6⟩
  have b6 := t6.same b5 (fun h => h)
  have A6 := A5.quiet t6
  have f0 : w6.cell? ⟨b, 0, none⟩ = some (.int .i64 n) := cell_obj b6 0
  have f1 : w6.cell? ⟨b, 1, none⟩ = some (.slice ax L.length cx) := cell_obj b6 1
  have Hr := rencode_any w6 n _ L (A6.mono (fun _ _ => trivial)) (by omega)
  clear He
  go_wp2_with fail
  refine Hr.mono ?_
  rintro e w7 ⟨x7, k7, rfl, E7, t7⟩
  clear f0 f1 Hr
  go_wp2_with fail
  refine (awake_walk _).mono ?_
  rintro e w8 ⟨rfl, t8⟩
  obtain ⟨hk, zs, R6, R7⟩ := E6.both E7 (t7.then t8) t8
  subst hk
  have t68 := (t6.then t7).then t8
  have b8 := t68.same b5 (fun h => h)
  have k8 := t68.same k5 (fun h => h)
  have A8 := A5.quiet t68
  have O8 := O5.turn t68 (fun _ _ h => h)
  have T8 := T5.then t68
  have f1 : w8.cell? ⟨b, 1, none⟩ = some (.slice ax L.length cx) := cell_obj b8 1
  have g1 : w8.cell? ⟨d, 1, none⟩ = some (.slice (some ⟨g, 0, none⟩) L.length (L.length + 3)) := cell_obj k8 1
  have Hk := kept_arc w8 g _ L (71, 0, 0) (by omega) O8 (A8.mono (B' := any) (fun _ _ => trivial))
  unfold arV at Hk
  simp only at Hk
  clear E6 E7 t6 t7 t8 b6 A6 t68 A5 O5 k5 b5 T5
  go_wp2_with fail
  refine (bytes_walk _ _ _ _ zs _ R6 R7).mono ?_
  rintro e w9 ⟨rfl, rfl⟩
  go_wp2_with fail
  refine Hk.mono ?_
  rintro e w10 ⟨rfl, t10⟩
  go_wp2
  go_ret
  exact ⟨rfl, T8.then t10⟩
theorem RoadEncodes_law (w : World) (n : Int) (hn : (Lit.int .i64 n).wf = true) (v : Value) (l : List Ar) (hr : AR any w v l) :
    Calls Try.prog 4 #[.agg #[.int .i64 n, v]] w fun e w' => e = .returned (.bool true) ∧ Below w.heap.size w w' :=
  (encodes_walk w n v l hr).mono (fun e w' h => ⟨h.1, h.2.blw⟩)
end Go.Proofs.Ytmmlannnpndkcaa
