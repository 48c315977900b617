/- .. Crash. -/
import Derived.Test.YthpfdgjpmooclaaRStep
import Derived.Deep.RegionWith
namespace Go.Proofs.Ythpfdgjpmooclaa
open Go.RowKit Go.Maps
set_option linter.unusedVariables false
set_option linter.unusedSimpArgs false

set_option maxRecDepth 100000 in
set_option maxHeartbeats 2000000 in
theorem step_crash {A : Nat → Prop} {w : World} {B R : Nat} {S : Dk} (h : Two A w B R S S) (n : Int) (s : ByteArray) (bv kv : Value) (hs : s.size ≤ maxLen) (Bk : Nat → Prop) (ks : List Int) (hrow : Row .i64 Bk w kv ks) (hBk : ∀ b, Bk b → ¬ A b) (hkl : ks.length * 8 ≤ 140737488351232) :
    Calls Try.prog 13 #[.pointer (some ⟨B, 0, none⟩), .pointer (some ⟨R, 0, none⟩), .agg #[.int .i64 7, .int .i64 n, .string s, bv, kv]] w fun e w' => e = .returned (.bool true) ∧ Turn A w w' ∧ ∃ S', Two A w' B R S' S' := by
  obtain ⟨W, hW, A', h1, hA, hnA, tW, kW⟩ := box_facts h 7 n s bv kv 35
  have q0 : W.cell? ⟨w.heap.size, 0, none⟩ = some (.int .i64 7) := cell_obj kW 0
  have q1 : W.cell? ⟨w.heap.size, 1, none⟩ = some (.int .i64 n) := cell_obj kW 1
  have q2 : W.cell? ⟨w.heap.size, 2, none⟩ = some (.string s) := cell_obj kW 2
  have q3 : W.cell? ⟨w.heap.size, 3, none⟩ = some bv := cell_obj kW 3
  have q4 : W.cell? ⟨w.heap.size, 4, none⟩ = some kv := cell_obj kW 4
  have sW := tW.size
  have rowW := hrow.turn tW (fun _ _ => id)
  have hkz : ks.length ≤ 17592186043904 := by omega
  have hown := own_any_i64 kv ks 71 W hkz (rowW.mono (fun _ _ => trivial))
  clear h kW q1 q2 q3
  subst hW
  go_enter Try.func13, Try.ntmps13
  go_wp2_with fail
  generalize w.alloc (.cells #[.int .i64 7, .int .i64 n, .string s, bv, kv] 35) = W at *
  refine hown.mono ?_
  rintro x w1 ⟨rfl, cl1, b1, fr1⟩
  have t1 : Turn (fun _ => False) W w1 := Turn.of_below b1
  have lt1 : W.heap.size < w1.heap.size := by obtain ⟨cur, T, hh⟩ := fr1; exact (Array.getElem?_eq_some_iff.1 hh).1
  have h2 := h1.shield t1
  have hnI : ¬ shield A' W.heap.size w1.heap.size W.heap.size := not_shield _ _ _ (Nat.le_refl _) lt1
  have hnO : ¬ shield A' W.heap.size w1.heap.size w.heap.size := fun q => hnA q.1
  have hBk2 : ∀ b, Bk b → ¬ shield A' W.heap.size w1.heap.size b := fun b hb q => hBk b hb (hA b q.1)
  have row1 := rowW.turn t1 (fun _ _ => id)
  have q5 := t1.cell q4 id
  have h9 := rCrash2 h2 Bk kv ks row1 hBk2
  clear h1 hown rowW
  go_wp2_with fail
  refine h9.mono ?_
  rintro x w2 ⟨⟨v, rfl⟩, h3, t3⟩
  have cl2 := cl1.turn t3 hnI
  have row2 := row1.turn t3 hBk2
  have q6 := t3.cell q5 hnO
  have h10 := dCrash2 h3 _ _ ks (row_at cl2 (show ks.length ≤ ks.length + 3 by omega) (by unfold maxLen; omega)) (fun b hb q => by subst hb; exact hnI q)
  have HA := hide hA
  have T1 : Turn (fun _ => False) w w1 := tW.then t1
  clear h9 h2 hA tW t1 b1 fr1 row1 cl1
  go_wp2_with fail
  refine h10.mono ?_
  rintro x w3 ⟨rfl, h4, t4⟩
  have cl3 := cl2.turn t4 hnI
  have row3 := row2.turn t4 hBk2
  have q7 := t4.cell q6 hnO
  have h11 := kept_any_i64 W.heap.size kv ks 71 w3 hkz cl3 (row3.mono (fun _ _ => trivial))
  have TT : Turn A w w3 := ((T1.mono (fun _ h => h.elim)).then (t3.mono (fun j hj => unhide HA j hj.1))).then (t4.mono (fun j hj => unhide HA j hj.1))
  have fin := h4.mono (A' := A) (fun j hj => unhide HA j hj.1)
  clear h10 h3 h4 cl2 cl3 row2 row3 t3 t4 T1
  go_wp2_with (first | (go_at_call 43; refine h11.mono ?_; rintro x w4 ⟨rfl, m, rfl⟩))
  go_ret
  exact ⟨rfl, TT.drewN m, _, fin.drewN m⟩

end Go.Proofs.Ythpfdgjpmooclaa
