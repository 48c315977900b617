/- .. Append. -/
import Derived.Test.YthpfdgjpmooclaaRStep
import Derived.Deep.RegionWith
import Derived.Deep.RegionHeld3
namespace Go.Proofs.Ythpfdgjpmooclaa
open Go.RowKit Go.Maps
set_option linter.unusedVariables false
set_option linter.unusedSimpArgs false

set_option maxRecDepth 100000 in
set_option maxHeartbeats 2000000 in
theorem step_append {A : Nat → Prop} {w : World} {B R : Nat} {S : Dk} (h : Two A w B R S S) (kind n : Int) (s : ByteArray) (bv kv : Value) (hs : s.size ≤ maxLen) (hk : ∀ j : Nat, 1 ≤ j → j ≤ 8 → (kind == (j : Int)) = false) (Bk : Nat → Prop) (zs : List Int) (hrow : Row .u8 Bk w bv zs) (hBk : ∀ b, Bk b → ¬ A b) (hzl : zs.length ≤ 400) :
    Calls Try.prog 13 #[.pointer (some ⟨B, 0, none⟩), .pointer (some ⟨R, 0, none⟩), .agg #[.int .i64 kind, .int .i64 n, .string s, bv, kv]] w fun e w' => e = .returned (.bool true) ∧ Turn A w w' ∧ ∃ S', Two A w' B R S' S' := by
  obtain ⟨W, hW, A', h1, hA, hnA, tW, kW⟩ := box_facts h kind n s bv kv 35
  have q0 : W.cell? ⟨w.heap.size, 0, none⟩ = some (.int .i64 kind) := cell_obj kW 0
  have q2 : W.cell? ⟨w.heap.size, 2, none⟩ = some (.string s) := cell_obj kW 2
  have q3 : W.cell? ⟨w.heap.size, 3, none⟩ = some bv := cell_obj kW 3
  have sW := tW.size
  have k1 : (kind == 1) = false := hk 1 (by omega) (by omega)
  have k2 : (kind == 2) = false := hk 2 (by omega) (by omega)
  have k3 : (kind == 3) = false := hk 3 (by omega) (by omega)
  have k4 : (kind == 4) = false := hk 4 (by omega) (by omega)
  have k5 : (kind == 5) = false := hk 5 (by omega) (by omega)
  have k6 : (kind == 6) = false := hk 6 (by omega) (by omega)
  have k7 : (kind == 7) = false := hk 7 (by omega) (by omega)
  have k8 : (kind == 8) = false := hk 8 (by omega) (by omega)
  have rowW := hrow.turn tW (fun _ _ => id)
  have hkz : zs.length ≤ 140737488351232 := by omega
  have hown := own_any_u8 bv zs 71 W hkz (rowW.mono (fun _ _ => trivial))
  clear h kW hk
  subst hW
  go_enter Try.func13, Try.ntmps13
  go_wp2_with fail
  generalize w.alloc (.cells #[.int .i64 kind, .int .i64 n, .string s, bv, kv] 35) = W at *
  refine hown.mono ?_
  rintro x w1 ⟨rfl, cl1, b1, fr1⟩
  have t1 : Turn (fun _ => False) W w1 := Turn.of_below b1
  have lt1 : W.heap.size < w1.heap.size := by obtain ⟨cur, T, hh⟩ := fr1; exact (Array.getElem?_eq_some_iff.1 hh).1
  have h2 := (h1.shield t1).drew
  have hnI : ¬ shield A' W.heap.size w1.heap.size W.heap.size := not_shield _ _ _ (Nat.le_refl _) lt1
  have hnO : ¬ shield A' W.heap.size w1.heap.size w.heap.size := fun q => hnA q.1
  have hBk2 : ∀ b, Bk b → ¬ shield A' W.heap.size w1.heap.size b := fun b hb q => hBk b hb (hA b q.1)
  have row1 : Row .u8 Bk w1.drew bv zs := rowW.turn t1.drew (fun _ _ => id)
  have q5 : w1.drew.cell? ⟨w.heap.size, 2, none⟩ = some (.string s) := t1.cell q2 id
  have q6 : w1.drew.cell? ⟨w.heap.size, 3, none⟩ = some bv := t1.cell q3 id
  have cl1d : Cells .u8 w1.drew W.heap.size 0 (zs ++ [71, 71, 71]) := cl1
  have h9 := dAppend2 h2 _ s _ zs hs (row_at cl1d (show zs.length ≤ zs.length + 3 by omega) (by unfold maxLen; omega))
  have HA := hide hA
  have T1 : Turn (fun _ => False) w w1 := tW.then t1
  have fr1d : Free w1.drew W.heap.size := fr1
  clear h1 hown rowW hA q0 q2 q3
  go_wp2_with fail
  obtain ⟨ee, hee⟩ : ∃ ee, ee = appendC S s.data.toList zs := ⟨_, rfl⟩
  rw [← hee] at h9
  have Hee := hide hee
  clear hee
  go_region_held3 (fun w' => w'.cell? ⟨w.heap.size, 2, none⟩ = some (.string s) ∧ w'.cell? ⟨w.heap.size, 3, none⟩ = some bv) (first | exact ⟨q5, q6⟩ | exact ⟨p5, p6⟩ | exact ⟨r5, r6⟩ | go_keep)
    (first
    | (go_at_call 11; refine h9.mono ?_; rintro x w2 ⟨rfl, h3, t3⟩; have p5 := t3.cell q5 hnO; have p6 := t3.cell q6 hnO; have row2 := row1.turn t3 hBk2; have cl2 := cl1d.turn t3 hnI; have fr2 := fr1d.turn t3 hnI; have h10 := rAppend2 h3 Bk s bv zs hs row2 hBk2; rw [← unhide Hee] at h10)
    | (go_at_call 45; refine h10.mono ?_; rintro x w3 ⟨rfl, h4, t4⟩; have r5 := t4.cell p5 hnO; have r6 := t4.cell p6 hnO; have row3 := row2.turn t4 hBk2; have cl3 := cl2.turn t4 hnI; have fr3 := fr2.turn t4 hnI; have h11 := kept_any_u8 W.heap.size bv zs 71 w3 hkz cl3 (row3.mono (fun _ _ => trivial)))
    | (go_at_call 46; refine h11.mono ?_; rintro x w4 ⟨rfl, m, rfl⟩))
  all_goals
    have cl4 : Cells .u8 (w3.drewN m) W.heap.size 0 (zs ++ [71, 71, 71]) := cl3.turn (F := fun _ => False) ((Turn.refl _ _).drewN m) id
    have fr4 : Free (w3.drewN m) W.heap.size := fr3.turn (F := fun _ => False) ((Turn.refl _ _).drewN m) id
    have rI := (row_at cl4 (show zs.length ≤ zs.length + 3 by omega) (by unfold maxLen; omega)).mono (B' := fun b => b = W.heap.size ∧ Free (w3.drewN m) b) (fun b hb => ⟨hb, by subst hb; exact fr4⟩)
    have h12 := spoil_any _ _ zs _ rI
    have h5 := h4.drewN m
    have TT : Turn A w (w3.drewN m) := (((T1.drew.mono (fun _ h => h.elim)).then (t3.mono (fun j hj => unhide HA j hj.1))).then (t4.mono (fun j hj => unhide HA j hj.1))).drewN m
    clear h2 h3 h4 h9 h10 h11 t3 t4 cl1 cl1d cl2 cl3 fr2 fr3 row1 row2 row3 rI cl4 fr4
    go_wp2_with fail
    refine h12.mono ?_
    rintro x w5 ⟨⟨v, rfl⟩, t5⟩
    have h6 := (h5.turn t5 (fun j hj hl q => by subst q; exact hnI hj)).mono (A' := A) (fun j hj => unhide HA j hj.1)
    have tt : Turn A w w5 := TT.trans t5 (fun j hj => .inr (by subst hj; exact sW))
    clear h5 t5 h12
    go_wp2
    go_ret
    exact ⟨rfl, tt, _, h6⟩
end Go.Proofs.Ythpfdgjpmooclaa
