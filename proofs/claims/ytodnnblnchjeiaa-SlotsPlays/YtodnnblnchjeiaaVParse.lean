/- What a frame of a slot's file carries. -/
import Derived.Test.YtodnnblnchjeiaaVMem
namespace Go.Proofs.Ytodnnblnchjeiaa
open Go.RowKit Go.Maps
set_option linter.unusedVariables false
set_option linter.unusedSimpArgs false

/-- a number and a slice, written over a new save -/
theorem save_set {w : World} {r : Nat} {a b : Value} (h : w.heap[r]? = some (.cells #[a, b] 54 (0, 0))) (x y : Value) :
    ((w.setCell ⟨r, 0, none⟩ x).setCell ⟨r, 1, none⟩ y).heap[r]? = some (.cells #[x, y] 54 (0, 0)) ∧ Turn (fun j => j = r) w ((w.setCell ⟨r, 0, none⟩ x).setCell ⟨r, 1, none⟩ y) := by
  refine ⟨?_, ((Turn.refl (fun j => j = r) w).setCell (p := ⟨r, 0, none⟩) (.inl rfl) _).setCell (p := ⟨r, 1, none⟩) (.inl rfl) _⟩
  have h1 := heap_setCell_obj (j := 1) (heap_setCell_obj (j := 0) h x) y
  rw [h1]; rfl
theorem fresh_turn {w w' : World} {r : Nat} (h : Turn (fun j => j = r) w w') {w0 : World} (h0 : Turn (fun _ => False) w0 w) (hr : w0.heap.size ≤ r) : Turn (fun _ => False) w0 w' :=
  h0.trans h (fun j hj => by subst hj; exact .inr hr)

set_option maxRecDepth 100000 in
set_option maxHeartbeats 2000000 in
theorem parseV_w (Bk : Nat → Prop) (v : Value) (c : List Int) (r : Nat) (w : World) (hb : Bytes c) (hr : Row .u8 Bk w v c) (hl : c.length ≤ 1048576) (hr2 : r < 2) :
    Calls Try.prog 34 #[v, .int .u64 (r : Int)] w fun e w' => ∃ dv, e = .returned (.tuple #[.agg #[.int .u64 ((parseV c r).2.1 : Nat), dv], .int .i64 (parseV c r).1]) ∧
      OwnSl w' 5 1 dv (parseV c r).2.2.length ((parseV c r).2.2.map (Value.int .u8)) ∧ (∀ j, dv.ownBlock = some j → w.heap.size ≤ j) ∧ Turn (fun _ => False) w w' := by
  obtain ⟨i0, hi, hz0, hz1, hz2⟩ := info_parts info_u8
  have tA : Turn (fun _ => False) w (w.alloc (.cells #[.int .u64 0, .slice none 0 0] 54)) := (Turn.refl _ w).alloc _
  have kA := heap_alloc_new w (.cells #[.int .u64 0, .slice none 0 0] 54)
  have zA : (w.alloc (.cells #[.int .u64 0, .slice none 0 0] 54)).heap.size = w.heap.size + 1 := by simp
  have hr := hr.lt
  have hrA := hr.turn tA (fun _ _ h => h)
  have hnew := new_walk _ v c _ hrA (by omega)
  have hsm := small_bytes hb
  obtain ⟨va, vc, rfl⟩ := hr.slice
  go_enter Try.func34, Try.ntmps34
  go_wp2_with fail
  refine hnew.mono ?_
  rintro e w1 ⟨p, rfl, hp1, hp2, hRD, hbel⟩
  have t1 : Turn (fun _ => False) _ w1 := Turn.of_below hbel
  have hnum := rnum_walk _ p c 0 w1 hRD hb
  have k1 := t1.same kA (fun h => h)
  have T1 := tA.then t1
  have s1 := T1.size
  rw [zA] at hp1
  clear hnew hrA hbel hRD
  go_wp2_with fail
  refine hnum.mono ?_
  rintro e w2 ⟨rfl, hRD2, t2⟩
  have hRD2' := rleft_walk _ p _ _ w2 hRD2
  have k2 := t2.same k1 (fun h => by unfold only at h; omega)
  have T2 : Turn (fun _ => False) w w2 := T1.trans t2 (fun j hj => by unfold only at hj; exact .inr (by omega))
  have hr2w := hr.turn T2 (fun _ _ h => h)
  have q0 := cell_obj k2 0
  have q1 := cell_obj k2 1
  have f0 := frozen_obj k2 0
  have f1 := frozen_obj k2 1
  have hpar : parseV c r = if (smallT wideV c 0).1 = 0 ∨ (smallT wideV c 0).1 % 2 ≠ r then (12, 0, []) else (0, (smallT wideV c 0).1, c.drop (c.length - (smallT wideV c 0).2.1.length)) := rfl
  have Hp := hide hpar
  rw [wide_same] at hRD2'
  rw [wide_same]
  clear hpar hnum k1 t1 t2 T1 hRD2 tA kA
  generalize (smallT wideV c 0).1 = N at *
  generalize (smallT wideV c 0).2.1.length = L at *
  by_cases hbad : N = 0 ∨ N % 2 ≠ r
  · have Hq : Hid (parseV c r = (12, 0, [])) := hide ((unhide Hp).trans (if_pos hbad))
    obtain ⟨g1, g2⟩ := save_set k2 (.int .u64 0) (.slice none 0 0)
    have z0 := cell_obj g1 0
    have z1 := cell_obj g1 1
    have HT := hide (fresh_turn g2 T2 (Nat.le_refl _))
    clear Hp hRD2' g1 g2 T2 hr2w
    by_cases h0 : N = 0
    · subst h0
      go_wp2
      refine bodyPost_ret (v := .tuple #[.agg #[.int .u64 0, .slice none 0 0], .int .i64 12]) (by simp [results, Try.results34, z0, z1, go_sem]) rfl ?_
      rw [unhide Hq]
      exact ⟨_, rfl, ⟨rfl, .inl ⟨rfl, rfl⟩⟩, fun j hj => by simp [Value.ownBlock] at hj, unhide HT⟩
    · have h1 : ¬ ((N : Int) = 0) := by omega
      have h2 : ((N : Int) % 2 == (r : Int)) = false := by rw [beq_eq_false_iff_ne]; omega
      have h3 : ((N : Int) % 2 != (r : Int)) = true := by rw [bne_iff_ne]; omega
      go_wp2
      refine bodyPost_ret (v := .tuple #[.agg #[.int .u64 0, .slice none 0 0], .int .i64 12]) (by simp [results, Try.results34, z0, z1, go_sem]) rfl ?_
      rw [unhide Hq]
      exact ⟨_, rfl, ⟨rfl, .inl ⟨rfl, rfl⟩⟩, fun j hj => by simp [Value.ownBlock] at hj, unhide HT⟩
  · have Hq : Hid (parseV c r = (0, N, c.drop (c.length - L))) := hide ((unhide Hp).trans (if_neg hbad))
    have h1 : ¬ ((N : Int) = 0) := by omega
    have h2 : (N : Int) % 2 = (r : Int) := by omega
    obtain ⟨x, hx, hrx⟩ := cut_from (P := Try.prog) (ki := .i64) Try.underlying32 hi hz1 hr2w (c.length - L) (by omega)
    rw [show ((c.length - L : Nat) : Int) = (c.length : Int) - (L : Int) by omega] at hx
    have hcl := clone_walk _ x _ w2 hrx (by rw [List.length_drop]; omega)
    obtain ⟨xa, xc, rfl⟩ := hrx.slice
    have hdl : (c.drop (c.length - L)).length = L := by rw [List.length_drop]; omega
    have hL : (L : Int) ≤ (c.length : Int) := by omega
    have hL2 : (c.length : Int) ≤ 1048576 := by omega
    have HH := hide (And.intro T2 hdl)
    clear Hp T2 hr2w hrx hr hbad hdl
    generalize c.drop (c.length - L) = cd at *
    go_wp2_with fail
    refine hRD2'.mono ?_
    rintro y w0 ⟨rfl, hw0⟩
    have hw0 := hw0.symm
    subst hw0
    clear hRD2'
    go_wp2_with fail
    refine hcl.mono ?_
    rintro y w3 ⟨dv, rfl, ho, hf, t3⟩
    obtain ⟨T2, hdl⟩ := unhide HH
    have k3 := t3.same k2 (fun h => h)
    obtain ⟨da, dc, rfl⟩ := ho.form
    have q0 := cell_obj k3 0
    have q1 := cell_obj k3 1
    have f0 := frozen_obj k3 0
    have f1 := frozen_obj k3 1
    obtain ⟨g1, g2⟩ := save_set k3 (.int .u64 (N : Int)) (.slice da cd.length dc)
    have z0 := cell_obj g1 0
    have z1 := cell_obj g1 1
    have s2 := T2.size
    have HT := hide (And.intro (fresh_turn g2 (T2.then t3) (Nat.le_refl _)) (And.intro (fun j hj => Nat.le_trans s2 (hf j hj) : ∀ j, (Value.slice da cd.length dc).ownBlock = some j → w.heap.size ≤ j) (ho.turn g2 (fun j hj => ho.neObj k3 (by decide) j hj))))
    clear g1 g2 T2 t3 k3 k2 ho hf hcl hdl HH
    obtain ⟨n, hn⟩ : ∃ n, cd.length = n := ⟨_, rfl⟩
    rw [hn] at z0 z1 HT ⊢
    have Hn := hide hn
    clear hn
    go_wp2
    refine bodyPost_ret (v := .tuple #[.agg #[.int .u64 (N : Int), .slice da n dc], .int .i64 0]) (by simp [results, Try.results34, z0, z1, go_sem]) rfl ?_
    rw [unhide Hq]
    exact ⟨_, rfl, by rw [show cd.length = n from unhide Hn]; exact (unhide HT).2.2, (unhide HT).2.1, (unhide HT).1⟩
end Go.Proofs.Ytodnnblnchjeiaa
