/- A segment's file read. -/
import Derived.Test.YthikiahhochjmaaGreatDoorJRecs
import Derived.Laws.ResultCell
namespace Go.Proofs.YthikiahhochjmaaGreatDoor
open Go.RowKit Go.Maps
set_option linter.unusedVariables false
set_option linter.unusedSimpArgs false

theorem readD_bytes {S : Dk} (h : ∀ f ∈ S.fs, Bytes f.d) (n : Nm) : Bytes (readD S n) := by
  unfold readD
  split
  · intro x hx; cases hx
  · split
    · intro x hx; cases hx
    · rename_i f hf
      exact h f (getK_some hf).1
theorem readD_len {S : Dk} (h : Well S) (n : Nm) : (readD S n).length ≤ S.size := by
  unfold readD
  split
  · exact Nat.zero_le _
  · split
    · exact Nat.zero_le _
    · rename_i f hf
      exact Nat.le_trans (used_mem (getK_some hf).1) h.room

/-- a pair of numbers written over another one -/
theorem pair_set {w : World} {r : Nat} {T : TypeId} {a b : Value} (h : w.heap[r]? = some (.cells #[a, b] T (0, 0))) (x y : Value) :
    ((w.setCell ⟨r, 0, none⟩ x).setCell ⟨r, 1, none⟩ y).heap[r]? = some (.cells #[x, y] T (0, 0)) ∧ Turn (fun j => j = r) w ((w.setCell ⟨r, 0, none⟩ x).setCell ⟨r, 1, none⟩ y) := by
  refine ⟨?_, ((Turn.refl (fun j => j = r) w).setCell (p := ⟨r, 0, none⟩) (.inl rfl) _).setCell (p := ⟨r, 1, none⟩) (.inl rfl) _⟩
  have h1 := heap_setCell_obj (j := 1) (heap_setCell_obj (j := 0) h x) y
  rw [h1]; rfl
set_option maxRecDepth 100000 in
set_option maxHeartbeats 4000000 in
theorem read_j (w : World) (F : Nat → Prop) (D SB : Nat) (S : Dk) (f : Nat) (hf : f < 100) (d : DAt w D F S) (hb : w.heap[SB]? = some (.cells #[.int .u64 (f : Int), .slice none 0 0] 82 (0, 0))) (hby : ∀ x ∈ S.fs, Bytes x.d) :
    Calls Tryz.prog 68 #[.pointer (some ⟨SB, 0, none⟩), .pointer (some ⟨D, 0, none⟩)] w fun e w' => e = .returned (.tuple #[.agg #[.int .i64 ((readG S f).2.2.1 : Nat), .int .i64 ((readG S f).2.2.2 : Nat)], .int .i64 (readG S f).1]) ∧ Turn (fun j => j = SB) w w' ∧
      ∃ x, w'.heap[SB]? = some (.cells #[.int .u64 (f : Int), x] 82 (0, 0)) ∧ ((readG S f).1 = 0 → Lists w' w.heap.size x (readG S f).2.1) := by
  have hRb := readD_bytes hby (nameS f)
  have hRl := readD_len d.well (nameS f)
  have hsz := d.well.size
  have tA : Turn (fun _ => False) w (w.alloc (.cells #[.int .i64 0, .int .i64 0] 90)) := (Turn.refl _ w).alloc _
  have kA := heap_alloc_new w (.cells #[.int .i64 0, .int .i64 0] 90)
  have bA := tA.same hb id
  have dA := d.turn tA (fun _ _ _ h => h)
  have zA : (w.alloc (.cells #[.int .i64 0, .int .i64 0] 90)).heap.size = w.heap.size + 1 := by simp
  have c0 := cell_obj bA 0
  have c1 := cell_obj bA 1
  have hSBlt : SB < w.heap.size := (Array.getElem?_eq_some_iff.1 hb).1
  clear d hb
  go_enter Tryz.func68, Tryz.ntmps68
  go_wp2_with fail
  refine (name_walk' f hf (.slice none 0 0) _).mono ?_
  rintro y w1 ⟨rfl, t1⟩
  have hrd := Read_walk w1 D F S (nameB f) (nameB_len f) (dA.turn t1 (fun _ _ _ h => h))
  rw [nameB_list] at hrd
  go_wp2_with fail
  refine hrd.mono ?_
  rintro y w2 ⟨v, rfl, ho, hv0, t2⟩
  obtain ⟨va, vc, rfl⟩ := ho.form
  have t12 := t1.then t2
  have k2 := t12.same kA id
  have b2 := t12.same bA id
  have tw2 : Turn (fun j => j = SB) w w2 := (tA.then t12).mono (fun _ h => h.elim)
  have s2 := tw2.size
  have r0 := cell_obj k2 0
  have r1 := cell_obj k2 1
  have f0 := frozen_obj k2 0
  have f1 := frozen_obj k2 1
  clear t1 t2 hrd dA kA bA c0 c1 tA
  by_cases hc : readC S (nameS f) = 0
  · have hrow := row_of_sl ho
    have hsc := Scan_walk _ _ _ w2 hRb (by omega) hrow
    have eG : readG S f = if (scanT (readD S (nameS f))).2.2 ≠ 0 then (12, [], 0, 0) else (0, (scanT (readD S (nameS f))).1, (scanT (readD S (nameS f))).2.1, (readD S (nameS f)).length - (scanT (readD S (nameS f))).2.1) := by
      unfold readG; rw [if_neg (by rw [hc]; simp)]
    have hbd := (scan_bounds _ (readD S (nameS f)) (Nat.le_refl _)).1
    have HeG := hide eG
    rw [hc]
    clear hc eG ho hrow hv0 hRb
    generalize readD S (nameS f) = zs at *
    generalize (scanT zs).1 = rs at *
    generalize (scanT zs).2.1 = wh at *
    generalize (scanT zs).2.2 = ec at *
    generalize hzl : zs.length = zl at *
    go_wp2_with fail
    refine hsc.mono ?_
    rintro y w3 ⟨x, rfl, hL, t3⟩
    have k3 := t3.same k2 id
    have b3 := t3.same b2 id
    have tw3 : Turn (fun j => j = SB) w w3 := tw2.then (t3.mono (fun _ h => h.elim))
    have r0' := cell_obj k3 0
    have r1' := cell_obj k3 1
    have f0' := frozen_obj k3 0
    have f1' := frozen_obj k3 1
    obtain ⟨xa, xc, rfl⟩ := hL.slice
    clear r0 r1 f0 f1 k2 b2 hsc
    by_cases he : ec = 0
    · subst he
      have p1 := cell_obj b3 1
      have g1 := frozen_obj b3 1
      have eG := unhide HeG
      rw [if_neg (by simp)] at eG
      have b4 := heap_setCell_obj (j := 1) b3 (.slice xa rs.length xc)
      have t4 : Turn (fun j => j = SB) w3 (w3.setCell ⟨SB, 1, none⟩ (.slice xa rs.length xc)) := (Turn.refl (fun j => j = SB) w3).setCell (p := ⟨SB, 1, none⟩) (.inl rfl) _
      have k4 := t4.same k3 (by omega)
      have l4 := hL.turn t4 (fun j hj => by omega)
      have tw4 := tw3.then t4
      have s3 := t3.size
      have s4 := t4.size
      obtain ⟨k5, t5⟩ := pair_set k4 (.int .i64 (wh : Int)) (.int .i64 ((zl : Int) - wh))
      have b5 := t5.same b4 (by omega)
      have lt2 : w.heap.size < w2.heap.size := by
        have := tw2.size
        have := t12.size
        omega
      have l5 := l4.turn t5 (fun j hj => by omega)
      have tw5 := tw4.trans t5 (fun j hj => .inr (by omega))
      have q0' : (w3.setCell ⟨SB, 1, none⟩ (.slice xa rs.length xc)).cell? ⟨w.heap.size, 0, none⟩ = some (.int .i64 0) := cell_obj k4 0
      have q1' : (w3.setCell ⟨SB, 1, none⟩ (.slice xa rs.length xc)).cell? ⟨w.heap.size, 1, none⟩ = some (.int .i64 0) := cell_obj k4 1
      have hne1 : ¬ w.heap.size = SB := by omega
      have hne2 : ¬ SB = w.heap.size := by omega
      have hw0 : (0 : Int) ≤ (wh : Int) := by omega
      have hw1 : (wh : Int) ≤ (zl : Int) := by omega
      have hw2 : (zl : Int) ≤ 16777216 := by omega
      have hsub : ((zl - wh : Nat) : Int) = (zl : Int) - wh := by omega
      have tw2s : w.heap.size ≤ w2.heap.size := by omega
      have H5 := hide (And.intro k5 (And.intro b5 (And.intro l5 tw5)))
      have HeG2 := hide eG
      clear eG HeG b4 t4 k4 l4 tw4 k5 t5 b5 l5 tw5 t12 tw2 tw3 t3 hL k3 b3 hbd
      go_wp2
      obtain ⟨k5, b5, l5, tw5⟩ := unhide H5
      generalize ((w3.setCell ⟨SB, 1, none⟩ (.slice xa rs.length xc)).setCell ⟨w.heap.size, 0, none⟩ (.int .i64 (wh : Int))).setCell ⟨w.heap.size, 1, none⟩ (.int .i64 ((zl : Int) - wh)) = W5 at *
      have z0 := cell_obj k5 0
      have z1 := cell_obj k5 1
      refine bodyPost_ret (v := .tuple #[.agg #[.int .i64 (wh : Int), .int .i64 ((zl : Int) - wh)], .int .i64 0]) (by simp [results, Tryz.results68, z0, z1, go_sem]) rfl ?_
      rw [unhide HeG2, hsub]
      exact ⟨rfl, tw5, _, b5, fun _ => l5.mono tw2s⟩
    · have hne : (ec != 0) = true := by simpa using he
      have eG := unhide HeG
      rw [if_pos he] at eG
      have HeG2 := hide eG
      go_wp2
      obtain ⟨k4, t4⟩ := pair_set k3 (.int .i64 0) (.int .i64 0)
      have b4 := t4.same b3 (by omega)
      have tw4 : Turn (fun j => j = SB) w _ := tw3.trans t4 (fun j hj => .inr (by omega))
      generalize (w3.setCell ⟨w.heap.size, 0, none⟩ (.int .i64 0)).setCell ⟨w.heap.size, 1, none⟩ (.int .i64 0) = W3 at *
      have z0 := cell_obj k4 0
      have z1 := cell_obj k4 1
      refine bodyPost_ret (v := .tuple #[.agg #[.int .i64 0, .int .i64 0], .int .i64 12]) (by simp [results, Tryz.results68, z0, z1, go_sem]) rfl ?_
      rw [unhide HeG2]
      exact ⟨rfl, tw4, _, b4, fun h => by cases h⟩
  · have hne : (readC S (nameS f) != 0) = true := by simpa using hc
    have eG : readG S f = (readC S (nameS f), [], 0, 0) := by unfold readG; rw [if_pos hc]
    have HeG := hide eG
    clear eG hRb ho hv0
    generalize readC S (nameS f) = rc at *
    generalize (readD S (nameS f)).length = zl at *
    go_wp2
    obtain ⟨k3, t3⟩ := pair_set k2 (.int .i64 0) (.int .i64 0)
    have b3 := t3.same b2 (by omega)
    have tw3 : Turn (fun j => j = SB) w _ := tw2.trans t3 (fun j hj => .inr (by omega))
    generalize (w2.setCell ⟨w.heap.size, 0, none⟩ (.int .i64 0)).setCell ⟨w.heap.size, 1, none⟩ (.int .i64 0) = W3 at *
    have z0 := cell_obj k3 0
    have z1 := cell_obj k3 1
    refine bodyPost_ret (v := .tuple #[.agg #[.int .i64 0, .int .i64 0], .int .i64 rc]) (by simp [results, Tryz.results68, z0, z1, go_sem]) rfl ?_
    rw [unhide HeG]
    exact ⟨rfl, tw3, _, b3, fun h => by subst h; simp at hne⟩
end Go.Proofs.YthikiahhochjmaaGreatDoor
