/- turn, fallen: what a fall leaves of one file. -/
import Derived.Test.YthikiahhochjmaaGreatDoorPack7
import Derived.Laws.CopyOwn
namespace Go.Proofs.YthikiahhochjmaaGreatDoor
open Go.RowKit Go.Maps
set_option linter.unusedVariables false
set_option linter.unusedSimpArgs false

set_option maxHeartbeats 400000 in
theorem turn_walk (Bk : Nat → Prop) (w : World) (kv : Value) (ks : List Int) (k : Nat) (hr : Row .i64 Bk w kv ks) (hk : k ≤ 1000) :
    Calls Tryz.prog 55 #[kv, .int .i64 (k : Int)] w fun e w' => e = .returned (.int .i64 (turnK ks k)) ∧ w' = w := by
  have hl := hr.len
  unfold maxLen at hl
  obtain ⟨a, c, rfl⟩ := hr.slice
  by_cases h0 : ks.length = 0
  · have e : turnK ks k = 0 := by unfold turnK; rw [if_pos h0]
    rw [e, h0]
    clear e hr hl h0
    go_enter Tryz.func55, Tryz.ntmps55
    go_wp2
    go_ret
    exact ⟨rfl, rfl⟩
  · have e : turnK ks k = ks.getD (k % ks.length) 0 := by unfold turnK; rw [if_neg h0]
    rw [e]
    have hlt : k % ks.length < ks.length := Nat.mod_lt _ (by omega)
    obtain ⟨b, off, ha, hc⟩ : ∃ b off, a = some ⟨b, off, none⟩ ∧ Cells .i64 w b off ks := by
      rcases hr with ⟨_, _, _, _, _, rfl⟩ | ⟨b, off, c, e, _, _, h3, h4⟩
      · simp at h0
      · simp at e; exact ⟨b, off, e.1, h4⟩
    subst ha
    have hcell := hc (k % ks.length) hlt
    have hpos : 0 < ks.length := by omega
    generalize ks.getD (k % ks.length) 0 = x at *
    clear hr e hc
    generalize ks.length = n at *
    go_enter Tryz.func55, Tryz.ntmps55
    go_wp2
    go_ret
    exact ⟨rfl, rfl⟩

theorem max_zero (x : Int) (t1 t2 : Array TypeId) (t : TypeId) (u : World) : (Builtin.max_ t1 t #[.int .i64 x, .int .i64 0]).run Tryz.prog u = .ok (.int .i64 (x.toNat : Int)) u := by
  have e1 : (if (0 : Int) > x then (0 : Int) else x) = (x.toNat : Int) := by split <;> omega
  simp only [Builtin.max_, List.foldlM, Builtin.max2, pure_bind]
  rw [e1]; rfl
theorem min_two (x y : Nat) (t1 t2 : Array TypeId) (t : TypeId) (u : World) : (Builtin.min_ t1 t #[.int .i64 (x : Int), .int .i64 (y : Int)]).run Tryz.prog u = .ok (.int .i64 ((min x y : Nat) : Int)) u := by
  have e1 : (if (y : Int) < (x : Int) then (y : Int) else (x : Int)) = ((min x y : Nat) : Int) := by split <;> omega
  simp only [Builtin.min_, List.foldlM, Builtin.min2, pure_bind, e1]
  rfl

set_option maxRecDepth 100000 in
set_option maxHeartbeats 1000000 in
theorem fallen_all (w : World) (e : Ent) (x : Int) (p : Option Addr) (c : Nat) (hv : e.v = .slice p e.d.length c) (hs : e.s ≤ e.d.length) (hb : e.d.length ≤ 16777216) (hk : keepN e.fl x = e.d.length - e.s) :
    Calls Tryz.prog 54 #[.agg #[.slice p e.d.length c, .int .i64 (e.s : Int)], .int .i64 x] w fun y w' => y = .returned (.agg #[.slice p e.d.length c, .int .i64 (e.d.length : Int)]) ∧ Turn (fun _ => False) w w' := by
  have hmx := max_zero x #[3, 3] #[] 3
  have hmn := min_two x.toNat (e.d.length - e.s) #[3, 3] #[] 3
  have e1 : min x.toNat (e.d.length - e.s) = e.d.length - e.s := hk
  rw [e1] at hmn
  rw [show ((e.d.length - e.s : Nat) : Int) = (e.d.length : Int) - (e.s : Int) by omega] at hmn
  have hs' : (e.s : Int) ≤ (e.d.length : Int) := by omega
  have hb' : (e.d.length : Int) ≤ 16777216 := by omega
  clear e1 hk hv hs hb
  generalize x.toNat = X at *
  generalize e.d.length = n at *
  generalize e.s = z at *
  go_enter Tryz.func54, Tryz.ntmps54
  go_wp2
  exact bodyPost_ret (v := .agg #[.slice p n c, .int .i64 (n : Int)]) (by simp [results, Tryz.results54, go_sem]) rfl ⟨rfl, ((Turn.refl _ w).alloc _).alloc _⟩

set_option maxRecDepth 100000 in
set_option maxHeartbeats 1000000 in
theorem fallen_some (w : World) (e : Ent) (x : Int) (p : Option Addr) (c : Nat) (hv : e.v = .slice p e.d.length c) (hs : e.s ≤ e.d.length) (hb : e.d.length ≤ 16777216) (hk : keepN e.fl x ≠ e.d.length - e.s)
    (ho : OwnSl w 5 1 (.slice p e.d.length c) e.d.length (e.d.map (Value.int .u8))) :
    Calls Tryz.prog 54 #[.agg #[.slice p e.d.length c, .int .i64 (e.s : Int)], .int .i64 x] w fun y w' => ∃ p' c', y = .returned (.agg #[.slice p' (endN e.fl x) c', .int .i64 (endN e.fl x : Nat)]) ∧
      OwnSl w' 5 1 (.slice p' (endN e.fl x) c') (endN e.fl x) ((fallD e.fl x).map (Value.int .u8)) ∧ (∀ j, (Value.slice p' (endN e.fl x) c').ownBlock = some j → w.heap.size ≤ j) ∧ Turn (fun _ => False) w w' := by
  obtain ⟨i0, hi, hz0, hz1, hz2⟩ := info_u8'
  have hmx := max_zero x #[3, 3] #[] 3
  have hmn := min_two x.toNat (e.d.length - e.s) #[3, 3] #[] 3
  have e1 : min x.toNat (e.d.length - e.s) = keepN e.fl x := rfl
  have hKl := keepN_le e.fl x
  have hse := secEnd_le (e.s + keepN e.fl x)
  have eE : endN e.fl x = min (secEnd (e.s + keepN e.fl x)) e.d.length := by unfold endN; exact if_neg hk
  have eD : fallD e.fl x = e.d.take (e.s + keepN e.fl x) ++ List.replicate (endN e.fl x - (e.s + keepN e.fl x)) 0 := by unfold fallD; exact if_neg hk
  rw [eD]
  rw [eE]
  rw [e1] at hmn
  rw [show ((e.d.length - e.s : Nat) : Int) = (e.d.length : Int) - (e.s : Int) by omega] at hmn
  have hmn2 := min_two (secEnd (e.s + keepN e.fl x)) e.d.length #[3, 3] #[] 3
  have hsec : ∀ u : World, Calls Tryz.prog 70 #[.int .i64 ((e.s : Int) + (keepN e.fl x : Int))] u fun y w' => y = .returned (.int .i64 (secEnd (e.s + keepN e.fl x) : Nat)) ∧ w' = u := by
    intro u
    have h1 : keepN e.fl x ≤ e.d.length - e.s := hKl
    have := sector_walk (e.s + keepN e.fl x) u (by omega)
    rwa [show ((e.s + keepN e.fl x : Nat) : Int) = (e.s : Int) + (keepN e.fl x : Int) by omega] at this
  have hlt : e.s + keepN e.fl x < e.d.length := by have h1 : keepN e.fl x ≤ e.d.length - e.s := hKl; omega
  have hrow := row_of_sl ho
  obtain ⟨x', hsl, hrx⟩ := cut_to (ki := .i64) Tryz.underlying33 hi hz1 hrow (e.s + keepN e.fl x) (by omega)
  rw [show ((e.s + keepN e.fl x : Nat) : Int) = (e.s : Int) + (keepN e.fl x : Int) by omega] at hsl
  have hne : ((keepN e.fl x : Int) == (e.d.length : Int) - (e.s : Int)) = false := by
    rw [beq_eq_false_iff_ne]
    have h1 : ¬ keepN e.fl x = e.d.length - e.s := hk
    omega
  clear e1 hk hv hKl eE eD hrow ho
  generalize x.toNat = X at *
  generalize keepN e.fl x = K at *
  generalize hST : e.s + K = ST at *
  have hM1 : ST ≤ min (secEnd ST) e.d.length := by omega
  have hM2 : min (secEnd ST) e.d.length ≤ e.d.length := by omega
  generalize min (secEnd ST) e.d.length = M at *
  generalize hSE : secEnd ST = SE at *
  have hlx : (e.d.take ST).length = ST := by simp; omega
  generalize hX : e.d.take ST = xs at *
  have hb' : (e.d.length : Int) ≤ 16777216 := by omega
  have hs' : (e.s : Int) + (K : Int) < (e.d.length : Int) := by omega
  have HST := hide hST
  have Hlx := hide hlx
  clear hX hSE hse hST hlx
  generalize e.d.length = n at *
  generalize e.s = z at *
  go_enter Tryz.func54, Tryz.ntmps54
  go_wp2
  go_quiet ((go_at_call 70; exact Calls.quiet_of_same (hsec _)))
  have hmk : ∀ u : World, (Instr.makeSlice 33 (.int .i64 (M : Int)) (.int .i64 (M : Int))).run Tryz.prog u = .ok (.slice (some ⟨u.heap.size, 0, none⟩) M M) (u.alloc (.cells (List.replicate M (Value.int .u8 0)).toArray 5)) := by
    intro u
    have := run_make (P := Tryz.prog) u 33 5 i0 _ Tryz.underlying33 hi hz0 .i64 .i64 (M : Int) (M : Int) (by omega) (by omega) (by rw [hz2]; omega) (by omega)
    rw [hz1] at this
    rw [show (Value.int .u8 0).cells = #[Value.int .u8 0] from rfl] at this
    rw [← toList_madeCells_one]
    simpa using this
  obtain ⟨a2, c2, hx2⟩ := hrx.slice
  subst hx2
  generalize hZ : List.replicate M (Value.int .u8 0) = Z at *
  have HZ := hide hZ
  clear hZ
  obtain ⟨cs, hcs⟩ : ∃ cs, cs = xs.map (Value.int .u8) := ⟨_, rfl⟩
  have Hcs := hide hcs
  clear hcs
  have hsz1 : (Tryz.prog.info? 5).map (·.size) = some 1 := by rw [hi]; simp [hz1]
  have tW : Turn (fun _ => False) w (((w.alloc (.cells #[.slice p n c, .int .i64 (z : Int)] 84)).alloc (.cells #[.slice none 0 0, .int .i64 0] 84)).drewN nq) := (((Turn.refl _ w).alloc _).alloc _).drewN nq
  have k0 : (((w.alloc (.cells #[.slice p n c, .int .i64 (z : Int)] 84)).alloc (.cells #[.slice none 0 0, .int .i64 0] 84)).drewN nq).heap[w.heap.size]? = some (.cells #[.slice p n c, .int .i64 (z : Int)] 84 (0, 0)) :=
    (Turn.drewN ((Turn.refl (fun _ => False) _).alloc (.cells #[.slice none 0 0, .int .i64 0] 84)) nq).same (heap_alloc_new w _) id
  have k1 : (((w.alloc (.cells #[.slice p n c, .int .i64 (z : Int)] 84)).alloc (.cells #[.slice none 0 0, .int .i64 0] 84)).drewN nq).heap[w.heap.size + 1]? = some (.cells #[.slice none 0 0, .int .i64 0] 84 (0, 0)) := by
    have h1 := heap_alloc_new (w.alloc (.cells #[.slice p n c, .int .i64 (z : Int)] 84)) (.cells #[.slice none 0 0, .int .i64 0] 84)
    rw [show (w.alloc (.cells #[.slice p n c, .int .i64 (z : Int)] 84)).heap.size = w.heap.size + 1 by simp] at h1
    exact (Turn.drewN (Turn.refl (fun _ => False) _) nq).same h1 id
  have sW : (((w.alloc (.cells #[.slice p n c, .int .i64 (z : Int)] 84)).alloc (.cells #[.slice none 0 0, .int .i64 0] 84)).drewN nq).heap.size = w.heap.size + 2 := by simp
  generalize ((w.alloc (.cells #[.slice p n c, .int .i64 (z : Int)] 84)).alloc (.cells #[.slice none 0 0, .int .i64 0] 84)).drewN nq = W at *
  have Hs := hide sW
  clear sW
  have tV : Turn (fun _ => False) W (W.alloc (.cells Z.toArray 5)) := (Turn.refl _ W).alloc _
  have kV := heap_alloc_new W (.cells Z.toArray 5)
  have hrV := (hrx.turn tW (fun _ _ => id)).turn tV (fun _ _ => id)
  have hlZ : Z.length = M := by rw [← unhide HZ]; simp
  have hlc : cs.length = xs.length := by rw [unhide Hcs]; simp
  have HlZ := hide hlZ
  have Hlc := hide hlc
  have c0 : (W.alloc (.cells Z.toArray 5)).cell? ⟨w.heap.size, 0, none⟩ = some (.slice p n c) := cell_obj (tV.same k0 id) 0
  have hbV : Below W.heap.size (W.alloc (.cells Z.toArray 5)) (W.alloc (.cells Z.toArray 5)) := Below.refl _ _
  clear hlZ hlc hrx
  have hpos : 0 < cs.length → some (⟨W.heap.size, 0, none⟩ : Addr) = some ⟨W.heap.size, 0, none⟩ ∧ ∃ ad, a2 = some ad ∧ ∀ j v, cs[j]? = some v → (W.alloc (.cells Z.toArray 5)).cell? (ad.add j) = some v := by
    intro h0
    rw [unhide Hlc] at h0
    refine ⟨rfl, ?_⟩
    rcases hrV with ⟨_, _, _, _, _, h⟩ | ⟨b, off, c, he, _, _, _, h4⟩
    · rw [h] at h0; simp at h0
    · simp at he
      refine ⟨_, he.1, fun j v hj => ?_⟩
      rw [unhide Hcs] at hj
      obtain ⟨h5, rfl⟩ := getD_map hj
      rw [Addr.add_lit]
      exact h4 j h5
  have hSTM : xs.length ≤ M := by rw [unhide Hlx]; exact hM1
  have hres : ∀ w2 : World, Below W.heap.size (W.alloc (.cells Z.toArray 5)) w2 → w2.heap[w.heap.size + 1]? = some (.cells #[.slice none 0 0, .int .i64 0] 84 (0, 0)) := fun w2 hb2 =>
    (hb2.block (w.heap.size + 1) (by have := unhide Hs; omega)).trans (tV.same k1 id)
  go_wp2_with (first | (refine wpList_copy_splice rfl _ _ 33 33 rfl 5 Tryz.underlying33 hsz1 _ a2 M M xs.length c2 rfl rfl W.heap.size 0 Z 5 kV cs (by rw [unhide Hlc]; exact (Nat.min_eq_left hSTM).symm) hpos (by rw [unhide Hlc, unhide HlZ]; omega) (by rw [unhide Hcs]; exact ints_oneCell _ _) W.heap.size (W.alloc (.cells Z.toArray 5)) hbV (Nat.le_refl _) ?_; intro w2 HG2 hB2; have r2 := hres w2 hB2; have r20 : w2.cell? ⟨w.heap.size + 1, 0, none⟩ = some (.slice none 0 0) := cell_obj r2 0; have r21 : w2.cell? ⟨w.heap.size + 1, 1, none⟩ = some (.int .i64 0) := cell_obj r2 1; have f20 := frozen_obj r2 0; have f21 := frozen_obj r2 1))
  have hsp : splice Z 0 cs = (xs ++ List.replicate (M - ST) 0).map (Value.int .u8) := by
    unfold splice
    rw [unhide Hcs, ← unhide HZ]
    simp [unhide Hlx]
  have HG := unhide HG2
  rw [hsp] at HG
  have r3 := heap_setCell_obj (j := 0) r2 (.slice (some ⟨W.heap.size, 0, none⟩) M M)
  have t3 : Turn (fun j => j = w.heap.size + 1) w2 ((w2.setCell ⟨w.heap.size + 1, 0, none⟩ (.slice (some ⟨W.heap.size, 0, none⟩) M M)).setCell ⟨w.heap.size + 1, 1, none⟩ (.int .i64 (M : Int))) :=
    ((Turn.refl (fun j => j = w.heap.size + 1) w2).setCell (p := ⟨w.heap.size + 1, 0, none⟩) (.inl rfl) _).setCell (p := ⟨w.heap.size + 1, 1, none⟩) (.inl rfl) _
  have hs2 := unhide Hs
  have t2 : Turn (fun _ => False) w w2 := by
    have a1 : Turn (fun j => W.heap.size ≤ j) (W.alloc (.cells Z.toArray 5)) w2 := ⟨hB2.os, hB2.tape, hB2.output, hB2.size, fun k hk hn => hB2.block k (by omega)⟩
    exact (tW.then tV).trans a1 (fun j hj => .inr (by omega))
  have tF : Turn (fun _ => False) w ((w2.setCell ⟨w.heap.size + 1, 0, none⟩ (.slice (some ⟨W.heap.size, 0, none⟩) M M)).setCell ⟨w.heap.size + 1, 1, none⟩ (.int .i64 (M : Int))) := t2.trans t3 (fun j hj => .inr (by omega))
  have HG3 := t3.same HG (by omega)
  have hln : (xs ++ List.replicate (M - ST) (0 : Int)).length = M := by rw [List.length_append, List.length_replicate, unhide Hlx]; omega
  refine bodyPost_ret (v := .agg #[.slice (some ⟨W.heap.size, 0, none⟩) M M, .int .i64 (M : Int)]) (by simp [results, Tryz.results54, go_sem, r20, r21]) rfl ⟨some ⟨W.heap.size, 0, none⟩, M, rfl, ?_, ?_, tF⟩
  · refine ⟨by rw [List.length_append, List.length_map, List.length_replicate, unhide Hlx]; omega, .inr ⟨W.heap.size, 0, M, _, rfl, HG3, Nat.le_refl _, by unfold maxLen; omega, ?_, ?_⟩⟩
    · simp only [List.size_toArray, List.length_map, hln]; omega
    · simp only [List.drop_zero]
      rw [List.take_of_length_le (by simp only [List.length_map, hln]; omega)]
      simp
  · intro j hj
    simp [Value.ownBlock] at hj
    omega
end Go.Proofs.YthikiahhochjmaaGreatDoor
