/- Append and Sync of a journal. -/
import Derived.Test.YthikiahhochjmaaGreatDoorJLay
import Derived.Test.YthikiahhochjmaaGreatDoorPack2
namespace Go.Proofs.YthikiahhochjmaaGreatDoor
open Go.RowKit Go.Maps
set_option linter.unusedVariables false
set_option linter.unusedSimpArgs false

theorem refusal_jat (w : World) (H : Nat → Prop) (J D : Nat) (X : Jn) (S : Dk) (h : JAt w H J D X S) :
    Calls Tryz.prog 36 #[.pointer (some ⟨J, 0, none⟩)] w fun e w' => e = .returned (.int .i64 (if X.down then 3 else 0)) ∧ w' = w := by
  obtain ⟨F, G, sv, E, d, m, _⟩ := h
  exact refusal_j w G J D sv E X m
theorem down_jat (w : World) (H : Nat → Prop) (J D : Nat) (X : Jn) (S : Dk) (h : JAt w H J D X S) :
    Calls Tryz.prog 10 #[.pointer (some ⟨D, 0, none⟩)] w fun e w' => e = .returned (.bool S.down) ∧ w' = w := by
  obtain ⟨F, G, sv, E, d, m, _⟩ := h
  exact Down_walk w D F S d
theorem told_jat (w : World) (H : Nat → Prop) (J D : Nat) (X : Jn) (S : Dk) (x : Int) (h : JAt w H J D X S) :
    Calls Tryz.prog 38 #[.pointer (some ⟨J, 0, none⟩), .int .i64 x] w fun e w' => e = .returned (.int .i64 x) ∧ Turn H w w' ∧ JAt w' H J D { X with down := decide (x = 3) } S := by
  obtain ⟨F, G, sv, E, d, m, hn, hF, hG⟩ := h
  refine (told_j w G J D sv E X x m).mono ?_
  rintro e w' ⟨he, t, m'⟩
  have hs := t.size
  refine ⟨he, t.mono (fun j hj => by rw [hj]; exact (hG J m.home).1), F, G, sv, E, d.turn t (fun j hj _ hJ => hn j hj (by rw [hJ]; exact m.home)), m', hn, fun j hj => ⟨(hF j hj).1, by have := (hF j hj).2; omega⟩, fun j hj => ⟨(hG j hj).1, by have := (hG j hj).2; omega⟩⟩
theorem JAt.ptr {w : World} {H : Nat → Prop} {J D : Nat} {X : Jn} {S : Dk} (h : JAt w H J D X S) : w.cell? ⟨J, 0, none⟩ = some (.pointer (some ⟨D, 0, none⟩)) := by
  obtain ⟨F, G, sv, E, d, m, _⟩ := h
  exact cell_obj m.obj 0
/-- in blocks that were there -/
theorem JAt.tight {w w1 : World} {H : Nat → Prop} {J D : Nat} {X : Jn} {S : Dk} (h : JAt w H J D X S) (T : Turn (fun _ => False) w w1) : JAt w1 (fun j => H j ∧ j < w.heap.size) J D X S :=
  (h.mono (fun j hj hl => ⟨hj, hl⟩)).turn T (fun _ _ h => h)

set_option maxRecDepth 100000 in
set_option maxHeartbeats 4000000 in
theorem append_j (w : World) (H Bk : Nat → Prop) (J D : Nat) (X : Jn) (S : Dk) (v : Value) (zs : List Int) (h : JAt w H J D X S) (fit : Fit X) (hz : Bytes zs) (hr : Row .u8 Bk w v zs) (hnx : nextOf X.segs < 100) :
    Calls Tryz.prog 15 #[.pointer (some ⟨J, 0, none⟩), v] w fun e w' => e = .returned (.int .i64 (appendJ X S zs).1) ∧ Turn H w w' ∧ JAt w' (NF w H) J D (appendJ X S zs).2.1 (appendJ X S zs).2.2 := by
  have hre := refusal_jat w H J D X S h
  obtain ⟨va, vc, rfl⟩ := hr.slice
  have h1 : JAt w (NF w H) J D X S := h.mono (fun j hj _ => .inl hj)
  have hml := hr.len
  unfold maxLen at hml
  by_cases hd : X.down = true
  · have ej : appendJ X S zs = (3, X, S) := by unfold appendJ; rw [if_pos hd]
    rw [if_pos hd] at hre
    have Hej := hide ej
    clear ej hd hr h
    generalize zs.length = n at *
    go_enter Tryz.func15, Tryz.ntmps15
    go_wp2_with (go_at_call 36; refine hre.mono ?_; rintro y w1 ⟨rfl, hw⟩; have hw := hw.symm; subst hw)
    go_ret
    rw [unhide Hej]
    exact ⟨rfl, Turn.refl _ _, h1⟩
  · rw [if_neg hd] at hre
    have hpk := Pack_walk Bk _ zs w hz hr
    by_cases hbig : 1048576 < zs.length
    · have ej : appendJ X S zs = (4, X, S) := by unfold appendJ; rw [if_neg hd, if_pos hbig]
      have hC : packC zs = 4 := by unfold packC; rw [if_pos hbig]
      rw [hC] at hpk
      have Hej := hide ej
      clear ej hd hr h hC
      have h1t : ∀ w1, Turn (fun _ => False) w w1 → JAt w1 (NF w H) J D X S := fun w1 t => h1.turn t (fun _ _ h => h)
      clear h1
      generalize zs.length = n at *
      go_enter Tryz.func15, Tryz.ntmps15
      go_wp2_with (first
        | (go_at_call 36; refine hre.mono ?_; rintro y w1 ⟨rfl, hw⟩; have hw := hw.symm; subst hw)
        | (go_at_call 37; refine hpk.mono ?_; rintro y w1 ⟨x, rfl, ho, hf, t1⟩))
      go_ret
      rw [unhide Hej]
      exact ⟨rfl, t1.mono (fun _ h => h.elim), h1t w1 t1⟩
    · have ej : appendJ X S zs = toldJ (layJ X S zs) := by unfold appendJ; rw [if_neg hd, if_neg hbig]
      have hC : packC zs = 0 := by unfold packC; rw [if_neg hbig]
      have hD : packD zs = packB zs := by unfold packD; rw [if_neg hbig]
      rw [hC, hD] at hpk
      have Hej := hide ej
      clear ej hd hC hD h1
      go_enter Tryz.func15, Tryz.ntmps15
      go_wp2_with (first
        | (go_at_call 36; refine hre.mono ?_; rintro y w1 ⟨rfl, hw⟩; have hw := hw.symm; subst hw))
      refine hpk.mono ?_
      rintro y w1 ⟨x, rfl, ho, hf, t1⟩
      obtain ⟨xa, xc, rfl⟩ := ho.form
      have hr1 := hr.turn t1 (fun _ _ h => h)
      have hcl := clone_walk _ _ zs w1 hr1 (by omega)
      go_wp2_with fail
      refine hcl.mono ?_
      rintro y w2 ⟨rv, rfl, ho2, hf2, t2⟩
      have s1 := t1.size
      have s2 := t2.size
      have hp2 := row_of_sl (ho.turn t2 (fun _ _ h => h))
      have hJ2 := h.tight (t1.then t2)
      have hl := lay_j w2 _ _ J D X S _ rv zs hJ2 fit hp2 (fun j hj hh => by have := hf j hj; have := hh.2; omega) ho2 (fun j hj hh => by have := hf2 j hj; have := hh.2; omega) hnx
      obtain ⟨ra, rc, rfl⟩ := ho2.form
      clear ho hp2 hr hr1 hpk hre hcl
      go_wp2_with fail
      refine hl.mono ?_
      rintro y w3 ⟨rfl, T3, J3⟩
      have htl := told_jat w3 _ J D _ _ (layJ X S zs).1 J3
      have s3 := T3.size
      have T03 : Turn H w w3 := ((t1.then t2).mono (fun _ h => h.elim)).trans T3 (fun j hj => .inl hj.1)
      clear hl hJ2
      go_wp2_with fail
      refine htl.mono ?_
      rintro y w4 ⟨rfl, T4, J4⟩
      go_wp2
      go_ret
      rw [unhide Hej]
      have hpl : ∀ j, Plus (NF w2 (fun j => H j ∧ j < w.heap.size)) w2 (.slice ra zs.length rc) j → NF w H j := by
        rintro j (hj | hj | hj)
        · rcases hj with hj | hj
          · exact .inl hj.1
          · exact .inr (by omega)
        · exact .inr (by have := hf2 j hj; omega)
        · exact .inr (by omega)
      exact ⟨rfl, T03.trans T4 hpl, J4.mono (fun j hj _ => hpl j hj)⟩

set_option maxRecDepth 100000 in
set_option maxHeartbeats 4000000 in
theorem sync_j (w : World) (H : Nat → Prop) (J D : Nat) (X : Jn) (S : Dk) (h : JAt w H J D X S) (fit : Fit X) :
    Calls Tryz.prog 27 #[.pointer (some ⟨J, 0, none⟩)] w fun e w' => e = .returned (.int .i64 (syncJ X S).1) ∧ Turn H w w' ∧ JAt w' (NF w H) J D (syncJ X S).2.1 (syncJ X S).2.2 := by
  have hre := refusal_jat w H J D X S h
  have h1 : JAt w (NF w H) J D X S := h.mono (fun j hj _ => .inl hj)
  have c0 := h.ptr
  have hdn := down_jat w H J D X S h
  by_cases hd : X.down = true
  · have ej : syncJ X S = (3, X, S) := by unfold syncJ; rw [if_pos hd]
    rw [if_pos hd] at hre
    have Hej := hide ej
    clear ej hd h
    go_enter Tryz.func27, Tryz.ntmps27
    go_wp2_with (go_at_call 36; refine hre.mono ?_; rintro y w1 ⟨rfl, hw⟩; have hw := hw.symm; subst hw)
    go_ret
    rw [unhide Hej]
    exact ⟨rfl, Turn.refl _ _, h1⟩
  · rw [if_neg hd] at hre
    by_cases hs : S.down = true
    · have ej : syncJ X S = toldJ (3, X, S) := by unfold syncJ; rw [if_neg hd, if_pos hs]
      rw [hs] at hdn
      have htl := told_jat w H J D X S 3 h
      have Hej := hide ej
      clear ej hd h h1
      go_enter Tryz.func27, Tryz.ntmps27
      go_wp2_with (first | (go_at_call 36; refine hre.mono ?_; rintro y w1 ⟨rfl, hw⟩; have hw := hw.symm; subst hw) | (go_at_call 10; refine hdn.mono ?_; rintro y w1 ⟨rfl, hw⟩; have hw := hw.symm; subst hw) | (go_at_call 38; refine htl.mono ?_; rintro y w4 ⟨rfl, T4, J4⟩))
      go_ret
      rw [unhide Hej]
      exact ⟨rfl, T4, J4.mono (fun j hj _ => .inl hj)⟩
    · have hs' : S.down = false := by simpa using hs
      have ej : syncJ X S = toldJ (settleJ X S) := by unfold syncJ; rw [if_neg hd, if_neg hs]
      rw [hs'] at hdn
      have hset := settle_walk w H J D X S h fit
      have Hej := hide ej
      clear ej hd h h1 hs hs'
      go_enter Tryz.func27, Tryz.ntmps27
      go_wp2_with (first | (go_at_call 36; refine hre.mono ?_; rintro y w1 ⟨rfl, hw⟩; have hw := hw.symm; subst hw) | (go_at_call 10; refine hdn.mono ?_; rintro y w1 ⟨rfl, hw⟩; have hw := hw.symm; subst hw) | (go_at_call 53; refine hset.mono ?_; rintro y w3 ⟨rfl, T3, J3⟩; have htl := told_jat w3 _ J D _ _ (settleJ X S).1 J3) | (go_at_call 38; refine htl.mono ?_; rintro y w4 ⟨rfl, T4, J4⟩))
      go_ret
      rw [unhide Hej]
      exact ⟨rfl, T3.trans T4 (fun j hj => hj), J4⟩
end Go.Proofs.YthikiahhochjmaaGreatDoor
