/- The reference's Names. -/
import Derived.Test.YthpfdgjpmooclaaRSmall
namespace Go.Proofs.Ythpfdgjpmooclaa
open Go.RowKit Go.Maps
set_option linter.unusedVariables false
set_option linter.unusedSimpArgs false

set_option maxRecDepth 100000 in
set_option maxHeartbeats 2000000 in
theorem rNames_walk (w : World) (R : Nat) (F : Nat → Prop) (S : Dk) (h : RAt w R F S) :
    Calls Try.prog 20 #[.pointer (some ⟨R, 0, none⟩)] w fun e w' => ∃ v, e = .returned (.tuple #[v, .int .i64 (namesC S)]) ∧ OwnSl w' 9 1 v (namesL S).length ((namesL S).map encStr) ∧ (∀ j, v.ownBlock = some j → w.heap.size ≤ j) ∧ Turn (fun _ => False) w w' := by
  obtain ⟨lv, E, m, hF⟩ := h
  have c3 : w.cell? ⟨R, 3, none⟩ = some (.bool S.down) := cell_obj m.obj 3
  cases hd : S.down
  · rw [hd] at c3
    have e1 : namesL S = E.map Ent.n := by unfold namesL; rw [hd, m.fs, List.map_map]; rfl
    have e2 : namesC S = 0 := by unfold namesC; rw [hd]; rfl
    rw [e1, e2, List.length_map]
    obtain ⟨i0, hi, hz0, hz1, hz2⟩ := info_parts info_str
    have hcnt := m.count
    obtain ⟨pl, cl, hlv⟩ := m.row.form
    subst hlv
    have hatk : ∀ wr, Turn (fun j => w.heap.size ≤ j) w wr → ∀ k (h : k < E.length), ∃ g off, ∃ a : ByteArray, pl = some ⟨g, off, none⟩ ∧ wr.cell? ⟨g, off + k * 3, none⟩ = some (.string a) ∧ Value.string a = encStr E[k].n := fun wr tr k h => by
      have mr := m.turn tr (fun j hj (q : w.heap.size ≤ j) => by have := m.lt j hj; omega)
      obtain ⟨X', e, Y', hE', hX', he⟩ := split_at h
      subst hX'
      rw [hE'] at mr
      obtain ⟨g, off, cap, hlv, q0, _⟩ := mr.at
      simp only [Value.slice.injEq] at hlv
      rw [← he]
      exact ⟨g, off, _, hlv.1, q0, rfl⟩
    have Hatk := hide hatk
    have hcR : ∀ wr, Turn (fun j => w.heap.size ≤ j) w wr → wr.cell? ⟨R, 1, none⟩ = some (.slice pl E.length cl) := fun wr tr => tr.cell (cell_obj m.obj 1) (fun q : w.heap.size ≤ R => by have := m.lt R (.inl rfl); omega)
    have HcR := hide hcR
    clear m e1 e2 hd hatk hcR
    go_enter Try.func20, Try.ntmps20
    go_wp2
    go_loopw [4, 5] (fun v i wr => ∃ k : Nat, k ≤ E.length ∧ i = .int .i64 k ∧ OwnSl wr 9 1 v k (((E.take k).map Ent.n).map encStr) ∧ (∀ j, v.ownBlock = some j → w.heap.size ≤ j) ∧ Turn (fun j => w.heap.size ≤ j) w wr) (fun _ i _ => E.length - (intOf i).toNat)
    case atStart => exact ⟨0, Nat.zero_le _, rfl, ⟨rfl, .inl ⟨rfl, rfl⟩⟩, fun j hj => by simp [Value.ownBlock] at hj, Turn.refl _ _⟩
    case round =>
      obtain ⟨k, hk, rfl, own, bl, tr⟩ := hrel
      have cR := unhide HcR wr tr
      by_cases hlt : k < E.length
      · obtain ⟨g, off, a, rfl, q0, hae⟩ := unhide Hatk wr tr k hlt
        have tA : Turn (fun _ => False) wr (wr.alloc (.cells #[.string a] 9)) := (Turn.refl _ wr).alloc _
        have srcA : Src 1 (wr.alloc (.cells #[.string a] 9)) (.slice (some ⟨wr.heap.size, 0, none⟩) 1 1) 1 [.string a] :=
          ⟨rfl, .inr ⟨_, _, rfl, by omega, one_new _ _ _⟩⟩
        obtain ⟨v', w', hrun, o', t', l'⟩ := append_src (P := Try.prog) (ty := 42) Try.underlying42 hi hz0 hz1 hz2 rfl (by omega) (own.turn tA (fun _ _ => id)) srcA (by simp [Value.oneCell']) (by unfold maxLen; omega) (by omega)
        have htk : ((E.take k).map Ent.n).map encStr ++ [.string a] = ((E.take (k + 1)).map Ent.n).map encStr := by rw [List.take_succ_eq_append_getElem hlt, List.map_append, List.map_append, hae]; rfl
        rw [htk] at o'
        have tr' : Turn (fun j => w.heap.size ≤ j) w w' := (tr.then (tA.mono (fun _ h => h.elim))).then (t'.mono (fun j hj => bl j hj))
        have bl' : ∀ j, v'.ownBlock = some j → w.heap.size ≤ j := fun j hj => by
          rcases l' j hj with h | h
          · exact bl j h
          · have := tr.size; have := tA.size; omega
        obtain ⟨vp, vc, hvf⟩ := own.form
        obtain ⟨pv', cv', hv'⟩ := o'.form
        clear srcA htk t' l' hae
        subst hvf hv'
        go_wp2_with (at_builtin; refine list_append_run rfl _ _ 42 rfl _ _ _ _ rfl rfl hrun ?_)
        exact ⟨⟨k + 1, by omega, by go_num, o', bl', tr'⟩, by simp [intOf]; omega⟩
      · obtain rfl : k = E.length := by omega
        rw [List.take_length] at own
        go_wp2
        go_ret2
        exact ⟨_, rfl, own, bl, tr.fresh (Nat.le_refl _)⟩
  · rw [hd] at c3
    have e1 : namesL S = [] := by unfold namesL; rw [hd]; rfl
    have e2 : namesC S = 3 := by unfold namesC; rw [hd]; rfl
    rw [e1, e2]
    clear m e1 e2 hd
    go_enter Try.func20, Try.ntmps20
    go_wp2
    go_ret2
    exact ⟨_, rfl, ⟨rfl, .inl ⟨rfl, rfl⟩⟩, fun j hj => by simp [Value.ownBlock] at hj, Turn.refl _ _⟩
end Go.Proofs.Ythpfdgjpmooclaa
