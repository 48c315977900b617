/- The law's own list: drop. -/
import Derived.Test.YtffchlpefhldhaaMAt
namespace Go.Proofs.Ytffchlpefhldhaa
open Go.RowKit Go.Maps
set_option linter.unusedVariables false

set_option maxHeartbeats 2000000 in
theorem ldrop_some (w : World) (g off cap : Nat) (L : List Ent) (node : Int) (hl : L.length ≤ 100000) (hc : ∀ i e, L[i]? = some e → w.cell? ⟨g, off + i * 3, none⟩ = some (.int .i32 e.1) ∧ w.cell? ⟨g, off + i * 3 + 1, none⟩ = some (.int .i32 e.2.1) ∧ w.cell? ⟨g, off + i * 3 + 2, none⟩ = some (.int .i64 e.2.2)) :
    Calls Try.prog 11 #[.slice (some ⟨g, off, none⟩) L.length cap, .int .i32 node] w fun e w' => ∃ v, e = .returned (.tuple #[v, .int .i64 (((L.length : Nat) : Int) - ((dropL L node).length : Nat))]) ∧ Turn (fun _ => False) w w' ∧ OwnSl w' 36 3 v (dropL L node).length (ccells (dropL L node)) ∧ ∀ j, v.ownBlock = some j → w.heap.size ≤ j := by
  obtain ⟨i0, hi, hz0, hz1, hz2⟩ := info_parts info_cell
  go_enter Try.func11, Try.ntmps11
  go_wp2_with fail
  go_loopw [6, 7] (fun o i wr => ∃ z n : Nat, z ≤ L.length ∧ n ≤ z ∧ i = .int .i64 z ∧ Turn (fun _ => False) w wr ∧ (o = .slice none 0 0 ∨ ∃ g' off' cap', o = .slice (some ⟨g', off', none⟩) n cap') ∧ OwnSl wr 36 3 o n (ccells (dropL (L.take z) node)) ∧ Hid ((dropL (L.take z) node).length = n) ∧ ∀ j, o.ownBlock = some j → w.heap.size ≤ j) (fun _ i _ => L.length - (intOf i).toNat)
  case atStart => exact ⟨0, 0, Nat.zero_le _, Nat.le_refl _, rfl, Turn.refl _ _, .inl rfl, ⟨rfl, .inl ⟨rfl, rfl⟩⟩, hide rfl, fun j hj => by simp [Value.ownBlock] at hj⟩
  case round =>
    obtain ⟨z, n, hz, hnz, rfl, tt, hsh, ho, hn, hb⟩ := hrel
    by_cases hlt : z < L.length
    · obtain ⟨⟨a, b, d⟩, hL⟩ : ∃ e, L[z]? = some e := ⟨_, List.getElem?_eq_getElem hlt⟩
      obtain ⟨z0, z1, z2⟩ := hc _ _ hL
      have z0 := tt.cell z0 id
      have z1 := tt.cell z1 id
      have z2 := tt.cell z2 id
      simp only at z0 z1 z2
      have hkt := kept_take (node := node) hL
      have HL := hide hL
      clear hL
      cases hk : keep node (a, b, d)
      · rw [hk] at hkt
        have hkt' : dropL (L.take (z + 1)) node = dropL (L.take z) node := by unfold dropL; rw [hkt]; simp
        have Hkt := hide hkt'
        clear hkt hkt'
        have two : a = node ∨ (¬ a = node ∧ b = node) := by
          simp [keep] at hk
          by_cases e : a = node
          · exact .inl e
          · exact .inr ⟨e, hk e⟩
        clear hk
        rcases two with h1 | ⟨h1, h2⟩
        · have e1 : (a != node) = false := by simp [h1]
          clear h1
          go_wp2_with fail
          exact ⟨⟨z + 1, n, by omega, by omega, by go_num, tt, hsh, by rw [unhide Hkt]; exact ho, hide (by rw [unhide Hkt]; exact unhide hn), hb⟩, by simp [intOf]; omega⟩
        · have e1 : (a != node) = true := by simp [h1]
          have e2 : (b != node) = false := by simp [h2]
          clear h1 h2
          go_wp2_with fail
          exact ⟨⟨z + 1, n, by omega, by omega, by go_num, tt, hsh, by rw [unhide Hkt]; exact ho, hide (by rw [unhide Hkt]; exact unhide hn), hb⟩, by simp [intOf]; omega⟩
      · rw [hk] at hkt
        have hkt' : dropL (L.take (z + 1)) node = dropL (L.take z) node ++ [(a, b, d)] := by unfold dropL; rw [hkt]; simp
        have Hkt := hide hkt'
        have e1 : (a != node) = true := by simp [keep] at hk; simp [hk.1]
        have e2 : (b != node) = true := by simp [keep] at hk; simp [hk.2]
        clear hkt hkt' hk
        have tA : Turn (fun _ => False) wr (wr.alloc (.cells #[.int .i32 a, .int .i32 b, .int .i64 d] 36)) := (Turn.refl _ wr).alloc _
        have kA : (wr.alloc (.cells #[.int .i32 a, .int .i32 b, .int .i64 d] 36)).heap[wr.heap.size]? = some (.cells #[.int .i32 a, .int .i32 b, .int .i64 d] 36 (0, 0)) := heap_alloc_new wr _
        have oA := ho.turn tA (fun _ _ => id)
        obtain ⟨g', off', cap', w7, hrun, q7, g7, hloc⟩ := run_append_sl (P := Try.prog) (w := wr.alloc (.cells #[.int .i32 a, .int .i32 b, .int .i64 d] 36)) (t := 28) (ty := 28) Try.underlying28 hi hz0 hz1 hz2 rfl (by decide) oA ⟨wr.heap.size, 0, none⟩ 1 1 [.int .i32 a, .int .i32 b, .int .i64 d] rfl
          (fun j u hu => by rw [Addr.add_lit, Nat.zero_add]; exact (cell_obj kA j).trans (by simpa using hu)) (by simp [Value.oneCell']) (by unfold maxLen; omega) (by omega) (by omega)
        have hb7 : ∀ j, (Value.slice (some ⟨g', off', none⟩) (n + 1) cap').ownBlock = some j → w.heap.size ≤ j := by
          intro j hj
          cases hj
          rcases hloc with e | e
          · exact hb _ e
          · have := tt.size
            simp at e
            show w.heap.size ≤ g'
            omega
        have t7 : Turn (fun _ => False) w w7 := tt.trans ((tA.mono (fun j hj => hj.elim)).then (Turn.grown g7 (fun k e => e))) (fun j hj => .inr (hb j hj))
        go_wp2_with (at_builtin; refine list_append_run rfl (.tmp 32) (.tmp 37) 28 rfl _ _ _ _ rfl rfl hrun ?_)
        refine ⟨⟨z + 1, n + 1, by omega, by omega, by go_num, t7, .inr ⟨g', off', cap', rfl⟩, by rw [unhide Hkt, ccells_append]; exact q7, hide (by rw [unhide Hkt, List.length_append, unhide hn]; rfl), hb7⟩, by simp [intOf]; omega⟩
    · have hzl : z = L.length := by omega
      have hfin : dropL (L.take z) node = dropL L node := by rw [hzl, List.take_length]
      rw [hfin] at ho hn
      have hn' := unhide hn
      subst hn'
      clear hfin hn hzl
      rcases hsh with rfl | ⟨g', off', cap', rfl⟩
      · have h0 : (dropL L node).length = 0 := by
          rcases ho.2 with ⟨_, h0⟩ | ⟨_, _, _, _, h1, _⟩
          · exact h0
          · simp at h1
        have H0 := hide h0
        clear h0
        go_wp2_with fail
        go_ret2
        refine ⟨.slice none 0 0, ?_, tt, ho, hb⟩
        rw [unhide H0]
        simp
      · have hle := dropL_le L node
        go_wp2_with fail
        go_ret2
        exact ⟨_, rfl, tt, ho, hb⟩

set_option maxHeartbeats 400000 in
theorem ldrop_none (w : World) (la : Option Addr) (c : Nat) (node : Int) :
    Calls Try.prog 11 #[.slice la 0 c, .int .i32 node] w fun e w' => e = .returned (.tuple #[.slice none 0 0, .int .i64 0]) ∧ w' = w := by
  go_enter Try.func11, Try.ntmps11
  go_wp2_with fail
  refine wp_loop_rounds 1 ?_; rw [rounds_succ]
  go_wp2_with fail
  go_ret2
  exact ⟨rfl, rfl⟩
theorem ldrop_any (w : World) (v : Value) (L : List Ent) (node : Int) (hl : L.length ≤ 100000) (h : CRow w v L) :
    Calls Try.prog 11 #[v, .int .i32 node] w fun e w' => ∃ v', e = .returned (.tuple #[v', .int .i64 (((L.length : Nat) : Int) - ((dropL L node).length : Nat))]) ∧ Turn (fun _ => False) w w' ∧ OwnSl w' 36 3 v' (dropL L node).length (ccells (dropL L node)) ∧ ∀ j, v'.ownBlock = some j → w.heap.size ≤ j := by
  rcases h with ⟨rfl, la, c, rfl⟩ | ⟨g, off, cap, rfl, hc⟩
  · refine (ldrop_none w la c node).mono ?_
    rintro e w' ⟨rfl, hw⟩
    rw [hw]
    exact ⟨_, rfl, Turn.refl _ _, ⟨rfl, .inl ⟨rfl, rfl⟩⟩, fun j hj => by simp [Value.ownBlock] at hj⟩
  · exact ldrop_some w g off cap L node hl hc
end Go.Proofs.Ytffchlpefhldhaa
