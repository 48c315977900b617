/- The reference's smaller calls: Good, at, Used, fine, hit. -/
import Derived.Test.YthpfdgjpmooclaaRBase
namespace Go.Proofs.Ythpfdgjpmooclaa
open Go.RowKit Go.Maps
set_option linter.unusedVariables false

set_option maxHeartbeats 1000000 in
theorem rgood_walk (s : ByteArray) (w : World) (hs : s.size ≤ maxLen) : Calls Try.prog 60 #[.string s] w fun e w' => e = .returned (.bool (goodB s.data.toList)) ∧ w' = w := by
  unfold maxLen at hs
  have hl : s.data.toList.length = s.size := Array.length_toList
  by_cases h1 : 1 ≤ s.size
  · by_cases h2 : s.size ≤ 16
    · have hg := goodB_take (n := s.data.toList) (by omega) (by omega)
      have Hg := hide hg
      have Hl := hide hl
      clear hg hl
      go_enter Try.func60, Try.ntmps60
      go_wp2
      go_loop [3, 4] (fun i _ => ∃ k : Nat, k ≤ s.size ∧ i = .int .i64 k ∧ Hid (∀ j (h : j < s.size), j < k → byteB (s[j]).toNat = true)) (fun i _ => s.size - (intOf i).toNat)
      case atStart => exact ⟨0, Nat.zero_le _, rfl, hide (fun j h h' => by omega)⟩
      case round =>
        obtain ⟨k, hk, rfl, hall⟩ := hrel
        by_cases hlt : k < s.size
        · have hc : (s[k]).toNat < 256 := (s[k]).toNat_lt
          have fin : byteB (s[k]).toNat = true → Hid (∀ j (h : j < s.size), j < k + 1 → byteB (s[j]).toNat = true) := fun hb => hide (fun j h h' => by
            by_cases e : j = k
            · subst e; exact hb
            · exact unhide hall j h (by omega))
          have bad : byteB (s[k]).toNat = false → Hid (goodB s.data.toList = false) := fun hb => hide (by
            rw [unhide Hg, List.all_eq_false]
            exact ⟨s[k], by rw [← bget s k hlt]; exact List.getElem_mem _, by rw [hb]; simp⟩)
          clear hall
          by_cases a1 : 97 ≤ (s[k]).toNat ∧ (s[k]).toNat ≤ 122
          · have hf := fin (by simp [byteB, a1])
            obtain ⟨a1, a2⟩ := a1
            clear fin bad
            go_wp2
            exact ⟨⟨k + 1, by omega, by go_num, hf⟩, by simp [intOf]; omega⟩
          · by_cases b1 : 48 ≤ (s[k]).toNat ∧ (s[k]).toNat ≤ 57
            · have hf := fin (by simp [byteB, b1])
              obtain ⟨b1, b2⟩ := b1
              have a2 : ¬ 97 ≤ (s[k]).toNat := by omega
              clear fin bad a1
              go_wp2
              exact ⟨⟨k + 1, by omega, by go_num, hf⟩, by simp [intOf]; omega⟩
            · by_cases c1 : (s[k]).toNat = 46
              · have hf := fin (by simp [byteB, c1])
                clear fin bad a1 b1
                go_wp2
                exact ⟨⟨k + 1, by omega, by go_num, hf⟩, by simp [intOf]; omega⟩
              · have hf := bad (by
                  have e1 : (decide (97 ≤ (s[k]).toNat) && decide ((s[k]).toNat ≤ 122)) = false := by rw [← Bool.decide_and]; exact decide_eq_false a1
                  have e2 : (decide (48 ≤ (s[k]).toNat) && decide ((s[k]).toNat ≤ 57)) = false := by rw [← Bool.decide_and]; exact decide_eq_false b1
                  unfold byteB; rw [e1, e2, decide_eq_false c1]; rfl)
                have c2 : (((s[k]).toNat : Int) == 46) = false := by rw [beq_eq_false_iff_ne]; omega
                clear fin bad
                by_cases a2 : 97 ≤ (s[k]).toNat
                · have a3 : ¬ (s[k]).toNat ≤ 122 := by omega
                  have a4 : 48 ≤ (s[k]).toNat := by omega
                  have a5 : ¬ (s[k]).toNat ≤ 57 := by omega
                  clear a1 b1
                  go_wp2
                  all_goals first | (go_ret; exact ⟨ret_bool (unhide hf).symm, rfl⟩) | (rename_i h; exfalso; simp at h; omega)
                · by_cases a4 : 48 ≤ (s[k]).toNat
                  · have a5 : ¬ (s[k]).toNat ≤ 57 := by omega
                    clear a1 b1
                    go_wp2
                    all_goals first | (go_ret; exact ⟨ret_bool (unhide hf).symm, rfl⟩) | (rename_i h; exfalso; simp at h; omega)
                  · clear a1 b1
                    go_wp2
                    go_ret
                    exact ⟨ret_bool (unhide hf).symm, rfl⟩
        · have Hn : Hid (goodB s.data.toList = true) := by
            refine hide ?_
            rw [unhide Hg, List.all_eq_true]
            intro x hx
            obtain ⟨j, hj, rfl⟩ := List.getElem_of_mem hx
            have hj' : j < s.size := by rw [← unhide Hl]; exact hj
            rw [bget s j hj']
            exact unhide hall j hj' (by omega)
          go_wp2
          go_ret
          exact ⟨ret_bool (unhide Hn).symm, rfl⟩
    · have Hn : Hid (goodB s.data.toList = false) := hide (by simp [goodB, hl, h2])
      clear hl
      go_enter Try.func60, Try.ntmps60
      go_wp2
      go_ret
      exact ⟨ret_bool (unhide Hn).symm, rfl⟩
  · have Hn : Hid (goodB s.data.toList = false) := hide (by simp only [goodB, hl, h1]; simp)
    clear hl
    go_enter Try.func60, Try.ntmps60
    go_wp2
    go_ret
    exact ⟨ret_bool (unhide Hn).symm, rfl⟩

/-- names alike, as the walk asks it -/
theorem str_eq (a s : ByteArray) (n : Nm) (ha : a.data.toList = n) : (a.toList == s.toList) = decide (n = s.data.toList) := by
  rw [ByteArray.toList_eq, ByteArray.toList_eq, ha, Bool.eq_iff_iff, decide_eq_true_iff]
  exact beq_iff_eq

set_option maxHeartbeats 1000000 in
theorem at_walk (w : World) (R : Nat) (lv : Value) (E : List Ent) (S : Dk) (s : ByteArray) (k0 : Nat) (r : Int) (m : RMem w R lv E S) (hle : k0 ≤ E.length) (hne : ∀ k (h : k < E.length), k < k0 → E[k].n ≠ s.data.toList) (heq : ∀ h : k0 < E.length, E[k0].n = s.data.toList) (hr : r = if k0 < E.length then (k0 : Int) else -1) :
    Calls Try.prog 52 #[.pointer (some ⟨R, 0, none⟩), .string s] w fun e w' => e = .returned (.int .i64 r) ∧ w' = w := by
  have hcnt := m.count
  have c1 : w.cell? ⟨R, 1, none⟩ = some lv := cell_obj m.obj 1
  obtain ⟨p, c, hv⟩ := m.row.form
  have Hne := hide hne
  have Heq := hide heq
  have Hr := hide hr
  have Hm := hide m
  have hat : ∀ k (h : k < E.length), ∃ g off, ∃ a : ByteArray, p = some ⟨g, off, none⟩ ∧ w.cell? ⟨g, off + k * 3, none⟩ = some (.string a) ∧ a.data.toList = E[k].n := fun k h => by
    obtain ⟨X, e, Y, hE, hX, he⟩ := split_at h
    subst hX
    have m' := m
    rw [hE] at m'
    obtain ⟨g, off, cap, hlv, q1, _⟩ := m'.at
    rw [hv] at hlv
    simp only [Value.slice.injEq] at hlv
    refine ⟨g, off, _, hlv.1, q1, ?_⟩
    rw [← he]
  have Hat := hide hat
  subst hv
  clear hne heq m hat hr
  go_enter Try.func52, Try.ntmps52
  go_wp2
  go_loop [5] (fun i => ∃ k : Nat, k ≤ k0 ∧ i = .int .i64 k) (fun i => E.length - (intOf i).toNat)
  case atStart => exact ⟨0, Nat.zero_le _, rfl⟩
  case round =>
    obtain ⟨k, hk, rfl⟩ := hrel
    by_cases hlt : k < E.length
    · obtain ⟨g, off, a, rfl, hc, ha⟩ := unhide Hat k hlt
      have hcmp := str_eq a s _ ha
      by_cases hk0 : k < k0
      · rw [decide_eq_false (unhide Hne k hlt hk0)] at hcmp
        clear ha
        go_wp2
        exact ⟨⟨k + 1, by omega, by go_num⟩, by simp [intOf]; omega⟩
      · obtain rfl : k = k0 := by omega
        rw [decide_eq_true (unhide Heq hlt)] at hcmp
        clear ha
        go_wp2
        go_ret
        exact ⟨ret_int (by rw [unhide Hr, if_pos hlt]), rfl⟩
    · go_wp2
      go_ret
      exact ⟨ret_int (by rw [unhide Hr, if_neg (by omega)]), rfl⟩

theorem eused_take (E : List Ent) {k : Nat} (h : k < E.length) : eused (E.take (k + 1)) = eused (E.take k) + E[k].d.length := by
  rw [List.take_succ_eq_append_getElem h]
  unfold eused; rw [List.map_append, used_append]; simp [used, Ent.fl]
set_option maxHeartbeats 1000000 in
theorem rused_walk (w : World) (R : Nat) (lv : Value) (E : List Ent) (S : Dk) (m : RMem w R lv E S) :
    Calls Try.prog 16 #[.pointer (some ⟨R, 0, none⟩)] w fun e w' => e = .returned (.int .i64 (used S.fs : Nat)) ∧ w' = w := by
  have hcnt := m.count
  have c1 : w.cell? ⟨R, 1, none⟩ = some lv := cell_obj m.obj 1
  obtain ⟨p, c, hv⟩ := m.row.form
  have hat : ∀ k (h : k < E.length), ∃ g off p' c', p = some ⟨g, off, none⟩ ∧ w.cell? ⟨g, off + k * 3 + 1, none⟩ = some (.slice p' E[k].d.length c') := fun k h => by
    obtain ⟨X, e, Y, hE, hX, he⟩ := split_at h
    subst hX
    have m' := m
    rw [hE] at m'
    obtain ⟨g, off, cap, hlv, _, q1, _⟩ := m'.at
    obtain ⟨p', c', hf⟩ := m'.form (e := e) (by simp)
    rw [hv] at hlv
    simp only [Value.slice.injEq] at hlv
    refine ⟨g, off, p', c', hlv.1, ?_⟩
    rw [← he, ← hf]; exact q1
  have Hat := hide hat
  have hu : eused E = used S.fs := by rw [m.fs]; rfl
  have hroom := m.well.room
  have hsize := m.well.size
  rw [← hu] at hroom ⊢
  have hbd : ∀ k (h : k < E.length), E[k].d.length ≤ 16777216 := fun k h => m.bound (List.getElem_mem h)
  have Hbd := hide hbd
  have hmono : ∀ k, eused (E.take k) ≤ eused E := fun k => by
    have : eused E = eused (E.take k) + eused (E.drop k) := by
      conv => lhs; rw [← List.take_append_drop k E]
      unfold eused; rw [List.map_append, used_append]
    omega
  have Hmono := hide hmono
  subst hv
  clear m hat hbd hmono
  go_enter Try.func16, Try.ntmps16
  go_wp2
  go_loop [3, 4] (fun n i => ∃ k : Nat, k ≤ E.length ∧ i = .int .i64 k ∧ n = .int .i64 (eused (E.take k) : Nat)) (fun _ i => E.length - (intOf i).toNat)
  case atStart => exact ⟨0, Nat.zero_le _, rfl, rfl⟩
  case round =>
    obtain ⟨k, hk, rfl, rfl⟩ := hrel
    have hm := unhide Hmono k
    by_cases hlt : k < E.length
    · obtain ⟨g, off, p', c', rfl, hc⟩ := unhide Hat k hlt
      have hstep := eused_take E hlt
      have hb := unhide Hbd k hlt
      generalize E[k].d.length = y at *
      generalize eused (E.take k) = x at *
      have Hstep := hide hstep
      clear hstep
      go_wp2
      exact ⟨⟨k + 1, by omega, by go_num, by rw [unhide Hstep]; go_num⟩, by simp [intOf]; omega⟩
    · have e : E.take k = E := List.take_of_length_le (by omega)
      rw [e]
      go_wp2
      go_ret
      exact ⟨rfl, rfl⟩

set_option maxHeartbeats 400000 in
theorem fine_walk (w : World) (R : Nat) (lv : Value) (E : List Ent) (S : Dk) (s : ByteArray) (hs : s.size ≤ maxLen) (m : RMem w R lv E S) :
    Calls Try.prog 51 #[.pointer (some ⟨R, 0, none⟩), .string s] w fun e w' => e = .returned (.int .i64 (refuse S s.data.toList)) ∧ w' = w := by
  unfold refuse
  have c3 : w.cell? ⟨R, 3, none⟩ = some (.bool S.down) := cell_obj m.obj 3
  clear m
  cases hd : S.down
  · rw [hd] at c3
    cases hg : goodB s.data.toList
    all_goals
      have hn := rgood_walk s w hs
      rw [hg] at hn
      clear hg hd
      go_enter Try.func51, Try.ntmps51
      go_wp2_with (go_at_call 60; refine hn.mono ?_; rintro e w' ⟨rfl, rfl⟩)
      go_ret
      exact ⟨rfl, rfl⟩
  · rw [hd] at c3
    clear hd
    go_enter Try.func51, Try.ntmps51
    go_wp2
    go_ret
    exact ⟨rfl, rfl⟩

/-- the same files, other cells of the disk's own -/
theorem RMem.re {w w' : World} {R : Nat} {lv : Value} {E : List Ent} {S S' : Dk} (h : RMem w R lv E S) (t : Turn (fun j => j = R) w w')
    (hB : w'.heap[R]? = some (.cells #[.int .i64 (S'.size : Int), lv, .int .i64 (S'.arm : Int), .bool S'.down] 31 (0, 0))) (hf : S'.fs = S.fs) (hw : Well S') : RMem w' R lv E S' :=
  ⟨hB, h.row.turn t (fun j hj => h.row.neObj h.obj (by decide) j hj), fun e he => (h.own e he).turn t (fun j hj => (h.own e he).neObj h.obj (by decide) j hj), hf.trans h.fs, hw⟩

set_option maxHeartbeats 1000000 in
theorem rhit_walk (w : World) (R : Nat) (lv : Value) (E : List Ent) (S : Dk) (hd : S.down = false) (h : RMem w R lv E S) :
    Calls Try.prog 57 #[.pointer (some ⟨R, 0, none⟩)] w fun e w' => e = .returned (.bool (hitB S)) ∧ Turn (fun j => j = R) w w' ∧ RMem w' R lv E (hitS S) := by
  have hB := h.obj
  have c2 : w.cell? ⟨R, 2, none⟩ = some (.int .i64 (S.arm : Int)) := cell_obj hB 2
  have f2 : w.frozen? ⟨R, 2, none⟩ = false := frozen_obj hB 2
  have ha := h.well.arm
  have hwh := well_hit h.well
  by_cases h0 : S.arm = 0
  · have e1 : hitS S = S := by unfold hitS; rw [if_pos h0]
    have e2 : hitB S = false := by simp [hitB, h0]
    rw [e1, e2]
    rw [h0] at c2
    clear hB ha e1 e2 hwh f2 h0
    go_enter Try.func57, Try.ntmps57
    go_wp2
    go_ret
    exact ⟨rfl, Turn.refl _ _, h⟩
  · have c3 : w.cell? ⟨R, 3, none⟩ = some (.bool S.down) := cell_obj hB 3
    have f3 : w.frozen? ⟨R, 3, none⟩ = false := frozen_obj hB 3
    obtain ⟨k, hk⟩ : ∃ k, S.arm = k + 1 := ⟨S.arm - 1, by omega⟩
    have e1 : hitS S = { S with arm := k, down := decide (k = 0) } := by unfold hitS; rw [if_neg h0, hk]; simp
    have e2 : hitB S = decide (k = 0) := by simp [hitB, hk]
    rw [e1] at hwh ⊢
    rw [e2]
    rw [hk, show ((k + 1 : Nat) : Int) = (k : Int) + 1 by omega] at c2
    rw [hd] at c3
    have hk2 : (k : Int) ≤ 9223372036854775806 := by omega
    have t1 : Turn (fun j => j = R) w (w.setCell ⟨R, 2, none⟩ (.int .i64 (k : Int))) := (Turn.refl (fun j => j = R) w).setCell (p := ⟨R, 2, none⟩) (.inl rfl) _
    have hB1 := heap_setCell_obj (j := 2) hB (.int .i64 (k : Int))
    by_cases hk0 : k = 0
    · subst hk0
      have t2 : Turn (fun j => j = R) w ((w.setCell ⟨R, 2, none⟩ (.int .i64 0)).setCell ⟨R, 3, none⟩ (.bool true)) := t1.setCell (p := ⟨R, 3, none⟩) (.inl rfl) _
      have hB2 := heap_setCell_obj (j := 3) hB1 (.bool true)
      have m2 := h.re (S' := { S with arm := 0, down := decide (0 = 0) }) t2 (by rw [show ((0 : Nat) : Int) = 0 from rfl] at hB2; rw [hB2]; rfl) rfl hwh
      have Hm := hide m2
      have Ht := hide t2
      have c2' : w.cell? ⟨R, 2, none⟩ = some (.int .i64 1) := c2
      clear m2 t2 hB1 hB2 hwh h hB t1 hk hk2 ha h0 e1 e2 c2
      go_enter Try.func57, Try.ntmps57
      go_wp2
      go_ret
      exact ⟨rfl, unhide Ht, unhide Hm⟩
    · have m1 := h.re (S' := { S with arm := k, down := decide (k = 0) }) t1 (by rw [hB1, show decide (k = 0) = false by simp [hk0]]; rw [hd]; rfl) rfl hwh
      have Hm := hide m1
      have Ht := hide t1
      have hkp : 0 < k := by omega
      have hkd : decide (k = 0) = false := by simp [hk0]
      rw [hkd] at Hm ⊢
      clear m1 t1 hB1 hwh h hB hk ha h0 e1 e2 hk0
      have hk9 : ((k : Int) == 0) = false := by rw [beq_eq_false_iff_ne]; omega
      go_enter Try.func57, Try.ntmps57
      go_wp2
      go_ret
      exact ⟨rfl, unhide Ht, unhide Hm⟩
end Go.Proofs.Ythpfdgjpmooclaa
