/- Arcs one by one: is it a node, are they bounded, do they rise; the reference's order. -/
import Derived.Test.YtombpfpfeebnpaaGArc
import Derived.BigQuiet
namespace Go.Proofs.Ytombpfpfeebnpaa
open Go.RowKit Go.Maps
set_option linter.unusedVariables false
set_option linter.unusedSimpArgs false
set_option maxRecDepth 100000

set_option maxHeartbeats 1000000 in
theorem node_yes (w : World) (v n : Int) (h : 0 ≤ v ∧ v < n) : Calls Try.prog 38 #[.int .i64 v, .int .i64 n] w fun e w' => e = .returned (.bool true) ∧ w' = w := by
  obtain ⟨h0, h1⟩ := h
  go_enter Try.func38, Try.ntmps38
  go_wp2
  go_ret
  exact ⟨rfl, rfl⟩
set_option maxHeartbeats 1000000 in
theorem node_no (w : World) (v n : Int) (h : ¬ (0 ≤ v ∧ v < n)) : Calls Try.prog 38 #[.int .i64 v, .int .i64 n] w fun e w' => e = .returned (.bool false) ∧ w' = w := by
  by_cases h0 : 0 ≤ v
  · have h1 : ¬ v < n := fun h' => h ⟨h0, h'⟩
    clear h
    go_enter Try.func38, Try.ntmps38
    go_wp2
    go_ret
    exact ⟨rfl, rfl⟩
  · clear h
    go_enter Try.func38, Try.ntmps38
    go_wp2
    go_ret
    exact ⟨rfl, rfl⟩

theorem lt_take {l : List Ar} {k : Nat} (hk : k < l.length) : ∃ x : Ar, l[k]? = some x := ⟨l[k], by simp [hk]⟩
theorem all_more {l : List Ar} {k : Nat} {x : Ar} {p : Ar → Prop} (h : ∀ j y, j < k → l[j]? = some y → p y) (hx : l[k]? = some x) (hp : p x) : ∀ j y, j < k + 1 → l[j]? = some y → p y := by
  intro j y hj hy
  by_cases e : j = k
  · subst e; rw [hx] at hy; cases hy; exact hp
  · exact h j y (by omega) hy
theorem all_mem {l : List Ar} {p : Ar → Prop} (h : ∀ j y, j < l.length → l[j]? = some y → p y) : ∀ y ∈ l, p y := by
  intro y hy
  obtain ⟨j, hj⟩ := List.mem_iff_getElem?.1 hy
  exact h j y (List.getElem?_eq_some_iff.1 hj).1 hj
theorem okA_cases (n : Int) (f t v : Int) (h : ¬ okA n (f, t, v)) : ¬ (0 ≤ f ∧ f < n) ∨ ((0 ≤ f ∧ f < n) ∧ ¬ (0 ≤ t ∧ t < n)) ∨ ((0 ≤ f ∧ f < n) ∧ (0 ≤ t ∧ t < n) ∧ f = t) ∨ ((0 ≤ f ∧ f < n) ∧ (0 ≤ t ∧ t < n) ∧ f ≠ t ∧ v < 1) ∨ ((0 ≤ f ∧ f < n) ∧ (0 ≤ t ∧ t < n) ∧ f ≠ t ∧ 1 ≤ v ∧ 1048576 < v) := by
  unfold okA at h
  simp only at h
  omega

set_option maxHeartbeats 4000000 in
theorem bounded_walk (B : Nat → Prop) (w : World) (n : Int) (v : Value) (l : List Ar) (hr : AR B w v l) :
    Calls Try.prog 41 #[.agg #[.int .i64 n, v]] w fun e w' => e = .returned (.bool (decide (BoundedN n l))) ∧ Turn (fun _ => False) w w' := by
  obtain ⟨D, hD⟩ : ∃ D, D = decide (BoundedN n l) := ⟨_, rfl⟩
  rw [← hD]
  obtain ⟨a, c, rfl⟩ := hr.slice
  have T0 := (Turn.refl (fun _ => False) w).alloc (.cells #[.int .i64 n, .slice a l.length c] 24)
  have hR := hr.quiet T0
  have hb := heap_alloc_new w (.cells #[.int .i64 n, .slice a l.length c] 24)
  have hlen := hr.len
  unfold maxLen at hlen
  by_cases h1 : n < 1
  · have Hd : Hid (D = false) := hide (hD.trans (decide_eq_false (fun h => by have := h.1; omega)))
    clear hD
    clear hr hR
    go_enter Try.func41, Try.ntmps41
    go_wp2
    go_ret
    exact ⟨ret_bool (unhide Hd).symm, T0⟩
  by_cases h2 : 4194304 < n
  · have Hd : Hid (D = false) := hide (hD.trans (decide_eq_false (fun h => by have := h.2.1; omega)))
    clear hD
    clear hr hR
    go_enter Try.func41, Try.ntmps41
    go_wp2
    go_ret
    exact ⟨ret_bool (unhide Hd).symm, T0⟩
  by_cases h3 : 4194304 < l.length
  · have Hd : Hid (D = false) := hide (hD.trans (decide_eq_false (fun h => by have := h.2.2.1; omega)))
    clear hD
    clear hr hR
    go_enter Try.func41, Try.ntmps41
    go_wp2
    go_ret
    exact ⟨ret_bool (unhide Hd).symm, T0⟩
  clear hr
  replace hD := hide hD
  go_enter Try.func41, Try.ntmps41
  go_wp2_with fail
  generalize hW : w.alloc (.cells #[.int .i64 n, .slice a l.length c] 24) = W at *
  clear hW
  generalize hbs : w.heap.size = b at *
  go_loopw [22] (fun i wr => ∃ k : Nat, i = .int .i64 (k : Int) ∧ k ≤ l.length ∧ Turn (fun _ => False) W wr ∧ Hid (∀ j y, j < k → l[j]? = some y → okA n y)) (fun i _ => l.length - (intOf i).toNat)
  case atStart => exact ⟨0, rfl, Nat.zero_le _, Turn.refl _ _, hide (fun j y hj => by omega)⟩
  case round =>
    obtain ⟨k, rfl, hk, tr, hall⟩ := hrel
    by_cases hlt : k < l.length
    · obtain ⟨x, hx⟩ := lt_take hlt
      obtain ⟨g, off, c', hv, _, hcl⟩ := (hR.quiet tr).form (by omega)
      simp only [Value.slice.injEq] at hv
      obtain ⟨rfl, _, rfl⟩ := hv
      obtain ⟨q0, q1, q2⟩ := hcl k x hx
      have hb2 := tr.same hb (fun h => h)
      have tr2 := tr.alloc (.cells #[.int .i64 x.1, .int .i64 x.2.1, .int .i64 x.2.2] 46)
      have hb3 := tr2.same hb (fun h => h)
      have hb4 := heap_alloc_new wr (.cells #[.int .i64 x.1, .int .i64 x.2.1, .int .i64 x.2.2] 46)
      have e0 : (wr.alloc (.cells #[.int .i64 x.1, .int .i64 x.2.1, .int .i64 x.2.2] 46)).cell? ⟨b, 0, none⟩ = some (.int .i64 n) := cell_obj hb3 0
      have Hok : Hid (okA n x → ∀ j y, j < k + 1 → l[j]? = some y → okA n y) := hide (fun h => all_more (unhide hall) hx h)
      have Hno : Hid (¬ okA n x → D = false) := hide (fun h => (unhide hD).trans (decide_eq_false (fun h' => h (h'.2.2.2 x (List.mem_of_getElem? hx)))))
      obtain ⟨f, t, v⟩ := x
      simp only at q0 q1 q2 e0 hb4 tr2
      clear hcl hb2 hb3 hx hall
      by_cases hok : okA n (f, t, v)
      · have Hmore := hide (unhide Hok hok)
        obtain ⟨o1, o2, o3, o4, o5, o6, o7⟩ := hok
        simp only at o1 o2 o3 o4 o5 o6 o7
        have n1 := fun u => node_yes u f n ⟨o1, o2⟩
        have n2 := fun u => node_yes u t n ⟨o3, o4⟩
        clear Hok Hno
        have hbe : (f == t) = false := by rw [beq_eq_false_iff_ne]; exact o5
        clear o1 o2 o3 o4
        go_wp2_with fail
        refine (n1 _).mono ?_
        rintro e w1 ⟨rfl, rfl⟩
        go_wp2_with fail
        refine (n2 _).mono ?_
        rintro e w1 ⟨rfl, rfl⟩
        go_wp2
        exact ⟨⟨k + 1, by go_num, by omega, tr2, Hmore⟩, by simp [intOf]; omega⟩
      · have Hd := hide (unhide Hno hok)
        rcases okA_cases n f t v hok with o | ⟨o1, o⟩ | ⟨o1, o2, o⟩ | ⟨o1, o2, o3, o⟩ | ⟨o1, o2, o3, o4, o⟩
        · have n1 := fun u => node_no u f n o
          clear hok Hok Hno o
          go_wp2_with fail
          refine (n1 _).mono ?_
          rintro e w1 ⟨rfl, rfl⟩
          go_wp2
          go_ret
          exact ⟨ret_bool (unhide Hd).symm, T0.then tr2⟩
        · have n1 := fun u => node_yes u f n o1
          have n2 := fun u => node_no u t n o
          clear hok Hok Hno o o1
          go_wp2_with fail
          refine (n1 _).mono ?_
          rintro e w1 ⟨rfl, rfl⟩
          go_wp2_with fail
          refine (n2 _).mono ?_
          rintro e w1 ⟨rfl, rfl⟩
          go_wp2
          go_ret
          exact ⟨ret_bool (unhide Hd).symm, T0.then tr2⟩
        · have n1 := fun u => node_yes u f n o1
          have n2 := fun u => node_yes u t n o2
          subst o
          clear hok Hok Hno o1 o2
          go_wp2_with fail
          refine (n1 _).mono ?_
          rintro e w1 ⟨rfl, rfl⟩
          go_wp2_with fail
          refine (n2 _).mono ?_
          rintro e w1 ⟨rfl, rfl⟩
          go_wp2
          go_ret
          exact ⟨ret_bool (unhide Hd).symm, T0.then tr2⟩
        · have n1 := fun u => node_yes u f n o1
          have n2 := fun u => node_yes u t n o2
          have hbe : (f == t) = false := by rw [beq_eq_false_iff_ne]; exact o3
          clear hok Hok Hno o1 o2
          go_wp2_with fail
          refine (n1 _).mono ?_
          rintro e w1 ⟨rfl, rfl⟩
          go_wp2_with fail
          refine (n2 _).mono ?_
          rintro e w1 ⟨rfl, rfl⟩
          go_wp2
          go_ret
          exact ⟨ret_bool (unhide Hd).symm, T0.then tr2⟩
        · have n1 := fun u => node_yes u f n o1
          have n2 := fun u => node_yes u t n o2
          have hbe : (f == t) = false := by rw [beq_eq_false_iff_ne]; exact o3
          clear hok Hok Hno o1 o2
          go_wp2_with fail
          refine (n1 _).mono ?_
          rintro e w1 ⟨rfl, rfl⟩
          go_wp2_with fail
          refine (n2 _).mono ?_
          rintro e w1 ⟨rfl, rfl⟩
          go_wp2
          go_ret
          exact ⟨ret_bool (unhide Hd).symm, T0.then tr2⟩
    · obtain rfl : k = l.length := by omega
      have Hd : Hid (D = true) := hide ((unhide hD).trans (decide_eq_true ⟨by omega, by omega, by omega, all_mem (unhide hall)⟩))
      go_wp2
      go_ret
      exact ⟨ret_bool (unhide Hd).symm, T0.then tr⟩
end Go.Proofs.Ytombpfpfeebnpaa
