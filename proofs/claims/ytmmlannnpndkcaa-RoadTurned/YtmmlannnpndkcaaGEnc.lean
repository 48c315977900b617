/- A network's bytes: appendNums, Encode. -/
import Derived.Test.YtmmlannnpndkcaaGRise
namespace Go.Proofs.Ytmmlannnpndkcaa
open Go.RowKit Go.Maps
set_option linter.unusedVariables false
set_option linter.unusedSimpArgs false
set_option maxRecDepth 100000

/-- a slice of bytes that owns its row -/
def OB (w : World) (v : Value) (zs : List Int) : Prop := OwnSl w 5 1 v zs.length (zs.map (Value.int .u8))
theorem OB.turn {F : Nat → Prop} {w w' : World} {v : Value} {l : List Int} (h : OB w v l) (ht : Turn F w w') (hn : ∀ k, v.ownBlock = some k → ¬ F k) : OB w' v l := OwnSl.turn h ht hn
theorem OB.lt {w : World} {v : Value} {l : List Int} (h : OB w v l) : ∀ k, v.ownBlock = some k → k < w.heap.size := by
  intro k hk
  obtain ⟨cur, hc⟩ := OwnSl.lt h k hk
  exact (Array.getElem?_eq_some_iff.1 hc).1
theorem OB.row {w : World} {v : Value} {l : List Int} (h : OB w v l) : Row .u8 (fun b => v.ownBlock = some b) w v l := row_of_sl h
theorem ob_none (w : World) : OB w (.slice none 0 0) [] := ⟨rfl, .inl ⟨rfl, rfl⟩⟩
/-- append of bytes onto bytes of one's own -/
theorem append_bytes {w : World} {v x : Value} {l m : List Int} (h : OB w v l) (hx : Src 1 w x m.length (m.map (Value.int .u8))) (hm : l.length + m.length ≤ 140737488350000) :
    ∃ v' w', (Builtin.append_ #[22, 22] 22 #[v, x]).run Try.prog w = .ok v' w' ∧ OB w' v' (l ++ m) ∧ Turn (fun j => v.ownBlock = some j) w w' ∧ (∀ j, v'.ownBlock = some j → v.ownBlock = some j ∨ w.heap.size ≤ j) := by
  obtain ⟨i0, hi, hz0, hz1, hz2⟩ := info_parts info_u8
  obtain ⟨v', w', h1, h2, h3, h4⟩ := append_src (P := Try.prog) (ty := 22) Try.underlying22 hi hz0 hz1 hz2 rfl (by omega) h hx (ints_oneCell _ _) (by unfold maxLen; omega) (by omega)
  exact ⟨v', w', h1, by unfold OB; rw [List.length_append, List.map_append]; exact h2, h3, h4⟩
def numsB (ns : List Int) : List Int := ns.flatMap (fun n => numB n.toNat)
theorem numsB_take {ns : List Int} {k : Nat} {x : Int} (h : ns[k]? = some x) : numsB (ns.take (k + 1)) = numsB (ns.take k) ++ numB x.toNat := by
  unfold numsB
  rw [List.take_add_one, h]
  simp
theorem numsB_len (ns : List Int) (h : ∀ n ∈ ns, 0 ≤ n ∧ n ≤ 9223372036854775807) : (numsB ns).length ≤ 10 * ns.length := by
  unfold numsB
  induction ns with
  | nil => simp
  | cons n r ih =>
    have h1 := numB_ten n.toNat (by have := h n (by simp); omega)
    have h2 := ih (fun x hx => h x (by simp [hx]))
    rw [List.flatMap_cons, List.length_append, List.length_cons]
    omega

set_option maxHeartbeats 4000000 in
theorem appnums_walk (B : Nat → Prop) (w : World) (v nv : Value) (bs ns : List Int) (h : OB w v bs) (hr : Row .i64 B w nv ns) (hB : ∀ j, B j → v.ownBlock ≠ some j ∧ j < w.heap.size) (hn : ∀ n ∈ ns, 0 ≤ n ∧ n ≤ 9223372036854775807) (hl : bs.length + 10 * ns.length ≤ 100000000000) :
    Calls Try.prog 43 #[v, nv] w fun e w' => ∃ x, e = .returned x ∧ OB w' x (bs ++ numsB ns) ∧ Turn (fun j => v.ownBlock = some j) w w' ∧ (∀ j, x.ownBlock = some j → v.ownBlock = some j ∨ w.heap.size ≤ j) := by
  obtain ⟨a, c, rfl⟩ := hr.slice
  have H0 := hide (numsB_len ns hn)
  go_enter Try.func43, Try.ntmps43
  go_wp2_with fail
  go_loopw [0, 9] (fun s i wr => ∃ (k : Nat) (x : Value), x = s ∧ i = .int .i64 (k : Int) ∧ k ≤ ns.length ∧ OB wr x (bs ++ numsB (ns.take k)) ∧ Turn (fun j => v.ownBlock = some j) w wr ∧ Hid (∀ j, x.ownBlock = some j → v.ownBlock = some j ∨ w.heap.size ≤ j)) (fun _ i _ => ns.length - (intOf i).toNat)
  case atStart => exact ⟨0, v, rfl, rfl, Nat.zero_le _, by simpa [numsB] using h, Turn.refl _ _, hide (fun j hj => .inl hj)⟩
  case round =>
    obtain ⟨k, x, rfl, rfl, hk, hO, tr, hown⟩ := hrel
    by_cases hlt : k < ns.length
    · obtain ⟨n, hx⟩ : ∃ n, ns[k]? = some n := ⟨ns[k], by simp [hlt]⟩
      have hnn := hn n (List.mem_of_getElem? hx)
      have hR := hr.turn tr (fun j hj => (hB j hj).1)
      rcases hR with ⟨_, _, hv, _, _, rfl⟩ | ⟨g, off, c', hv, _, _, _, hcl⟩
      · simp at hlt
      simp only [Value.slice.injEq] at hv
      obtain ⟨rfl, _, rfl⟩ := hv
      have q0 := hcl k hlt
      rw [show ns.getD k 0 = n by rw [List.getD_eq_getElem?_getD, hx]; rfl] at q0
      have Hq := hide (numsB_take hx)
      have Hlen : Hid ((bs ++ numsB (ns.take k)).length + 10 ≤ 140737488350000) := hide (by
        have := numsB_len (ns.take k) (fun n h => hn n (List.mem_of_mem_take h))
        rw [List.length_append]; rw [List.length_take] at this; omega)
      obtain ⟨m, rfl⟩ : ∃ m : Nat, n = m := ⟨n.toNat, by omega⟩
      have hm : m < 18446744073709551616 := by omega
      have hm2 : m ≤ 9223372036854775807 := by omega
      clear hcl hx hB hr
      go_wp2_with fail
      refine (num_walk m _ hm).mono ?_
      rintro e w1 ⟨y, rfl, hy, hb1⟩
      have t1 : Turn (fun _ => False) wr w1 := Turn.of_below hb1
      have hy2 := (OwnSl.of_owns hy).src
      have hO1 : OB w1 x (bs ++ numsB (ns.take k)) := hO.turn t1 (fun _ _ h => h)
      obtain ⟨x', w2, hrun, hO2, t2, h2⟩ := append_bytes hO1 hy2 (by have := numB_ten m hm; have := unhide Hlen; omega)
      have hsz := hb1.size
      have tr2 : Turn (fun j => v.ownBlock = some j) w w2 := (tr.then (t1.mono (fun _ h => h.elim))).trans t2 (fun j hj => unhide hown j hj)
      have hown2 : Hid (∀ j, x'.ownBlock = some j → v.ownBlock = some j ∨ w.heap.size ≤ j) := hide (fun j hj => by
        rcases h2 j hj with h | h
        · exact unhide hown j h
        · have := tr.size; right; omega)
      have hO3 : OB w2 x' (bs ++ numsB (ns.take (k + 1))) := by
        rw [unhide Hq, ← List.append_assoc]; simpa using hO2
      clear hO hO1 hO2 hy hy2 hb1 t1 t2 h2 hown tr Hq
      go_wp2_with (at_builtin; refine list_append_run rfl _ _ 22 rfl _ _ _ _ rfl rfl hrun ?_)
      exact ⟨⟨k + 1, x', rfl, by go_num, by omega, hO3, tr2, hown2⟩, by simp [intOf]; omega⟩
    · obtain rfl : k = ns.length := by omega
      rw [List.take_length] at hO
      go_wp2
      go_ret
      exact ⟨_, rfl, hO, tr, unhide hown⟩
end Go.Proofs.Ytmmlannnpndkcaa
