/- Encode: which bytes a network is, and which are none. -/
import Derived.Test.YtmmlannnpndkcaaGEnc
namespace Go.Proofs.Ytmmlannnpndkcaa
open Go.RowKit Go.Maps
set_option linter.unusedVariables false
set_option linter.unusedSimpArgs false
set_option maxRecDepth 100000

set_option maxHeartbeats 4000000 in
theorem encode_bad (B : Nat → Prop) (w : World) (n : Int) (v : Value) (l : List Ar) (hr : AR B w v l) (hbad : ¬ (BoundedN n l ∧ Rising l)) :
    Calls Try.prog 17 #[.agg #[.int .i64 n, v]] w fun e w' => e = .returned (.tuple #[.slice none 0 0, .int .i64 10]) ∧ Turn (fun _ => False) w w' := by
  obtain ⟨a, c, rfl⟩ := hr.slice
  have T0 := (Turn.refl (fun _ => False) w).alloc (.cells #[.int .i64 n, .slice a l.length c] 26)
  have hR := hr.quiet T0
  have hb := heap_alloc_new w (.cells #[.int .i64 n, .slice a l.length c] 26)
  have Hb := bounded_walk B _ n _ l hR
  by_cases h1 : BoundedN n l
  · have h2 : decide (l.Pairwise ltA) = false := decide_eq_false (fun h => hbad ⟨h1, rising_iff.2 h⟩)
    have h1' : decide (BoundedN n l) = true := decide_eq_true h1
    rw [h1'] at Hb
    clear h1 h1' hbad
    go_enter Try.func17, Try.ntmps17
    go_wp2_with fail
    generalize w.alloc (.cells #[.int .i64 n, .slice a l.length c] 26) = W at *
    generalize w.heap.size = b at *
    refine Hb.mono ?_
    rintro e w1 ⟨rfl, t1⟩
    have hb1 := t1.same hb (fun h => h)
    have f1 : w1.cell? ⟨b, 1, none⟩ = some (.slice a l.length c) := cell_obj hb1 1
    have Hr := rising_walk B _ _ l (hR.quiet t1)
    rw [h2] at Hr
    clear h2 Hb hr hR hb hb1
    go_wp2_with fail
    refine Hr.mono ?_
    rintro e w2 ⟨rfl, t2⟩
    go_wp2
    go_ret2
    exact ⟨rfl, (T0.then t1).then t2⟩
  · have h1' : decide (BoundedN n l) = false := decide_eq_false h1
    rw [h1'] at Hb
    clear h1 h1' hbad
    go_enter Try.func17, Try.ntmps17
    go_wp2_with fail
    generalize w.alloc (.cells #[.int .i64 n, .slice a l.length c] 26) = W at *
    generalize w.heap.size = b at *
    refine Hb.mono ?_
    rintro e w1 ⟨rfl, t1⟩
    clear Hb hr hR hb
    go_wp2
    go_ret2
    exact ⟨rfl, T0.then t1⟩

theorem alloc_size (w : World) (o : Obj) : (w.alloc o).heap.size = w.heap.size + 1 := Array.size_push ..
def arcN (a : Ar) : List Int := [a.1, a.2.1, a.2.2]
theorem numsB_arc (a : Ar) : numsB (arcN a) = arcB a := by simp [numsB, arcN, arcB]
theorem row_three (w : World) (a b c : Int) : Row .i64 (fun j => j = w.heap.size) (w.alloc (.cells #[.int .i64 a, .int .i64 b, .int .i64 c] 3)) (.slice (some ⟨w.heap.size, 0, none⟩) 3 3) [a, b, c] := by
  refine .inr ⟨_, 0, 3, rfl, Nat.le_refl _, by unfold maxLen; omega, rfl, fun i hi => ?_⟩
  simp only [List.length_cons, List.length_nil] at hi
  rw [cell_obj (heap_alloc_new w _)]
  match i, hi with
  | 0, _ => rfl
  | 1, _ => rfl
  | 2, _ => rfl
theorem row_two (w : World) (a b : Int) : Row .i64 (fun j => j = w.heap.size) (w.alloc (.cells #[.int .i64 a, .int .i64 b] 3)) (.slice (some ⟨w.heap.size, 0, none⟩) 2 2) [a, b] := by
  refine .inr ⟨_, 0, 2, rfl, Nat.le_refl _, by unfold maxLen; omega, rfl, fun i hi => ?_⟩
  simp only [List.length_cons, List.length_nil] at hi
  rw [cell_obj (heap_alloc_new w _)]
  match i, hi with
  | 0, _ => rfl
  | 1, _ => rfl
theorem ob_lit (w : World) (x : Int) : OB (w.alloc (.cells #[.int .u8 x] 5)) (.slice (some ⟨w.heap.size, 0, none⟩) 1 1) [x] := by
  refine ⟨rfl, .inr ⟨_, 0, 1, _, rfl, heap_alloc_new w _, Nat.le_refl _, by unfold maxLen; omega, by simp, rfl⟩⟩

set_option maxHeartbeats 8000000 in
theorem encode_ok (B : Nat → Prop) (w : World) (n : Int) (v : Value) (l : List Ar) (hr : AR B w v l) (hB : BoundedN n l) (hR : Rising l) :
    Calls Try.prog 17 #[.agg #[.int .i64 n, v]] w fun e w' => ∃ x, e = .returned (.tuple #[x, .int .i64 0]) ∧ OB w' x (encB n l) ∧ Turn (fun _ => False) w w' ∧ ∀ j, x.ownBlock = some j → w.heap.size ≤ j := by
  obtain ⟨a, c, rfl⟩ := hr.slice
  have T0 := (Turn.refl (fun _ => False) w).alloc (.cells #[.int .i64 n, .slice a l.length c] 26)
  have hA := hr.quiet T0
  have hb := heap_alloc_new w (.cells #[.int .i64 n, .slice a l.length c] 26)
  have Hb := bounded_walk B _ n _ l hA
  have h2 : decide (l.Pairwise ltA) = true := decide_eq_true (rising_iff.1 hR)
  have h1' : decide (BoundedN n l) = true := decide_eq_true hB
  rw [h1'] at Hb
  have s0 : w.heap.size ≤ (w.alloc (.cells #[.int .i64 n, .slice a l.length c] 26)).heap.size := T0.size
  obtain ⟨n1, n2, n3, n4⟩ := hB
  have Hn4 := hide n4
  clear h1' hR n4
  go_enter Try.func17, Try.ntmps17
  go_wp2_with fail
  generalize w.alloc (.cells #[.int .i64 n, .slice a l.length c] 26) = W at *
  generalize hbs : w.heap.size = b at *
  refine Hb.mono ?_
  rintro e w1 ⟨rfl, t1⟩
  have hb1 := t1.same hb (fun h => h)
  have f1 : w1.cell? ⟨b, 1, none⟩ = some (.slice a l.length c) := cell_obj hb1 1
  have Hr := rising_walk B _ _ l (hA.quiet t1)
  rw [h2] at Hr
  clear h2 Hb hr hb
  go_wp2_with fail
  refine Hr.mono ?_
  rintro e w2 ⟨rfl, t2⟩
  have A2 := (hA.quiet t1).quiet t2
  have T2 := (T0.then t1).then t2
  have hb2 := t2.same hb1 (fun h => h)
  have t3 := ((Turn.refl (fun _ => False) w2).alloc (.cells #[.int .u8 7] 5))
  have t4 := t3.alloc (.cells #[.int .i64 n, .int .i64 (l.length : Int)] 3)
  have hO := ob_lit w2 7
  have hO4 : OB ((w2.alloc (.cells #[.int .u8 7] 5)).alloc (.cells #[.int .i64 n, .int .i64 (l.length : Int)] 3)) (.slice (some ⟨w2.heap.size, 0, none⟩) 1 1) [7] :=
    hO.turn ((Turn.refl (fun _ => False) _).alloc _) (fun _ _ h => h)
  have hR4 := row_two (w2.alloc (.cells #[.int .u8 7] 5)) n (l.length : Int)
  have hb3 := t3.same hb2 (fun h => h)
  have k0 : (w2.alloc (.cells #[.int .u8 7] 5)).cell? ⟨b, 0, none⟩ = some (.int .i64 n) := cell_obj hb3 0
  have k1 : (w2.alloc (.cells #[.int .u8 7] 5)).cell? ⟨b, 1, none⟩ = some (.slice a l.length c) := cell_obj hb3 1
  have Hap := appnums_walk _ _ _ _ [7] [n, (l.length : Int)] hO4 hR4 (fun j hj => by
    subst hj
    have h1 := alloc_size w2 (.cells #[.int .u8 7] 5)
    have h2 := alloc_size (w2.alloc (.cells #[.int .u8 7] 5)) (.cells #[.int .i64 n, .int .i64 (l.length : Int)] 3)
    refine ⟨fun h => ?_, by omega⟩
    simp only [Value.ownBlock, Option.some.injEq] at h
    omega) (by simp; omega) (by simp)
  rw [alloc_size w2] at Hap
  have Hbs := hide hbs
  have hwb : b < w2.heap.size := (Array.getElem?_eq_some_iff.1 hb2).1
  have A2' := A2.lt
  have sz2 := T2.size
  rw [hbs] at sz2
  have TQ : ∀ u, Turn (fun j => w2.heap.size ≤ j) w2 u → Turn (fun _ => False) w u := fun u h => T2.trans h (fun j hj => .inr (by omega))
  have HTQ := hide TQ
  have Henc : Hid (encB n l = [7] ++ numsB [n, (l.length : Int)] ++ l.flatMap arcB) := hide (by simp [encB, numsB])
  have Hlen : Hid (∀ k, k ≤ l.length → ([7] ++ numsB [n, (l.length : Int)] ++ (l.take k).flatMap arcB).length + 30 ≤ 100000000000) := hide (by
    intro k hk
    have h1 := arcsB_len n n2 (l.take k) (fun a ha => unhide Hn4 a (List.mem_of_mem_take ha))
    have h2 := numsB_len [n, (l.length : Int)] (by simp; omega)
    rw [List.length_append, List.length_append]
    rw [List.length_take] at h1
    simp only [List.length_cons, List.length_nil] at h2 ⊢
    omega)
  have Hsz := hide sz2
  clear Hr hA hb1 hb3 A2 T2 t1 t2 hO hO4 hR4 T0 f1 TQ sz2 s0 hbs
  go_wp2_with fail
  refine Hap.mono ?_
  rintro e w5 ⟨x5, rfl, O5, t5, own5⟩
  have T5 : Turn (fun j => w2.heap.size ≤ j) w2 w5 := (t4.mono (fun _ h => h.elim)).then (t5.mono (fun j hj => by simp [Value.ownBlock] at hj; omega))
  have hs4 := t4.size
  have Own5 : Hid (∀ j, x5.ownBlock = some j → w2.heap.size ≤ j) := hide (fun j hj => by
    rcases own5 j hj with h | h
    · simp [Value.ownBlock] at h; omega
    · omega)
  have hb5 := T5.same hb2 (fun h => by omega)
  have f5 : w5.cell? ⟨b, 1, none⟩ = some (.slice a l.length c) := cell_obj hb5 1
  clear Hap t5 own5 t4 t3 k0 k1 hs4 hb5
  obtain ⟨p2, hp2⟩ : ∃ p2, p2 = w2.heap.size := ⟨_, rfl⟩
  have hwb' : b < p2 := by omega
  have OO5 : OB w5 x5 ([7] ++ numsB [n, (l.length : Int)] ++ (l.take 0).flatMap arcB) := by simpa using O5
  rw [← hp2] at T5 Own5 A2' HTQ
  have HP : Hid (p2 ≤ w2.heap.size ∧ b ≤ p2) := hide (by have := unhide Hsz; omega)
  clear hp2 hwb O5
  go_wp2_with fail
  go_loopw [4, 28] (fun s i wr => ∃ (k : Nat) (x : Value), x = s ∧ i = .int .i64 (k : Int) ∧ k ≤ l.length ∧ OB wr x ([7] ++ numsB [n, (l.length : Int)] ++ (l.take k).flatMap arcB) ∧ Hid (∀ j, x.ownBlock = some j → p2 ≤ j) ∧ Turn (fun j => p2 ≤ j) w2 wr) (fun _ i _ => l.length - (intOf i).toNat)
  case atStart => exact ⟨0, x5, rfl, rfl, Nat.zero_le _, OO5, Own5, T5⟩
  case round =>
    clear OO5 Own5 T5 f5
    obtain ⟨k, x, rfl, rfl, hk, hO, hown, tr⟩ := hrel
    by_cases hlt : k < l.length
    · obtain ⟨y, hy⟩ := lt_take hlt
      have hoky := unhide Hn4 y (List.mem_of_getElem? hy)
      obtain ⟨g, off, c', hv, _, hcl⟩ := (A2'.turn tr (fun j hj => by have := hj.2; omega)).form (by omega)
      simp only [Value.slice.injEq] at hv
      obtain ⟨rfl, _, rfl⟩ := hv
      obtain ⟨q0, q1, q2⟩ := hcl k y hy
      have Hnext : Hid ((l.take (k + 1)).flatMap arcB = (l.take k).flatMap arcB ++ numsB (arcN y)) := hide (by
        rw [numsB_arc, List.take_add_one, hy]; simp)
      obtain ⟨f, t, v⟩ := y
      unfold okA at hoky
      simp only at q0 q1 q2 hoky
      have ta := (Turn.refl (fun _ => False) wr).alloc (.cells #[.int .i64 f, .int .i64 t, .int .i64 v] 37)
      have tb := ta.alloc (.cells #[.int .i64 f, .int .i64 t, .int .i64 v] 3)
      have hO2 := hO.turn tb (fun _ _ h => h)
      have hR2 := row_three (wr.alloc (.cells #[.int .i64 f, .int .i64 t, .int .i64 v] 37)) f t v
      have Hap := appnums_walk _ _ _ _ _ [f, t, v] hO2 hR2 (fun j hj => by
        subst hj
        have h1 := alloc_size wr (.cells #[.int .i64 f, .int .i64 t, .int .i64 v] 37)
        have h2 := alloc_size (wr.alloc (.cells #[.int .i64 f, .int .i64 t, .int .i64 v] 37)) (.cells #[.int .i64 f, .int .i64 t, .int .i64 v] 3)
        refine ⟨fun h => ?_, by omega⟩
        have := hO.lt _ h
        omega) (by simp; omega) (by have := unhide Hlen k hk; simp only [List.length_cons, List.length_nil]; omega)
      rw [alloc_size wr] at Hap
      have hsz := tr.size
      have hsb := tb.size
      clear hcl hy hO2 hR2 ta hoky
      go_wp2_with fail
      refine Hap.mono ?_
      rintro e w6 ⟨x6, rfl, O6, t6, own6⟩
      have tr6 : Turn (fun j => p2 ≤ j) w2 w6 := (tr.then (tb.mono (fun _ h => h.elim))).then (t6.mono (fun j hj => unhide hown j hj))
      have Own6 : Hid (∀ j, x6.ownBlock = some j → p2 ≤ j) := hide (fun j hj => by
        rcases own6 j hj with h | h
        · exact unhide hown j h
        · have := (unhide HP).1; omega)
      have O6' : OB w6 x6 ([7] ++ numsB [n, (l.length : Int)] ++ (l.take (k + 1)).flatMap arcB) := by
        rw [unhide Hnext, ← List.append_assoc]; exact O6
      clear O6 t6 own6 Hap tb hown hO tr Hnext
      go_wp2
      exact ⟨⟨k + 1, x6, rfl, by go_num, by omega, O6', Own6, tr6⟩, by simp [intOf]; omega⟩
    · obtain rfl : k = l.length := by omega
      rw [List.take_length] at hO
      go_wp2
      go_ret2
      refine ⟨_, rfl, by rw [unhide Henc]; exact hO, unhide HTQ _ tr, fun j hj => ?_⟩
      have h1 := unhide hown j hj
      have h2 := (unhide HP).2
      have h3 := unhide Hbs
      omega
end Go.Proofs.Ytmmlannnpndkcaa
