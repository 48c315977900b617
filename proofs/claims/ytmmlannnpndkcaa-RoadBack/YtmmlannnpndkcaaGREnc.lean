/- The reference: which bytes a network is. -/
import Derived.Test.YtmmlannnpndkcaaGMay
namespace Go.Proofs.Ytmmlannnpndkcaa
open Go.RowKit Go.Maps
set_option linter.unusedVariables false
set_option linter.unusedSimpArgs false
set_option maxRecDepth 100000

set_option maxHeartbeats 4000000 in
theorem rencode_bad (w : World) (n : Int) (v : Value) (l : List Ar) (hr : AR any w v l) (hl : l.length ≤ 1000000) (hbad : ¬ (BoundedN n l ∧ Rising l)) :
    Calls Try.prog 18 #[.agg #[.int .i64 n, v]] w fun e w' => e = .returned (.tuple #[.slice none 0 0, .int .i64 10]) ∧ Turn (fun _ => False) w w' := by
  obtain ⟨a, c, rfl⟩ := hr.slice
  have T0 := (Turn.refl (fun _ => False) w).alloc (.cells #[.int .i64 n, .slice a l.length c] 26)
  have hR := hr.quiet T0
  have hb := heap_alloc_new w (.cells #[.int .i64 n, .slice a l.length c] 26)
  have Hb := may_walk any _ n _ l hR hl
  by_cases h1 : MayA n l
  · have h2 : decide (l.Pairwise ltA) = false := decide_eq_false (fun h => hbad ⟨h1.1, rising_iff.2 h⟩)
    have h1' : decide (MayA n l) = true := decide_eq_true h1
    rw [h1'] at Hb
    clear h1 h1' hbad
    go_enter Try.func18, Try.ntmps18
    go_wp2_with fail
    generalize w.alloc (.cells #[.int .i64 n, .slice a l.length c] 26) = W at *
    generalize w.heap.size = b at *
    refine Hb.mono ?_
    rintro e w1 ⟨rfl, t1⟩
    have hb1 := t1.same hb (fun h => h)
    have f1 : w1.cell? ⟨b, 1, none⟩ = some (.slice a l.length c) := cell_obj hb1 1
    have Hr := ordered_walk any _ _ l (hR.quiet t1)
    rw [h2] at Hr
    clear h2 Hb hr hR hb hb1
    go_wp2_with fail
    refine Hr.mono ?_
    rintro e w2 ⟨rfl, t2⟩
    go_wp2
    go_ret2
    exact ⟨rfl, (T0.then t1).then t2⟩
  · have h1' : decide (MayA n l) = false := decide_eq_false h1
    rw [h1'] at Hb
    clear h1 h1' hbad
    go_enter Try.func18, Try.ntmps18
    go_wp2_with fail
    generalize w.alloc (.cells #[.int .i64 n, .slice a l.length c] 26) = W at *
    generalize w.heap.size = b at *
    refine Hb.mono ?_
    rintro e w1 ⟨rfl, t1⟩
    clear Hb hr hR hb
    go_wp2
    go_ret2
    exact ⟨rfl, T0.then t1⟩

/-- append of a number's bytes -/
theorem append_num {w w1 : World} {v y : Value} {bs : List Int} {m : Nat} (h : OB w v bs) (hb : Below w.heap.size w w1) (hy : w1.ownsRow w.heap.size 5 1 y (numB m).length ((numB m).map (Value.int .u8))) (hm : m < 18446744073709551616) (hl : bs.length + 10 ≤ 140737488350000) :
    ∃ v' w', (Builtin.append_ #[22, 22] 22 #[v, y]).run Try.prog w1 = .ok v' w' ∧ OB w' v' (bs ++ numB m) ∧ Turn (fun j => v.ownBlock = some j) w w' ∧ (∀ j, v'.ownBlock = some j → v.ownBlock = some j ∨ w.heap.size ≤ j) := by
  have t1 : Turn (fun _ => False) w w1 := Turn.of_below hb
  obtain ⟨v', w', h1, h2, h3, h4⟩ := append_bytes (h.turn t1 (fun _ _ h => h)) (OwnSl.of_owns hy).src (by have := numB_ten m hm; omega)
  refine ⟨v', w', h1, h2, (t1.mono (fun _ h => h.elim)).then h3, fun j hj => ?_⟩
  rcases h4 j hj with h | h
  · exact .inl h
  · have := t1.size; exact .inr (by omega)

set_option maxHeartbeats 8000000 in
theorem rencode_ok (w : World) (n : Int) (v : Value) (l : List Ar) (hr : AR any w v l) (hl : l.length ≤ 1000000) (hB : BoundedN n l) (hR : Rising l) :
    Calls Try.prog 18 #[.agg #[.int .i64 n, v]] w fun e w' => ∃ x, e = .returned (.tuple #[x, .int .i64 0]) ∧ OB w' x (encB n l) ∧ Turn (fun _ => False) w w' ∧ ∀ j, x.ownBlock = some j → w.heap.size ≤ j := by
  obtain ⟨N, rfl⟩ : ∃ N : Nat, n = N := ⟨n.toNat, by have := hB.1; omega⟩
  obtain ⟨a, c, rfl⟩ := hr.slice
  have T0 := (Turn.refl (fun _ => False) w).alloc (.cells #[.int .i64 (N : Int), .slice a l.length c] 26)
  have hA := hr.quiet T0
  have hb := heap_alloc_new w (.cells #[.int .i64 (N : Int), .slice a l.length c] 26)
  have Hb := may_walk any _ (N : Int) _ l hA hl
  have h2 : decide (l.Pairwise ltA) = true := decide_eq_true (rising_iff.1 hR)
  have h1' : decide (MayA (N : Int) l) = true := decide_eq_true ⟨hB, rising_dist hR⟩
  rw [h1'] at Hb
  have s0 : w.heap.size ≤ (w.alloc (.cells #[.int .i64 (N : Int), .slice a l.length c] 26)).heap.size := T0.size
  obtain ⟨n1, n2, n3, n4⟩ := hB
  have hN2 : N < 18446744073709551616 := by omega
  have hL2 : l.length < 18446744073709551616 := by omega
  have Henc : Hid (encB (N : Int) l = [7] ++ numB N ++ numB l.length ++ l.flatMap arcB) := hide (by simp [encB])
  have Hlen : Hid (∀ k, k ≤ l.length → ([7] ++ numB N ++ numB l.length ++ (l.take k).flatMap arcB).length + 30 ≤ 100000000000) := hide (by
    intro k hk
    have h1 := arcsB_len N n2 (l.take k) (fun a ha => n4 a (List.mem_of_mem_take ha))
    have h2 := numB_ten N (by omega)
    have h3 := numB_ten l.length (by omega)
    simp only [List.length_append, List.length_cons, List.length_nil]
    rw [List.length_take] at h1
    omega)
  have Hn4 := hide n4
  have Hn2 := hide n2
  clear h1' hR n4
  go_enter Try.func18, Try.ntmps18
  go_wp2_with fail
  generalize w.alloc (.cells #[.int .i64 (N : Int), .slice a l.length c] 26) = W at *
  generalize hbs : w.heap.size = b at *
  refine Hb.mono ?_
  rintro e w1 ⟨rfl, t1⟩
  have hb1 := t1.same hb (fun h => h)
  have f1 : w1.cell? ⟨b, 1, none⟩ = some (.slice a l.length c) := cell_obj hb1 1
  have Hr := ordered_walk any _ _ l (hA.quiet t1)
  rw [h2] at Hr
  clear h2 Hb hr hb
  go_wp2_with fail
  refine Hr.mono ?_
  rintro e w2 ⟨rfl, t2⟩
  have A2 := ((hA.quiet t1).quiet t2).lt
  have T2 := (T0.then t1).then t2
  have hb2 := t2.same hb1 (fun h => h)
  have hwb : b < w2.heap.size := (Array.getElem?_eq_some_iff.1 hb2).1
  have Hbs := hide hbs
  have sz2 := T2.size
  rw [hbs] at sz2
  have HTQ := hide (show ∀ u, Turn (fun j => w2.heap.size ≤ j) w2 u → Turn (fun _ => False) w u from fun u h => T2.trans h (fun j hj => .inr (by omega)))
  have HP0 := hide sz2
  have tr0 : Turn (fun j => w2.heap.size ≤ j) w2 (w2.alloc (.cells #[.int .u8 7] 5)) := (Turn.refl _ _).alloc _
  have hb3 := tr0.same hb2 (by omega)
  have k0 : (w2.alloc (.cells #[.int .u8 7] 5)).cell? ⟨b, 0, none⟩ = some (.int .i64 (N : Int)) := cell_obj hb3 0
  have O0 := ob_lit w2 7
  have own0 : Hid (∀ j, (Value.slice (some ⟨w2.heap.size, 0, none⟩) 1 1).ownBlock = some j → w2.heap.size ≤ j) := hide (fun j hj => by simp [Value.ownBlock] at hj; omega)
  clear Hr hA hb1 T2 t1 t2 T0 f1 s0 hbs sz2 hb3
  go_wp2_with fail
  generalize w2.alloc (.cells #[.int .u8 7] 5) = w3 at *
  obtain ⟨p2, hp2⟩ : ∃ p2, p2 = w2.heap.size := ⟨_, rfl⟩
  rw [← hp2] at tr0 own0 O0 HTQ A2 hwb HP0
  have HP : Hid (p2 ≤ w2.heap.size ∧ b ≤ p2) := hide ⟨by omega, unhide HP0⟩
  rw [← hp2]
  clear hp2
  refine (refnum_walk N _ hN2).mono ?_
  rintro e wa5 ⟨ya5, rfl, hy5, hb5'⟩
  obtain ⟨x5, w5, hrun5, O5, tb5, ob5⟩ := append_num O0 hb5' hy5 hN2 (by have := unhide Hlen 0 (by omega); simp only [List.length_append, List.length_cons, List.length_nil] at this ⊢; omega)
  have tr5 : Turn (fun j => p2 ≤ j) w2 w5 := tr0.then (tb5.mono (fun j hj => unhide own0 j hj))
  have own5 : Hid (∀ j, x5.ownBlock = some j → p2 ≤ j) := hide (fun j hj => by
    rcases ob5 j hj with h | h
    · exact unhide own0 j h
    · have h1 := tr0.size; have h2 := (unhide HP).1; omega)
  have hb5 := tr5.same hb2 (by omega)
  have f5 : w5.cell? ⟨b, 1, none⟩ = some (.slice a l.length c) := cell_obj hb5 1
  clear hy5 hb5' tb5 ob5 O0 own0 tr0
  go_wp2_with (at_builtin; refine list_append_run rfl _ _ 22 rfl _ _ _ _ rfl rfl hrun5 ?_)
  clear f5 hb5 k0
  refine (refnum_walk l.length _ hL2).mono ?_
  rintro e wa6 ⟨ya6, rfl, hy6, hb6'⟩
  obtain ⟨x6, w6, hrun6, O6, tb6, ob6⟩ := append_num O5 hb6' hy6 hL2 (by have := unhide Hlen 0 (by omega); simp only [List.length_append, List.length_cons, List.length_nil] at this ⊢; omega)
  have tr6 : Turn (fun j => p2 ≤ j) w2 w6 := tr5.then (tb6.mono (fun j hj => unhide own5 j hj))
  have own6 : Hid (∀ j, x6.ownBlock = some j → p2 ≤ j) := hide (fun j hj => by
    rcases ob6 j hj with h | h
    · exact unhide own5 j h
    · have h1 := tr5.size; have h2 := (unhide HP).1; omega)
  have OO6 : OB w6 x6 ([7] ++ numB N ++ numB l.length ++ (l.take 0).flatMap arcB) := by simpa using O6
  clear hy6 hb6' tb6 ob6 O5 own5 tr5
  go_wp2_with (at_builtin; refine list_append_run rfl _ _ 22 rfl _ _ _ _ rfl rfl hrun6 ?_)
  clear O6
  go_loopw [4, 5] (fun s i wr => ∃ (k : Nat) (x : Value), x = s ∧ i = .int .i64 (k : Int) ∧ k ≤ l.length ∧ OB wr x ([7] ++ numB N ++ numB l.length ++ (l.take k).flatMap arcB) ∧ Hid (∀ j, x.ownBlock = some j → p2 ≤ j) ∧ Turn (fun j => p2 ≤ j) w2 wr) (fun _ i _ => l.length - (intOf i).toNat)
  case atStart => exact ⟨0, x6, rfl, rfl, Nat.zero_le _, OO6, own6, tr6⟩
  case round =>
    clear OO6 own6 tr6
    obtain ⟨k, x, rfl, rfl, hk, hO, hown, tr⟩ := hrel
    have hbr := tr.same hb2 (by omega)
    have g1 : wr.cell? ⟨b, 1, none⟩ = some (.slice a l.length c) := cell_obj hbr 1
    by_cases hlt : k < l.length
    · obtain ⟨y, hy⟩ := lt_take hlt
      have hoky := unhide Hn4 y (List.mem_of_getElem? hy)
      have hn2 := unhide Hn2
      have Ar := A2.turn tr (fun j hj => by have := hj.2; omega)
      have Hnext : Hid ((l.take (k + 1)).flatMap arcB = (l.take k).flatMap arcB ++ arcB y) := hide (by
        rw [List.take_add_one, hy]; simp)
      obtain ⟨f, t, v⟩ := y
      unfold okA at hoky
      simp only at hoky
      obtain ⟨F, rfl⟩ : ∃ F : Nat, f = F := ⟨f.toNat, by omega⟩
      obtain ⟨G, rfl⟩ : ∃ G : Nat, t = G := ⟨t.toNat, by omega⟩
      obtain ⟨V, rfl⟩ : ∃ V : Nat, v = V := ⟨v.toNat, by omega⟩
      have hF2 : F < 18446744073709551616 := by omega
      have hG2 : G < 18446744073709551616 := by omega
      have hV2 : V < 18446744073709551616 := by omega
      have hF10 := hide (numB_ten F hF2)
      have hG10 := hide (numB_ten G hG2)
      have HA := hide Ar
      obtain ⟨g, off, c', hv, _, hcl⟩ := Ar.form (by omega)
      simp only [Value.slice.injEq] at hv
      obtain ⟨rfl, _, rfl⟩ := hv
      obtain ⟨q0, q1, q2⟩ := hcl k _ hy
      simp only at q0 q1 q2
      have cells : Hid (∀ u, Turn (fun j => p2 ≤ j) w2 u → u.cell? ⟨b, 1, none⟩ = some (.slice (some ⟨g, off, none⟩) l.length c) ∧ u.cell? ⟨g, off + k * 3 + 1, none⟩ = some (.int .i64 (G : Int)) ∧ u.cell? ⟨g, off + k * 3 + 2, none⟩ = some (.int .i64 (V : Int))) := hide (fun u tu => by
        refine ⟨cell_obj (tu.same hb2 (by omega)) 1, ?_⟩
        obtain ⟨g', off', c', hv, _, hcl⟩ := (A2.turn tu (fun j hj => by have := hj.2; omega)).form (by omega)
        simp only [Value.slice.injEq, Option.some.injEq, Addr.mk.injEq, and_true] at hv
        obtain ⟨⟨rfl, rfl⟩, _, rfl⟩ := hv
        exact (hcl k _ hy).2)
      clear hcl Ar hbr hoky hn2 q1 q2
      go_wp2_with fail
      refine (refnum_walk F _ hF2).mono ?_
      rintro e wa7 ⟨ya7, rfl, hy7, hb7'⟩
      obtain ⟨x7, w7, hrun7, O7, tb7, ob7⟩ := append_num hO hb7' hy7 hF2 (by have := unhide Hlen k hk; omega)
      have tr7 : Turn (fun j => p2 ≤ j) w2 w7 := tr.then (tb7.mono (fun j hj => unhide hown j hj))
      have own7 : Hid (∀ j, x7.ownBlock = some j → p2 ≤ j) := hide (fun j hj => by
        rcases ob7 j hj with h | h
        · exact unhide hown j h
        · have h1 := tr.size; have h2 := (unhide HP).1; omega)
      obtain ⟨c1, c2, _⟩ := unhide cells w7 tr7
      clear q0 g1 hy7 hb7' tb7 ob7 hO hown tr
      go_wp2_with (at_builtin; refine list_append_run rfl _ _ 22 rfl _ _ _ _ rfl rfl hrun7 ?_)
      refine (refnum_walk G _ hG2).mono ?_
      rintro e wa8 ⟨ya8, rfl, hy8, hb8'⟩
      obtain ⟨x8, w8, hrun8, O8, tb8, ob8⟩ := append_num O7 hb8' hy8 hG2 (by have := unhide Hlen k hk; have := unhide hF10; simp only [List.length_append] at this ⊢; simp only [List.length_append] at *; omega)
      have tr8 : Turn (fun j => p2 ≤ j) w2 w8 := tr7.then (tb8.mono (fun j hj => unhide own7 j hj))
      have own8 : Hid (∀ j, x8.ownBlock = some j → p2 ≤ j) := hide (fun j hj => by
        rcases ob8 j hj with h | h
        · exact unhide own7 j h
        · have h1 := tr7.size; have h2 := (unhide HP).1; omega)
      clear c1 c2
      obtain ⟨c1, _, c3⟩ := unhide cells w8 tr8
      clear hy8 hb8' tb8 ob8 O7 own7 tr7
      go_wp2_with (at_builtin; refine list_append_run rfl _ _ 22 rfl _ _ _ _ rfl rfl hrun8 ?_)
      refine (refnum_walk V _ hV2).mono ?_
      rintro e wa9 ⟨ya9, rfl, hy9, hb9'⟩
      obtain ⟨x9, w9, hrun9, O9, tb9, ob9⟩ := append_num O8 hb9' hy9 hV2 (by have := unhide Hlen k hk; have := unhide hF10; have := unhide hG10; simp only [List.length_append] at *; omega)
      have tr9 : Turn (fun j => p2 ≤ j) w2 w9 := tr8.then (tb9.mono (fun j hj => unhide own8 j hj))
      have own9 : Hid (∀ j, x9.ownBlock = some j → p2 ≤ j) := hide (fun j hj => by
        rcases ob9 j hj with h | h
        · exact unhide own8 j h
        · have h1 := tr8.size; have h2 := (unhide HP).1; omega)
      have O9' : OB w9 x9 ([7] ++ numB N ++ numB l.length ++ (l.take (k + 1)).flatMap arcB) := by rw [unhide Hnext, ← List.append_assoc]; simpa [arcB, List.append_assoc] using O9
      clear hy9 hb9' tb9 ob9 O8 own8 tr8
      go_wp2_with (at_builtin; refine list_append_run rfl _ _ 22 rfl _ _ _ _ rfl rfl hrun9 ?_)
      exact ⟨⟨k + 1, x9, rfl, by go_num, by omega, O9', own9, tr9⟩, by simp [intOf]; omega⟩
    · obtain rfl : k = l.length := by omega
      rw [List.take_length] at hO
      go_wp2
      go_ret2
      refine ⟨_, rfl, by rw [unhide Henc]; exact hO, unhide HTQ _ (tr), fun j hj => ?_⟩
      have h1 := unhide hown j hj
      have h2 := (unhide HP).2
      have h3 := unhide Hbs
      omega
end Go.Proofs.Ytmmlannnpndkcaa
