/- The reference's Within: each node that is near put into its place. -/
import Derived.Test.YtombpfpfeebnpaaSFrom
import Derived.Test.YtombpfpfeebnpaaSInsert
import Derived.Test.YtombpfpfeebnpaaSPlain
import Derived.Test.YtombpfpfeebnpaaSTurn
import Derived.Deep.RegionLaw
import Derived.StillTailTactics
namespace Go.Proofs.Ytombpfpfeebnpaa
open Go.RowKit Go.Maps
set_option linter.unusedVariables false
set_option linter.unusedSimpArgs false
set_option maxRecDepth 100000

/-- elements up to a place, with no room behind -/
theorem cutS_cap {P : Program} {w : World} {t e : TypeId} {i : TypeInfo} {s : Nat} (ht : P.underlying t = some (.slice e)) (hi : P.info? e = some i) (hs : i.size = s) {v : Value} {n : Nat} {xs : List Value} (h : OwnSl w e s v n xs) (k : Nat) (hk : k ≤ n) :
    ∃ x, (∀ u : World, (Instr.slice t v none (some (.int .i64 (k : Int))) (some (.int .i64 (k : Int)))).run P u = .ok x u) ∧ OwnSl w e s x k (xs.take (k * s)) ∧ (∀ j, x.ownBlock = some j → v.ownBlock = some j) := by
  have hl : (xs.take (k * s)).length = k * s := by rw [List.length_take, h.1]; exact Nat.min_eq_left (Nat.mul_le_mul_right _ hk)
  rcases h.2 with ⟨rfl, rfl⟩ | ⟨g, off, cap, cur, rfl, hg, hnc, hcm, hfit, htk⟩
  · obtain rfl : k = 0 := by omega
    refine ⟨.slice none 0 0, fun u => ?_, ⟨hl, .inl ⟨rfl, rfl⟩⟩, fun j hj => hj⟩
    simp [Instr.slice, run_underlying ht, Instr.sliceBounds, Instr.sliceBound, asIntOf, sizeOf, typeInfo, hi, Result.andThen]
  · have hle : k ≤ cap := by omega
    refine ⟨.slice (some ⟨g, off, none⟩) k k, fun u => ?_, ⟨hl, .inr ⟨g, off, k, cur, rfl, hg, Nat.le_refl _, by omega, ?_, ?_⟩⟩, fun j hj => hj⟩
    · by_cases hc0 : k = 0
      · subst hc0
        simp [Instr.slice, run_underlying ht, Instr.sliceBounds, Instr.sliceBound, asIntOf, sizeOf, typeInfo, hi, Result.andThen, Addr.add]
      · simp [Instr.slice, run_underlying ht, Instr.sliceBounds, Instr.sliceBound, asIntOf, sizeOf, typeInfo, hi, Result.andThen, Addr.add, hle, hc0]
    · have := Nat.mul_le_mul_right s hle
      omega
    · rw [← htk, List.take_take, Nat.min_eq_left (Nat.mul_le_mul_right _ hk)]
theorem tCells_len (R : List It) : (tCells R).length = R.length * 2 := by
  unfold tCells
  induction R with
  | nil => rfl
  | cons x R ih => rw [List.flatMap_cons, List.length_append, ih]; simp [itC]; omega
theorem tCells_drop (R : List It) (k : Nat) (hk : k ≤ R.length) : (tCells R).drop (k * 2) = tCells (R.drop k) := by
  have h := tCells_append (R.take k) (R.drop k)
  rw [List.take_append_drop] at h
  rw [h, List.drop_left' (by rw [tCells_len, List.length_take, Nat.min_eq_left hk])]
theorem tCells_one (x : It) : tCells [x] = [.int .i64 (x.1 : Int), .int .i64 x.2] := by simp [tCells, itC]

/-- one put into its place, in memory -/
theorem ins_prep {w : World} {xa : Option Addr} {xc : Nat} {R : List It} (hO : DL w (.slice xa R.length xc) R) (hR : R.length ≤ 60) (i : Nat) (d : Int) (j : Nat) (hj : j ≤ R.length) :
    ∃ (a1 : Option Addr) (n1 c1 : Nat) (a2 : Option Addr) (n2 c2 : Nat) (a4 : Option Addr) (n4 c4 : Nat) (w4 : World) (a3 : Option Addr) (n3 c3 : Nat) (w5 : World),
      (∀ u : World, (Instr.slice 39 (.slice xa R.length xc) none (some (.int .i64 (j : Int))) (some (.int .i64 (j : Int)))).run Try.prog u = .ok (.slice a1 n1 c1) u) ∧
      (∀ u : World, (Instr.slice 39 (.slice xa R.length xc) (some (.int .i64 (j : Int))) none none).run Try.prog u = .ok (.slice a2 n2 c2) u) ∧
      (Builtin.append_ #[39, 39] 39 #[.slice (some ⟨w.heap.size, 0, none⟩) 1 1, .slice a2 n2 c2]).run Try.prog (w.drew.alloc (.cells #[.int .i64 (i : Int), .int .i64 d] 38)) = .ok (.slice a4 n4 c4) w4 ∧
      (Builtin.append_ #[39, 39] 39 #[.slice a1 n1 c1, .slice a4 n4 c4]).run Try.prog w4 = .ok (.slice a3 n3 c3) w5 ∧
      DL w5 (.slice a3 n3 c3) (R.take j ++ ((i, d) :: R.drop j)) ∧ Turn (fun q => (Value.slice xa R.length xc).ownBlock = some q) w w5 ∧ (∀ q, (Value.slice a3 n3 c3).ownBlock = some q → (Value.slice xa R.length xc).ownBlock = some q ∨ w.heap.size ≤ q) := by
  obtain ⟨ii, hii, hz0, hz1, hz2⟩ := info_parts info_dist
  obtain ⟨x1, hs1, o1, b1⟩ := cutS_cap (P := Try.prog) Try.underlying39 hii hz1 hO j hj
  obtain ⟨x2, hs2, s2, b2⟩ := cutS_from (P := Try.prog) (ki := .i64) Try.underlying39 hii hz1 hO j hj
  rw [← tCells_take] at o1
  rw [tCells_drop R j hj] at s2
  have ta := ((Turn.refl (fun _ => False) w).drew).alloc (.cells #[.int .i64 (i : Int), .int .i64 d] 38)
  have hN : OwnSl (w.drew.alloc (.cells #[.int .i64 (i : Int), .int .i64 d] 38)) 38 2 (.slice (some ⟨w.heap.size, 0, none⟩) 1 1) 1 (tCells [(i, d)]) := by
    refine ⟨rfl, .inr ⟨w.heap.size, 0, 1, #[.int .i64 (i : Int), .int .i64 d], rfl, heap_alloc_new w.drew _, Nat.le_refl _, by unfold maxLen; omega, by simp, by rw [tCells_one]; rfl⟩⟩
  have s2' := s2.turn ta (fun _ _ h => h)
  obtain ⟨v4, w4, r4, o4, t4, l4⟩ := append_src (P := Try.prog) (ty := 39) Try.underlying39 hii hz0 hz1 hz2 rfl (by omega) hN s2' (tCells_single _) (by unfold maxLen; omega) (by omega)
  have t4' : Turn (fun _ => False) w w4 := ta.trans t4 (fun q hq => .inr (by simp [Value.ownBlock] at hq; omega))
  have l4' : ∀ q, v4.ownBlock = some q → w.heap.size ≤ q := fun q hq => by
    rcases l4 q hq with h | h
    · simp [Value.ownBlock] at h; omega
    · have := ta.size; omega
  have o1' := o1.turn t4' (fun _ _ h => h)
  obtain ⟨v5, w5, r5, o5, t5, l5⟩ := append_src (P := Try.prog) (ty := 39) Try.underlying39 hii hz0 hz1 hz2 rfl (by omega) o1' o4.src (by rw [← tCells_append]; exact tCells_single _) (by unfold maxLen; omega) (by omega)
  have t5' : Turn (fun q => (Value.slice xa R.length xc).ownBlock = some q) w w5 := (t4'.mono (fun _ h => h.elim)).then (t5.mono (fun q hq => b1 q hq))
  have hl5 : (R.take j ++ ((i, d) :: R.drop j)).length = j + (1 + (R.length - j)) := by simp only [List.length_append, List.length_cons, List.length_take, List.length_drop]; omega
  have o5' : DL w5 v5 (R.take j ++ ((i, d) :: R.drop j)) := by
    unfold DL
    rw [hl5, tCells_append, show (i, d) :: R.drop j = [(i, d)] ++ R.drop j from rfl, tCells_append]
    exact o5
  obtain ⟨a1, n1, c1, rfl⟩ : ∃ a n c, x1 = .slice a n c := by rcases o1.2 with ⟨h, _⟩ | ⟨_, _, _, _, h, _⟩ <;> exact ⟨_, _, _, h⟩
  obtain ⟨a2, n2, c2, rfl⟩ : ∃ a n c, x2 = .slice a n c := by rcases s2.2 with ⟨_, _, h, _⟩ | ⟨_, _, h, _⟩ <;> exact ⟨_, _, _, h⟩
  obtain ⟨a4, n4, c4, rfl⟩ : ∃ a n c, v4 = .slice a n c := by rcases o4.2 with ⟨h, _⟩ | ⟨_, _, _, _, h, _⟩ <;> exact ⟨_, _, _, h⟩
  obtain ⟨a3, n3, c3, rfl⟩ : ∃ a n c, v5 = .slice a n c := by rcases o5.2 with ⟨h, _⟩ | ⟨_, _, _, _, h, _⟩ <;> exact ⟨_, _, _, h⟩
  refine ⟨a1, n1, c1, a2, n2, c2, a4, n4, c4, w4, a3, n3, c3, w5, hs1, hs2, r4, r5, o5', t5', fun q hq => ?_⟩
  rcases l5 q hq with h | h
  · exact .inl (b1 q h)
  · exact .inr (by have := t4'.size; omega)

set_option maxHeartbeats 16000000 in
theorem rwithin_walk (w : World) (N : Nat) (sv : Value) (l : List Ar) (hr : AR any w sv l) (hL : Looked N l) (v most : Int) :
    Calls Try.prog 20 #[.agg #[.int .i64 (N : Int), sv], .int .i64 v, .int .i64 most] w fun e w' => ∃ x R, e = .returned x ∧ DL w' x R ∧ Near N (goesF l) v most R ∧ Turn (fun _ => False) w w' := by
  obtain ⟨sa, sc, rfl⟩ := hr.slice
  have hN1 : 0 < N := by have := hL.2.2.1.1; omega
  have hN2 : N ≤ 60 := by have := hL.1; omega
  have T0 := (Turn.refl (fun _ => False) w).alloc (.cells #[.int .i64 (N : Int), .slice sa l.length sc] 24)
  have hb := heap_alloc_new w (.cells #[.int .i64 (N : Int), .slice sa l.length sc] 24)
  have hR0 := hr.quiet T0
  have HL := hide hL
  have hfr := rfrom_walk _ N _ l hR0 hL v
  clear hr hL hR0
  go_enter Try.func20, Try.ntmps20
  go_wp2_with fail
  refine hfr.mono ?_
  rintro e w1 ⟨db, L, rfl, hD, hdb, hds, t1⟩
  have T1 := T0.then t1
  have Hds := hide hds
  have hLl := hds.1
  have hdbw : db < w1.heap.size := by obtain ⟨cur, h⟩ := hD.obj; exact (Array.getElem?_eq_some_iff.1 h).1
  clear hfr hb T0 t1 hds hdb
  go_wp2_with fail
  go_loopw [7, 9] (fun o i wr => ∃ (x : Value) (k : Nat) (R : List It), o = x ∧ i = .int .i64 (k : Int) ∧ k ≤ N ∧ DL wr x R ∧ (∀ j, x.ownBlock = some j → w1.heap.size ≤ j) ∧ Hid (Sofar L most k R) ∧ Turn (fun j => w1.heap.size ≤ j) w1 wr) (fun _ i _ => N - (intOf i).toNat)
  case atStart => exact ⟨_, 0, [], rfl, rfl, Nat.zero_le _, ⟨rfl, .inl ⟨rfl, rfl⟩⟩, by simp [Value.ownBlock], hide (Sofar.begin L most), Turn.refl _ _⟩
  case round =>
    obtain ⟨x, k, R, rfl, rfl, hk, hO, hown, hS, tr⟩ := hrel
    obtain ⟨w2, hw2⟩ : ∃ y, y = wr := ⟨_, rfl⟩
    subst hw2
    by_cases hlt : k < N
    · obtain ⟨d, hd⟩ : ∃ d, L[k]? = some d := ⟨L[k]'(by omega), by simp [show k < L.length by omega]⟩
      have hD2 := hD.turn tr (by omega)
      obtain ⟨cd, _⟩ := hD2.at hd
      have ik : (k : Int) < (N : Int) := by omega
      have ik0 : (0 : Int) ≤ (k : Int) := by omega
      by_cases h1 : d < 1152921504606846976
      · have g1 : ¬ (1152921504606846976 : Int) ≤ d := by omega
        by_cases h2 : d ≤ most
        · have g2 : ¬ most < d := by omega
          have hRN : R.length ≤ 60 := by have := (unhide hS).few; omega
          have HS := hide (And.intro (unhide hS) (And.intro hd (And.intro h1 h2)))
          obtain ⟨xa, xc, hxf⟩ := hO.slice
          subst hxf
          clear hS
          go_wp2_with fail
          go_loopw [10] (fun q wr => ∃ (j : Nat), q = .int .i64 (j : Int) ∧ j ≤ R.length ∧ Hid (∀ y ∈ R.take j, y.2 ≤ d) ∧ Turn (fun _ => False) w2 wr) (fun q _ => R.length - (intOf q).toNat)
          case atStart => exact ⟨0, rfl, Nat.zero_le _, hide (by simp), Turn.refl _ _⟩
          case round =>
            obtain ⟨j, rfl, hj, hlow, tq⟩ := hrel
            have cdr := tq.cell cd (fun h => h)
            have hOr := hO.turn tq (fun _ _ h => h)
            have zd : ∀ p : After wr, p.w.cell? ⟨db, k, none⟩ = some (.int .i64 d) := fun p => p.turn.cell cdr (fun h => h)
            have hne := after_ne wr
            by_cases hlt2 : j < R.length
            · have e1 : decide ((j : Int) < (R.length : Int)) = true := decide_eq_true (by omega)
              have ij : (j : Int) < (R.length : Int) := by omega
              have ij0 : (0 : Int) ≤ (j : Int) := by omega
              rcases hOr.form with ⟨_, h0⟩ | ⟨g, off, c, hv, hg, hcl⟩
              · exfalso; rw [h0] at hlt2; simp at hlt2
              simp only [Value.slice.injEq] at hv
              obtain ⟨rfl, _, rfl⟩ := hv
              obtain ⟨y, hy⟩ : ∃ y, R[j]? = some y := ⟨R[j], by simp [hlt2]⟩
              have c1 := (hcl j y hy).2
              have zy : ∀ p : After wr, p.w.cell? ⟨g, off + j * 2 + 1, none⟩ = some (.int .i64 y.2) := fun p => p.turn.cell c1 (fun h => h)
              clear hcl cdr
              by_cases h3 : y.2 ≤ d
              · have e2 : decide (y.2 ≤ d) = true := decide_eq_true h3
                have e3 : decide (d < y.2) = false := decide_eq_false (by omega)
                have Hlow : Hid (∀ z ∈ R.take (j + 1), z.2 ≤ d) := hide (by
                  intro z hz
                  rw [List.take_add_one, hy, Option.toList_some] at hz
                  rcases List.mem_append.1 hz with hz | hz
                  · exact unhide hlow z hz
                  · rw [List.mem_singleton] at hz; rw [hz]; exact h3)
                clear hy hO hOr hlow
                go_wp2_with fail
                refine wp_region_after (by kernel_rfl) (by kernel_rfl) ?_
                repeat (go_big_quiet_step (fail))
                refine wpQuiet_nil ?_
                rintro _ ⟨p, rfl⟩
                have tq2 := tq.then p.turn
                go_wp2_with fail
                exact ⟨⟨j + 1, by go_num, by omega, Hlow, tq2⟩, by simp [intOf]; omega⟩
              · have e2 : decide (y.2 ≤ d) = false := decide_eq_false h3
                have e3 : decide (d < y.2) = true := decide_eq_true (by omega)
                have Hhigh : Hid (∀ z, R[j]? = some z → d < z.2) := hide (by intro z hz; rw [hy] at hz; cases hz; omega)
                clear hy
                go_wp2_with fail
                refine wp_region_after (by kernel_rfl) (by kernel_rfl) ?_
                repeat (go_big_quiet_step (fail))
                refine wpQuiet_nil ?_
                rintro _ ⟨p, rfl⟩
                have tq2 := tq.then p.turn
                have hO3 := hO.turn tq2 (fun _ _ h => h)
                obtain ⟨a1, n1, c1', a2, n2, c2, a4, n4, c4, w4, a3, n3, c3, w5, hs1, hs2, run2, run3, O5, t5, own5⟩ := ins_prep hO3 hRN k d j hj
                have hS2 := hide ((unhide HS).1.put (unhide HS).2.1 (unhide HS).2.2.1 (unhide HS).2.2.2 (unhide hlow) (unhide Hhigh))
                have cd3 := zd p
                have cd3d : p.w.drew.cell? ⟨db, k, none⟩ = some (.int .i64 d) := cd3
                have tr5 : Turn (fun j => w1.heap.size ≤ j) w1 w5 := ((tr.then (tq2.mono (fun _ h => h.elim))).then (t5.mono (fun q hq => hown q hq)))
                have own6 : Hid (∀ q, (Value.slice a3 n3 c3).ownBlock = some q → w1.heap.size ≤ q) := hide (fun q hq => by
                  rcases own5 q hq with h | h
                  · exact hown q h
                  · have := tr.size; have := tq2.size; omega)
                have Hk : Hid (k + 1 ≤ N) := hide hlt
                (first | clear cdr | skip); clear hO hO3 hOr own5 t5 zd hne cd tr tq tq2 hown hD2 hd Hhigh hlow
                generalize p.w = w3 at *
                go_wp2_with fail
                go_region_law (first | (refine step_append_run rfl (.tmp 54) (.tmp 65) 39 rfl _ _ _ _ rfl rfl run3 ?_) | (refine step_append_run rfl (.tmp 61) (.tmp 64) 39 rfl _ _ _ _ rfl rfl run2 ?_))
                clear run2 run3 hs1 hs2
                go_wp2_with fail
                exact ⟨⟨_, k + 1, _, rfl, by go_num, unhide Hk, O5, unhide own6, hS2, tr5⟩, by have := unhide Hk; simp [intOf]; omega⟩
            · have e1 : decide ((j : Int) < (R.length : Int)) = false := decide_eq_false (by omega)
              have Hhigh : Hid (∀ z, R[j]? = some z → d < z.2) := hide (by intro z hz; rw [List.getElem?_eq_none (by omega)] at hz; cases hz)
              go_wp2_with fail
              refine wp_region_after (by kernel_rfl) (by kernel_rfl) ?_
              repeat (go_big_quiet_step (fail))
              refine wpQuiet_nil ?_
              rintro _ ⟨p, rfl⟩
              have tq2 := tq.then p.turn
              have hO3 := hO.turn tq2 (fun _ _ h => h)
              obtain ⟨a1, n1, c1', a2, n2, c2, a4, n4, c4, w4, a3, n3, c3, w5, hs1, hs2, run2, run3, O5, t5, own5⟩ := ins_prep hO3 hRN k d j hj
              have hS2 := hide ((unhide HS).1.put (unhide HS).2.1 (unhide HS).2.2.1 (unhide HS).2.2.2 (unhide hlow) (unhide Hhigh))
              have cd3 := zd p
              have cd3d : p.w.drew.cell? ⟨db, k, none⟩ = some (.int .i64 d) := cd3
              have tr5 : Turn (fun j => w1.heap.size ≤ j) w1 w5 := ((tr.then (tq2.mono (fun _ h => h.elim))).then (t5.mono (fun q hq => hown q hq)))
              have own6 : Hid (∀ q, (Value.slice a3 n3 c3).ownBlock = some q → w1.heap.size ≤ q) := hide (fun q hq => by
                rcases own5 q hq with h | h
                · exact hown q h
                · have := tr.size; have := tq2.size; omega)
              have Hk : Hid (k + 1 ≤ N) := hide hlt
              (first | clear cdr | skip); clear hO hO3 hOr own5 t5 zd hne cd tr tq tq2 hown hD2 hd Hhigh hlow
              generalize p.w = w3 at *
              go_wp2_with fail
              go_region_law (first | (refine step_append_run rfl (.tmp 54) (.tmp 65) 39 rfl _ _ _ _ rfl rfl run3 ?_) | (refine step_append_run rfl (.tmp 61) (.tmp 64) 39 rfl _ _ _ _ rfl rfl run2 ?_))
              clear run2 run3 hs1 hs2
              go_wp2_with fail
              exact ⟨⟨_, k + 1, _, rfl, by go_num, unhide Hk, O5, unhide own6, hS2, tr5⟩, by have := unhide Hk; simp [intOf]; omega⟩
        · have g2 : most < d := by omega
          have hS2 := hide ((unhide hS).skip hd (fun h => h2 h.2))
          clear hd hD2
          go_wp2_with fail
          exact ⟨⟨_, k + 1, R, rfl, by go_num, by omega, hO, hown, hS2, tr⟩, by simp [intOf]; omega⟩
      · have g1 : (1152921504606846976 : Int) ≤ d := by omega
        have hS2 := hide ((unhide hS).skip hd (fun h => h1 h.1))
        clear hd hD2
        go_wp2_with fail
        exact ⟨⟨_, k + 1, R, rfl, by go_num, by omega, hO, hown, hS2, tr⟩, by simp [intOf]; omega⟩
    · obtain rfl : k = N := by omega
      have hnear := hide ((unhide hS).near (unhide Hds))
      have T2 : Turn (fun _ => False) w w2 := T1.trans tr (fun j hj => .inr (by have := T1.size; omega))
      go_wp2_with fail
      go_ret
      exact ⟨_, R, rfl, hO, unhide hnear, T2⟩
end Go.Proofs.Ytombpfpfeebnpaa
