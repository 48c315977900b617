/- HeapLowers: a thing that is lowered below all is the next one. -/
import Derived.Test.YtcajomobmjapgaaHFirsts
namespace Go.Proofs.Ytcajomobmjapgaa
open Go.RowKit Go.Maps
set_option linter.unusedVariables false
set_option linter.unusedSimpArgs false

/-- there is a first one -/
theorem min_of : ∀ (T : List It), T ≠ [] → ∃ x, IsMin T x
  | [], h => absurd rfl h
  | [a], _ => ⟨a, by simp, fun y hy => by simp at hy; subst hy; exact bef_irr _⟩
  | a :: b :: T, _ => by
    obtain ⟨x, h1, h2⟩ := min_of (b :: T) (by simp)
    by_cases h : bef a x
    · refine ⟨a, by simp, fun y hy => ?_⟩
      rcases List.mem_cons.1 hy with rfl | hy
      · exact bef_irr _
      · exact bef_nbef h (h2 y hy)
    · refine ⟨x, List.mem_cons_of_mem _ h1, fun y hy => ?_⟩
      rcases List.mem_cons.1 hy with rfl | hy
      · exact h
      · exact h2 y hy
/-- the least of the first k ranks -/
def LeastOf (zs : List Int) (k : Nat) (m : Int) : Prop := (∀ (i : Nat) (r : Int), i < k → zs[i]? = some r → m ≤ r) ∧ zs ≠ []
/-- lowered to what it has: the same things -/
theorem with_same {T T' : List It} {x : It} (h : With T T' x) (hx : x ∈ T) (hu : ∀ y ∈ T, y.1 = x.1 → y = x) : ∀ u, u ∈ T' ↔ u ∈ T := by
  intro u
  rw [h u]
  constructor
  · rintro (rfl | h)
    · exact hx
    · exact h.1
  · intro h
    by_cases he : u.1 = x.1
    · exact .inl (hu u h he)
    · exact .inr ⟨h, he⟩
theorem isMin_same {T T' : List It} (h : ∀ u, u ∈ T' ↔ u ∈ T) {x : It} (hx : IsMin T x) : IsMin T' x := ⟨(h x).2 hx.1, fun y hy => hx.2 y ((h y).1 hy)⟩

theorem rem_to (a : Int) (n : Nat) (h0 : 0 < n) (h1 : n ≤ 1099511627776) : ∃ f : Nat, f < n ∧ wrap64 ((IntKind.u64.wrap a).tmod (n : Int)) = (f : Int) := by
  refine ⟨(a % 18446744073709551616 % (n : Int)).toNat, ?_, ?_⟩
  · have := Int.emod_lt_of_pos (a % 18446744073709551616) (show (0 : Int) < n by omega)
    omega
  · have e : (IntKind.u64.wrap a).tmod (n : Int) = a % 18446744073709551616 % (n : Int) := by
      rw [IntKind.wrap_u64, Int.tmod_eq_emod_of_nonneg (by omega)]
    have h2 := Int.emod_lt_of_pos (a % 18446744073709551616) (show (0 : Int) < n by omega)
    have h3 := Int.emod_nonneg (a % 18446744073709551616) (show (n : Int) ≠ 0 by omega)
    rw [e]
    unfold wrap64
    omega

set_option maxRecDepth 100000 in
set_option maxHeartbeats 8000000 in
theorem lowers_walk (w : World) (v : Value) (zs : List Int) (hr : Row .i64 any w v zs) (hwf : ∀ n ∈ zs, (Lit.int .i64 n).wf = true) (which : Int) (hw : (Lit.int .i64 which).wf = true) :
    Calls Try.prog 6 #[v, .int .i64 which] w fun e w' => e = .returned (.bool true) ∧ Turn (fun _ => False) w w' := by
  obtain ⟨a, c, rfl⟩ := hr.slice
  obtain ⟨n, hn⟩ : ∃ n, n = min zs.length 100 := ⟨_, rfl⟩
  have hmi : (if 100 < (zs.length : Int) then (100 : Int) else (zs.length : Int)) = (n : Int) := by split <;> omega
  have hnz : n ≤ zs.length := by omega
  have hn2 : n ≤ 100 := by omega
  by_cases h0 : n = 0
  · subst h0
    clear hn
    go_enter Try.func6, Try.ntmps6
    go_wp2_with fail
    refine (awake_walk _).mono ?_
    rintro e w2 ⟨rfl, t2⟩
    go_wp2_with fail
    refine (awake_walk _).mono ?_
    rintro e w3 ⟨rfl, t3⟩
    go_wp2_with fail
    go_ret
    exact ⟨rfl, t2.then t3⟩
  · have hn1 : 1 ≤ n := by omega
    have hn0 : ((n : Int) == 0) = false := by rw [beq_eq_false_iff_ne]; omega
    have hz0 : 0 < zs.length := by omega
    obtain ⟨r0, hr0⟩ : ∃ r, zs[0]? = some r := ⟨zs[0], by simp [hz0]⟩
    have hcells : ∃ b off, a = some ⟨b, off, none⟩ ∧ b < w.heap.size ∧ ∀ (k : Nat) (r : Int), zs[k]? = some r → w.cell? ⟨b, off + k, none⟩ = some (.int .i64 r) := by
      rcases hr.lt with ⟨_, _, hv, _, _, rfl⟩ | ⟨b, off, c', hv, _, _, hb, hc⟩
      · simp at hz0
      · simp only [Value.slice.injEq] at hv
        refine ⟨b, off, hv.1, hb.2, fun k r hk => ?_⟩
        rw [hc k ((List.getElem?_eq_some_iff.1 hk).1)]
        rw [show zs.getD k 0 = r by rw [List.getD_eq_getElem?_getD, hk]; rfl]
    obtain ⟨b, off, rfl, hbw, hcw⟩ := hcells
    have Hcw : Hid (∀ u : World, Turn (fun j => w.heap.size ≤ j) w u → ∀ (k : Nat) (r : Int), zs[k]? = some r → u.cell? ⟨b, off + k, none⟩ = some (.int .i64 r)) := hide (fun u tu k r hk => tu.cell (hcw k r hk) (by simp; omega))
    clear hn h0 hcw hr
    go_enter Try.func6, Try.ntmps6
    go_wp2_with fail
    refine (awake_walk _).mono ?_
    rintro e w1 ⟨rfl, t1⟩
    go_wp2_with fail
    refine (newH _ n (by omega) (by omega)).mono ?_
    rintro e w2 ⟨B, rfl, t2, hB, h2⟩
    have h2' : HAt w2 B n (fun j => w.heap.size ≤ j) [] := h2.mono (fun j hj => Nat.le_trans t1.size hj)
    have T2 : Turn (fun j => w.heap.size ≤ j) w w2 := (t1.then t2).mono (fun _ h => h.elim)
    have c0 := unhide Hcw w2 T2 0 r0 hr0
    rw [Nat.add_zero] at c0
    have Hr0 := hide hr0
    clear h2 t1 t2 hmi hr0
    go_wp2_with fail
    go_loopw [8, 9] (fun l i wr => ∃ (k : Nat) (T : List It) (m : Int), l = .int .i64 m ∧ i = .int .i64 (k : Int) ∧ k ≤ n ∧ HAt wr B n (fun j => w.heap.size ≤ j) T ∧ T.length = k ∧ Hid (Firsts zs k T) ∧ Hid (m ∈ zs ∧ ∀ (i : Nat) (r : Int), i < k → zs[i]? = some r → m ≤ r) ∧ Turn (fun j => w.heap.size ≤ j) w wr) (fun _ i _ => n - (intOf i).toNat)
    case atStart => exact ⟨0, [], r0, rfl, rfl, Nat.zero_le _, h2', rfl, hide (firsts_nil zs), hide ⟨List.mem_of_getElem? (unhide Hr0), fun i r hi => by omega⟩, T2⟩
    case round =>
      obtain ⟨k, T, m, rfl, rfl, hk, hH, hl, hF, hM, tr⟩ := hrel
      by_cases hkn : k < n
      · have hkz : k < zs.length := by omega
        obtain ⟨r, hzr⟩ : ∃ r, zs[k]? = some r := ⟨zs[k], by simp [hkz]⟩
        have hc := unhide Hcw wr tr k r hzr
        have hp := push_ok hH (fun j hj => Nat.le_trans tr.size hj) k r hkn (fun q hm => by have := ((unhide hF) _).1 hm; simp at this)
        have Hzr := hide hzr
        clear hzr c0
        go_wp2_with fail
        refine hp.mono ?_
        rintro e w3 ⟨rfl, t3, T', h3, l3, m3⟩
        have F3 := hide ((unhide hF).push (unhide Hzr) m3)
        have tr3 := tr.then t3
        have hc3 := unhide Hcw w3 tr3 k r (unhide Hzr)
        have hmin : Hid ((if r < m then r else m) ∈ zs ∧ ∀ (i : Nat) (q : Int), i < k + 1 → zs[i]? = some q → (if r < m then r else m) ≤ q) := hide (by
          refine ⟨?_, fun i q hi hq => ?_⟩
          · split
            · exact List.mem_of_getElem? (unhide Hzr)
            · exact (unhide hM).1
          · by_cases e : i = k
            · subst e
              rw [unhide Hzr] at hq; cases hq
              split <;> omega
            · have := (unhide hM).2 i q (by omega) hq
              split <;> omega)
        obtain ⟨m', hm'⟩ : ∃ m', (if r < m then r else m) = m' := ⟨_, rfl⟩
        rw [hm'] at hmin
        clear m3 hp hc
        go_wp2_with fail
        exact ⟨⟨k + 1, T', m', rfl, by go_num, by omega, h3, by omega, F3, hmin, tr3⟩, by simp [intOf]; omega⟩
      · obtain rfl : k = n := by omega
        obtain ⟨j, hjk, hj⟩ := rem_to which k hn1 (by omega)
        obtain ⟨x, hx⟩ := min_of T (by intro e; rw [e] at hl; simp at hl; omega)
        have hxk := (((unhide hF) x).1 hx.1).1
        have h3 := hH.old
        obtain ⟨G, hG⟩ : ∃ G : Nat → Prop, G = fun q => w.heap.size ≤ q ∧ q < wr.heap.size := ⟨_, rfl⟩
        rw [← hG] at h3
        have hF3 : ∀ q, G q → w.heap.size ≤ q := fun q hq => by rw [hG] at hq; exact hq.1
        have hF4 : ∀ q, G q → q < wr.heap.size := fun q hq => by rw [hG] at hq; exact hq.2
        clear hG
        have hjz : j < zs.length := by omega
        obtain ⟨r, hzr⟩ : ∃ r, zs[j]? = some r := ⟨zs[j], by simp [hjz]⟩
        have hjm : (j, r) ∈ T := ((unhide hF) (j, r)).2 ⟨hjk, hzr⟩
        have hmr : m ≤ r := (unhide hM).2 j r hjk hzr
        have hmw : -9223372036854775808 ≤ m ∧ m ≤ 9223372036854775807 := by
          have := hwf m (unhide hM).1
          simp [Lit.wf, IntKind.min, IntKind.max, IntKind.bits, IntKind.signed] at this
          exact this
        have hall : Hid (∀ u ∈ T, m ≤ u.2) := hide (fun u hu => by
          have := (unhide hF u).1 hu
          exact (unhide hM).2 u.1 u.2 this.1 this.2)
        have Hzr := hide hzr
        have Hjm := hide hjm
        have Hx := hide hx
        clear hx hzr hjm hH hM hF h2' T2 c0
        go_wp2_with fail
        refine (peek_ok h3 x (unhide Hx)).mono ?_
        rintro e w4 ⟨rfl, t4, h4⟩
        have ta := (Turn.refl (fun _ => False) w4).alloc (.cells #[.int .i64 (x.1 : Int), .int .i64 x.2] 36)
        have k5 : (w4.alloc (.cells #[.int .i64 (x.1 : Int), .int .i64 x.2] 36)).heap[w4.heap.size]? = some (.cells #[.int .i64 (x.1 : Int), .int .i64 x.2] 36 (0, 0)) := heap_alloc_new w4 _
        have h5 := h4.quiet ta
        have tr5 := tr.then ((t4.then ta).mono (fun _ h => h.elim))
        have s5 : wr.heap.size ≤ w4.heap.size := t4.size
        have c5 := unhide Hcw _ tr5 j r (unhide Hzr)
        clear ta h4 h3 tr
        unfold itV
        go_wp2_with fail
        generalize w4.alloc (.cells #[.int .i64 (x.1 : Int), .int .i64 x.2] 36) = v5 at *
        generalize w4.heap.size = b5 at *
        refine (lower_ok h5 j r r (unhide Hjm) (Int.le_refl _)).mono ?_
        rintro e w6 ⟨rfl, t6, T6, h6, l6, m6⟩
        have hsame := with_same m6 (unhide Hjm) (fun y hy he => h5.uniq hy (unhide Hjm) he)
        have x6 := hide (isMin_same hsame (unhide Hx))
        have Hsame := hide hsame
        have k6 := t6.same k5 (fun h => by have := hF4 _ h; omega)
        have s6 : wr.heap.size ≤ w6.heap.size := by have := t6.size; have := (Array.getElem?_eq_some_iff.1 k5).1; omega
        have tr6 := tr5.then (t6.mono hF3)
        clear m6 hsame h5 t6 k5 c5 tr5 t4
        go_wp2_with fail
        refine (peek_ok h6 x (unhide x6)).mono ?_
        rintro e w7 ⟨rfl, t7, h7⟩
        have ta := (Turn.refl (fun _ => False) w7).alloc (.cells #[.int .i64 (x.1 : Int), .int .i64 x.2] 36)
        have k8 : (w7.alloc (.cells #[.int .i64 (x.1 : Int), .int .i64 x.2] 36)).heap[w7.heap.size]? = some (.cells #[.int .i64 (x.1 : Int), .int .i64 x.2] 36 (0, 0)) := heap_alloc_new w7 _
        have h8 := h7.quiet ta
        have k58 := ta.same (t7.same k6 (fun h => h)) (fun h => h)
        have tr8 := tr6.then ((t7.then ta).mono (fun _ h => h.elim))
        have s8 : wr.heap.size ≤ w7.heap.size := by have := t7.size; omega
        clear ta h7 h6 k6 tr6 t7
        unfold itV
        have x0 : (w7.alloc (.cells #[.int .i64 (x.1 : Int), .int .i64 x.2] 36)).cell? ⟨b5, 0, none⟩ = some (.int .i64 (x.1 : Int)) := cell_obj k58 0
        have x1 : (w7.alloc (.cells #[.int .i64 (x.1 : Int), .int .i64 x.2] 36)).cell? ⟨b5, 1, none⟩ = some (.int .i64 x.2) := cell_obj k58 1
        by_cases hmm : m = -9223372036854775808
        · subst hmm
          go_wp2_with fail
          go_ret
          exact ⟨rfl, tr8.fresh (fun j hj => hj)⟩
        · have hm2 : (m == -9223372036854775808) = false := by simpa using hmm
          have hm3 : -9223372036854775808 ≤ m - 1 := by omega
          go_wp2_with fail
          generalize w7.alloc (.cells #[.int .i64 (x.1 : Int), .int .i64 x.2] 36) = v8 at *
          generalize w7.heap.size = b8 at *
          clear x0 x1 k58 k8 x6
          refine (lower_ok h8 j r (m - 1) ((unhide Hsame (j, r)).2 (unhide Hjm)) (by omega)).mono ?_
          rintro e w9 ⟨rfl, t9, T9, h9, l9, m9⟩
          have hmin9 : Hid (IsMin T9 (j, m - 1)) := hide ⟨(m9 _).2 (.inl rfl), fun y hy => by
            rcases (m9 y).1 hy with rfl | ⟨hy1, hy2⟩
            · exact bef_irr _
            · have := unhide hall y ((unhide Hsame y).1 hy1)
              unfold bef
              simp only
              omega⟩
          have tr9 := tr8.then (t9.mono hF3)
          clear m9 h8 tr8 t9
          go_wp2_with fail
          refine (pop_ok h9 (j, m - 1) (unhide hmin9)).mono ?_
          rintro e w10 ⟨rfl, t10, T10, h10, hl10⟩
          have hlen := hl10.1
          have ta := (Turn.refl (fun _ => False) w10).alloc (.cells #[.int .i64 (j : Int), .int .i64 (m - 1)] 36)
          have h11 := h10.quiet ta
          have T11 := ((tr9.then (t10.mono hF3)).then (ta.mono (fun _ h => h.elim))).fresh (fun j hj => hj)
          have hlw := lenH h11
          have hk1 : ((T10.length : Int) == (k : Int) - 1) = true := by rw [beq_iff_eq]; omega
          clear hl10 h10 h9 t10 tr9 ta h11
          unfold itV
          go_wp2_with (go_at_call 16; refine hlw.mono ?_; rintro e w12 ⟨rfl, rfl⟩)
          go_ret
          exact ⟨rfl, T11⟩
theorem HeapLowers_law (w : World) (v : Value) (zs : List Int) (hr : Row .i64 any w v zs) (hwf : ∀ n ∈ zs, (Lit.int .i64 n).wf = true) (hz : zs.length * 8 ≤ 140737488351232) (which : Int) (hw : (Lit.int .i64 which).wf = true) :
    Calls Try.prog 6 #[v, .int .i64 which] w fun e w' => e = .returned (.bool true) ∧ Below w.heap.size w w' :=
  (lowers_walk w v zs hr hwf which hw).mono (fun e w' h => ⟨h.1, h.2.bel⟩)
end Go.Proofs.Ytcajomobmjapgaa
