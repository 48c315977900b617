/- Gathering in memory. -/
import Derived.Test.YtombpfpfeebnpaaGInts
namespace Go.Proofs.Ytombpfpfeebnpaa
open Go.RowKit Go.Maps
set_option linter.unusedVariables false
set_option linter.unusedSimpArgs false
set_option maxRecDepth 100000

/-- a row of m numbers at a block -/
def OIn (w : World) (g m : Nat) (S : List Int) : Prop := S.length = m ∧ OI w (.slice (some ⟨g, 0, none⟩) m m) S
theorem OIn.turn {F : Nat → Prop} {w w' : World} {g m : Nat} {S : List Int} (h : OIn w g m S) (ht : Turn F w w') (hn : ¬ F g) : OIn w' g m S := ⟨h.1, h.2.turn ht (fun k hk => by simp [Value.ownBlock] at hk; subst hk; exact hn)⟩
theorem OIn.at {w : World} {g m : Nat} {S : List Int} (h : OIn w g m S) {i : Nat} {x : Int} (hx : S[i]? = some x) : w.cell? ⟨g, i, none⟩ = some (.int .i32 x) ∧ w.frozen? ⟨g, i, none⟩ = false := by
  obtain ⟨h1, h2⟩ := h
  subst h1
  exact h2.at hx
theorem OIn.put {w : World} {g m : Nat} {S : List Int} (h : OIn w g m S) {i : Nat} (hi : i < m) (x : Int) : OIn (w.setCell ⟨g, i, none⟩ (.int .i32 x)) g m (S.set i x) := by
  obtain ⟨h1, h2⟩ := h
  subst h1
  exact ⟨by rw [List.length_set], h2.put hi x⟩
theorem OIn.lt {w : World} {g m : Nat} {S : List Int} (h : OIn w g m S) : ∃ cur, w.heap[g]? = some (.cells cur 21 (0, 0)) := OwnSl.lt h.2 g rfl
/-- .. from a place on, with more room -/
def OIx (w : World) (g off c m : Nat) (S : List Int) : Prop := S.length = m ∧ OI w (.slice (some ⟨g, off, none⟩) m c) S
theorem OIx.turn {F : Nat → Prop} {w w' : World} {g off c m : Nat} {S : List Int} (h : OIx w g off c m S) (ht : Turn F w w') (hn : ¬ F g) : OIx w' g off c m S := ⟨h.1, h.2.turn ht (fun k hk => by simp [Value.ownBlock] at hk; subst hk; exact hn)⟩
theorem OIx.at {w : World} {g off c m : Nat} {S : List Int} (h : OIx w g off c m S) {i : Nat} {x : Int} (hx : S[i]? = some x) : w.cell? ⟨g, off + i, none⟩ = some (.int .i32 x) ∧ w.frozen? ⟨g, off + i, none⟩ = false := by
  obtain ⟨h1, h2⟩ := h
  subst h1
  have := OwnSl.cells h2 i (.int .i32 x) (by rw [List.getElem?_map, hx]; rfl)
  obtain ⟨cur, hc⟩ := OwnSl.lt h2 g rfl
  exact ⟨this, frozen_obj hc _⟩
theorem OIx.put {w : World} {g off c m : Nat} {S : List Int} (h : OIx w g off c m S) {i : Nat} (hi : i < m) (x : Int) : OIx (w.setCell ⟨g, off + i, none⟩ (.int .i32 x)) g off c m (S.set i x) := by
  obtain ⟨h1, h2⟩ := h
  subst h1
  have := (OwnSl.set h2 i (by omega) (.int .i32 x)).1
  refine ⟨by rw [List.length_set], ?_⟩
  unfold OI
  rw [List.length_set, List.map_set]
  exact this
theorem OIx.lt {w : World} {g off c m : Nat} {S : List Int} (h : OIx w g off c m S) : ∃ cur, w.heap[g]? = some (.cells cur 21 (0, 0)) := OwnSl.lt h.2 g rfl
/-- a row of m arcs at a block -/
def OAn (w : World) (g m : Nat) (L : List Ar) : Prop := L.length = m ∧ OA w (.slice (some ⟨g, 0, none⟩) m m) L
theorem OAn.turn {F : Nat → Prop} {w w' : World} {g m : Nat} {S : List Ar} (h : OAn w g m S) (ht : Turn F w w') (hn : ¬ F g) : OAn w' g m S := ⟨h.1, h.2.turn ht (fun k hk => by simp [Value.ownBlock] at hk; subst hk; exact hn)⟩
theorem OAn.lt {w : World} {g m : Nat} {S : List Ar} (h : OAn w g m S) : ∃ cur, w.heap[g]? = some (.cells cur 46 (0, 0)) := OwnSl.lt h.2 g rfl
theorem OAn.at {w : World} {g m : Nat} {L : List Ar} (h : OAn w g m L) {i : Nat} (hi : i < m) : ∃ x : Ar, w.cell? ⟨g, i * 3, none⟩ = some (.int .i64 x.1) ∧ w.cell? ⟨g, i * 3 + 1, none⟩ = some (.int .i64 x.2.1) ∧ w.cell? ⟨g, i * 3 + 2, none⟩ = some (.int .i64 x.2.2) := by
  obtain ⟨h1, h2⟩ := h
  subst h1
  obtain ⟨b, off, c, hv, _, hc⟩ := h2.ar.form (by omega)
  simp only [Value.slice.injEq, Option.some.injEq, Addr.mk.injEq, and_true] at hv
  obtain ⟨⟨rfl, rfl⟩, _, rfl⟩ := hv
  refine ⟨L[i], ?_⟩
  have := hc i L[i] (by simp [hi])
  simpa using this
theorem OAn.put {w : World} {g m : Nat} {L : List Ar} (h : OAn w g m L) {i : Nat} (hi : i < m) (x : Ar) : OAn (((w.setCell ⟨g, i * 3, none⟩ (.int .i64 x.1)).setCell ⟨g, i * 3 + 1, none⟩ (.int .i64 x.2.1)).setCell ⟨g, i * 3 + 2, none⟩ (.int .i64 x.2.2)) g m (L.set i x) := by
  obtain ⟨h1, h2⟩ := h
  subst h1
  refine ⟨by rw [List.length_set], ?_⟩
  have a1 := (OwnSl.set h2 (i * 3) (by omega) (.int .i64 x.1)).1
  have a2 := (OwnSl.set a1 (i * 3 + 1) (by omega) (.int .i64 x.2.1)).1
  have a3 := (OwnSl.set a2 (i * 3 + 2) (by omega) (.int .i64 x.2.2)).1
  rw [arCs_set hi x] at a3
  unfold OA
  rw [List.length_set]
  simpa using a3
/-- what gathering leaves: arcs, and where each node's begin -/
structure Gath (w : World) (ga gs : Nat) (ke : Ar → Int) (l : List Ar) (n : Nat) : Prop where
  arcs : OAn w ga l.length (gat ke l n)
  starts : ∃ S, OIn w gs (n + 1) S ∧ Starts ke l n S
theorem Gath.turn {F : Nat → Prop} {w w' : World} {ga gs n : Nat} {ke : Ar → Int} {l : List Ar} (h : Gath w ga gs ke l n) (t : Turn F w w') (h1 : ¬ F ga) (h2 : ¬ F gs) : Gath w' ga gs ke l n := by
  obtain ⟨a, S, b, c⟩ := h
  exact ⟨a.turn t h1, S, b.turn t h2, c⟩

set_option maxHeartbeats 16000000 in
theorem gather_to (B : Nat → Prop) (w : World) (v : Value) (l : List Ar) (n : Nat) (hr : AR B w v l) (hn1 : n ≤ 4194304) (hl1 : l.length ≤ 4194304) (hk : ∀ a ∈ l, 0 ≤ keT a ∧ keT a < (n : Int)) :
    Calls Try.prog 42 #[v, .int .i64 (n : Int), .func (.func 43) #[] #[]] w fun e w' => ∃ ga gs, e = .returned (.agg #[.slice (some ⟨ga, 0, none⟩) l.length l.length, .slice (some ⟨gs, 0, none⟩) (n + 1) (n + 1)]) ∧ Gath w' ga gs keT l n ∧ Turn (fun _ => False) w w' ∧ w.heap.size ≤ ga ∧ w.heap.size ≤ gs := by
  obtain ⟨i0, hi, hz0, hz1, hz2⟩ := info_parts info_i32
  obtain ⟨j0, hj, hy0, hy1, hy2⟩ := info_parts info_arc
  have HK := hide hk
  have T0 := (Turn.refl (fun _ => False) w).alloc (.cells #[.slice none 0 0, .slice none 0 0] 76)
  have hrb := heap_alloc_new w (.cells #[.slice none 0 0, .slice none 0 0] 76)
  have hA := (hr.lt).quiet T0
  obtain ⟨a, c, rfl⟩ := hr.slice
  have hs0 := T0.size
  clear hr hk
  go_enter Try.func42, Try.ntmps42
  go_wp2_with (at_make; generalize hW : w.alloc (.cells #[.slice none 0 0, .slice none 0 0] 76) = W at *; generalize hrbe : w.heap.size = rb at *; refine wpList_make_full _ rfl _ _ 74 rfl W.heap.size 21 i0 (.int .i32 0) 1 Try.underlying74 hi hz0 hz1 .i64 .i64 ((n : Int) + 1) ((n : Int) + 1) (n + 1) rfl rfl (by omega) (by omega) (by rw [hz2]; omega) (by unfold maxLen; omega) (Nat.le_refl _) ?_; intro w1 hown1 hgrow1)
  have Hrb := hide hrbe
  have hrbW : rb < W.heap.size := (Array.getElem?_eq_some_iff.1 hrb).1
  rw [zero_ints] at hown1
  have t1 : Turn (fun _ => False) W w1 := Turn.grown hgrow1 (fun k e => by cases e)
  have hO : OIn w1 W.heap.size (n + 1) (List.replicate (n + 1) 0) := ⟨by simp, by unfold OI; rw [List.length_replicate]; exact OwnSl.of_owns hown1⟩
  have hC0 : Hid (Counted keT l n 0 (List.replicate (n + 1) 0)) := hide ⟨by simp, by simp, fun v hv => by simp [flt, hv]⟩
  generalize hgs : W.heap.size = gs at *
  have A1 := hA.quiet t1
  have rb1 := t1.same hrb (fun h => h)
  have T1 := T0.then t1
  have hgw : gs < w1.heap.size := by obtain ⟨cur, h⟩ := hO.lt; exact (Array.getElem?_eq_some_iff.1 h).1
  clear hown1 hgrow1 hA hrb hW t1 T0 hs0 hgs hrbe
  clear hz0 hz1 hz2
  go_loopw [21] (fun i wr => ∃ (k : Nat) (S : List Int), i = .int .i64 (k : Int) ∧ k ≤ l.length ∧ OIn wr gs (n + 1) S ∧ Hid (Counted keT l n k S) ∧ Turn (fun j => j = gs) w1 wr) (fun i _ => l.length - (intOf i).toNat)
  case atStart => exact ⟨0, _, rfl, Nat.zero_le _, hO, hC0, Turn.refl _ _⟩
  case round =>
    clear hO hC0
    obtain ⟨k, S, rfl, hk, hO, hC, tr⟩ := hrel
    by_cases hlt : k < l.length
    · obtain ⟨x, hx⟩ := lt_take hlt
      obtain ⟨g, off, c', hv, _, hcl⟩ := (A1.turn tr (fun j hj => by have := hj.2; omega)).form (by omega)
      simp only [Value.slice.injEq] at hv
      obtain ⟨rfl, _, rfl⟩ := hv
      obtain ⟨q0, q1, q2⟩ := hcl k x hx
      obtain ⟨u, cn, hku, hun, hSu, hcn, hC2⟩ := (unhide hC).step (unhide HK) hx
      have tX := (Turn.refl (fun _ => False) wr).alloc (.cells #[.int .i64 x.1, .int .i64 x.2.1, .int .i64 x.2.2] 46)
      have hO2 := hO.turn tX (fun h => h)
      have Hf := fun u => to_walk x u
      have hku' : x.2.1 = (u : Int) := hku
      rw [hku'] at Hf
      unfold arV at Hf
      have tr2 := tr.then (tX.mono (fun _ h => h.elim))
      have HC2 := hide hC2
      have hun2 : (u : Int) + 1 < (n : Int) + 1 := by omega
      have hcn2 : (cn : Int) < 4194304 := by omega
      have HSu := hide hSu
      clear hcl hx hC hC2 hO tX tr hku hku' hSu
      obtain ⟨x1, x2, x3⟩ := x
      simp only at q0 q1 q2 Hf hO2 tr2
      go_wp2_with fail
      generalize wr.alloc (.cells #[.int .i64 x1, .int .i64 x2, .int .i64 x3] 46) = W2 at *
      refine (Hf _).mono ?_
      rintro e w3 ⟨rfl, t3⟩
      have hO3 := hO2.turn t3 (fun h => h)
      obtain ⟨d0, d1⟩ := hO3.at (unhide HSu)
      have hO4 := hO3.put (show u + 1 < n + 1 by omega) ((cn : Int) + 1)
      have tr4 := (tr2.then (t3.mono (fun _ h => h.elim))).then ((Turn.refl (fun j => j = gs) w3).setCell (p := ⟨gs, u + 1, none⟩) (.inl rfl) (.int .i32 ((cn : Int) + 1)))
      clear Hf hO2 hO3 tr2 t3
      go_wp2
      exact ⟨⟨k + 1, _, by go_num, by omega, hO4, HC2, tr4⟩, by simp [intOf]; omega⟩
    · obtain rfl : k = l.length := by omega
      have hS0 := hide ((unhide hC).summed)
      clear hC
      go_wp2_with fail
      go_loopw [36] (fun i wr => ∃ (k : Nat) (S : List Int), i = .int .i64 (k : Int) ∧ k ≤ n ∧ OIn wr gs (n + 1) S ∧ Hid (Summed keT l n k S) ∧ Turn (fun j => j = gs) w1 wr) (fun i _ => n - (intOf i).toNat)
      case atStart => exact ⟨0, S, rfl, Nat.zero_le _, hO, hS0, tr⟩
      case round =>
        clear hO hS0 tr
        obtain ⟨k, S, rfl, hk, hO, hS, tr⟩ := hrel
        by_cases hlt : k < n
        · obtain ⟨an, bn, hSa, hSb, hab, hS2⟩ := (unhide hS).step hlt
          have hgl : (gat keT l (k + 1)).length ≤ l.length := by
            have h1 := gat_mono keT l (show k + 1 ≤ n by omega)
            have h2 := gat_total keT l n (unhide HK)
            omega
          have hsum : (bn : Int) + (an : Int) ≤ 4194304 := by omega
          have hbn : (bn : Int) ≤ 4194304 := by omega
          have han : (an : Int) ≤ 4194304 := by omega
          obtain ⟨c0, y0⟩ := hO.at hSa
          obtain ⟨c1, y1⟩ := hO.at hSb
          have hO4 := hO.put (show k + 1 < n + 1 by omega) ((bn : Int) + (an : Int))
          have tr4 := tr.then ((Turn.refl (fun j => j = gs) wr).setCell (p := ⟨gs, k + 1, none⟩) (.inl rfl) (.int .i32 ((bn : Int) + (an : Int))))
          have HS2 := hide hS2
          have hw64 : IntKind.i64.wrap ((k : Int) + 1) = (k : Int) + 1 := by rw [IntKind.wrap_i64]; omega
          have hw32 : IntKind.i32.wrap ((bn : Int) + (an : Int)) = (bn : Int) + (an : Int) := by rw [IntKind.wrap_i32]; omega
          have hk1 : (k : Int) + 1 < (n : Int) + 1 := by omega
          have hk0 : (k : Int) < (n : Int) + 1 := by omega
          clear hSa hSb hab hS2 hS hO tr hgl
          go_wp2_with fail
          go_region
          have hO5 := hO4.turn (Turn.refl (fun _ => False) _).drew (fun h => h)
          have tr5 := tr4.drew
          clear hO4 tr4
          go_wp2
          exact ⟨⟨k + 1, _, by go_num, by omega, hO5, HS2, tr5⟩, by simp [intOf]; omega⟩
        · obtain rfl : k = n := by omega
          have hSt : Hid (Starts keT l k S) := hide ⟨(unhide hS).len, fun u hu => (unhide hS).low u hu⟩
          clear hS
          have rb2 := tr.same rb1 (by omega)
          have A2 := A1.turn tr (fun j hj => by have := hj.2; omega)
          have T2 := T1.trans tr (fun j hj => .inr (by have := unhide Hrb; omega))
          clear rb1 A1 T1 tr
          go_wp2_with (at_make; refine wpList_make_full _ rfl _ _ 22 rfl wr.heap.size 46 j0 (.agg #[.int .i64 0, .int .i64 0, .int .i64 0]) 3 Try.underlying22 hj hy0 hy1 .i64 .i64 (l.length : Int) (l.length : Int) l.length rfl rfl rfl rfl (by rw [hy2]; omega) (by unfold maxLen; omega) (Nat.le_refl _) ?_; intro w4 hown4 hgrow4)
          rw [zero_arcs] at hown4
          have t4 : Turn (fun _ => False) wr w4 := Turn.grown hgrow4 (fun k e => by cases e)
          have hQ : OAn w4 wr.heap.size l.length (List.replicate l.length (0, 0, 0)) := ⟨by simp, by unfold OA; rw [List.length_replicate]; exact OwnSl.of_owns hown4⟩
          have hgr : gs < wr.heap.size := by obtain ⟨cur, h⟩ := hO.lt; exact (Array.getElem?_eq_some_iff.1 h).1
          have hQs : wr.heap.size < w4.heap.size := by obtain ⟨cur, h⟩ := hQ.lt; exact (Array.getElem?_eq_some_iff.1 h).1
          have hO4 := hO.turn t4 (fun h => h)
          have A4 := A2.quiet t4
          have rb4 := t4.same rb2 (fun h => h)
          have T4 := T2.then t4
          clear hown4 hgrow4 t4 T2 rb2 A2 hO hy0 hy1 hy2
          generalize wr.heap.size = ga at *
          have tL := (Turn.refl (fun _ => False) w4).alloc (.cells #[.slice (some ⟨ga, 0, none⟩) l.length l.length, .slice (some ⟨gs, 0, none⟩) (k + 1) (k + 1)] 76)
          have lb5 := heap_alloc_new w4 (.cells #[.slice (some ⟨ga, 0, none⟩) l.length l.length, .slice (some ⟨gs, 0, none⟩) (k + 1) (k + 1)] 76)
          have hO5 := hO4.turn tL (fun h => h)
          have hQ5 := hQ.turn tL (fun h => h)
          have A5 := A4.quiet tL
          have rb5 := tL.same rb4 (fun h => h)
          have T5 := T4.then tL
          have hrl : rb < w4.heap.size := (Array.getElem?_eq_some_iff.1 rb4).1
          have Hcl := clone_ints _ _ S hO5.2 (by rw [hO5.1]; omega) (by rw [hO5.1]; omega)
          rw [hO5.1] at Hcl
          clear tL hO4 hQ A4 rb4 T4
          generalize w4.alloc (.cells #[.slice (some ⟨ga, 0, none⟩) l.length l.length, .slice (some ⟨gs, 0, none⟩) (k + 1) (k + 1)] 76) = W5 at *
          generalize w4.heap.size = lb at *
          have hlbW : lb < W5.heap.size := (Array.getElem?_eq_some_iff.1 lb5).1
          refine Hcl.mono ?_
          rintro e w6 ⟨g3, off3, c3, rfl, hX, t6, hg3⟩
          have hX6 : OIx w6 g3 off3 c3 (k + 1) S := ⟨hO5.1, hX⟩
          have hO6 := hO5.turn t6 (fun h => h)
          have hQ6 := hQ5.turn t6 (fun h => h)
          have A6 := A5.quiet t6
          have rb6 := t6.same rb5 (fun h => h)
          have lb6 := t6.same lb5 (fun h => h)
          have T6 := T5.then t6
          have hP0 := hide ((unhide hSt).placed (List.replicate l.length (0, 0, 0)) (by simp))
          have hg36 : g3 < w6.heap.size := by obtain ⟨cur, h⟩ := hX6.lt; exact (Array.getElem?_eq_some_iff.1 h).1
          clear Hcl hX t6 rb5 lb5 T5 A5 hQ5 hO5
          go_wp2_with fail
          go_loopw [60] (fun i wr => ∃ (q : Nat) (O : List Ar) (X : List Int), i = .int .i64 (q : Int) ∧ q ≤ l.length ∧ OAn wr ga l.length O ∧ OIx wr g3 off3 c3 (k + 1) X ∧ Hid (Placed keT l k q O X) ∧ Turn (fun j => j = ga ∨ j = g3) w6 wr) (fun i _ => l.length - (intOf i).toNat)
          case atStart => exact ⟨0, _, S, rfl, Nat.zero_le _, hQ6, hX6, hP0, Turn.refl _ _⟩
          case round =>
            clear hQ6 hX6 hP0
            obtain ⟨q, O, X, rfl, hq, hQ, hX, hP, tr⟩ := hrel
            by_cases hlt : q < l.length
            · obtain ⟨x, hx⟩ := lt_take hlt
              obtain ⟨g, off, c', hv, _, hcl⟩ := (A6.turn tr (fun j hj => by have := hj.2; omega)).form (by omega)
              simp only [Value.slice.injEq] at hv
              obtain ⟨rfl, _, rfl⟩ := hv
              obtain ⟨q0, q1, q2⟩ := hcl q x hx
              obtain ⟨u, pn, hku, hun, hXu, hpn, hP2⟩ := (unhide hP).step (unhide HK) hx
              have tX := (Turn.refl (fun _ => False) wr).alloc (.cells #[.int .i64 x.1, .int .i64 x.2.1, .int .i64 x.2.2] 46)
              have kX := heap_alloc_new wr (.cells #[.int .i64 x.1, .int .i64 x.2.1, .int .i64 x.2.2] 46)
              have Hf := fun u => to_walk x u
              have hku' : x.2.1 = (u : Int) := hku
              rw [hku'] at Hf
              unfold arV at Hf
              have HP2 := hide hP2
              have hQ2 := hQ.turn tX (fun h => h)
              have hX2 := hX.turn tX (fun h => h)
              have lb2 := tX.same (tr.same lb6 (by omega)) (fun h => h)
              have tr2 := tr.then (tX.mono (fun _ h => h.elim))
              have hun2 : (u : Int) < (k : Int) + 1 := by omega
              have hpn2 : (pn : Int) < (l.length : Int) := by omega
              have hpn3 : (pn : Int) < 4194304 := by omega
              have HXu := hide hXu
              have hbx : ga ≠ wr.heap.size ∧ g3 ≠ wr.heap.size := by
                obtain ⟨c1, e1⟩ := hQ.lt
                obtain ⟨c2, e2⟩ := hX.lt
                have := (Array.getElem?_eq_some_iff.1 e1).1
                have := (Array.getElem?_eq_some_iff.1 e2).1
                omega
              clear hcl hx hP hP2 hQ hX tX tr hku hku' hXu
              obtain ⟨x1, x2, x3⟩ := x
              simp only at q0 q1 q2 Hf hQ2 hX2 tr2 kX lb2 HP2
              go_wp2_with fail
              generalize wr.alloc (.cells #[.int .i64 x1, .int .i64 x2, .int .i64 x3] 46) = W2 at *
              generalize wr.heap.size = bx at *
              refine (Hf _).mono ?_
              rintro e w7 ⟨rfl, t7⟩
              have hQ7 := hQ2.turn t7 (fun h => h)
              have hX7 := hX2.turn t7 (fun h => h)
              have lb7 := t7.same lb2 (fun h => h)
              have k7 := t7.same kX (fun h => h)
              have tr7 := tr2.then (t7.mono (fun _ h => h.elim))
              obtain ⟨d0, d1⟩ := hX7.at (unhide HXu)
              obtain ⟨ox, o0, o1, o2⟩ := hQ7.at (show pn < l.length from hpn)
              obtain ⟨cur, hcur⟩ := hQ7.lt
              have z0 : w7.frozen? ⟨ga, pn * 3, none⟩ = false := frozen_obj hcur _
              have z1 : w7.frozen? ⟨ga, pn * 3 + 1, none⟩ = false := frozen_obj hcur _
              have z2 : w7.frozen? ⟨ga, pn * 3 + 2, none⟩ = false := frozen_obj hcur _
              have l0 : w7.cell? ⟨lb, 0, none⟩ = some (.slice (some ⟨ga, 0, none⟩) l.length l.length) := cell_obj lb7 0
              have b0 : w7.cell? ⟨bx, 0, none⟩ = some (.int .i64 x1) := cell_obj k7 0
              have b1 : w7.cell? ⟨bx, 1, none⟩ = some (.int .i64 x2) := cell_obj k7 1
              have b2 : w7.cell? ⟨bx, 2, none⟩ = some (.int .i64 x3) := cell_obj k7 2
              have hQ8 := hQ7.put (show pn < l.length from hpn) (x1, x2, x3)
              simp only at hQ8
              have tP : Turn (fun j => j = ga) w7 (((w7.setCell ⟨ga, pn * 3, none⟩ (.int .i64 x1)).setCell ⟨ga, pn * 3 + 1, none⟩ (.int .i64 x2)).setCell ⟨ga, pn * 3 + 2, none⟩ (.int .i64 x3)).drew := ((((Turn.refl (fun j => j = ga) w7).setCell (p := ⟨ga, pn * 3, none⟩) (.inl rfl) _).setCell (p := ⟨ga, pn * 3 + 1, none⟩) (.inl rfl) _).setCell (p := ⟨ga, pn * 3 + 2, none⟩) (.inl rfl) _).drew
              have hg3a : g3 ≠ ga := by
                rintro rfl
                obtain ⟨c2, e2⟩ := hX7.lt
                rw [hcur] at e2; cases e2
              have hX8 := hX7.turn tP (fun h => hg3a h)
              have hQ9 := hQ8.turn (Turn.refl (fun _ => False) _).drew (fun h => h)
              have tr8 := tr7.then (tP.mono (fun j hj => .inl hj))
              clear Hf hQ2 hX2 tr2 t7 kX lb2 hcur hQ7 hX7 tr7 tP hQ8 lb7 k7
              go_wp2_with fail
              go_region
              generalize (((w7.setCell ⟨ga, pn * 3, none⟩ (.int .i64 x1)).setCell ⟨ga, pn * 3 + 1, none⟩ (.int .i64 x2)).setCell ⟨ga, pn * 3 + 2, none⟩ (.int .i64 x3)).drew = w8 at *
              clear d0 d1 o0 o1 o2 z0 z1 z2 l0 b0 b1 b2
              obtain ⟨d0, d1⟩ := hX8.at (unhide HXu)
              have hX9 := hX8.put (show u < k + 1 by omega) ((pn : Int) + 1)
              have tS : Turn (fun j => j = g3) w8 (w8.setCell ⟨g3, off3 + u, none⟩ (.int .i32 ((pn : Int) + 1))) := (Turn.refl (fun j => j = g3) w8).setCell (p := ⟨g3, off3 + u, none⟩) (.inl rfl) _
              have hQ10 := hQ9.turn tS (fun h => hg3a h.symm)
              have tr9 := tr8.then (tS.mono (fun j hj => .inr hj))
              clear hX8 tS hQ9 tr8
              go_wp2
              exact ⟨⟨q + 1, _, _, by go_num, by omega, hQ10, hX9, HP2, tr9⟩, by simp [intOf]; omega⟩
            · obtain rfl : q = l.length := by omega
              have hall := (unhide hP).all (unhide HK)
              have rb9 := tr.same rb6 (by omega)
              have lb9 := tr.same lb6 (by omega)
              have hO9 := hO6.turn tr (by omega)
              have T9 := T6.trans tr (fun j hj => .inr (by have := unhide Hrb; omega))
              rw [hall] at hQ
              have HSt := unhide hSt
              clear hP hall
              have l0 : wr.cell? ⟨lb, 0, none⟩ = some (.slice (some ⟨ga, 0, none⟩) l.length l.length) := cell_obj lb9 0
              have l1 : wr.cell? ⟨lb, 1, none⟩ = some (.slice (some ⟨gs, 0, none⟩) (k + 1) (k + 1)) := cell_obj lb9 1
              have d0 : wr.cell? ⟨rb, 0, none⟩ = some (.slice none 0 0) := cell_obj rb9 0
              have d1 : wr.cell? ⟨rb, 1, none⟩ = some (.slice none 0 0) := cell_obj rb9 1
              have y0 : wr.frozen? ⟨rb, 0, none⟩ = false := frozen_obj rb9 0
              have y1 : wr.frozen? ⟨rb, 1, none⟩ = false := frozen_obj rb9 1
              have r1 := heap_setCell_obj (j := 0) rb9 (.slice (some ⟨ga, 0, none⟩) l.length l.length)
              have r2 := heap_setCell_obj (j := 1) r1 (.slice (some ⟨gs, 0, none⟩) (k + 1) (k + 1))
              have e0 : ((wr.setCell ⟨rb, 0, none⟩ (.slice (some ⟨ga, 0, none⟩) l.length l.length)).setCell ⟨rb, 1, none⟩ (.slice (some ⟨gs, 0, none⟩) (k + 1) (k + 1))).cell? ⟨rb, 0, none⟩ = some (.slice (some ⟨ga, 0, none⟩) l.length l.length) := (cell_obj r2 0).trans (by rfl)
              have e1 : ((wr.setCell ⟨rb, 0, none⟩ (.slice (some ⟨ga, 0, none⟩) l.length l.length)).setCell ⟨rb, 1, none⟩ (.slice (some ⟨gs, 0, none⟩) (k + 1) (k + 1))).cell? ⟨rb, 1, none⟩ = some (.slice (some ⟨gs, 0, none⟩) (k + 1) (k + 1)) := (cell_obj r2 1).trans (by rfl)
              have tf : Turn (fun j => j = rb) wr ((wr.setCell ⟨rb, 0, none⟩ (.slice (some ⟨ga, 0, none⟩) l.length l.length)).setCell ⟨rb, 1, none⟩ (.slice (some ⟨gs, 0, none⟩) (k + 1) (k + 1))) := ((Turn.refl (fun j => j = rb) wr).setCell (p := ⟨rb, 0, none⟩) (.inl rfl) _).setCell (p := ⟨rb, 1, none⟩) (.inl rfl) _
              have GF : Gath _ ga gs keT l k := (Gath.mk hQ ⟨S, hO9, HSt⟩).turn tf (by omega) (by omega)
              have TF := T9.trans tf (fun j hj => .inr (by have := unhide Hrb; omega))
              have HB1 : w.heap.size ≤ ga ∧ w.heap.size ≤ gs := by have := unhide Hrb; omega
              clear r1 r2 tf T9 hQ hO9 HSt
              go_wp2
              exact bodyPost_ret (v := .agg #[.slice (some ⟨ga, 0, none⟩) l.length l.length, .slice (some ⟨gs, 0, none⟩) (k + 1) (k + 1)]) (by simp [results, Try.results42, go_sem, e0, e1]) rfl ⟨ga, gs, rfl, GF, TF, HB1.1, HB1.2⟩
set_option maxHeartbeats 16000000 in
theorem gather_from (B : Nat → Prop) (w : World) (v : Value) (l : List Ar) (n : Nat) (hr : AR B w v l) (hn1 : n ≤ 4194304) (hl1 : l.length ≤ 4194304) (hk : ∀ a ∈ l, 0 ≤ keF a ∧ keF a < (n : Int)) :
    Calls Try.prog 42 #[v, .int .i64 (n : Int), .func (.func 44) #[] #[]] w fun e w' => ∃ ga gs, e = .returned (.agg #[.slice (some ⟨ga, 0, none⟩) l.length l.length, .slice (some ⟨gs, 0, none⟩) (n + 1) (n + 1)]) ∧ Gath w' ga gs keF l n ∧ Turn (fun _ => False) w w' ∧ w.heap.size ≤ ga ∧ w.heap.size ≤ gs := by
  obtain ⟨i0, hi, hz0, hz1, hz2⟩ := info_parts info_i32
  obtain ⟨j0, hj, hy0, hy1, hy2⟩ := info_parts info_arc
  have HK := hide hk
  have T0 := (Turn.refl (fun _ => False) w).alloc (.cells #[.slice none 0 0, .slice none 0 0] 76)
  have hrb := heap_alloc_new w (.cells #[.slice none 0 0, .slice none 0 0] 76)
  have hA := (hr.lt).quiet T0
  obtain ⟨a, c, rfl⟩ := hr.slice
  have hs0 := T0.size
  clear hr hk
  go_enter Try.func42, Try.ntmps42
  go_wp2_with (at_make; generalize hW : w.alloc (.cells #[.slice none 0 0, .slice none 0 0] 76) = W at *; generalize hrbe : w.heap.size = rb at *; refine wpList_make_full _ rfl _ _ 74 rfl W.heap.size 21 i0 (.int .i32 0) 1 Try.underlying74 hi hz0 hz1 .i64 .i64 ((n : Int) + 1) ((n : Int) + 1) (n + 1) rfl rfl (by omega) (by omega) (by rw [hz2]; omega) (by unfold maxLen; omega) (Nat.le_refl _) ?_; intro w1 hown1 hgrow1)
  have Hrb := hide hrbe
  have hrbW : rb < W.heap.size := (Array.getElem?_eq_some_iff.1 hrb).1
  rw [zero_ints] at hown1
  have t1 : Turn (fun _ => False) W w1 := Turn.grown hgrow1 (fun k e => by cases e)
  have hO : OIn w1 W.heap.size (n + 1) (List.replicate (n + 1) 0) := ⟨by simp, by unfold OI; rw [List.length_replicate]; exact OwnSl.of_owns hown1⟩
  have hC0 : Hid (Counted keF l n 0 (List.replicate (n + 1) 0)) := hide ⟨by simp, by simp, fun v hv => by simp [flt, hv]⟩
  generalize hgs : W.heap.size = gs at *
  have A1 := hA.quiet t1
  have rb1 := t1.same hrb (fun h => h)
  have T1 := T0.then t1
  have hgw : gs < w1.heap.size := by obtain ⟨cur, h⟩ := hO.lt; exact (Array.getElem?_eq_some_iff.1 h).1
  clear hown1 hgrow1 hA hrb hW t1 T0 hs0 hgs hrbe
  clear hz0 hz1 hz2
  go_loopw [21] (fun i wr => ∃ (k : Nat) (S : List Int), i = .int .i64 (k : Int) ∧ k ≤ l.length ∧ OIn wr gs (n + 1) S ∧ Hid (Counted keF l n k S) ∧ Turn (fun j => j = gs) w1 wr) (fun i _ => l.length - (intOf i).toNat)
  case atStart => exact ⟨0, _, rfl, Nat.zero_le _, hO, hC0, Turn.refl _ _⟩
  case round =>
    clear hO hC0
    obtain ⟨k, S, rfl, hk, hO, hC, tr⟩ := hrel
    by_cases hlt : k < l.length
    · obtain ⟨x, hx⟩ := lt_take hlt
      obtain ⟨g, off, c', hv, _, hcl⟩ := (A1.turn tr (fun j hj => by have := hj.2; omega)).form (by omega)
      simp only [Value.slice.injEq] at hv
      obtain ⟨rfl, _, rfl⟩ := hv
      obtain ⟨q0, q1, q2⟩ := hcl k x hx
      obtain ⟨u, cn, hku, hun, hSu, hcn, hC2⟩ := (unhide hC).step (unhide HK) hx
      have tX := (Turn.refl (fun _ => False) wr).alloc (.cells #[.int .i64 x.1, .int .i64 x.2.1, .int .i64 x.2.2] 46)
      have hO2 := hO.turn tX (fun h => h)
      have Hf := fun u => from_walk x u
      have hku' : x.1 = (u : Int) := hku
      rw [hku'] at Hf
      unfold arV at Hf
      have tr2 := tr.then (tX.mono (fun _ h => h.elim))
      have HC2 := hide hC2
      have hun2 : (u : Int) + 1 < (n : Int) + 1 := by omega
      have hcn2 : (cn : Int) < 4194304 := by omega
      have HSu := hide hSu
      clear hcl hx hC hC2 hO tX tr hku hku' hSu
      obtain ⟨x1, x2, x3⟩ := x
      simp only at q0 q1 q2 Hf hO2 tr2
      go_wp2_with fail
      generalize wr.alloc (.cells #[.int .i64 x1, .int .i64 x2, .int .i64 x3] 46) = W2 at *
      refine (Hf _).mono ?_
      rintro e w3 ⟨rfl, t3⟩
      have hO3 := hO2.turn t3 (fun h => h)
      obtain ⟨d0, d1⟩ := hO3.at (unhide HSu)
      have hO4 := hO3.put (show u + 1 < n + 1 by omega) ((cn : Int) + 1)
      have tr4 := (tr2.then (t3.mono (fun _ h => h.elim))).then ((Turn.refl (fun j => j = gs) w3).setCell (p := ⟨gs, u + 1, none⟩) (.inl rfl) (.int .i32 ((cn : Int) + 1)))
      clear Hf hO2 hO3 tr2 t3
      go_wp2
      exact ⟨⟨k + 1, _, by go_num, by omega, hO4, HC2, tr4⟩, by simp [intOf]; omega⟩
    · obtain rfl : k = l.length := by omega
      have hS0 := hide ((unhide hC).summed)
      clear hC
      go_wp2_with fail
      go_loopw [36] (fun i wr => ∃ (k : Nat) (S : List Int), i = .int .i64 (k : Int) ∧ k ≤ n ∧ OIn wr gs (n + 1) S ∧ Hid (Summed keF l n k S) ∧ Turn (fun j => j = gs) w1 wr) (fun i _ => n - (intOf i).toNat)
      case atStart => exact ⟨0, S, rfl, Nat.zero_le _, hO, hS0, tr⟩
      case round =>
        clear hO hS0 tr
        obtain ⟨k, S, rfl, hk, hO, hS, tr⟩ := hrel
        by_cases hlt : k < n
        · obtain ⟨an, bn, hSa, hSb, hab, hS2⟩ := (unhide hS).step hlt
          have hgl : (gat keF l (k + 1)).length ≤ l.length := by
            have h1 := gat_mono keF l (show k + 1 ≤ n by omega)
            have h2 := gat_total keF l n (unhide HK)
            omega
          have hsum : (bn : Int) + (an : Int) ≤ 4194304 := by omega
          have hbn : (bn : Int) ≤ 4194304 := by omega
          have han : (an : Int) ≤ 4194304 := by omega
          obtain ⟨c0, y0⟩ := hO.at hSa
          obtain ⟨c1, y1⟩ := hO.at hSb
          have hO4 := hO.put (show k + 1 < n + 1 by omega) ((bn : Int) + (an : Int))
          have tr4 := tr.then ((Turn.refl (fun j => j = gs) wr).setCell (p := ⟨gs, k + 1, none⟩) (.inl rfl) (.int .i32 ((bn : Int) + (an : Int))))
          have HS2 := hide hS2
          have hw64 : IntKind.i64.wrap ((k : Int) + 1) = (k : Int) + 1 := by rw [IntKind.wrap_i64]; omega
          have hw32 : IntKind.i32.wrap ((bn : Int) + (an : Int)) = (bn : Int) + (an : Int) := by rw [IntKind.wrap_i32]; omega
          have hk1 : (k : Int) + 1 < (n : Int) + 1 := by omega
          have hk0 : (k : Int) < (n : Int) + 1 := by omega
          clear hSa hSb hab hS2 hS hO tr hgl
          go_wp2_with fail
          go_region
          have hO5 := hO4.turn (Turn.refl (fun _ => False) _).drew (fun h => h)
          have tr5 := tr4.drew
          clear hO4 tr4
          go_wp2
          exact ⟨⟨k + 1, _, by go_num, by omega, hO5, HS2, tr5⟩, by simp [intOf]; omega⟩
        · obtain rfl : k = n := by omega
          have hSt : Hid (Starts keF l k S) := hide ⟨(unhide hS).len, fun u hu => (unhide hS).low u hu⟩
          clear hS
          have rb2 := tr.same rb1 (by omega)
          have A2 := A1.turn tr (fun j hj => by have := hj.2; omega)
          have T2 := T1.trans tr (fun j hj => .inr (by have := unhide Hrb; omega))
          clear rb1 A1 T1 tr
          go_wp2_with (at_make; refine wpList_make_full _ rfl _ _ 22 rfl wr.heap.size 46 j0 (.agg #[.int .i64 0, .int .i64 0, .int .i64 0]) 3 Try.underlying22 hj hy0 hy1 .i64 .i64 (l.length : Int) (l.length : Int) l.length rfl rfl rfl rfl (by rw [hy2]; omega) (by unfold maxLen; omega) (Nat.le_refl _) ?_; intro w4 hown4 hgrow4)
          rw [zero_arcs] at hown4
          have t4 : Turn (fun _ => False) wr w4 := Turn.grown hgrow4 (fun k e => by cases e)
          have hQ : OAn w4 wr.heap.size l.length (List.replicate l.length (0, 0, 0)) := ⟨by simp, by unfold OA; rw [List.length_replicate]; exact OwnSl.of_owns hown4⟩
          have hgr : gs < wr.heap.size := by obtain ⟨cur, h⟩ := hO.lt; exact (Array.getElem?_eq_some_iff.1 h).1
          have hQs : wr.heap.size < w4.heap.size := by obtain ⟨cur, h⟩ := hQ.lt; exact (Array.getElem?_eq_some_iff.1 h).1
          have hO4 := hO.turn t4 (fun h => h)
          have A4 := A2.quiet t4
          have rb4 := t4.same rb2 (fun h => h)
          have T4 := T2.then t4
          clear hown4 hgrow4 t4 T2 rb2 A2 hO hy0 hy1 hy2
          generalize wr.heap.size = ga at *
          have tL := (Turn.refl (fun _ => False) w4).alloc (.cells #[.slice (some ⟨ga, 0, none⟩) l.length l.length, .slice (some ⟨gs, 0, none⟩) (k + 1) (k + 1)] 76)
          have lb5 := heap_alloc_new w4 (.cells #[.slice (some ⟨ga, 0, none⟩) l.length l.length, .slice (some ⟨gs, 0, none⟩) (k + 1) (k + 1)] 76)
          have hO5 := hO4.turn tL (fun h => h)
          have hQ5 := hQ.turn tL (fun h => h)
          have A5 := A4.quiet tL
          have rb5 := tL.same rb4 (fun h => h)
          have T5 := T4.then tL
          have hrl : rb < w4.heap.size := (Array.getElem?_eq_some_iff.1 rb4).1
          have Hcl := clone_ints _ _ S hO5.2 (by rw [hO5.1]; omega) (by rw [hO5.1]; omega)
          rw [hO5.1] at Hcl
          clear tL hO4 hQ A4 rb4 T4
          generalize w4.alloc (.cells #[.slice (some ⟨ga, 0, none⟩) l.length l.length, .slice (some ⟨gs, 0, none⟩) (k + 1) (k + 1)] 76) = W5 at *
          generalize w4.heap.size = lb at *
          have hlbW : lb < W5.heap.size := (Array.getElem?_eq_some_iff.1 lb5).1
          refine Hcl.mono ?_
          rintro e w6 ⟨g3, off3, c3, rfl, hX, t6, hg3⟩
          have hX6 : OIx w6 g3 off3 c3 (k + 1) S := ⟨hO5.1, hX⟩
          have hO6 := hO5.turn t6 (fun h => h)
          have hQ6 := hQ5.turn t6 (fun h => h)
          have A6 := A5.quiet t6
          have rb6 := t6.same rb5 (fun h => h)
          have lb6 := t6.same lb5 (fun h => h)
          have T6 := T5.then t6
          have hP0 := hide ((unhide hSt).placed (List.replicate l.length (0, 0, 0)) (by simp))
          have hg36 : g3 < w6.heap.size := by obtain ⟨cur, h⟩ := hX6.lt; exact (Array.getElem?_eq_some_iff.1 h).1
          clear Hcl hX t6 rb5 lb5 T5 A5 hQ5 hO5
          go_wp2_with fail
          go_loopw [60] (fun i wr => ∃ (q : Nat) (O : List Ar) (X : List Int), i = .int .i64 (q : Int) ∧ q ≤ l.length ∧ OAn wr ga l.length O ∧ OIx wr g3 off3 c3 (k + 1) X ∧ Hid (Placed keF l k q O X) ∧ Turn (fun j => j = ga ∨ j = g3) w6 wr) (fun i _ => l.length - (intOf i).toNat)
          case atStart => exact ⟨0, _, S, rfl, Nat.zero_le _, hQ6, hX6, hP0, Turn.refl _ _⟩
          case round =>
            clear hQ6 hX6 hP0
            obtain ⟨q, O, X, rfl, hq, hQ, hX, hP, tr⟩ := hrel
            by_cases hlt : q < l.length
            · obtain ⟨x, hx⟩ := lt_take hlt
              obtain ⟨g, off, c', hv, _, hcl⟩ := (A6.turn tr (fun j hj => by have := hj.2; omega)).form (by omega)
              simp only [Value.slice.injEq] at hv
              obtain ⟨rfl, _, rfl⟩ := hv
              obtain ⟨q0, q1, q2⟩ := hcl q x hx
              obtain ⟨u, pn, hku, hun, hXu, hpn, hP2⟩ := (unhide hP).step (unhide HK) hx
              have tX := (Turn.refl (fun _ => False) wr).alloc (.cells #[.int .i64 x.1, .int .i64 x.2.1, .int .i64 x.2.2] 46)
              have kX := heap_alloc_new wr (.cells #[.int .i64 x.1, .int .i64 x.2.1, .int .i64 x.2.2] 46)
              have Hf := fun u => from_walk x u
              have hku' : x.1 = (u : Int) := hku
              rw [hku'] at Hf
              unfold arV at Hf
              have HP2 := hide hP2
              have hQ2 := hQ.turn tX (fun h => h)
              have hX2 := hX.turn tX (fun h => h)
              have lb2 := tX.same (tr.same lb6 (by omega)) (fun h => h)
              have tr2 := tr.then (tX.mono (fun _ h => h.elim))
              have hun2 : (u : Int) < (k : Int) + 1 := by omega
              have hpn2 : (pn : Int) < (l.length : Int) := by omega
              have hpn3 : (pn : Int) < 4194304 := by omega
              have HXu := hide hXu
              have hbx : ga ≠ wr.heap.size ∧ g3 ≠ wr.heap.size := by
                obtain ⟨c1, e1⟩ := hQ.lt
                obtain ⟨c2, e2⟩ := hX.lt
                have := (Array.getElem?_eq_some_iff.1 e1).1
                have := (Array.getElem?_eq_some_iff.1 e2).1
                omega
              clear hcl hx hP hP2 hQ hX tX tr hku hku' hXu
              obtain ⟨x1, x2, x3⟩ := x
              simp only at q0 q1 q2 Hf hQ2 hX2 tr2 kX lb2 HP2
              go_wp2_with fail
              generalize wr.alloc (.cells #[.int .i64 x1, .int .i64 x2, .int .i64 x3] 46) = W2 at *
              generalize wr.heap.size = bx at *
              refine (Hf _).mono ?_
              rintro e w7 ⟨rfl, t7⟩
              have hQ7 := hQ2.turn t7 (fun h => h)
              have hX7 := hX2.turn t7 (fun h => h)
              have lb7 := t7.same lb2 (fun h => h)
              have k7 := t7.same kX (fun h => h)
              have tr7 := tr2.then (t7.mono (fun _ h => h.elim))
              obtain ⟨d0, d1⟩ := hX7.at (unhide HXu)
              obtain ⟨ox, o0, o1, o2⟩ := hQ7.at (show pn < l.length from hpn)
              obtain ⟨cur, hcur⟩ := hQ7.lt
              have z0 : w7.frozen? ⟨ga, pn * 3, none⟩ = false := frozen_obj hcur _
              have z1 : w7.frozen? ⟨ga, pn * 3 + 1, none⟩ = false := frozen_obj hcur _
              have z2 : w7.frozen? ⟨ga, pn * 3 + 2, none⟩ = false := frozen_obj hcur _
              have l0 : w7.cell? ⟨lb, 0, none⟩ = some (.slice (some ⟨ga, 0, none⟩) l.length l.length) := cell_obj lb7 0
              have b0 : w7.cell? ⟨bx, 0, none⟩ = some (.int .i64 x1) := cell_obj k7 0
              have b1 : w7.cell? ⟨bx, 1, none⟩ = some (.int .i64 x2) := cell_obj k7 1
              have b2 : w7.cell? ⟨bx, 2, none⟩ = some (.int .i64 x3) := cell_obj k7 2
              have hQ8 := hQ7.put (show pn < l.length from hpn) (x1, x2, x3)
              simp only at hQ8
              have tP : Turn (fun j => j = ga) w7 (((w7.setCell ⟨ga, pn * 3, none⟩ (.int .i64 x1)).setCell ⟨ga, pn * 3 + 1, none⟩ (.int .i64 x2)).setCell ⟨ga, pn * 3 + 2, none⟩ (.int .i64 x3)).drew := ((((Turn.refl (fun j => j = ga) w7).setCell (p := ⟨ga, pn * 3, none⟩) (.inl rfl) _).setCell (p := ⟨ga, pn * 3 + 1, none⟩) (.inl rfl) _).setCell (p := ⟨ga, pn * 3 + 2, none⟩) (.inl rfl) _).drew
              have hg3a : g3 ≠ ga := by
                rintro rfl
                obtain ⟨c2, e2⟩ := hX7.lt
                rw [hcur] at e2; cases e2
              have hX8 := hX7.turn tP (fun h => hg3a h)
              have hQ9 := hQ8.turn (Turn.refl (fun _ => False) _).drew (fun h => h)
              have tr8 := tr7.then (tP.mono (fun j hj => .inl hj))
              clear Hf hQ2 hX2 tr2 t7 kX lb2 hcur hQ7 hX7 tr7 tP hQ8 lb7 k7
              go_wp2_with fail
              go_region
              generalize (((w7.setCell ⟨ga, pn * 3, none⟩ (.int .i64 x1)).setCell ⟨ga, pn * 3 + 1, none⟩ (.int .i64 x2)).setCell ⟨ga, pn * 3 + 2, none⟩ (.int .i64 x3)).drew = w8 at *
              clear d0 d1 o0 o1 o2 z0 z1 z2 l0 b0 b1 b2
              obtain ⟨d0, d1⟩ := hX8.at (unhide HXu)
              have hX9 := hX8.put (show u < k + 1 by omega) ((pn : Int) + 1)
              have tS : Turn (fun j => j = g3) w8 (w8.setCell ⟨g3, off3 + u, none⟩ (.int .i32 ((pn : Int) + 1))) := (Turn.refl (fun j => j = g3) w8).setCell (p := ⟨g3, off3 + u, none⟩) (.inl rfl) _
              have hQ10 := hQ9.turn tS (fun h => hg3a h.symm)
              have tr9 := tr8.then (tS.mono (fun j hj => .inr hj))
              clear hX8 tS hQ9 tr8
              go_wp2
              exact ⟨⟨q + 1, _, _, by go_num, by omega, hQ10, hX9, HP2, tr9⟩, by simp [intOf]; omega⟩
            · obtain rfl : q = l.length := by omega
              have hall := (unhide hP).all (unhide HK)
              have rb9 := tr.same rb6 (by omega)
              have lb9 := tr.same lb6 (by omega)
              have hO9 := hO6.turn tr (by omega)
              have T9 := T6.trans tr (fun j hj => .inr (by have := unhide Hrb; omega))
              rw [hall] at hQ
              have HSt := unhide hSt
              clear hP hall
              have l0 : wr.cell? ⟨lb, 0, none⟩ = some (.slice (some ⟨ga, 0, none⟩) l.length l.length) := cell_obj lb9 0
              have l1 : wr.cell? ⟨lb, 1, none⟩ = some (.slice (some ⟨gs, 0, none⟩) (k + 1) (k + 1)) := cell_obj lb9 1
              have d0 : wr.cell? ⟨rb, 0, none⟩ = some (.slice none 0 0) := cell_obj rb9 0
              have d1 : wr.cell? ⟨rb, 1, none⟩ = some (.slice none 0 0) := cell_obj rb9 1
              have y0 : wr.frozen? ⟨rb, 0, none⟩ = false := frozen_obj rb9 0
              have y1 : wr.frozen? ⟨rb, 1, none⟩ = false := frozen_obj rb9 1
              have r1 := heap_setCell_obj (j := 0) rb9 (.slice (some ⟨ga, 0, none⟩) l.length l.length)
              have r2 := heap_setCell_obj (j := 1) r1 (.slice (some ⟨gs, 0, none⟩) (k + 1) (k + 1))
              have e0 : ((wr.setCell ⟨rb, 0, none⟩ (.slice (some ⟨ga, 0, none⟩) l.length l.length)).setCell ⟨rb, 1, none⟩ (.slice (some ⟨gs, 0, none⟩) (k + 1) (k + 1))).cell? ⟨rb, 0, none⟩ = some (.slice (some ⟨ga, 0, none⟩) l.length l.length) := (cell_obj r2 0).trans (by rfl)
              have e1 : ((wr.setCell ⟨rb, 0, none⟩ (.slice (some ⟨ga, 0, none⟩) l.length l.length)).setCell ⟨rb, 1, none⟩ (.slice (some ⟨gs, 0, none⟩) (k + 1) (k + 1))).cell? ⟨rb, 1, none⟩ = some (.slice (some ⟨gs, 0, none⟩) (k + 1) (k + 1)) := (cell_obj r2 1).trans (by rfl)
              have tf : Turn (fun j => j = rb) wr ((wr.setCell ⟨rb, 0, none⟩ (.slice (some ⟨ga, 0, none⟩) l.length l.length)).setCell ⟨rb, 1, none⟩ (.slice (some ⟨gs, 0, none⟩) (k + 1) (k + 1))) := ((Turn.refl (fun j => j = rb) wr).setCell (p := ⟨rb, 0, none⟩) (.inl rfl) _).setCell (p := ⟨rb, 1, none⟩) (.inl rfl) _
              have GF : Gath _ ga gs keF l k := (Gath.mk hQ ⟨S, hO9, HSt⟩).turn tf (by omega) (by omega)
              have TF := T9.trans tf (fun j hj => .inr (by have := unhide Hrb; omega))
              have HB1 : w.heap.size ≤ ga ∧ w.heap.size ≤ gs := by have := unhide Hrb; omega
              clear r1 r2 tf T9 hQ hO9 HSt
              go_wp2
              exact bodyPost_ret (v := .agg #[.slice (some ⟨ga, 0, none⟩) l.length l.length, .slice (some ⟨gs, 0, none⟩) (k + 1) (k + 1)]) (by simp [results, Try.results42, go_sem, e0, e1]) rfl ⟨ga, gs, rfl, GF, TF, HB1.1, HB1.2⟩
end Go.Proofs.Ytombpfpfeebnpaa
