/- Copies of arcs with spare room; are they kept; at most 300 of them. -/
import Derived.Test.YtmmlannnpndkcaaGNets
import Derived.Test.YtmmlannnpndkcaaBOwn
namespace Go.Proofs.Ytmmlannnpndkcaa
open Go.RowKit Go.Maps
set_option linter.unusedVariables false
set_option linter.unusedSimpArgs false
set_option maxRecDepth 100000

/-- a slice of n of a row of its own that has just room for three more: that row, whole -/
theorem full_of3 {w : World} {base : Nat} {e : TypeId} {g n : Nat} {xs : List Value} (h : w.ownsRow base e 3 (.slice (some ⟨g, 0, none⟩) n (n + 3)) n xs) :
    ∃ ys : List Value, OwnSl w e 3 (.slice (some ⟨g, 0, none⟩) (n + 3) (n + 3)) (n + 3) ys ∧ ys.take (n * 3) = xs := by
  obtain ⟨hl, hr⟩ := h
  rcases hr with ⟨hv, _⟩ | ⟨g', cap, cur, hv, hb, hg, hn, hm, hs, ht⟩
  · simp at hv
  · simp only [Value.slice.injEq, Option.some.injEq, Addr.mk.injEq, and_true, true_and] at hv
    obtain ⟨rfl, rfl⟩ := hv
    have hc : cur.toList.length = (n + 3) * 3 := by rw [Array.length_toList, hs]
    refine ⟨cur.toList, ⟨hc, .inr ⟨g, 0, n + 3, cur, rfl, hg, Nat.le_refl _, hm, by omega, ?_⟩⟩, ht⟩
    rw [List.drop_zero, List.take_of_length_le (by rw [hc]; omega)]
theorem OwnSl.cellAt {w : World} {e : TypeId} {g n cap : Nat} {xs : List Value} (h : OwnSl w e 3 (.slice (some ⟨g, 0, none⟩) n cap) n xs) (j : Nat) (hj : j < n * 3) : ∃ u, xs[j]? = some u ∧ w.cell? ⟨g, j, none⟩ = some u := by
  have hl := h.1
  refine ⟨xs[j], by simp [hl, hj], ?_⟩
  have := h.cells j xs[j] (by simp [hl, hj])
  simpa using this
/-- the arcs and three others behind -/
def own3 (l : List Ar) (f : Ar) : List Ar := l ++ [f, f, f]

/-- a store of an arc into a row of one's own -/
theorem OwnSl.set3 {w : World} {e : TypeId} {g n cap : Nat} {xs : List Value} (h : OwnSl w e 3 (.slice (some ⟨g, 0, none⟩) n cap) n xs) (k : Nat) (hk : k < n) (x : Ar) :
    OwnSl (((w.setCell ⟨g, k * 3, none⟩ (.int .i64 x.1)).setCell ⟨g, k * 3 + 1, none⟩ (.int .i64 x.2.1)).setCell ⟨g, k * 3 + 2, none⟩ (.int .i64 x.2.2)) e 3 (.slice (some ⟨g, 0, none⟩) n cap) n (((xs.set (k * 3) (.int .i64 x.1)).set (k * 3 + 1) (.int .i64 x.2.1)).set (k * 3 + 2) (.int .i64 x.2.2)) := by
  have h1 := (h.set (k * 3) (by omega) (.int .i64 x.1)).1
  have h2 := (h1.set (k * 3 + 1) (by omega) (.int .i64 x.2.1)).1
  have h3 := (h2.set (k * 3 + 2) (by omega) (.int .i64 x.2.2)).1
  simpa using h3

set_option maxHeartbeats 4000000 in
theorem own_arc (v : Value) (l : List Ar) (f : Ar) (w : World) (hz : l.length ≤ 1000000) (hr : AR any w v l) :
    Calls Try.prog 16 #[v, arV f] w fun e w' =>
      ∃ g, e = .returned (.slice (some ⟨g, 0, none⟩) l.length (l.length + 3)) ∧ OA w' (.slice (some ⟨g, 0, none⟩) (l.length + 3) (l.length + 3)) (own3 l f) ∧ Turn (fun _ => False) w w' ∧ w.heap.size ≤ g := by
  obtain ⟨i0, hi, hz0, hz1, hz2⟩ := info_parts info_arc
  obtain ⟨f1, f2, f3⟩ := f
  unfold arV
  simp only
  have T0 := (Turn.refl (fun _ => False) w).alloc (.cells #[.int .i64 f1, .int .i64 f2, .int .i64 f3] 37)
  have hA := hr.quiet T0
  have hb := heap_alloc_new w (.cells #[.int .i64 f1, .int .i64 f2, .int .i64 f3] 37)
  have hs0 := T0.size
  obtain ⟨a, c, rfl⟩ := hr.slice
  have ha : a = none → l.length = 0 ∧ c = 0 := by
    rintro rfl
    rcases hr with ⟨a, c, hv, hn, _, rfl⟩ | ⟨b, off, c, hv, _⟩
    · simp only [Value.slice.injEq] at hv
      obtain ⟨rfl, _, rfl⟩ := hv
      exact ⟨rfl, hn rfl⟩
    · simp at hv
  have hcell : ∀ ad, a = some ad → ∀ (j : Nat) (u : Value), (arCs l)[j]? = some u → (w.alloc (.cells #[.int .i64 f1, .int .i64 f2, .int .i64 f3] 37)).cell? (ad.add j) = some u := by
    rintro ad rfl j u hu
    rcases hA.src.2 with ⟨a, c, hv, _, h0⟩ | ⟨a, c, hv, h0, hc⟩
    · have : l = [] := List.eq_nil_of_length_eq_zero h0
      subst this
      simp [arCs] at hu
    · simp only [Value.slice.injEq, Option.some.injEq] at hv
      obtain ⟨rfl, _⟩ := hv
      exact hc j u hu
  clear hr hA
  go_enter Try.func16, Try.ntmps16
  go_wp2_with (first | (at_make; generalize hW : w.alloc (.cells #[.int .i64 f1, .int .i64 f2, .int .i64 f3] 37) = W at *; generalize hbb : w.heap.size = bb at *; refine wpList_make_own _ rfl _ _ 24 rfl W.heap.size 37 i0 (.agg #[.int .i64 0, .int .i64 0, .int .i64 0]) 3 Try.underlying24 hi hz0 hz1 .i64 .i64 _ (l.length + 3) rfl rfl (by omega) (by rw [hz2]; omega) (by unfold maxLen; omega) (Nat.le_refl _) ?_; intro w1 hown1 hgrow1) | (at_builtin; refine wpList_append_fits_any _ rfl (.tmp 12) (.tmp 13) 24 rfl W.heap.size 37 i0 3 Try.underlying24 hi hz1 W.heap.size 0 (l.length + 3) [] rfl hown1 a l.length c (arCs l) rfl (arCs_len l) ha (cells_grown (row := none) (made_below hgrow1) hcell) (arCs_oneCell _) (by omega) ?_; intro w2 hown2 hgrow2))
  have hb1 : Below W.heap.size W w1 := made_below hgrow1
  have hb2 : Below W.heap.size W w2 := hb1.grown hgrow2 hb1.size (fun k h => by cases h; exact Nat.le_refl _)
  simp only [Nat.zero_add, List.nil_append] at hown2
  obtain ⟨ys0, hfull, hys0⟩ := full_of3 hown2
  have Hys0 := hide hys0
  have T2 : Turn (fun _ => False) W w2 := Turn.of_below hb2
  clear hys0 hown2 hown1 hgrow1 hgrow2 hb1 hb2 hcell ha hW
  have Hbb := hide hbb
  obtain ⟨g, hg⟩ : ∃ g, g = W.heap.size := ⟨_, rfl⟩
  rw [← hg] at hfull
  rw [← hg]
  have hgb : bb ≠ g := by have := (Array.getElem?_eq_some_iff.1 hb).1; omega
  have Hg := hide hg
  have Hs0 := hide hs0
  clear hg hbb hs0 hz0 hz1 hz2
  go_loopw [7] (fun i wr => ∃ k : Nat, l.length ≤ k ∧ k ≤ l.length + 3 ∧ i = .int .i64 (k : Int) ∧ ∃ ys : List Value, OwnSl wr 37 3 (.slice (some ⟨g, 0, none⟩) (l.length + 3) (l.length + 3)) (l.length + 3) ys ∧ Turn (fun j => j = g) w2 wr ∧
      Hid ((∀ j, j < l.length * 3 → ys[j]? = (arCs l)[j]?) ∧ ∀ j, l.length * 3 ≤ j → j < k * 3 → ys[j]? = (arCs [(f1, f2, f3), (f1, f2, f3), (f1, f2, f3)])[j - l.length * 3]?)) (fun i _ => l.length + 3 - (intOf i).toNat)
  case atStart =>
    refine ⟨l.length, Nat.le_refl _, by omega, rfl, ys0, hfull, Turn.refl _ _, hide ⟨fun j hj => ?_, fun j h1 h2 => by omega⟩⟩
    rw [← unhide Hys0, List.getElem?_take, if_pos hj]
  case round =>
    obtain ⟨k, hk1, hk2, rfl, ys, hown, tr, hys⟩ := hrel
    by_cases hlt : k < l.length + 3
    · have hyl : ys.length = (l.length + 3) * 3 := hown.1
      have hbox := tr.same ((T2).same hb (fun h => h)) hgb
      have x0 : wr.cell? ⟨bb, 0, none⟩ = some (.int .i64 f1) := cell_obj hbox 0
      have x1 : wr.cell? ⟨bb, 1, none⟩ = some (.int .i64 f2) := cell_obj hbox 1
      have x2 : wr.cell? ⟨bb, 2, none⟩ = some (.int .i64 f3) := cell_obj hbox 2
      obtain ⟨u0, v0, c0⟩ := hown.cellAt (k * 3) (by omega)
      obtain ⟨u1, v1, c1⟩ := hown.cellAt (k * 3 + 1) (by omega)
      obtain ⟨u2, v2, c2⟩ := hown.cellAt (k * 3 + 2) (by omega)
      obtain ⟨cur, hcur⟩ := hown.lt g rfl
      have z0 : wr.frozen? ⟨g, k * 3, none⟩ = false := frozen_obj hcur _
      have z1 : wr.frozen? ⟨g, k * 3 + 1, none⟩ = false := frozen_obj hcur _
      have z2 : wr.frozen? ⟨g, k * 3 + 2, none⟩ = false := frozen_obj hcur _
      have hst := hown.set3 k hlt (f1, f2, f3)
      simp only at hst
      have tr2 : Turn (fun j => j = g) w2 (((wr.setCell ⟨g, k * 3, none⟩ (.int .i64 f1)).setCell ⟨g, k * 3 + 1, none⟩ (.int .i64 f2)).setCell ⟨g, k * 3 + 2, none⟩ (.int .i64 f3)) := ((tr.setCell (p := ⟨g, k * 3, none⟩) (.inl rfl) _).setCell (p := ⟨g, k * 3 + 1, none⟩) (.inl rfl) _).setCell (p := ⟨g, k * 3 + 2, none⟩) (.inl rfl) _
      have hnew : Hid ((∀ j, j < l.length * 3 → (((ys.set (k * 3) (.int .i64 f1)).set (k * 3 + 1) (.int .i64 f2)).set (k * 3 + 2) (.int .i64 f3))[j]? = (arCs l)[j]?) ∧ ∀ j, l.length * 3 ≤ j → j < (k + 1) * 3 → (((ys.set (k * 3) (.int .i64 f1)).set (k * 3 + 1) (.int .i64 f2)).set (k * 3 + 2) (.int .i64 f3))[j]? = (arCs [(f1, f2, f3), (f1, f2, f3), (f1, f2, f3)])[j - l.length * 3]?) := by
        refine hide ⟨fun j hj => ?_, fun j h1 h2 => ?_⟩
        · rw [List.getElem?_set_ne (by omega), List.getElem?_set_ne (by omega), List.getElem?_set_ne (by omega)]; exact (unhide hys).1 j hj
        · by_cases e : j < k * 3
          · rw [List.getElem?_set_ne (by omega), List.getElem?_set_ne (by omega), List.getElem?_set_ne (by omega)]; exact (unhide hys).2 j h1 e
          · obtain ⟨q, hq, rfl⟩ : ∃ q, q < 3 ∧ j = k * 3 + q := ⟨j - k * 3, by omega, by omega⟩
            obtain ⟨r, hr, rfl⟩ : ∃ r, r < 3 ∧ k = l.length + r := ⟨k - l.length, by omega, by omega⟩
            rw [show (l.length + r) * 3 + q - l.length * 3 = r * 3 + q by omega]
            have hl3 : ([(f1, f2, f3), (f1, f2, f3), (f1, f2, f3)] : List Ar)[r]? = some (f1, f2, f3) := by
              match r, hr with
              | 0, _ => rfl
              | 1, _ => rfl
              | 2, _ => rfl
            rw [arCs_at hl3 q hq]
            match q, hq with
            | 0, _ => rw [List.getElem?_set_ne (by omega), List.getElem?_set_ne (by omega), Nat.add_zero, List.getElem?_set_self (by omega)]; rfl
            | 1, _ => rw [List.getElem?_set_ne (by omega), List.getElem?_set_self (by rw [List.length_set]; omega)]; rfl
            | 2, _ => rw [List.getElem?_set_self (by rw [List.length_set, List.length_set]; omega)]; rfl
      clear hys hown hcur hbox tr v0 v1 v2 hfull
      go_wp2
      exact ⟨⟨k + 1, by omega, by omega, by go_num, _, hst, tr2, hnew⟩, by simp [intOf]; omega⟩
    · have hk : k = l.length + 3 := by omega
      subst hk
      have hall : ys = arCs (own3 l (f1, f2, f3)) := by
        have hyl : ys.length = (l.length + 3) * 3 := hown.1
        apply List.ext_getElem?
        intro j
        unfold own3
        rw [arCs_append]
        by_cases h : j < l.length * 3
        · rw [(unhide hys).1 j h, List.getElem?_append_left (by rw [arCs_len]; exact h)]
        · rw [List.getElem?_append_right (by rw [arCs_len]; omega), arCs_len]
          by_cases h3 : j < (l.length + 3) * 3
          · exact (unhide hys).2 j (by omega) h3
          · rw [List.getElem?_eq_none (by omega), List.getElem?_eq_none (by rw [arCs_len]; simp; omega)]
      have hO : OA wr (.slice (some ⟨g, 0, none⟩) (l.length + 3) (l.length + 3)) (own3 l (f1, f2, f3)) := by
        unfold OA
        rw [show (own3 l (f1, f2, f3)).length = l.length + 3 by simp [own3], ← hall]
        exact hown
      have tt : Turn (fun _ => False) W wr := T2.trans tr (fun j hj => .inr (by have := unhide Hg; omega))
      clear hys hown hall
      go_wp2
      go_ret
      refine ⟨g, rfl, hO, T0.then tt, ?_⟩
      have h1 := unhide Hg; have h2 := unhide Hs0; have h3 := unhide Hbb
      omega
end Go.Proofs.Ytmmlannnpndkcaa
