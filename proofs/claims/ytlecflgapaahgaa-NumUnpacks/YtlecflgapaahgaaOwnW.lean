/- Copies with spare room: what hansomhelp's Own leaves. -/
import Derived.Test.YtlecflgapaahgaaBase
namespace Go.Proofs.Ytlecflgapaahgaa
open Go.RowKit
set_option linter.unusedVariables false

/-- a slice of n of a row of its own that has just room for three more: that row, whole -/
theorem full_of {w : World} {base : Nat} {e : TypeId} {g n : Nat} {xs : List Value} (h : w.ownsRow base e 1 (.slice (some ⟨g, 0, none⟩) n (n + 3)) n xs) :
    ∃ ys : List Value, w.ownsRow base e 1 (.slice (some ⟨g, 0, none⟩) (n + 3) (n + 3)) (n + 3) ys ∧ ys.take n = xs := by
  obtain ⟨hl, hr⟩ := h
  rcases hr with ⟨hv, _⟩ | ⟨g', cap, cur, hv, hb, hg, hn, hm, hs, ht⟩
  · simp at hv
  · simp only [Value.slice.injEq, Option.some.injEq, Addr.mk.injEq, and_true, true_and] at hv
    obtain ⟨rfl, rfl⟩ := hv
    have hc : cur.toList.length = n + 3 := by rw [Array.length_toList, hs]; omega
    refine ⟨cur.toList, ⟨by rw [hc]; omega, .inr ⟨g, n + 3, cur, rfl, hb, hg, Nat.le_refl _, hm, hs, ?_⟩⟩, ?_⟩
    · rw [List.take_of_length_le (by rw [hc]; omega)]
    · rw [← ht, Nat.mul_one]

theorem cells_grown {w w1 : World} {row : Option Nat} {a : Option Addr} {news : List Value} (hb : Below w.heap.size w w1)
    (h : ∀ ad, a = some ad → ∀ (j : Nat) (u : Value), news[j]? = some u → w.cell? (ad.add j) = some u) : ∀ ad, a = some ad → ∀ (j : Nat) (u : Value), news[j]? = some u → w1.cell? (ad.add j) = some u := by
  intro ad had j u hu
  have h1 := h ad had j u hu
  rw [hb.cell (World.block_lt_of_cell? _ _ h1)]
  exact h1

theorem made_below {w w1 : World} (hg : w.grownBy w1 none) : Below w.heap.size w w1 := (Below.refl _ _).grown hg (Nat.le_refl _) (fun _ h => by cases h)

/-- the cells of a whole row, as numbers -/
theorem cells_of_owns {w : World} {base : Nat} {e : TypeId} {g n cap : Nat} {k : IntKind} {ys : List Value} (h : w.ownsRow base e 1 (.slice (some ⟨g, 0, none⟩) n cap) n ys) (zs : List Int) (hz : zs.length ≤ n)
    (hy : ∀ j, j < zs.length → ys[j]? = some (.int k (zs.getD j 0))) : Cells k w g 0 zs := by
  intro i hi
  have := h.cellAt i (by omega)
  rw [Nat.zero_add, this]
  exact hy i hi

theorem info_u64 : (Try.prog.info? 28).map (fun i => (i.zero, i.size, i.bytes)) = some (some (.int .u64 0), 1, 8) := by kernel_rfl

set_option maxHeartbeats 1000000 in
theorem own_u64 (a : Option Addr) (c : Nat) (zs : List Int) (f : Int) (w : World) (hz : zs.length * 8 ≤ 140737488351232) (ha : a = none → zs.length = 0 ∧ c = 0)
    (hcell : ∀ ad, a = some ad → ∀ (j : Nat) (u : Value), (zs.map (Value.int .u64))[j]? = some u → w.cell? (ad.add j) = some u) :
    Calls Try.prog 14 #[.slice a zs.length c, .int .u64 f] w fun e w' =>
      e = .returned (.slice (some ⟨w.heap.size, 0, none⟩) zs.length (zs.length + 3)) ∧ Cells .u64 w' w.heap.size 0 (zs ++ [f, f, f]) ∧ Below w.heap.size w w' := by
  obtain ⟨i0, hi, hz0, hz1, hz2⟩ := info_parts info_u64
  go_enter Try.func14, Try.ntmps14
  go_wp2_with (first | (at_make; refine wpList_make_own _ rfl _ _ 25 rfl w.heap.size 28 i0 (.int .u64 0) 1 Try.underlying25 hi hz0 hz1 .i64 .i64 _ (zs.length + 3) rfl rfl (by omega) (by rw [hz2]; omega) (by unfold maxLen; omega) (Nat.le_refl _) ?_; intro w1 hown1 hgrow1) | (at_builtin; refine wpList_append_fits_any _ rfl (.tmp 12) (.tmp 13) 25 rfl w.heap.size 28 i0 1 Try.underlying25 hi hz1 w.heap.size 0 (zs.length + 3) [] rfl hown1 a zs.length c (zs.map (Value.int .u64)) rfl (by simp) ha (cells_grown (row := none) (made_below hgrow1) hcell) (ints_oneCell _ _) (by omega) ?_; intro w2 hown2 hgrow2))
  have hb1 : Below w.heap.size w w1 := made_below hgrow1
  have hb2 : Below w.heap.size w w2 := hb1.grown hgrow2 hb1.size (fun k h => by cases h; exact Nat.le_refl _)
  simp only [Nat.zero_add, List.nil_append] at hown2
  obtain ⟨ys0, hfull, hys0⟩ := full_of hown2
  have Hys0 := hide hys0
  clear hys0 hown2 hown1 hgrow1 hgrow2
  go_loopw [7] (fun i wr => ∃ k : Nat, zs.length ≤ k ∧ k ≤ zs.length + 3 ∧ i = .int .i64 k ∧ ∃ ys : List Value, wr.ownsRow w.heap.size 28 1 (.slice (some ⟨w.heap.size, 0, none⟩) (zs.length + 3) (zs.length + 3)) (zs.length + 3) ys ∧ Below w.heap.size w wr ∧
      Hid ((∀ j, j < zs.length → ys[j]? = (zs.map (Value.int .u64))[j]?) ∧ ∀ j, zs.length ≤ j → j < k → ys[j]? = some (.int .u64 f))) (fun i _ => zs.length + 3 - (intOf i).toNat)
  case atStart =>
    refine ⟨zs.length, Nat.le_refl _, by omega, rfl, ys0, hfull, hb2, hide ⟨fun j hj => ?_, fun j h1 h2 => by omega⟩⟩
    rw [← unhide Hys0, List.getElem?_take, if_pos hj]
  case round =>
    obtain ⟨k, hk1, hk2, rfl, ys, hown, hbel, hys⟩ := hrel
    by_cases hlt : k < zs.length + 3
    · have hyl : ys.length = zs.length + 3 := by have := hown.1; omega
      have hcl : wr.cell? ⟨w.heap.size, k, none⟩ = some (ys[k]'(by omega)) := by rw [hown.cellAt k (by omega)]; simp [hyl, hlt]
      have hfr := hown.frozenAt k
      obtain ⟨hst, hgr⟩ := hown.stored k (.int .u64 f)
      have hnew : Hid ((∀ j, j < zs.length → (ys.set k (.int .u64 f))[j]? = (zs.map (Value.int .u64))[j]?) ∧ ∀ j, zs.length ≤ j → j < k + 1 → (ys.set k (.int .u64 f))[j]? = some (.int .u64 f)) := by
        refine hide ⟨fun j hj => ?_, fun j h1 h2 => ?_⟩
        · rw [List.getElem?_set_ne (by omega)]; exact (unhide hys).1 j hj
        · by_cases e : j = k
          · subst e; rw [List.getElem?_set_self (by omega)]
          · rw [List.getElem?_set_ne (by omega)]; exact (unhide hys).2 j h1 (by omega)
      have hbel2 : Below w.heap.size w (wr.setCell ⟨w.heap.size, k, none⟩ (.int .u64 f)) := hbel.setCell (Nat.le_refl _) _
      generalize ys[k]'(by omega) = old at *
      clear hys hown hgr
      go_wp2
      exact ⟨⟨k + 1, by omega, by omega, by go_num, _, hst, hbel2, hnew⟩, by simp [intOf]; omega⟩
    · have hk : k = zs.length + 3 := by omega
      subst hk
      have hcells : Cells .u64 wr w.heap.size 0 (zs ++ [f, f, f]) := by
        refine cells_of_owns hown _ (by simp) (fun j hj => ?_)
        simp at hj
        by_cases h : j < zs.length
        · rw [(unhide hys).1 j h, List.getD_eq_getElem?_getD, List.getElem?_append_left h]; simp [h]
        · rw [(unhide hys).2 j (by omega) (by omega)]
          rw [List.getD_eq_getElem?_getD, List.getElem?_append_right (by omega)]
          obtain ⟨r, hr⟩ : ∃ r, j - zs.length = r := ⟨_, rfl⟩
          rw [hr]
          have : r < 3 := by omega
          match r, this with
          | 0, _ => rfl
          | 1, _ => rfl
          | 2, _ => rfl
      go_wp2
      go_ret
      exact ⟨rfl, hcells, hbel⟩

theorem own_any_u64 (v : Value) (zs : List Int) (f : Int) (w : World) (hz : zs.length * 8 ≤ 140737488351232) (hr : Row .u64 w v zs) :
    Calls Try.prog 14 #[v, .int .u64 f] w fun e w' =>
      e = .returned (.slice (some ⟨w.heap.size, 0, none⟩) zs.length (zs.length + 3)) ∧ Cells .u64 w' w.heap.size 0 (zs ++ [f, f, f]) ∧ Below w.heap.size w w' := by
  rcases hr with ⟨a, c, rfl, hn, rfl⟩ | ⟨b, off, c, rfl, hl, hm, hc⟩
  · exact own_u64 a c [] f w hz (fun h => ⟨rfl, hn h⟩) (fun ad _ j u hu => by simp at hu)
  · refine own_u64 _ c zs f w hz (fun h => by cases h) (fun ad had j u hu => ?_)
    cases had
    have hj : j < zs.length := by
      rcases Nat.lt_or_ge j zs.length with h | h
      · exact h
      · rw [List.getElem?_eq_none (by simpa using h)] at hu; cases hu
    have h1 := hc j hj
    rw [List.getElem?_map] at hu
    simp [hj] at hu
    subst hu
    by_cases h0 : j = 0
    · subst h0; simpa [Addr.add, hj] using h1
    · simpa [Addr.add, h0, hj] using h1
theorem info_i64 : (Try.prog.info? 3).map (fun i => (i.zero, i.size, i.bytes)) = some (some (.int .i64 0), 1, 8) := by kernel_rfl

set_option maxHeartbeats 1000000 in
theorem own_i64 (a : Option Addr) (c : Nat) (zs : List Int) (f : Int) (w : World) (hz : zs.length * 8 ≤ 140737488351232) (ha : a = none → zs.length = 0 ∧ c = 0)
    (hcell : ∀ ad, a = some ad → ∀ (j : Nat) (u : Value), (zs.map (Value.int .i64))[j]? = some u → w.cell? (ad.add j) = some u) :
    Calls Try.prog 15 #[.slice a zs.length c, .int .i64 f] w fun e w' =>
      e = .returned (.slice (some ⟨w.heap.size, 0, none⟩) zs.length (zs.length + 3)) ∧ Cells .i64 w' w.heap.size 0 (zs ++ [f, f, f]) ∧ Below w.heap.size w w' := by
  obtain ⟨i0, hi, hz0, hz1, hz2⟩ := info_parts info_i64
  go_enter Try.func15, Try.ntmps15
  go_wp2_with (first | (at_make; refine wpList_make_own _ rfl _ _ 26 rfl w.heap.size 3 i0 (.int .i64 0) 1 Try.underlying26 hi hz0 hz1 .i64 .i64 _ (zs.length + 3) rfl rfl (by omega) (by rw [hz2]; omega) (by unfold maxLen; omega) (Nat.le_refl _) ?_; intro w1 hown1 hgrow1) | (at_builtin; refine wpList_append_fits_any _ rfl (.tmp 12) (.tmp 13) 26 rfl w.heap.size 3 i0 1 Try.underlying26 hi hz1 w.heap.size 0 (zs.length + 3) [] rfl hown1 a zs.length c (zs.map (Value.int .i64)) rfl (by simp) ha (cells_grown (row := none) (made_below hgrow1) hcell) (ints_oneCell _ _) (by omega) ?_; intro w2 hown2 hgrow2))
  have hb1 : Below w.heap.size w w1 := made_below hgrow1
  have hb2 : Below w.heap.size w w2 := hb1.grown hgrow2 hb1.size (fun k h => by cases h; exact Nat.le_refl _)
  simp only [Nat.zero_add, List.nil_append] at hown2
  obtain ⟨ys0, hfull, hys0⟩ := full_of hown2
  have Hys0 := hide hys0
  clear hys0 hown2 hown1 hgrow1 hgrow2
  go_loopw [7] (fun i wr => ∃ k : Nat, zs.length ≤ k ∧ k ≤ zs.length + 3 ∧ i = .int .i64 k ∧ ∃ ys : List Value, wr.ownsRow w.heap.size 3 1 (.slice (some ⟨w.heap.size, 0, none⟩) (zs.length + 3) (zs.length + 3)) (zs.length + 3) ys ∧ Below w.heap.size w wr ∧
      Hid ((∀ j, j < zs.length → ys[j]? = (zs.map (Value.int .i64))[j]?) ∧ ∀ j, zs.length ≤ j → j < k → ys[j]? = some (.int .i64 f))) (fun i _ => zs.length + 3 - (intOf i).toNat)
  case atStart =>
    refine ⟨zs.length, Nat.le_refl _, by omega, rfl, ys0, hfull, hb2, hide ⟨fun j hj => ?_, fun j h1 h2 => by omega⟩⟩
    rw [← unhide Hys0, List.getElem?_take, if_pos hj]
  case round =>
    obtain ⟨k, hk1, hk2, rfl, ys, hown, hbel, hys⟩ := hrel
    by_cases hlt : k < zs.length + 3
    · have hyl : ys.length = zs.length + 3 := by have := hown.1; omega
      have hcl : wr.cell? ⟨w.heap.size, k, none⟩ = some (ys[k]'(by omega)) := by rw [hown.cellAt k (by omega)]; simp [hyl, hlt]
      have hfr := hown.frozenAt k
      obtain ⟨hst, hgr⟩ := hown.stored k (.int .i64 f)
      have hnew : Hid ((∀ j, j < zs.length → (ys.set k (.int .i64 f))[j]? = (zs.map (Value.int .i64))[j]?) ∧ ∀ j, zs.length ≤ j → j < k + 1 → (ys.set k (.int .i64 f))[j]? = some (.int .i64 f)) := by
        refine hide ⟨fun j hj => ?_, fun j h1 h2 => ?_⟩
        · rw [List.getElem?_set_ne (by omega)]; exact (unhide hys).1 j hj
        · by_cases e : j = k
          · subst e; rw [List.getElem?_set_self (by omega)]
          · rw [List.getElem?_set_ne (by omega)]; exact (unhide hys).2 j h1 (by omega)
      have hbel2 : Below w.heap.size w (wr.setCell ⟨w.heap.size, k, none⟩ (.int .i64 f)) := hbel.setCell (Nat.le_refl _) _
      generalize ys[k]'(by omega) = old at *
      clear hys hown hgr
      go_wp2
      exact ⟨⟨k + 1, by omega, by omega, by go_num, _, hst, hbel2, hnew⟩, by simp [intOf]; omega⟩
    · have hk : k = zs.length + 3 := by omega
      subst hk
      have hcells : Cells .i64 wr w.heap.size 0 (zs ++ [f, f, f]) := by
        refine cells_of_owns hown _ (by simp) (fun j hj => ?_)
        simp at hj
        by_cases h : j < zs.length
        · rw [(unhide hys).1 j h, List.getD_eq_getElem?_getD, List.getElem?_append_left h]; simp [h]
        · rw [(unhide hys).2 j (by omega) (by omega)]
          rw [List.getD_eq_getElem?_getD, List.getElem?_append_right (by omega)]
          obtain ⟨r, hr⟩ : ∃ r, j - zs.length = r := ⟨_, rfl⟩
          rw [hr]
          have : r < 3 := by omega
          match r, this with
          | 0, _ => rfl
          | 1, _ => rfl
          | 2, _ => rfl
      go_wp2
      go_ret
      exact ⟨rfl, hcells, hbel⟩

theorem own_any_i64 (v : Value) (zs : List Int) (f : Int) (w : World) (hz : zs.length * 8 ≤ 140737488351232) (hr : Row .i64 w v zs) :
    Calls Try.prog 15 #[v, .int .i64 f] w fun e w' =>
      e = .returned (.slice (some ⟨w.heap.size, 0, none⟩) zs.length (zs.length + 3)) ∧ Cells .i64 w' w.heap.size 0 (zs ++ [f, f, f]) ∧ Below w.heap.size w w' := by
  rcases hr with ⟨a, c, rfl, hn, rfl⟩ | ⟨b, off, c, rfl, hl, hm, hc⟩
  · exact own_i64 a c [] f w hz (fun h => ⟨rfl, hn h⟩) (fun ad _ j u hu => by simp at hu)
  · refine own_i64 _ c zs f w hz (fun h => by cases h) (fun ad had j u hu => ?_)
    cases had
    have hj : j < zs.length := by
      rcases Nat.lt_or_ge j zs.length with h | h
      · exact h
      · rw [List.getElem?_eq_none (by simpa using h)] at hu; cases hu
    have h1 := hc j hj
    rw [List.getElem?_map] at hu
    simp [hj] at hu
    subst hu
    by_cases h0 : j = 0
    · subst h0; simpa [Addr.add, hj] using h1
    · simpa [Addr.add, h0, hj] using h1
end Go.Proofs.Ytlecflgapaahgaa
