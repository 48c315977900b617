/- Copies of bytes with spare room, lists of bytes held against each other: what hansomhelp's Own, Same, Plain and Kept answer (COwn's parts that want no reader). -/
import Derived.Test.YthikiahhochjmaaGreatDoorPack7
namespace Go.Proofs.YthikiahhochjmaaGreatDoor
open Go.RowKit
set_option linter.unusedVariables false
set_option maxRecDepth 100000

/-- a slice of n of a row of its own that has just room for three more: that row, whole -/
theorem full_of {w : World} {base : Nat} {e : TypeId} {g n : Nat} {xs : List Value} (h : w.ownsRow base e 1 (.slice (some ⟨g, 0, none⟩) n (n + 3)) n xs) :
    ∃ ys : List Value, w.ownsRow base e 1 (.slice (some ⟨g, 0, none⟩) (n + 3) (n + 3)) (n + 3) ys ∧ ys.take n = xs := by
  obtain ⟨hl, hr⟩ := h
  rcases hr with ⟨hv, _⟩ | ⟨g', cap, cur, hv, hb, hg, hn, hm, hs, ht⟩
  · simp at hv
  · simp only [Value.slice.injEq, Option.some.injEq, Addr.mk.injEq, and_true, true_and] at hv
    obtain ⟨rfl, rfl⟩ := hv
    have hc : cur.toList.length = n + 3 := by rw [Array.length_toList, hs]; omega
    refine ⟨cur.toList, ⟨by rw [hc]; omega, .inr ⟨g, n + 3, cur, rfl, hb, hg, Nat.le_refl _, hm, hs, ?_⟩⟩, ?_⟩
    · rw [List.take_of_length_le (by rw [hc]; omega)]
    · rw [← ht, Nat.mul_one]

theorem cells_grown {w w1 : World} {row : Option Nat} {a : Option Addr} {news : List Value} (hb : Below w.heap.size w w1)
    (h : ∀ ad, a = some ad → ∀ (j : Nat) (u : Value), news[j]? = some u → w.cell? (ad.add j) = some u) : ∀ ad, a = some ad → ∀ (j : Nat) (u : Value), news[j]? = some u → w1.cell? (ad.add j) = some u := by
  intro ad had j u hu
  have h1 := h ad had j u hu
  rw [hb.cell (World.block_lt_of_cell? _ _ h1)]
  exact h1

theorem made_below {w w1 : World} (hg : w.grownBy w1 none) : Below w.heap.size w w1 := (Below.refl _ _).grown hg (Nat.le_refl _) (fun _ h => by cases h)

/-- the cells of a whole row, as numbers -/
theorem cells_of_owns {w : World} {base : Nat} {e : TypeId} {g n cap : Nat} {k : IntKind} {ys : List Value} (h : w.ownsRow base e 1 (.slice (some ⟨g, 0, none⟩) n cap) n ys) (zs : List Int) (hz : zs.length ≤ n)
    (hy : ∀ j, j < zs.length → ys[j]? = some (.int k (zs.getD j 0))) : Cells k w g 0 zs := by
  intro i hi
  have := h.cellAt i (by omega)
  rw [Nat.zero_add, this]
  exact hy i hi


set_option maxHeartbeats 1000000 in
theorem own_u8 (a : Option Addr) (c : Nat) (zs : List Int) (f : Int) (w : World) (hz : zs.length ≤ 140737488351232) (ha : a = none → zs.length = 0 ∧ c = 0)
    (hcell : ∀ ad, a = some ad → ∀ (j : Nat) (u : Value), (zs.map (Value.int .u8))[j]? = some u → w.cell? (ad.add j) = some u) :
    Calls Tryz.prog 31 #[.slice a zs.length c, .int .u8 f] w fun e w' =>
      e = .returned (.slice (some ⟨w.heap.size, 0, none⟩) zs.length (zs.length + 3)) ∧ Cells .u8 w' w.heap.size 0 (zs ++ [f, f, f]) ∧ Below w.heap.size w w' ∧ Free w' w.heap.size := by
  obtain ⟨i0, hi, hz0, hz1, hz2⟩ := info_parts info_u8
  go_enter Tryz.func31, Tryz.ntmps31
  go_wp2_with (first | (at_make; refine wpList_make_own _ rfl _ _ 33 rfl w.heap.size 5 i0 (.int .u8 0) 1 Tryz.underlying33 hi hz0 hz1 .i64 .i64 _ (zs.length + 3) rfl rfl (by omega) (by rw [hz2]; omega) (by unfold maxLen; omega) (Nat.le_refl _) ?_; intro w1 hown1 hgrow1) | (at_builtin; refine wpList_append_fits_any _ rfl (.tmp 12) (.tmp 13) 33 rfl w.heap.size 5 i0 1 Tryz.underlying33 hi hz1 w.heap.size 0 (zs.length + 3) [] rfl hown1 a zs.length c (zs.map (Value.int .u8)) rfl (by simp) ha (cells_grown (row := none) (made_below hgrow1) hcell) (ints_oneCell _ _) (by omega) ?_; intro w2 hown2 hgrow2))
  have hb1 : Below w.heap.size w w1 := made_below hgrow1
  have hb2 : Below w.heap.size w w2 := hb1.grown hgrow2 hb1.size (fun k h => by cases h; exact Nat.le_refl _)
  simp only [Nat.zero_add, List.nil_append] at hown2
  obtain ⟨ys0, hfull, hys0⟩ := full_of hown2
  have Hys0 := hide hys0
  clear hys0 hown2 hown1 hgrow1 hgrow2
  go_loopw [7] (fun i wr => ∃ k : Nat, zs.length ≤ k ∧ k ≤ zs.length + 3 ∧ i = .int .i64 k ∧ ∃ ys : List Value, wr.ownsRow w.heap.size 5 1 (.slice (some ⟨w.heap.size, 0, none⟩) (zs.length + 3) (zs.length + 3)) (zs.length + 3) ys ∧ Below w.heap.size w wr ∧
      Hid ((∀ j, j < zs.length → ys[j]? = (zs.map (Value.int .u8))[j]?) ∧ ∀ j, zs.length ≤ j → j < k → ys[j]? = some (.int .u8 f))) (fun i _ => zs.length + 3 - (intOf i).toNat)
  case atStart =>
    refine ⟨zs.length, Nat.le_refl _, by omega, rfl, ys0, hfull, hb2, hide ⟨fun j hj => ?_, fun j h1 h2 => by omega⟩⟩
    rw [← unhide Hys0, List.getElem?_take, if_pos hj]
  case round =>
    obtain ⟨k, hk1, hk2, rfl, ys, hown, hbel, hys⟩ := hrel
    by_cases hlt : k < zs.length + 3
    · have hyl : ys.length = zs.length + 3 := by have := hown.1; omega
      have hcl : wr.cell? ⟨w.heap.size, k, none⟩ = some (ys[k]'(by omega)) := by rw [hown.cellAt k (by omega)]; simp [hyl, hlt]
      have hfr := hown.frozenAt k
      obtain ⟨hst, hgr⟩ := hown.stored k (.int .u8 f)
      have hnew : Hid ((∀ j, j < zs.length → (ys.set k (.int .u8 f))[j]? = (zs.map (Value.int .u8))[j]?) ∧ ∀ j, zs.length ≤ j → j < k + 1 → (ys.set k (.int .u8 f))[j]? = some (.int .u8 f)) := by
        refine hide ⟨fun j hj => ?_, fun j h1 h2 => ?_⟩
        · rw [List.getElem?_set_ne (by omega)]; exact (unhide hys).1 j hj
        · by_cases e : j = k
          · subst e; rw [List.getElem?_set_self (by omega)]
          · rw [List.getElem?_set_ne (by omega)]; exact (unhide hys).2 j h1 (by omega)
      have hbel2 : Below w.heap.size w (wr.setCell ⟨w.heap.size, k, none⟩ (.int .u8 f)) := hbel.setCell (Nat.le_refl _) _
      generalize ys[k]'(by omega) = old at *
      clear hys hown hgr
      go_wp2
      exact ⟨⟨k + 1, by omega, by omega, by go_num, _, hst, hbel2, hnew⟩, by simp [intOf]; omega⟩
    · have hk : k = zs.length + 3 := by omega
      subst hk
      have hcells : Cells .u8 wr w.heap.size 0 (zs ++ [f, f, f]) := by
        refine cells_of_owns hown _ (by simp) (fun j hj => ?_)
        simp at hj
        by_cases h : j < zs.length
        · rw [(unhide hys).1 j h, List.getD_eq_getElem?_getD, List.getElem?_append_left h]; simp [h]
        · rw [(unhide hys).2 j (by omega) (by omega)]
          rw [List.getD_eq_getElem?_getD, List.getElem?_append_right (by omega)]
          obtain ⟨r, hr⟩ : ∃ r, j - zs.length = r := ⟨_, rfl⟩
          rw [hr]
          have : r < 3 := by omega
          match r, this with
          | 0, _ => rfl
          | 1, _ => rfl
          | 2, _ => rfl
      have hfree : Free wr w.heap.size := by
        rcases hown.2 with ⟨h, _⟩ | ⟨g, cap, cur, h, _, hg, _⟩
        · simp at h
        · simp at h
          rw [← h.1] at hg
          exact ⟨cur, _, hg⟩
      go_wp2
      go_ret
      exact ⟨rfl, hcells, hbel, hfree⟩

theorem own_any_u8 (v : Value) (zs : List Int) (f : Int) (w : World) (hz : zs.length ≤ 140737488351232) (hr : Row .u8 any w v zs) :
    Calls Tryz.prog 31 #[v, .int .u8 f] w fun e w' =>
      e = .returned (.slice (some ⟨w.heap.size, 0, none⟩) zs.length (zs.length + 3)) ∧ Cells .u8 w' w.heap.size 0 (zs ++ [f, f, f]) ∧ Below w.heap.size w w' ∧ Free w' w.heap.size := by
  rcases hr with ⟨a, c, rfl, hn, hcm, rfl⟩ | ⟨b, off, c, rfl, hl, hm, hB, hc⟩
  · exact own_u8 a c [] f w hz (fun h => ⟨rfl, hn h⟩) (fun ad _ j u hu => by simp at hu)
  · refine own_u8 _ c zs f w hz (fun h => by cases h) (fun ad had j u hu => ?_)
    cases had
    have hj : j < zs.length := by
      rcases Nat.lt_or_ge j zs.length with h | h
      · exact h
      · rw [List.getElem?_eq_none (by simpa using h)] at hu; cases hu
    have h1 := hc j hj
    rw [List.getElem?_map] at hu
    simp [hj] at hu
    subst hu
    by_cases h0 : j = 0
    · subst h0; simpa [Addr.add, hj] using h1
    · simpa [Addr.add, h0, hj] using h1

theorem eq_of_getD (xs zs : List Int) (hl : xs.length = zs.length) (h : ∀ j, j < xs.length → xs.getD j 0 = zs.getD j 0) : xs = zs := by
  apply List.ext_getElem hl
  intro i h1 h2
  have := h i h1
  rw [List.getD_eq_getElem?_getD, List.getD_eq_getElem?_getD, List.getElem?_eq_getElem h1, List.getElem?_eq_getElem h2] at this
  exact this
theorem drewN_more (w : World) (m n : Nat) : (w.drewN m).drewN n = w.drewN (m + n) := World.drewN_drewN ..

set_option maxHeartbeats 400000 in
theorem one_u8 (x y : Int) (w : World) : Calls Tryz.prog 72 #[.int .u8 x, .int .u8 y] w fun e w' => e = .returned (.bool (x == y)) ∧ w' = w := by
  go_enter Tryz.func72, Tryz.ntmps72
  go_wp2
  go_ret
  exact ⟨rfl, rfl⟩

set_option maxHeartbeats 400000 in
theorem same_u8 (b off c b' off' c' : Nat) (xs zs : List Int) (w : World) (hm : xs.length ≤ maxLen) (hm' : zs.length ≤ maxLen) (hcx : Cells .u8 w b off xs) (hc : Cells .u8 w b' off' zs) (hl : xs.length = zs.length) :
    Calls Tryz.prog 71 #[.slice (some ⟨b, off, none⟩) xs.length c, .slice (some ⟨b', off', none⟩) zs.length c', .func (.func 72) #[] #[]] w fun e w' => e = .returned (.bool (decide (xs = zs))) ∧ ∃ n, w' = w.drewN n := by
  unfold maxLen at hm hm'
  have Hl := hide hl
  have hne : ((xs.length : Int) != (zs.length : Int)) = false := by rw [unhide Hl]; simp
  clear hl
  go_enter Tryz.func71, Tryz.ntmps71
  go_wp2
  go_loopw [7] (fun i wr => ∃ k : Nat, k ≤ xs.length ∧ i = .int .i64 k ∧ Hid (∃ m, wr = w.drewN m) ∧ Hid (∀ j, j < k → xs.getD j 0 = zs.getD j 0)) (fun i _ => xs.length - (intOf i).toNat)
  case atStart => exact ⟨0, Nat.zero_le _, rfl, hide ⟨0, rfl⟩, hide (fun j hj => by omega)⟩
  case round =>
    obtain ⟨k, hk, rfl, hwr, hsm⟩ := hrel
    by_cases hlt : k < xs.length
    · have hlt' : k < zs.length := by rw [← unhide Hl]; exact hlt
      have hcellx : wr.cell? ⟨b, off + k, none⟩ = some (.int .u8 (xs.getD k 0)) := by obtain ⟨m, rfl⟩ := unhide hwr; exact hcx k hlt
      have hcellz : wr.cell? ⟨b', off' + k, none⟩ = some (.int .u8 (zs.getD k 0)) := by obtain ⟨m, rfl⟩ := unhide hwr; exact hc k hlt'
      generalize hx : xs.getD k 0 = x at *
      generalize hz : zs.getD k 0 = z at *
      have Hx := hide hx
      have Hz := hide hz
      clear hx hz
      by_cases hxz : x = z
      · subst hxz
        go_wp2
        go_quiet ((go_at_call 72; exact Calls.quiet_of_same (one_u8 _ _ _)))
        go_wp2
        refine ⟨⟨k + 1, by omega, by go_num, hide ?_, hide ?_⟩, by simp [intOf]; omega⟩
        · obtain ⟨m, rfl⟩ := unhide hwr
          exact ⟨m + nq, drewN_more w m nq⟩
        · intro j hj
          by_cases e : j = k
          · subst e; rw [unhide Hx, unhide Hz]
          · exact unhide hsm j (by omega)
      · have hb : (x == z) = false := by simp [hxz]
        have Hne : Hid (decide (xs = zs) = false) := by
          refine hide ?_
          rw [decide_eq_false_iff_not]
          intro e
          apply hxz
          rw [← unhide Hx, ← unhide Hz, e]
        clear hxz
        go_wp2
        go_quiet ((go_at_call 72; exact Calls.quiet_of_same (one_u8 _ _ _)))
        go_wp2
        go_ret
        refine ⟨ret_bool (unhide Hne).symm, ?_⟩
        obtain ⟨m, rfl⟩ := unhide hwr
        exact ⟨m + nq, drewN_more w m nq⟩
    · have heq : xs = zs := eq_of_getD xs zs (unhide Hl) (fun j hj => unhide hsm j (by omega))
      have Hd : Hid (decide (xs = zs) = true) := hide (by simp [heq])
      clear heq
      go_wp2
      go_ret
      exact ⟨ret_bool (unhide Hd).symm, unhide hwr⟩

set_option maxHeartbeats 400000 in
theorem same_none_u8 (a a' : Option Addr) (c c' : Nat) (w : World) :
    Calls Tryz.prog 71 #[.slice a 0 c, .slice a' 0 c', .func (.func 72) #[] #[]] w fun e w' => e = .returned (.bool true) ∧ ∃ n, w' = w.drewN n := by
  go_enter Tryz.func71, Tryz.ntmps71
  go_wp2
  refine wp_loop_rounds 1 ?_; rw [rounds_succ]
  go_wp2
  go_ret
  exact ⟨rfl, 0, rfl⟩

set_option maxHeartbeats 400000 in
theorem same_len_u8 (a a' : Option Addr) (n n' c c' : Nat) (w : World) (h : n ≠ n') :
    Calls Tryz.prog 71 #[.slice a n c, .slice a' n' c', .func (.func 72) #[] #[]] w fun e w' => e = .returned (.bool false) ∧ ∃ n, w' = w.drewN n := by
  have hne : ((n : Int) != (n' : Int)) = true := by rw [bne_iff_ne]; omega
  clear h
  go_enter Tryz.func71, Tryz.ntmps71
  go_wp2
  go_ret
  exact ⟨rfl, 0, rfl⟩

theorem same_any_u8 (v v' : Value) (xs zs : List Int) (w : World) (hr : Row .u8 any w v xs) (hr' : Row .u8 any w v' zs) :
    Calls Tryz.prog 71 #[v, v', .func (.func 72) #[] #[]] w fun e w' => e = .returned (.bool (decide (xs = zs))) ∧ ∃ n, w' = w.drewN n := by
  by_cases hl : xs.length = zs.length
  · by_cases h0 : xs.length = 0
    · have e1 := List.eq_nil_of_length_eq_zero h0
      have e2 := List.eq_nil_of_length_eq_zero (hl.symm.trans h0)
      subst e1 e2
      obtain ⟨a, c, rfl⟩ := hr.slice
      obtain ⟨a', c', rfl⟩ := hr'.slice
      exact same_none_u8 a a' c c' w
    · rcases hr with ⟨_, _, rfl, _, _, rfl⟩ | ⟨b, off, c, rfl, hlc, hm, _, hc⟩
      · exact absurd rfl h0
      rcases hr' with ⟨_, _, rfl, _, _, rfl⟩ | ⟨b', off', c', rfl, hlc', hm', _, hc'⟩
      · exact absurd hl h0
      exact same_u8 b off c b' off' c' xs zs w (by omega) (by omega) hc hc' hl
  · have hd : decide (xs = zs) = false := by
      rw [decide_eq_false_iff_not]; intro e; exact hl (by rw [e])
    rw [hd]
    obtain ⟨a, c, rfl⟩ := hr.slice
    obtain ⟨a', c', rfl⟩ := hr'.slice
    exact same_len_u8 a a' _ _ c c' w hl

set_option maxHeartbeats 400000 in
theorem plain_any_u8 (v v' : Value) (xs zs : List Int) (w : World) (hr : Row .u8 any w v xs) (hr' : Row .u8 any w v' zs) :
    Calls Tryz.prog 56 #[v, v'] w fun e w' => e = .returned (.bool (decide (xs = zs))) ∧ ∃ n, w' = w.drewN n := by
  go_enter Tryz.func56, Tryz.ntmps56
  go_wp2_with fail
  refine (same_any_u8 v v' xs zs _ hr hr').mono ?_
  rintro e w' ⟨rfl, n, hw'⟩
  subst hw'
  go_wp2
  go_ret
  exact ⟨rfl, n, rfl⟩

theorem row_of_cells {k : IntKind} {w : World} {g n c : Nat} {zs r : List Int} (h : Cells k w g 0 (zs ++ r)) (hn : n = zs.length) (hc : zs.length ≤ c) (hm : c ≤ maxLen) : Row k any w (.slice (some ⟨g, 0, none⟩) n c) zs := by
  subst hn
  refine .inr ⟨g, 0, c, rfl, hc, hm, trivial, fun i hi => ?_⟩
  have := h i (by simp; omega)
  rw [this, List.getD_eq_getElem?_getD, List.getD_eq_getElem?_getD, List.getElem?_append_left hi]

theorem getD_three (zs : List Int) (f : Int) (j : Nat) (h1 : zs.length ≤ j) (h2 : j < zs.length + 3) : (zs ++ [f, f, f]).getD j 0 = f := by
  rw [List.getD_eq_getElem?_getD, List.getElem?_append_right h1]
  obtain ⟨r, hr⟩ : ∃ r, j - zs.length = r := ⟨_, rfl⟩
  rw [hr]
  have : r < 3 := by omega
  match r, this with
  | 0, _ => rfl
  | 1, _ => rfl
  | 2, _ => rfl

set_option maxHeartbeats 400000 in
theorem kept_u8 (g : Nat) (a : Option Addr) (c : Nat) (zs : List Int) (f : Int) (w : World) (hz : zs.length ≤ 140737488351232) (hcl : Cells .u8 w g 0 (zs ++ [f, f, f])) (hr : Row .u8 any w (.slice a zs.length c) zs) :
    Calls Tryz.prog 32 #[.slice (some ⟨g, 0, none⟩) zs.length (zs.length + 3), .slice a zs.length c, .int .u8 f] w fun e w' => e = .returned (.bool true) ∧ ∃ n, w' = w.drewN n := by
  have hr0 : Row .u8 any w (.slice (some ⟨g, 0, none⟩) zs.length (zs.length + 3)) zs := row_of_cells hcl rfl (by omega) (by unfold maxLen; omega)
  go_enter Tryz.func32, Tryz.ntmps32
  go_wp2_with fail
  refine (plain_any_u8 _ _ zs zs _ hr0 hr).mono ?_
  rintro e w1 ⟨rfl, m, hw1⟩
  rw [show decide (zs = zs) = true by simp]
  have hcl1 : Cells .u8 w1 g 0 (zs ++ [f, f, f]) := by subst hw1; exact hcl
  have Hw1 := hide hw1
  clear hw1 hcl hr hr0
  go_wp2
  go_loop [8] (fun i => ∃ k : Nat, zs.length ≤ k ∧ k ≤ zs.length + 3 ∧ i = .int .i64 k) (fun i => zs.length + 3 - (intOf i).toNat)
  case atStart => exact ⟨zs.length, Nat.le_refl _, by omega, rfl⟩
  case round =>
    obtain ⟨k, hk1, hk2, rfl⟩ := hrel
    by_cases hlt : k < zs.length + 3
    · have hc1 := hcl1 k (by simp; omega)
      rw [getD_three zs f k hk1 hlt, Nat.zero_add] at hc1
      go_wp2
      exact ⟨⟨k + 1, by omega, by omega, by go_num⟩, by simp [intOf]; omega⟩
    · go_wp2
      go_ret
      exact ⟨rfl, m, unhide Hw1⟩

theorem kept_any_u8 (g : Nat) (v : Value) (zs : List Int) (f : Int) (w : World) (hz : zs.length ≤ 140737488351232) (hcl : Cells .u8 w g 0 (zs ++ [f, f, f])) (hr : Row .u8 any w v zs) :
    Calls Tryz.prog 32 #[.slice (some ⟨g, 0, none⟩) zs.length (zs.length + 3), v, .int .u8 f] w fun e w' => e = .returned (.bool true) ∧ ∃ n, w' = w.drewN n := by
  obtain ⟨a, c, rfl⟩ := hr.slice
  exact kept_u8 g a c zs f w hz hcl hr
end Go.Proofs.YthikiahhochjmaaGreatDoor
