/- math/bits.Mul of 1 and a number; slices.Repeat of one number. -/
import Derived.Test.YtombpfpfeebnpaaPack2
import Derived.Laws.CopyOwn
import Derived.Deep.RegionLaw
import Derived.Test.YtombpfpfeebnpaaGLast
namespace Go.Proofs.Ytombpfpfeebnpaa
open Go.RowKit Go.Maps
set_option linter.unusedVariables false
set_option linter.unusedSimpArgs false
set_option maxRecDepth 100000

theorem low_and (n : Nat) (h : n ≤ 4194304) : bits .and .u64 (n : Int) 4294967295 = (n : Int) := by
  unfold bits
  simp only [IntKind.wrap_u64]
  have h1 : (n : Int).toNat = n := rfl
  have h2 : ((n : Int) % 18446744073709551616).toNat = n := by omega
  have h3 : ((4294967295 : Int) % 18446744073709551616).toNat = 4294967295 := by decide
  have h4 : n &&& 4294967295 = n := by
    rw [show (4294967295 : Nat) = 2 ^ 32 - 1 by rfl, Nat.and_two_pow_sub_one_eq_mod]
    omega
  simp [h2, h3, IntKind.bits]
  have h5 : (BitVec.ofNat 64 n &&& 4294967295#64).toNat = n := by
    rw [BitVec.toNat_and, BitVec.toNat_ofNat, BitVec.toNat_ofNat, Nat.mod_eq_of_lt (by omega), show 4294967295 % 2 ^ 64 = 4294967295 by decide, h4]
  show ((BitVec.ofNat 64 n &&& 4294967295#64).toNat : Int) % 18446744073709551616 = n
  rw [h5]
  omega
set_option maxHeartbeats 1000000 in
theorem mul64_one (w : World) (n : Nat) (h : n ≤ 4194304) :
    Calls Try.prog 70 #[.int .u64 1, .int .u64 (n : Int)] w fun e w' => e = .returned (.tuple #[.int .u64 0, .int .u64 (n : Int)]) ∧ w' = w := by
  have h1 := low_and n h
  have h2 : (n : Int) / 4294967296 = 0 := by omega
  have h3 : IntKind.u64.wrap (n : Int) = (n : Int) := by rw [IntKind.wrap_u64]; omega
  have b1 : bits .and .u64 1 4294967295 = 1 := by decide
  have b0 : bits .and .u64 0 4294967295 = 0 := by decide
  have b2 : IntKind.u64.wrap 0 = 0 := by decide
  have b3 : (0 : Int) / 4294967296 = 0 := by decide
  go_enter Try.func70, Try.ntmps70
  go_wp2
  try simp only [b1, Int.one_mul, h3, h2, b0, b2, b3, Int.add_zero]
  go_ret2
  exact ⟨rfl, rfl⟩
set_option maxHeartbeats 1000000 in
theorem mul_one (w : World) (n : Nat) (h : n ≤ 4194304) :
    Calls Try.prog 61 #[.int .u64 1, .int .u64 (n : Int)] w fun e w' => e = .returned (.tuple #[.int .u64 0, .int .u64 (n : Int)]) ∧ w' = w := by
  have hm := mul64_one w n h
  go_enter Try.func61, Try.ntmps61
  go_wp2_with (go_at_call 70; refine hm.mono ?_; rintro e w' ⟨rfl, rfl⟩)
  go_ret2
  exact ⟨rfl, rfl⟩

/-- numbers as cells -/
def nC (L : List Int) : List Value := L.map (Value.int .i64)
/-- numbers in a row of one's own -/
def ND (w : World) (b n : Nat) (L : List Int) : Prop := L.length = n ∧ OwnSl w 2 1 (.slice (some ⟨b, 0, none⟩) n n) n (nC L)
theorem ND.turn {F : Nat → Prop} {w w' : World} {b n : Nat} {L : List Int} (h : ND w b n L) (ht : Turn F w w') (hn : ¬ F b) : ND w' b n L := ⟨h.1, h.2.turn ht (fun k hk => by simp [Value.ownBlock] at hk; subst hk; exact hn)⟩
theorem ND.obj {w : World} {b n : Nat} {L : List Int} (h : ND w b n L) : ∃ cur, w.heap[b]? = some (.cells cur 2 (0, 0)) := h.2.lt b rfl
theorem ND.at {w : World} {b n : Nat} {L : List Int} (h : ND w b n L) {i : Nat} {x : Int} (hx : L[i]? = some x) : w.cell? ⟨b, i, none⟩ = some (.int .i64 x) ∧ w.frozen? ⟨b, i, none⟩ = false := by
  have h1 := h.2.cells i (.int .i64 x) (by simp [nC, hx])
  obtain ⟨cur, hc⟩ := h.obj
  exact ⟨by simpa using h1, frozen_obj hc _⟩
theorem ND.put {w : World} {b n : Nat} {L : List Int} (h : ND w b n L) {i : Nat} (hi : i < n) (x : Int) : ND (w.setCell ⟨b, i, none⟩ (.int .i64 x)) b n (L.set i x) := by
  refine ⟨by rw [List.length_set]; exact h.1, ?_⟩
  have := (OwnSl.set h.2 i (by omega) (.int .i64 x)).1
  unfold nC
  rw [List.map_set]
  simpa [nC] using this
/-- some of it filled -/
def fillN (k n : Nat) : List Int := List.replicate k INF ++ List.replicate (n - k) 0
theorem info_i64 : (Try.prog.info? 2).map (fun i => (i.zero, i.size, i.bytes)) = some (some (.int .i64 0), 1, 8) := by kernel_rfl
theorem fill_splice {k n m : Nat} (h : k + m ≤ n) : splice (nC (fillN k n)) k (nC (List.replicate m INF)) = nC (fillN (k + m) n) := by
  unfold splice nC fillN
  simp only [List.map_append, List.map_replicate, List.length_replicate]
  rw [List.take_left' (by simp), List.drop_append, List.drop_replicate, List.drop_replicate, ← List.append_assoc, List.length_replicate, show k - (k + m) = 0 by omega, List.replicate_zero, List.nil_append, List.replicate_append_replicate, show n - k - (k + m - k) = n - (k + m) by omega]
theorem fill_at {k n j : Nat} (h : j < k) : (nC (fillN k n))[j]? = some (.int .i64 INF) := by
  unfold nC fillN
  rw [List.getElem?_map, List.getElem?_append_left (by simpa using h), List.getElem?_replicate, if_pos h]; rfl
theorem fill_len {k n : Nat} (h : k ≤ n) : (nC (fillN k n)).length = n := by unfold nC fillN; simp; omega

theorem nC_one (L : List Int) : ∀ v ∈ nC L, v.oneCell' = true := by
  intro v hv
  unfold nC at hv
  obtain ⟨x, _, rfl⟩ := List.mem_map.1 hv
  rfl
/-- a row of n numbers of which the first k are filled -/
def KRow (w : World) (b k n : Nat) : Prop := ∃ M : List Value, w.heap[b]? = some (.cells M.toArray 2 (0, 0)) ∧ n ≤ M.length ∧ M.take n = nC (fillN k n)
theorem splice_take {α : Type} {M cs : List α} {k n : Nat} (h : k + cs.length ≤ n) (hn : n ≤ M.length) : (splice M k cs).take n = splice (M.take n) k cs := by
  unfold splice
  rw [List.take_append, List.take_append, List.take_take, List.take_take, Nat.min_eq_left (by omega : k ≤ n), Nat.min_eq_right (by omega : k ≤ n), List.length_take, Nat.min_eq_left (by omega : k ≤ M.length), List.take_of_length_le (by omega : cs.length ≤ n - k), List.drop_take, show n - k - cs.length = n - (k + cs.length) by omega]
theorem splice_len {α : Type} {M cs : List α} {k : Nat} (h : k + cs.length ≤ M.length) : (splice M k cs).length = M.length := by
  unfold splice; simp; omega
theorem KRow.more {w : World} {b k n m : Nat} {M : List Value} (h2 : n ≤ M.length) (h3 : M.take n = nC (fillN k n)) (hk : k + m ≤ n) (h : w.heap[b]? = some (.cells (splice M k (nC (List.replicate m INF))).toArray 2 (0, 0))) : KRow w b (k + m) n := by
  have hl : (nC (List.replicate m INF)).length = m := by simp [nC]
  refine ⟨_, h, by rw [splice_len (by rw [hl]; omega)]; exact h2, ?_⟩
  rw [splice_take (by rw [hl]; omega) h2, h3, fill_splice hk]
theorem below_turn {B : Nat} {w w' : World} (h : Below B w w') (F : Nat → Prop) (hF : ∀ j, B ≤ j → F j) : Turn F w w' := ⟨h.os, h.tape, h.output, h.size, fun k hk hn => h.block k (Decidable.byContradiction (fun hc => hn (hF k (by omega))))⟩
theorem KRow.cells {w : World} {b k n : Nat} {M : List Value} (h1 : w.heap[b]? = some (.cells M.toArray 2 (0, 0))) (h3 : M.take n = nC (fillN k n)) {m : Nat} (hm : m ≤ k) (hk : k ≤ n) : ∀ j v, (nC (List.replicate m INF))[j]? = some v → w.cell? (Addr.add ⟨b, 0, none⟩ j) = some v := by
  intro j v hj
  rw [Addr.add_lit, Nat.zero_add, cell_obj h1]
  unfold nC at hj
  rw [List.getElem?_map, List.getElem?_replicate] at hj
  by_cases hjm : j < m
  · rw [if_pos hjm] at hj
    have h4 : (M.take n)[j]? = some (.int .i64 INF) := by rw [h3]; exact fill_at (by omega)
    rw [List.getElem?_take, if_pos (by omega)] at h4
    simp at hj
    subst hj
    simpa using h4
  · rw [if_neg hjm] at hj; simp at hj

theorem repeat_prep {w w1 : World} {x n : Nat} (hx : w.heap[x]? = some (.cells #[.int .i64 INF] 2 (0, 0))) (hown : w1.ownsRow w.heap.size 2 1 (.slice (some ⟨w.heap.size, 0, none⟩) n n) n (madeCells (Value.int .i64 0).cells (n * 1)).toList) (hg : w.grownBy w1 none) :
    ∃ (M : List Value) (m0 : Nat), m0 = Nat.min 1 n ∧ w1.heap[w.heap.size]? = some (.cells M.toArray 2 (0, 0)) ∧ Hid (n ≤ M.length ∧ M.take n = nC (fillN 0 n)) ∧ Below w.heap.size w w1 ∧ (nC (List.replicate m0 INF)).length = Nat.min 1 n ∧ (0 < (nC (List.replicate m0 INF)).length → (some (⟨w.heap.size, 0, none⟩ : Addr) = some ⟨w.heap.size, 0, none⟩ ∧ ∃ ad, some (⟨x, 0, none⟩ : Addr) = some ad ∧ ∀ j v, (nC (List.replicate m0 INF))[j]? = some v → w1.cell? (ad.add j) = some v)) ∧ 0 + (nC (List.replicate m0 INF)).length ≤ M.length := by
  have hrow : (madeCells (Value.int .i64 0).cells (n * 1)).toList = nC (fillN 0 n) := by
    rw [Nat.mul_one, show (Value.int .i64 0).cells = #[Value.int .i64 0] from rfl, toList_madeCells_one]; simp [nC, fillN]
  rw [hrow] at hown
  have T1 : Turn (fun _ => False) w w1 := Turn.grown hg (fun k e => by cases e)
  have hx1 := T1.same hx (fun h => h)
  have hmn : Nat.min 1 n ≤ n := Nat.min_le_right _ _
  have hm1 : Nat.min 1 n ≤ 1 := Nat.min_le_left _ _
  have hl : (nC (List.replicate (Nat.min 1 n) INF)).length = Nat.min 1 n := by simp [nC]
  rcases hown.2 with ⟨hv, _⟩ | ⟨g, cap, cur, hv, _, hgc, h1, _, h3, h4⟩
  · simp at hv
  · simp only [Value.slice.injEq, Option.some.injEq, Addr.mk.injEq, and_true, true_and] at hv
    obtain ⟨rfl, rfl⟩ := hv
    refine ⟨cur.toList, _, rfl, by rw [hgc, Array.toArray_toList], hide ⟨by rw [Array.length_toList]; omega, by simpa using h4⟩, T1.below (fun _ h => h.elim) (Nat.le_refl _), hl, fun h => ⟨rfl, _, rfl, ?_⟩, by rw [hl, Array.length_toList]; omega⟩
    intro j v hj
    unfold nC at hj
    rw [List.getElem?_map, List.getElem?_replicate] at hj
    by_cases hjm : j < Nat.min 1 n
    · rw [if_pos hjm] at hj
      obtain rfl : j = 0 := by omega
      simp at hj
      subst hj
      rw [Addr.add_lit]
      exact cell_obj hx1 0
    · rw [if_neg hjm] at hj; simp at hj

set_option maxHeartbeats 4000000 in
theorem repeat_walk (w : World) (x : Nat) (n : Nat) (h : n ≤ 4194304) (hx : w.heap[x]? = some (.cells #[.int .i64 INF] 2 (0, 0))) :
    Calls Try.prog 51 #[.slice (some ⟨x, 0, none⟩) 1 1, .int .i64 (n : Int)] w fun e w' => ∃ b, e = .returned (.slice (some ⟨b, 0, none⟩) n n) ∧ w.heap.size ≤ b ∧ ND w' b n (List.replicate n INF) ∧ Turn (fun _ => False) w w' := by
  obtain ⟨i0, hi, hz0, hz1, hz2⟩ := info_parts info_i64
  have hs1 : (Try.prog.info? 2).map (·.size) = some 1 := by rw [hi]; simp [hz1]
  have hm := mul_one w n h
  have hw1 : IntKind.u64.wrap (n : Int) = (n : Int) := by rw [IntKind.wrap_u64]; omega
  have hw2 : IntKind.i64.wrap (n : Int) = (n : Int) := by rw [IntKind.wrap_i64]; omega
  go_enter Try.func51, Try.ntmps51
  go_wp2_with (first
    | (go_at_call 61; refine hm.mono ?_; rintro e w' ⟨rfl, hw'⟩; obtain rfl := hw'.symm)
    | (at_make; refine wpList_make_full _ rfl _ _ 31 rfl w.heap.size 2 i0 (.int .i64 0) 1 Try.underlying31 hi hz0 hz1 .i64 .i64 (n : Int) (n : Int) n rfl rfl rfl rfl (by rw [hz2]; omega) (by unfold maxLen; omega) (Nat.le_refl _) ?_; intro w1 hown1 hgrow1; obtain ⟨M, m0, hm0, hM1, HM, B1, hlen, hsrc, hfit⟩ := repeat_prep hx hown1 hgrow1)
    | (refine wpList_copy_splice rfl _ _ 31 31 rfl 2 Try.underlying31 hs1 (some ⟨w.heap.size, 0, none⟩) (some ⟨x, 0, none⟩) n n 1 1 rfl rfl w.heap.size 0 M 2 hM1 (nC (List.replicate m0 INF)) hlen hsrc hfit (nC_one _) w.heap.size w B1 (Nat.le_refl _) ?_; intro w2 hg2 hb2))
  obtain ⟨b, hb⟩ : ∃ b, b = w.heap.size := ⟨_, rfl⟩
  rw [← hb] at hM1 hg2 hb2 ⊢
  have Hb := hide hb
  have hmn : Nat.min 1 n ≤ n := Nat.min_le_right _ _
  have hmp : Hid (0 < n → Nat.min 1 n = 1) := hide (fun h => Nat.min_eq_left h)
  have hl0 : (nC (List.replicate (Nat.min 1 n) INF)).length = Nat.min 1 n := by simp [nC]
  have hK : KRow w2 b (Nat.min 1 n) n := by
    have := KRow.more (k := 0) (m := Nat.min 1 n) (unhide HM).1 (unhide HM).2 (by omega) (by rw [← hm0]; exact unhide hg2)
    rwa [Nat.zero_add] at this
  rw [hl0]
  generalize Nat.min 1 n = m0' at *
  clear hM1 hg2 HM B1 hlen hsrc hfit hown1 hgrow1 hb hm hw1 hx hm0 hl0
  go_loopw [8] (fun i wr => ∃ k : Nat, i = .int .i64 (k : Int) ∧ m0' ≤ k ∧ k ≤ n ∧ KRow wr b k n ∧ Below b w wr) (fun i _ => n - (intOf i).toNat)
  case atStart => exact ⟨m0', rfl, Nat.le_refl _, hmn, hK, hb2⟩
  case round =>
    obtain ⟨k, rfl, hmk, hkn, ⟨M', q1, q2, q3⟩, hbr⟩ := hrel
    by_cases hlt : k < n
    · have h1k : 1 ≤ k := by have := unhide hmp (by omega); omega
      obtain ⟨m, hme, hmle, hmpos⟩ : ∃ m, m = Nat.min k (n - k) ∧ (m ≤ k ∧ k + m ≤ n) ∧ 1 ≤ m := by
        rcases Nat.le_total k (n - k) with h | h
        · exact ⟨k, (Nat.min_eq_left h).symm, by omega, by omega⟩
        · exact ⟨n - k, (Nat.min_eq_right h).symm, by omega, by omega⟩
      have hlm : (nC (List.replicate m INF)).length = m := by simp [nC]
      have hln : (nC (List.replicate m INF)).length = Nat.min k (n - k) := by rw [hlm, hme]
      have hsrc := KRow.cells q1 q3 hmle.1 hkn
      have hsl1 : ∀ u : World, (Instr.slice 31 (.slice (some ⟨b, 0, none⟩) n n) (some (.int .i64 (k : Int))) none none).run Try.prog u = .ok (.slice (some ⟨b, k, none⟩) (n - k) (n - k)) u := by
        intro u
        simp [Instr.slice, run_underlying Try.underlying31, Instr.sliceBounds, Instr.sliceBound, asIntOf, sizeOf, typeInfo, hi, hz1, Result.andThen, Addr.add_lit, hlt, hkn]
        try omega
      have hsl2 : ∀ u : World, (Instr.slice 31 (.slice (some ⟨b, 0, none⟩) n n) none (some (.int .i64 (k : Int))) none).run Try.prog u = .ok (.slice (some ⟨b, 0, none⟩) k n) u := by
        intro u
        simp [Instr.slice, run_underlying Try.underlying31, Instr.sliceBounds, Instr.sliceBound, asIntOf, sizeOf, typeInfo, hi, hz1, Result.andThen, Addr.add_lit, hlt, hkn]
        try omega
      have Hk := hide (And.intro hmk (And.intro hmle (And.intro hmpos hlm)))
      have HQ := hide (And.intro q2 q3)
      have hfit : k + (nC (List.replicate m INF)).length ≤ M'.length := by rw [hlm]; omega
      clear q2 q3 hme hmle hlm
      go_wp2_with fail
      have q1d : wr.drew.heap[b]? = some (.cells M'.toArray 2 (0, 0)) := q1
      have hbd : Below b w wr.drew := ⟨hbr.os, hbr.tape, hbr.output, hbr.size, hbr.block⟩
      have hsd : ∀ j v, (nC (List.replicate m INF))[j]? = some v → wr.drew.cell? (Addr.add ⟨b, 0, none⟩ j) = some v := hsrc
      refine wp_region_T 9 (fun _ => True) (by kernel_rfl) trivial (fun hS => ?_)
      refine wpAnyT_take (i := 0) (v := ?_) rfl (by kernel_rfl) (by kernel_rfl) (by kernel_rfl) (by kernel_rfl) (fun _ _ _ h => h) (by rfl) ?_ hS ?_
      rotate_left
      · intro w _; go_simp; rfl
      simp only [Act.put, List.getElem_toArray, List.getElem_cons_zero, List.getElem_cons_succ, List.setIfInBounds_toArray, List.set_cons_zero, List.set_cons_succ]
      refine wpAnyT_take (i := 1) (v := ?_) rfl (by kernel_rfl) (by kernel_rfl) (by kernel_rfl) (by kernel_rfl) (fun _ _ _ h => h) (by rfl) ?_ hS ?_
      rotate_left
      · intro w _; go_simp; rfl
      simp only [Act.put, List.getElem_toArray, List.getElem_cons_zero, List.getElem_cons_succ, List.setIfInBounds_toArray, List.set_cons_zero, List.set_cons_succ]
      refine wpAnyT_take (i := 2) (v := ?_) rfl (by kernel_rfl) (by kernel_rfl) (by kernel_rfl) (by kernel_rfl) (fun _ _ _ h => h) (by rfl) ?_ hS ?_
      rotate_left
      · intro w _; go_simp; rfl
      simp only [Act.put, List.getElem_toArray, List.getElem_cons_zero, List.getElem_cons_succ, List.setIfInBounds_toArray, List.set_cons_zero, List.set_cons_succ]

      refine wpAnyT_take (i := 3) (v := ?_) rfl (by kernel_rfl) (by kernel_rfl) (by kernel_rfl) (by kernel_rfl) (fun _ _ _ h => h) (by rfl) ?_ hS ?_
      rotate_left
      · intro w _; go_simp; rfl
      simp only [Act.put, List.getElem_toArray, List.getElem_cons_zero, List.getElem_cons_succ, List.setIfInBounds_toArray, List.set_cons_zero, List.set_cons_succ]
      refine wpAnyT_take (i := 4) (v := ?_) rfl (by kernel_rfl) (by kernel_rfl) (by kernel_rfl) (by kernel_rfl) (fun _ _ _ h => h) (by rfl) ?_ hS ?_
      rotate_left
      · intro w _; go_simp; rfl
      simp only [Act.put, List.getElem_toArray, List.getElem_cons_zero, List.getElem_cons_succ, List.setIfInBounds_toArray, List.set_cons_zero, List.set_cons_succ]
      refine wpAnyT_take (i := 5) (v := ?_) rfl (by kernel_rfl) (by kernel_rfl) (by kernel_rfl) (by kernel_rfl) (fun _ _ _ h => h) (by rfl) ?_ hS ?_
      rotate_left
      · intro w _; go_simp; rfl
      simp only [Act.put, List.getElem_toArray, List.getElem_cons_zero, List.getElem_cons_succ, List.setIfInBounds_toArray, List.set_cons_zero, List.set_cons_succ]
      refine wpAnyT_take (i := 6) (v := ?_) rfl (by kernel_rfl) (by kernel_rfl) (by kernel_rfl) (by kernel_rfl) (fun _ _ _ h => h) (by rfl) ?_ hS ?_
      rotate_left
      · intro w _; go_simp; rfl
      simp only [Act.put, List.getElem_toArray, List.getElem_cons_zero, List.getElem_cons_succ, List.setIfInBounds_toArray, List.set_cons_zero, List.set_cons_succ]
      refine wpAnyT_one (i := 7) (by kernel_rfl) rfl (fun K' hK => ?_)
      refine step_copy_splice ?_ (.tmp 41) (.tmp 44) 31 31 ?_ 2 Try.underlying31 hs1 (some ⟨b, k, none⟩) (some ⟨b, 0, none⟩) (n - k) (n - k) k n ?_ ?_ b k M' 2 q1d (nC (List.replicate m INF)) hln (fun _ => ⟨rfl, _, rfl, hsd⟩) hfit (nC_one _) b w hbd (Nat.le_refl _) ?_
      · rfl
      · rfl
      · rfl
      · rfl
      intro w4 hg4 hb4
      rw [(unhide Hk).2.2.2] 
      refine hK _ _ (fun _ => trivial) ?_
      simp only [Act.put, List.getElem_toArray, List.getElem_cons_zero, List.getElem_cons_succ, List.setIfInBounds_toArray, List.set_cons_zero, List.set_cons_succ]
      clear hK K'
      refine wpAnyT_one (i := 8) (by kernel_rfl) rfl (fun K' hK => ?_)
      rw [if_pos (by rfl)]
      go_simp
      refine hK _ _ (fun _ => trivial) ?_
      try simp only [List.setIfInBounds_toArray, List.set_cons_zero, List.set_cons_succ]
      clear hK K'
      refine wpAnyT_one (i := 9) (by kernel_rfl) rfl (fun K' hK => ?_)
      rw [if_pos (by rfl)]
      go_simp
      refine hK _ _ (fun h => absurd rfl h) ?_
      clear hK K'
      refine wpAnyT_done (by kernel_rfl) ?_
      obtain ⟨e1, e2, e3, e4⟩ := unhide Hk
      have hK2 := KRow.more (unhide HQ).1 (unhide HQ).2 e2.2 (unhide hg4)
      have hwk : IntKind.i64.wrap ((k : Int) + (m : Int)) = ((k + m : Nat) : Int) := by rw [IntKind.wrap_i64]; omega
      clear hsl1 hsl2 hsd hsrc hbd q1d q1 hln hfit
      go_wp2_with fail
      exact ⟨⟨k + m, by go_num, by omega, e2.2, hK2, hb4⟩, by simp [intOf]; omega⟩
    · obtain rfl : k = n := by omega
      have hr : (M'.toArray.toList.drop 0).take (k * 1) = nC (List.replicate k INF) := by
        rw [Nat.mul_one, List.drop_zero, q3]; simp [fillN]
      have hND : ND wr b k (List.replicate k INF) := ⟨by simp, by simp [nC], .inr ⟨b, 0, k, M'.toArray, rfl, q1, Nat.le_refl _, by unfold maxLen; omega, by simp; omega, hr⟩⟩
      go_wp2
      go_ret
      exact ⟨b, rfl, by rw [unhide Hb]; exact Nat.le_refl _, hND, Turn.of_below (by rw [← unhide Hb]; exact hbr)⟩
end Go.Proofs.Ytombpfpfeebnpaa
