/- The law's truth in memory; told. -/
import Derived.Test.YthikiahhochjmaaGreatDoorJSame
import Derived.Test.YthikiahhochjmaaGreatDoorPack7
namespace Go.Proofs.YthikiahhochjmaaGreatDoor
open Go.RowKit Go.Maps Go.Sort
set_option linter.unusedVariables false
set_option linter.unusedSimpArgs false

/-- a row's first elements, as the row's own -/
theorem own_to {P : Program} {w : World} {t e : TypeId} {i : TypeInfo} {ki : IntKind} {s : Nat} (ht : P.underlying t = some (.slice e)) (hi : P.info? e = some i) (hs : i.size = s) {v : Value} {n : Nat} {xs : List Value} (h : OwnSl w e s v n xs) (k : Nat) (hk : k ≤ n) :
    ∃ x, (∀ u : World, (Instr.slice t v none (some (.int ki (k : Int))) none).run P u = .ok x u) ∧ OwnSl w e s x k (xs.take (k * s)) ∧ (∀ j, x.ownBlock = some j → v.ownBlock = some j) := by
  have hl : (xs.take (k * s)).length = k * s := by rw [List.length_take, h.1]; exact Nat.min_eq_left (Nat.mul_le_mul_right _ hk)
  have h' := h
  rcases h.2 with ⟨rfl, rfl⟩ | ⟨g, off, cap, cur, rfl, hg, hnc, hcm, hfit, htk⟩
  · obtain rfl : k = 0 := by omega
    refine ⟨.slice none 0 0, fun u => ?_, ⟨hl, .inl ⟨rfl, rfl⟩⟩, fun j hj => hj⟩
    simp [Instr.slice, run_underlying ht, Instr.sliceBounds, Instr.sliceBound, asIntOf, sizeOf, typeInfo, hi, Result.andThen]
  · have hle : k ≤ cap := by omega
    refine ⟨.slice (some ⟨g, off, none⟩) k cap, fun u => ?_, ⟨hl, .inr ⟨g, off, cap, cur, rfl, hg, hle, hcm, hfit, ?_⟩⟩, fun j hj => hj⟩
    · by_cases hc0 : cap = 0
      · obtain rfl : k = 0 := by omega
        subst hc0
        simp [Instr.slice, run_underlying ht, Instr.sliceBounds, Instr.sliceBound, asIntOf, sizeOf, typeInfo, hi, Result.andThen, Addr.add]
      · simp [Instr.slice, run_underlying ht, Instr.sliceBounds, Instr.sliceBound, asIntOf, sizeOf, typeInfo, hi, Result.andThen, Addr.add, hle, hc0]
    · rw [← htk, List.take_take, Nat.min_eq_left (Nat.mul_le_mul_right _ hk)]

/-- the list of all records that were appended, in blocks of M -/
def AllM (w : World) (M : Nat → Prop) (v : Value) (zss : List (List Int)) : Prop :=
  ∃ us : List Value, OwnSl w 33 1 v us.length us ∧ (∀ j, v.ownBlock = some j → M j) ∧ us.length = zss.length ∧ ∀ (i : Nat) (u : Value) (z : List Int), us[i]? = some u → zss[i]? = some z → Row .u8 (fun b => any b ∧ M b ∧ v.ownBlock ≠ some b) w u z
theorem AllM.turn {F M : Nat → Prop} {w w' : World} {v : Value} {zss : List (List Int)} (h : AllM w M v zss) (T : Turn F w w') (hF : ∀ j, M j → ¬ F j) : AllM w' M v zss := by
  obtain ⟨us, a, b, c, d⟩ := h
  exact ⟨us, a.turn T (fun j hj => hF j (b j hj)), b, c, fun i u z hu hz => (d i u z hu hz).turn T (fun j hj => hF j hj.2.1)⟩
theorem AllM.mono {M M' : Nat → Prop} {w : World} {v : Value} {zss : List (List Int)} (h : AllM w M v zss) (hM : ∀ j, M j → M' j) : AllM w M' v zss := by
  obtain ⟨us, a, b, c, d⟩ := h
  exact ⟨us, a, fun j hj => hM j (b j hj), c, fun i u z hu hz => (d i u z hu hz).mono (fun j hj => ⟨hj.1, hM j hj.2.1, hj.2.2⟩)⟩
theorem allM_none (w : World) (M : Nat → Prop) : AllM w M (.slice none 0 0) [] := ⟨[], ⟨rfl, .inl ⟨rfl, rfl⟩⟩, fun j hj => by simp [Value.ownBlock] at hj, rfl, fun i u z hu => by simp at hu⟩
/-- read as a list of the law's own -/
theorem AllM.my {M : Nat → Prop} {w : World} {v : Value} {zss : List (List Int)} (h : AllM w M v zss) (hM : ∀ j, M j → j < w.heap.size) : MyL w w.heap.size v zss := by
  obtain ⟨us, a, b, c, d⟩ := h
  exact ⟨us, a, c, fun i u z hu hz => (d i u z hu hz).mono (fun j hj => ⟨hj.1, hM j hj.2.1⟩)⟩
/-- its first ones -/
theorem AllM.upto {M : Nat → Prop} {w : World} {v : Value} {zss : List (List Int)} (h : AllM w M v zss) (n : Nat) (hn : n ≤ zss.length) :
    ∃ x, (∀ u : World, (Instr.slice 29 v none (some (.int .i64 (n : Int))) none).run Tryz.prog u = .ok x u) ∧ AllM w M x (zss.take n) ∧ ∀ j, x.ownBlock = some j → v.ownBlock = some j := by
  obtain ⟨i0, hi, hz0, hz1, hz2⟩ := info_parts info_sl
  obtain ⟨us, a, b, c, d⟩ := h
  obtain ⟨x, hx, o, ob⟩ := own_to (P := Tryz.prog) (ki := .i64) Tryz.underlying29 hi hz1 a n (by omega)
  rw [Nat.mul_one] at o
  have hl : (us.take n).length = n := by rw [List.length_take]; omega
  refine ⟨x, hx, ⟨us.take n, by rw [hl]; exact o, fun j hj => b j (ob j hj), by rw [hl, List.length_take]; omega, fun i u z hu hz => ?_⟩, ob⟩
  rw [List.getElem?_take] at hu hz
  split at hu
  · rename_i hin
    rw [if_pos hin] at hz
    exact (d i u z hu hz).mono (fun j hj => ⟨hj.1, hj.2.1, fun e => hj.2.2 (ob j e)⟩)
  · cases hu
/-- one more behind -/
theorem AllM.push {M : Nat → Prop} {w : World} {v x : Value} {zss : List (List Int)} {z : List Int} (h : AllM w M v zss) (hM : ∀ j, M j → j < w.heap.size) (hx : Row .u8 (fun b => any b ∧ M b ∧ v.ownBlock ≠ some b) w x z) (hm : zss.length ≤ 1000000) :
    ∃ v' w2, (Builtin.append_ #[29, 29] 29 #[v, .slice (some ⟨w.heap.size, 0, none⟩) 1 1]).run Tryz.prog (w.alloc (.cells #[x] 33)) = .ok v' w2 ∧ AllM w2 (fun j => M j ∨ (w.heap.size ≤ j ∧ j < w2.heap.size)) v' (zss ++ [z]) ∧ Turn (fun j => v.ownBlock = some j) w w2 := by
  obtain ⟨i0, hi, hz0, hz1, hz2⟩ := info_parts info_sl
  obtain ⟨us, h1, h0, h2, h3⟩ := h
  have TA : Turn (fun _ => False) w (w.alloc (.cells #[x] 33)) := (Turn.refl _ w).alloc _
  have hs : Src 1 (w.alloc (.cells #[x] 33)) (.slice (some ⟨w.heap.size, 0, none⟩) 1 1) 1 [x] := ⟨rfl, .inr ⟨_, _, rfl, by omega, one_new w 33 x⟩⟩
  obtain ⟨ax, cx, hxv⟩ := hx.slice
  obtain ⟨v', w2, r1, r2, r3, r4⟩ := append_src (P := Tryz.prog) (ty := 29) Tryz.underlying29 hi hz0 hz1 hz2 rfl (by omega) (h1.turn TA (fun _ _ h => h)) hs (fun u hu => by simp at hu; subst hu; rw [hxv]; rfl) (by unfold maxLen; omega) (by omega)
  have sA := TA.size
  have T2 : Turn (fun j => v.ownBlock = some j) w w2 := (TA.mono (fun _ h => h.elim)).then r3
  have hlt : ∀ j, v'.ownBlock = some j → j < w2.heap.size := fun j hj => by
    obtain ⟨cur, hc⟩ := r2.lt j hj
    exact (Array.getElem?_eq_some_iff.1 hc).1
  have hne : ∀ b, M b → v.ownBlock ≠ some b → v'.ownBlock ≠ some b := fun b hb hv e => by
    rcases r4 b e with h | h
    · exact hv h
    · have := hM b hb; omega
  have keep : ∀ (u : Value) (y : List Int), Row .u8 (fun b => any b ∧ M b ∧ v.ownBlock ≠ some b) w u y → Row .u8 (fun b => any b ∧ (M b ∨ (w.heap.size ≤ b ∧ b < w2.heap.size)) ∧ v'.ownBlock ≠ some b) w2 u y := fun u y hu =>
    (hu.turn T2 (fun j hj hh => hj.2.2 hh)).mono (fun j hj => ⟨hj.1, .inl hj.2.1, hne j hj.2.1 hj.2.2⟩)
  refine ⟨v', w2, r1, ⟨us ++ [x], by simpa using r2, fun j hj => ?_, by simp [h2], fun i u y hu hy => ?_⟩, T2⟩
  · rcases r4 j hj with h | h
    · exact .inl (h0 j h)
    · exact .inr ⟨by omega, hlt j hj⟩
  · by_cases hlt : i < us.length
    · rw [List.getElem?_append_left hlt] at hu
      rw [List.getElem?_append_left (by omega)] at hy
      exact keep u y (h3 i u y hu hy)
    · rw [List.getElem?_append_right (by omega)] at hu
      rw [List.getElem?_append_right (by omega)] at hy
      have hi0 : i - us.length = 0 := by
        rcases Nat.eq_zero_or_pos (i - us.length) with h | h
        · exact h
        · rw [List.getElem?_eq_none (by simp; omega)] at hu; cases hu
      rw [hi0] at hu
      rw [show i - zss.length = 0 by omega] at hy
      simp at hu hy
      subst hu hy
      exact keep _ _ hx

/-- the law's truth in memory: at block T, over the journal at J and the disk at D (in blocks of H), its list in blocks of M -/
structure Tr (w : World) (T D J : Nat) (H M : Nat → Prop) (av : Value) (X : Jn) (S : Dk) (A : List (List Int)) (most first might safe : Nat) (more dn fell : Bool) : Prop where
  obj : w.heap[T]? = some (.cells #[.pointer (some ⟨D, 0, none⟩), .pointer (some ⟨J, 0, none⟩), .int .i64 (most : Int), av, .int .u64 (first : Int), .int .u64 (might : Int), .int .i64 (safe : Int), .bool more, .bool dn, .bool fell] 32 (0, 0))
  j : JAt w H J D X S
  all : AllM w M av A
  nH : ¬ H T
  nM : ¬ M T
  apart : ∀ j, H j → ¬ M j
  hH : ∀ j, H j → j < w.heap.size
  hM : ∀ j, M j → j < w.heap.size
  bytes : ∀ z ∈ A, Bytes z
theorem Tr.calm {w w' : World} {T D J : Nat} {H M : Nat → Prop} {av : Value} {X : Jn} {S : Dk} {A : List (List Int)} {most first might safe : Nat} {more dn fell : Bool} (h : Tr w T D J H M av X S A most first might safe more dn fell) (t : Turn (fun _ => False) w w') : Tr w' T D J H M av X S A most first might safe more dn fell := by
  have s := t.size
  exact ⟨t.same h.obj id, h.j.same t, h.all.turn t (fun _ _ => id), h.nH, h.nM, h.apart, fun j hj => by have := h.hH j hj; omega, fun j hj => by have := h.hM j hj; omega, h.bytes⟩

set_option maxRecDepth 100000 in
set_option maxHeartbeats 4000000 in
theorem told_walk (w : World) (T D J : Nat) (H M : Nat → Prop) (av : Value) (X : Jn) (S : Dk) (A : List (List Int)) (most first might safe : Nat) (more fell : Bool) (h : Tr w T D J H M av X S A most first might safe more false fell) (fit : Fit X)
    (hA : A.length ≤ 1000) (hn : nextOf X.segs = A.length) (hf : firstOf X.segs = first) (hfl : first ≤ A.length) (hr : recsOf X.segs = A.drop first) (hs : ∀ z ∈ A, z.length ≤ 300) :
    Calls Tryz.prog 12 #[.pointer (some ⟨T, 0, none⟩)] w fun e w' => e = .returned (.bool true) ∧ Turn (fun _ => False) w w' := by
  have c1 := cell_obj h.obj 1
  have c8 := cell_obj h.obj 8
  simp at c1 c8
  have hlen : ∀ s ∈ X.segs, ∀ b ∈ s.recs, b.length ≤ 1099511627776 := fun s hs' b hb => by
    have hb : b ∈ recsOf X.segs := List.mem_flatMap.2 ⟨s, hs', hb⟩
    rw [hr] at hb
    have := hs b (List.mem_of_mem_drop hb)
    omega
  have hR := records_j w H J D X S h.j fit hlen
  rw [hr] at hR
  go_enter Tryz.func12, Tryz.ntmps12
  go_wp2_with fail
  refine hR.mono ?_
  rintro e W ⟨x, rfl, hL, t⟩
  have hW := h.calm t
  have hby := bargs_of_lists hL (fun z hz => h.bytes z (List.mem_of_mem_drop hz)) (by rw [List.length_drop]; unfold maxLen; omega)
  obtain ⟨xd, hxd, hbd⟩ := (hW.all.my hW.hM).from_ first hfl hW.bytes (by unfold maxLen; omega)
  have a1 : ∀ p : After W, p.w.cell? ⟨T, 1, none⟩ = some (.pointer (some ⟨J, 0, none⟩)) := fun p => (Turn.of_below (F := fun _ => False) p.bel).cell (by rw [cell_obj hW.obj]; rfl) id
  have a3 : ∀ p : After W, p.w.cell? ⟨T, 3, none⟩ = some av := fun p => (Turn.of_below (F := fun _ => False) p.bel).cell (by rw [cell_obj hW.obj]; rfl) id
  have a4 : ∀ p : After W, p.w.cell? ⟨T, 4, none⟩ = some (.int .u64 (first : Int)) := fun p => (Turn.of_below (F := fun _ => False) p.bel).cell (by rw [cell_obj hW.obj]; rfl) id
  have aF : ∀ p : After W, Calls Tryz.prog 19 #[.pointer (some ⟨J, 0, none⟩)] p.w fun e w' => e = .returned (.int .u64 (first : Int)) ∧ Below p.w.heap.size p.w w' := fun p => by
    have := first_jat p.w H J D X S (hW.j.same (Turn.of_below (F := fun _ => False) p.bel))
    rw [hf] at this
    exact this.mono (fun e w' ⟨he, hw⟩ => ⟨he, by rw [hw]; exact Below.refl _ _⟩)
  have aN : ∀ p : After W, Calls Tryz.prog 25 #[.pointer (some ⟨J, 0, none⟩)] p.w fun e w' => e = .returned (.int .u64 (A.length : Int)) ∧ Below p.w.heap.size p.w w' := fun p => by
    have := next_jat p.w H J D X S (hW.j.same (Turn.of_below (F := fun _ => False) p.bel)) fit
    rw [hn] at this
    exact this.mono (fun e w' ⟨he, hw⟩ => ⟨he, hw.bel⟩)
  have aS : ∀ p : After W, Calls Tryz.prog 28 #[x, xd, .func (.func 29) #[] #[]] p.w fun e w' => e = .returned (.bool true) ∧ Below p.w.heap.size p.w w' := fun p =>
    (same_lists x xd (A.drop first) p.w (hby.turn (Turn.of_below (F := fun _ => False) p.bel)) (hbd.turn (Turn.of_below (F := fun _ => False) p.bel))).mono (fun e w' ⟨he, hw⟩ => ⟨he, hw.bel⟩)
  obtain ⟨aa, ac, hav⟩ := (hW.all.my hW.hM).slice
  subst hav
  have hu : IntKind.u64.wrap (A.length : Int) = (A.length : Int) := by rw [IntKind.wrap_u64]; omega
  clear hR hby hbd hL hW h hlen hr hs
  generalize A.length = n at *
  have hne := after_ne W
  go_wp2_with fail
  refine wp_region_after (by kernel_rfl) (by kernel_rfl) ?_
  repeat (go_big_quiet_step (first | (go_at_call 19; exact after_of _ (aF _)) | (go_at_call 25; exact after_of _ (aN _)) | (go_at_call 28; exact after_of _ (aS _))))
  refine wpQuiet_nil ?_
  rintro _ ⟨q, rfl⟩
  have tq := t.then (Turn.of_below (F := fun _ => False) q.bel)
  go_wp2
  go_ret
  exact ⟨rfl, tq⟩
end Go.Proofs.YthikiahhochjmaaGreatDoor
