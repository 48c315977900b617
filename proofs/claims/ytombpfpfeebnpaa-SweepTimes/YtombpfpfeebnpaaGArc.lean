/- Slices of arcs in memory: read, cut, owned. -/
import Derived.Test.YtombpfpfeebnpaaPack2
import Derived.Test.YtombpfpfeebnpaaVCode
namespace Go.Proofs.Ytombpfpfeebnpaa
open Go.RowKit Go.Maps
set_option linter.unusedVariables false
set_option linter.unusedSimpArgs false

def arC (a : Ar) : List Value := [.int .i64 a.1, .int .i64 a.2.1, .int .i64 a.2.2]
def arCs (l : List Ar) : List Value := l.flatMap arC
def arV (a : Ar) : Value := .agg #[.int .i64 a.1, .int .i64 a.2.1, .int .i64 a.2.2]
theorem arCs_append (a b : List Ar) : arCs (a ++ b) = arCs a ++ arCs b := by simp [arCs]
theorem arCs_cons (a : Ar) (b : List Ar) : arCs (a :: b) = arC a ++ arCs b := by simp [arCs]
theorem arCs_one1 (a : Ar) : arCs [a] = arC a := by simp [arCs]
theorem arCs_len (l : List Ar) : (arCs l).length = l.length * 3 := by
  induction l with
  | nil => rfl
  | cons a r ih => rw [arCs_cons, List.length_append, ih]; simp [arC]; omega
theorem arCs_take (l : List Ar) (k : Nat) : (arCs l).take (k * 3) = arCs (l.take k) := by
  by_cases h : k ≤ l.length
  · conv => lhs; rw [← List.take_append_drop k l, arCs_append]
    rw [List.take_append_of_le_length (by rw [arCs_len, List.length_take]; omega), List.take_of_length_le (by rw [arCs_len, List.length_take]; omega)]
  · rw [List.take_of_length_le (by rw [arCs_len]; omega), List.take_of_length_le (by omega)]
theorem arCs_drop (l : List Ar) (k : Nat) : (arCs l).drop (k * 3) = arCs (l.drop k) := by
  by_cases h : k ≤ l.length
  · conv => lhs; rw [← List.take_append_drop k l, arCs_append]
    rw [List.drop_append_of_le_length (by rw [arCs_len, List.length_take]; omega), List.drop_of_length_le (by rw [arCs_len, List.length_take]; omega)]
    simp
  · rw [List.drop_of_length_le (by rw [arCs_len]; omega), List.drop_of_length_le (by omega)]; rfl
theorem arCs_at {l : List Ar} {i : Nat} {x : Ar} (h : l[i]? = some x) (j : Nat) (hj : j < 3) : (arCs l)[i * 3 + j]? = (arC x)[j]? := by
  obtain ⟨hi, rfl⟩ := List.getElem?_eq_some_iff.1 h
  have e : l = l.take i ++ l[i] :: l.drop (i + 1) := by simp
  have hl : (arCs (l.take i)).length = i * 3 := by rw [arCs_len, List.length_take]; omega
  conv => lhs; rw [e, arCs_append, arCs_cons]
  rw [List.getElem?_append_right (by omega), hl, Nat.add_sub_cancel_left, List.getElem?_append_left (by simpa [arC] using hj)]
theorem arCs_oneCell (l : List Ar) : ∀ u ∈ arCs l, u.oneCell' = true := by
  intro u hu
  simp only [arCs, List.mem_flatMap] at hu
  obtain ⟨a, _, hu⟩ := hu
  simp only [arC, List.mem_cons, List.not_mem_nil, or_false] at hu
  rcases hu with rfl | rfl | rfl <;> rfl
theorem arCs_set {l : List Ar} {i : Nat} (hi : i < l.length) (x : Ar) : ((((arCs l).set (i * 3) (.int .i64 x.1)).set (i * 3 + 1) (.int .i64 x.2.1)).set (i * 3 + 2) (.int .i64 x.2.2)) = arCs (l.set i x) := by
  have e : l = l.take i ++ l[i] :: l.drop (i + 1) := by simp
  have e2 : l.set i x = l.take i ++ x :: l.drop (i + 1) := by
    conv => lhs; rw [e]
    rw [List.set_append_right _ _ (by rw [List.length_take]; omega)]
    rw [show i - (l.take i).length = 0 by rw [List.length_take]; omega]; rfl
  have hl : (arCs (l.take i)).length = i * 3 := by rw [arCs_len, List.length_take]; omega
  rw [e2, arCs_append, arCs_cons]
  conv => lhs; rw [e, arCs_append, arCs_cons]
  rw [List.set_append_right _ _ (by omega), List.set_append_right _ _ (by omega), List.set_append_right _ _ (by omega), hl, Nat.sub_self, show i * 3 + 1 - i * 3 = 1 by omega, show i * 3 + 2 - i * 3 = 2 by omega]
  rfl

/-- a slice of arcs that may be read, in a block of B -/
def AR (B : Nat → Prop) (w : World) (v : Value) (l : List Ar) : Prop :=
  (∃ a c, v = .slice a 0 c ∧ (a = none → c = 0) ∧ c ≤ maxLen ∧ l = []) ∨ ∃ b off c, v = .slice (some ⟨b, off, none⟩) l.length c ∧ l.length ≤ c ∧ c ≤ maxLen ∧ B b ∧
    ∀ i x, l[i]? = some x → w.cell? ⟨b, off + i * 3, none⟩ = some (.int .i64 x.1) ∧ w.cell? ⟨b, off + i * 3 + 1, none⟩ = some (.int .i64 x.2.1) ∧ w.cell? ⟨b, off + i * 3 + 2, none⟩ = some (.int .i64 x.2.2)

theorem AR.slice {B : Nat → Prop} {w : World} {v : Value} {l : List Ar} (h : AR B w v l) : ∃ a c, v = .slice a l.length c := by
  rcases h with ⟨_, _, rfl, _, _, rfl⟩ | ⟨b, off, c, rfl, _⟩
  · exact ⟨_, _, rfl⟩
  · exact ⟨_, _, rfl⟩
theorem AR.len {B : Nat → Prop} {w : World} {v : Value} {l : List Ar} (h : AR B w v l) : l.length ≤ maxLen := by
  rcases h with ⟨_, _, rfl, _, _, rfl⟩ | ⟨b, off, c, rfl, h1, h2, _⟩
  · exact Nat.zero_le _
  · omega
theorem AR.mono {B B' : Nat → Prop} {w : World} {v : Value} {l : List Ar} (h : AR B w v l) (hb : ∀ b, B b → B' b) : AR B' w v l := by
  rcases h with h | ⟨b, off, c, rfl, h1, h2, h3, h4⟩
  · exact .inl h
  · exact .inr ⟨b, off, c, rfl, h1, h2, hb b h3, h4⟩
theorem AR.lt {B : Nat → Prop} {w : World} {v : Value} {l : List Ar} (h : AR B w v l) : AR (fun b => B b ∧ b < w.heap.size) w v l := by
  rcases h with h | ⟨b, off, c, rfl, h1, h2, h3, h4⟩
  · exact .inl h
  · by_cases h0 : l.length = 0
    · obtain rfl := List.eq_nil_of_length_eq_zero h0
      exact .inl ⟨_, _, rfl, (fun h => by cases h), h2, rfl⟩
    · exact .inr ⟨b, off, c, rfl, h1, h2, ⟨h3, World.block_lt_of_cell? _ _ (h4 0 l[0] (by simp)).1⟩, h4⟩
theorem AR.turn {B F : Nat → Prop} {w w' : World} {v : Value} {l : List Ar} (h : AR B w v l) (ht : Turn F w w') (hn : ∀ b, B b → ¬ F b) : AR B w' v l := by
  rcases h with h | ⟨b, off, c, rfl, h1, h2, h3, h4⟩
  · exact .inl h
  · exact .inr ⟨b, off, c, rfl, h1, h2, h3, fun i x hx => by
      obtain ⟨q0, q1, q2⟩ := h4 i x hx
      exact ⟨ht.cell q0 (hn b h3), ht.cell q1 (hn b h3), ht.cell q2 (hn b h3)⟩⟩
theorem AR.quiet {B : Nat → Prop} {w w' : World} {v : Value} {l : List Ar} (h : AR B w v l) (ht : Turn (fun _ => False) w w') : AR B w' v l := h.turn ht (fun _ _ h => h)
theorem AR.below {B : Nat → Prop} {w w' : World} {v : Value} {l : List Ar} (h : AR B w v l) (hb : Below w.heap.size w w') : AR B w' v l := h.quiet (Turn.of_below hb)
/-- where it lies -/
theorem AR.form {B : Nat → Prop} {w : World} {v : Value} {l : List Ar} (h : AR B w v l) (h0 : 0 < l.length) : ∃ b off c, v = .slice (some ⟨b, off, none⟩) l.length c ∧ B b ∧
    ∀ i x, l[i]? = some x → w.cell? ⟨b, off + i * 3, none⟩ = some (.int .i64 x.1) ∧ w.cell? ⟨b, off + i * 3 + 1, none⟩ = some (.int .i64 x.2.1) ∧ w.cell? ⟨b, off + i * 3 + 2, none⟩ = some (.int .i64 x.2.2) := by
  rcases h with ⟨_, _, rfl, _, _, rfl⟩ | ⟨b, off, c, rfl, h1, h2, h3, h4⟩
  · simp at h0
  · exact ⟨b, off, c, rfl, h3, h4⟩
theorem AR.src {B : Nat → Prop} {w : World} {v : Value} {l : List Ar} (h : AR B w v l) : Src 3 w v l.length (arCs l) := by
  refine ⟨arCs_len l, ?_⟩
  rcases h with ⟨a, c, rfl, ha, _, rfl⟩ | ⟨b, off, c, rfl, h1, h2, h3, h4⟩
  · exact .inl ⟨a, c, rfl, ha, rfl⟩
  · by_cases h0 : l.length = 0
    · exact .inl ⟨_, _, by rw [h0], (fun h => by cases h), h0⟩
    · refine .inr ⟨_, _, rfl, by omega, fun j u hu => ?_⟩
      have hjl : j < l.length * 3 := by
        have := (List.getElem?_eq_some_iff.1 hu).1
        rwa [arCs_len] at this
      obtain ⟨i, r, hr, rfl⟩ : ∃ i r, r < 3 ∧ j = i * 3 + r := ⟨j / 3, j % 3, Nat.mod_lt _ (by omega), by omega⟩
      have hi : i < l.length := by omega
      have hx : l[i]? = some l[i] := by simp [hi]
      rw [arCs_at hx r hr] at hu
      obtain ⟨q0, q1, q2⟩ := h4 i _ hx
      rw [Addr.add_lit]
      match r, hr, hu with
      | 0, _, hu => simp [arC] at hu; subst hu; exact q0
      | 1, _, hu => simp [arC] at hu; subst hu; rw [← Nat.add_assoc]; exact q1
      | 2, _, hu => simp [arC] at hu; subst hu; rw [← Nat.add_assoc]; exact q2
theorem ar_none (B : Nat → Prop) (w : World) : AR B w (.slice none 0 0) [] := .inl ⟨none, 0, rfl, fun _ => rfl, Nat.zero_le _, rfl⟩

/-- a slice of arcs that owns its row -/
def OA (w : World) (v : Value) (l : List Ar) : Prop := OwnSl w 46 3 v l.length (arCs l)
theorem OA.ar {w : World} {v : Value} {l : List Ar} (h : OA w v l) : AR (fun b => v.ownBlock = some b) w v l := by
  rcases h.2 with ⟨rfl, h0⟩ | ⟨g, off, cap, cur, rfl, hg, hn, hm, hs, ht⟩
  · have : l = [] := List.eq_nil_of_length_eq_zero h0
    exact .inl ⟨none, 0, rfl, fun _ => rfl, Nat.zero_le _, this⟩
  · refine .inr ⟨g, off, cap, rfl, hn, hm, rfl, fun i x hx => ?_⟩
    refine ⟨h.cells (i * 3) _ ?_, ?_, ?_⟩
    · have := arCs_at hx 0 (by omega); simpa [arC] using this
    · rw [Nat.add_assoc]; refine h.cells (i * 3 + 1) _ ?_; rw [arCs_at hx 1 (by omega)]; rfl
    · rw [Nat.add_assoc]; refine h.cells (i * 3 + 2) _ ?_; rw [arCs_at hx 2 (by omega)]; rfl
theorem oa_none (w : World) : OA w (.slice none 0 0) [] := ⟨rfl, .inl ⟨rfl, rfl⟩⟩
theorem OA.turn {F : Nat → Prop} {w w' : World} {v : Value} {l : List Ar} (h : OA w v l) (ht : Turn F w w') (hn : ∀ k, v.ownBlock = some k → ¬ F k) : OA w' v l := OwnSl.turn h ht hn
theorem OA.lt {w : World} {v : Value} {l : List Ar} (h : OA w v l) : ∀ k, v.ownBlock = some k → k < w.heap.size := by
  intro k hk
  obtain ⟨cur, hc⟩ := OwnSl.lt h k hk
  exact (Array.getElem?_eq_some_iff.1 hc).1
theorem OA.form {w : World} {v : Value} {l : List Ar} (h : OA w v l) : ∃ a c, v = .slice a l.length c := h.ar.slice
theorem info_arc : (Try.prog.info? 46).map (fun i => (i.zero, i.size, i.bytes)) = some (some (.agg #[.int .i64 0, .int .i64 0, .int .i64 0]), 3, 24) := by kernel_rfl

/-- a slice of arcs up to a place -/
theorem ar_to {B : Nat → Prop} {w : World} {x : Value} {l : List Ar} {ki : IntKind} (h : AR B w x l) (n : Nat) (hn : n ≤ l.length) :
    ∃ x', (∀ u : World, (Instr.slice 22 x none (some (.int ki (n : Int))) none).run Try.prog u = .ok x' u) ∧ AR B w x' (l.take n) := by
  obtain ⟨i0, hi, hz0, hz1, hz2⟩ := info_parts info_arc
  have ht := Try.underlying22
  rcases h with ⟨a, c, rfl, hnil, hc, rfl⟩ | ⟨b, off, c, rfl, h1, h2, h3, h4⟩
  · obtain rfl : n = 0 := by simpa using hn
    refine ⟨.slice a 0 c, fun u => ?_, .inl ⟨a, c, rfl, hnil, hc, by simp⟩⟩
    cases a with
    | none => obtain rfl := hnil rfl; simp [Instr.slice, run_underlying ht, Instr.sliceBounds, Instr.sliceBound, asIntOf, sizeOf, typeInfo, hi, Result.andThen]
    | some a =>
      by_cases hc0 : c = 0
      · subst hc0; simp [Instr.slice, run_underlying ht, Instr.sliceBounds, Instr.sliceBound, asIntOf, sizeOf, typeInfo, hi, Result.andThen]
      · simp [Instr.slice, run_underlying ht, Instr.sliceBounds, Instr.sliceBound, asIntOf, sizeOf, typeInfo, hi, Result.andThen, hc0, Addr.add]
  · have hle : n ≤ c := by omega
    refine ⟨.slice (some ⟨b, off, none⟩) n c, fun u => ?_, .inr ⟨b, off, c, by simp; omega, by simp; omega, h2, h3, fun j y hy => ?_⟩⟩
    · by_cases hc0 : c = 0
      · obtain rfl : n = 0 := by omega
        subst hc0
        simp [Instr.slice, run_underlying ht, Instr.sliceBounds, Instr.sliceBound, asIntOf, sizeOf, typeInfo, hi, Result.andThen, Addr.add]
      · simp [Instr.slice, run_underlying ht, Instr.sliceBounds, Instr.sliceBound, asIntOf, sizeOf, typeInfo, hi, Result.andThen, Addr.add, hle, hc0]
    · rw [List.getElem?_take] at hy
      split at hy
      · exact h4 j y hy
      · cases hy
/-- .. from a place up to another -/
theorem ar_mid {B : Nat → Prop} {w : World} {x : Value} {l : List Ar} {ki kj : IntKind} (h : AR B w x l) (m n : Nat) (hmn : m ≤ n) (hn : n ≤ l.length) :
    ∃ x', (∀ u : World, (Instr.slice 22 x (some (.int ki (m : Int))) (some (.int kj (n : Int))) none).run Try.prog u = .ok x' u) ∧ AR B w x' ((l.take n).drop m) := by
  obtain ⟨i0, hi, hz0, hz1, hz2⟩ := info_parts info_arc
  have ht := Try.underlying22
  rcases h with ⟨a, c, rfl, hnil, hc, rfl⟩ | ⟨b, off, c, rfl, h1, h2, h3, h4⟩
  · obtain ⟨rfl, rfl⟩ : m = 0 ∧ n = 0 := by simp at hn; omega
    refine ⟨.slice a 0 c, fun u => ?_, .inl ⟨a, c, rfl, hnil, hc, by simp⟩⟩
    cases a with
    | none => obtain rfl := hnil rfl; simp [Instr.slice, run_underlying ht, Instr.sliceBounds, Instr.sliceBound, asIntOf, sizeOf, typeInfo, hi, Result.andThen]
    | some a =>
      by_cases hc0 : c = 0
      · subst hc0; simp [Instr.slice, run_underlying ht, Instr.sliceBounds, Instr.sliceBound, asIntOf, sizeOf, typeInfo, hi, Result.andThen]
      · simp [Instr.slice, run_underlying ht, Instr.sliceBounds, Instr.sliceBound, asIntOf, sizeOf, typeInfo, hi, Result.andThen, Addr.add]
  · have hle : n ≤ c := by omega
    have hle2 : (m : Int) ≤ (n : Int) := by omega
    by_cases hc : c = m
    · subst hc
      obtain rfl : n = c := by omega
      have hd : (l.take n).drop n = [] := List.drop_of_length_le (by rw [List.length_take]; omega)
      rw [hd]
      refine ⟨.slice (some ⟨b, off, none⟩) 0 0, fun u => ?_, .inl ⟨_, _, rfl, (fun h => by cases h), Nat.zero_le _, rfl⟩⟩
      simp [Instr.slice, run_underlying ht, Instr.sliceBounds, Instr.sliceBound, asIntOf, sizeOf, typeInfo, hi, Result.andThen]
    · have hln : ((l.take n).drop m).length = n - m := by simp; omega
      refine ⟨.slice (some ⟨b, off + m * 3, none⟩) (n - m) (c - m), fun u => ?_, .inr ⟨b, off + m * 3, c - m, by rw [hln], by rw [hln]; omega, by omega, h3, fun j y hy => ?_⟩⟩
      · simp [Instr.slice, run_underlying ht, Instr.sliceBounds, Instr.sliceBound, asIntOf, sizeOf, typeInfo, hi, Result.andThen, hc, hz1, Addr.add_lit, hle, hle2, hmn]
      · rw [List.getElem?_drop, List.getElem?_take] at hy
        split at hy
        · have := h4 (m + j) y hy
          rw [show off + m * 3 + j * 3 = off + (m + j) * 3 by omega]
          exact this
        · cases hy
/-- .. from a place on -/
theorem ar_from {B : Nat → Prop} {w : World} {x : Value} {l : List Ar} {ki : IntKind} (h : AR B w x l) (m : Nat) (hm : m ≤ l.length) :
    ∃ x', (∀ u : World, (Instr.slice 22 x (some (.int ki (m : Int))) none none).run Try.prog u = .ok x' u) ∧ AR B w x' (l.drop m) := by
  obtain ⟨i0, hi, hz0, hz1, hz2⟩ := info_parts info_arc
  have ht := Try.underlying22
  rcases h with ⟨a, c, rfl, hnil, hc, rfl⟩ | ⟨b, off, c, rfl, h1, h2, h3, h4⟩
  · obtain rfl : m = 0 := by simp at hm; omega
    refine ⟨.slice a 0 c, fun u => ?_, .inl ⟨a, c, rfl, hnil, hc, by simp⟩⟩
    cases a with
    | none => obtain rfl := hnil rfl; simp [Instr.slice, run_underlying ht, Instr.sliceBounds, Instr.sliceBound, asIntOf, sizeOf, typeInfo, hi, Result.andThen]
    | some a =>
      by_cases hc0 : c = 0
      · subst hc0; simp [Instr.slice, run_underlying ht, Instr.sliceBounds, Instr.sliceBound, asIntOf, sizeOf, typeInfo, hi, Result.andThen]
      · simp [Instr.slice, run_underlying ht, Instr.sliceBounds, Instr.sliceBound, asIntOf, sizeOf, typeInfo, hi, Result.andThen, Addr.add, hc0]
  · have hle2 : (m : Int) ≤ (l.length : Int) := by omega
    by_cases hc : c = m
    · subst hc
      have hd : l.drop c = [] := List.drop_of_length_le (by omega)
      rw [hd]
      refine ⟨.slice (some ⟨b, off, none⟩) 0 0, fun u => ?_, .inl ⟨_, _, rfl, (fun h => by cases h), Nat.zero_le _, rfl⟩⟩
      have : l.length = c := by omega
      simp [Instr.slice, run_underlying ht, Instr.sliceBounds, Instr.sliceBound, asIntOf, sizeOf, typeInfo, hi, Result.andThen, this]
    · have hln : (l.drop m).length = l.length - m := by simp
      refine ⟨.slice (some ⟨b, off + m * 3, none⟩) (l.length - m) (c - m), fun u => ?_, .inr ⟨b, off + m * 3, c - m, by rw [hln], by rw [hln]; omega, by omega, h3, fun j y hy => ?_⟩⟩
      · simp [Instr.slice, run_underlying ht, Instr.sliceBounds, Instr.sliceBound, asIntOf, sizeOf, typeInfo, hi, Result.andThen, hc, hz1, Addr.add_lit, hle2, hm]
      · rw [List.getElem?_drop] at hy
        have := h4 (m + j) y hy
        rw [show off + m * 3 + j * 3 = off + (m + j) * 3 by omega]
        exact this

/-- append of arcs onto a slice of arcs of one's own -/
theorem append_arcs {w : World} {v x : Value} {l m : List Ar} (h : OA w v l) (hx : Src 3 w x m.length (arCs m)) (hm : l.length + m.length ≤ 5864062014800) :
    ∃ v' w', (Builtin.append_ #[22, 22] 22 #[v, x]).run Try.prog w = .ok v' w' ∧ OA w' v' (l ++ m) ∧ Turn (fun j => v.ownBlock = some j) w w' ∧ (∀ j, v'.ownBlock = some j → v.ownBlock = some j ∨ w.heap.size ≤ j) := by
  obtain ⟨i0, hi, hz0, hz1, hz2⟩ := info_parts info_arc
  obtain ⟨v', w', h1, h2, h3, h4⟩ := append_src (P := Try.prog) (ty := 22) Try.underlying22 hi hz0 hz1 hz2 rfl (by omega) h hx (arCs_oneCell m) (by unfold maxLen; omega) (by omega)
  exact ⟨v', w', h1, by unfold OA; rw [List.length_append, arCs_append]; exact h2, h3, h4⟩
/-- a literal slice of one arc -/
theorem src_one (w : World) (a : Ar) : Src 3 (w.alloc (.cells #[.int .i64 a.1, .int .i64 a.2.1, .int .i64 a.2.2] 46)) (.slice (some ⟨w.heap.size, 0, none⟩) 1 1) [a].length (arCs [a]) := by
  refine ⟨by rw [arCs_len], .inr ⟨_, _, rfl, by simp, fun j u hu => ?_⟩⟩
  rw [arCs_one1] at hu
  rw [Addr.add_lit, Nat.zero_add, cell_obj (heap_alloc_new w _) j]
  simpa [arC] using hu
end Go.Proofs.Ytombpfpfeebnpaa
