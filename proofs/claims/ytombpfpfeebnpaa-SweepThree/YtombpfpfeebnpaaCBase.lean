/- Small helpers that all walks over this program share: endings, worlds that turn at some blocks alone, rows of numbers, appending to a row of one's own, cutting a row. -/
import Derived.Test.YtombpfpfeebnpaaChecked
import Derived.Test.YtombpfpfeebnpaaCPure
import Derived.WalkKit
import Derived.WalkLawsBesides
import Derived.Deep.QuietTactic
import Derived.BigQuiet
namespace Go.Proofs.Ytombpfpfeebnpaa
open Go.RowKit
set_option linter.unusedVariables false
set_option linter.unusedSimpArgs false

theorem hide {p : Prop} (h : p) : Hid p := h
theorem unhide {p : Prop} (h : Hid p) : p := h
theorem ret_int {k : IntKind} {a b : Int} (h : a = b) : Ending.returned (.int k a) = .returned (.int k b) := by rw [h]
theorem ret_bool {a b : Bool} (h : a = b) : Ending.returned (.bool a) = .returned (.bool b) := by rw [h]

/-- whatever block is none of F is as it was -/
structure Turn (F : Nat → Prop) (w w' : World) : Prop where
  os : w'.os = w.os
  tape : w'.tape = w.tape
  output : w'.output = w.output
  size : w.heap.size ≤ w'.heap.size
  block : ∀ k, k < w.heap.size → ¬ F k → w'.heap[k]? = w.heap[k]?

theorem Turn.refl (F : Nat → Prop) (w : World) : Turn F w w := ⟨rfl, rfl, rfl, Nat.le_refl _, fun _ _ _ => rfl⟩
theorem Turn.trans {F G : Nat → Prop} {a b c : World} (h : Turn F a b) (k : Turn G b c) (hG : ∀ j, G j → F j ∨ a.heap.size ≤ j) : Turn F a c :=
  ⟨k.os.trans h.os, k.tape.trans h.tape, k.output.trans h.output, Nat.le_trans h.size k.size, fun i hi hn => (k.block i (Nat.lt_of_lt_of_le hi h.size) (fun hg => by rcases hG i hg with h' | h'; exact hn h'; omega)).trans (h.block i hi hn)⟩
theorem Turn.then {F : Nat → Prop} {a b c : World} (h : Turn F a b) (k : Turn F b c) : Turn F a c := h.trans k (fun _ => .inl)
theorem Turn.mono {F G : Nat → Prop} {w w' : World} (h : Turn F w w') (hG : ∀ j, F j → G j) : Turn G w w' := ⟨h.os, h.tape, h.output, h.size, fun k hk hn => h.block k hk (fun hf => hn (hG k hf))⟩
theorem Turn.grown {F : Nat → Prop} {w w' : World} {row : Option Nat} (hg : w.grownBy w' row) (hr : ∀ k, row = some k → F k) : Turn F w w' :=
  ⟨hg.os, hg.tape, hg.output, hg.size, fun k hk hn => hg.block k hk (fun e => hn (hr k e.symm))⟩
theorem Turn.alloc {F : Nat → Prop} {a w : World} (h : Turn F a w) (o : Obj) : Turn F a (w.alloc o) :=
  h.trans (G := fun _ => False) (Turn.grown (World.grownBy_alloc w o none) (fun k e => by cases e)) (fun _ hf => hf.elim)
theorem Turn.drew {F : Nat → Prop} {a w : World} (h : Turn F a w) : Turn F a w.drew := ⟨h.os, h.tape, h.output, h.size, h.block⟩
theorem Turn.drewN {F : Nat → Prop} {a w : World} (h : Turn F a w) (n : Nat) : Turn F a (w.drewN n) := by
  induction n with
  | zero => exact h
  | succ n ih => exact ih.drew
theorem Turn.setCell {F : Nat → Prop} {a w : World} (h : Turn F a w) {p : Addr} (hp : F p.block ∨ a.heap.size ≤ p.block) (u : Value) : Turn F a (w.setCell p u) :=
  h.trans (G := fun j => j = p.block) ⟨rfl, rfl, rfl, by simp [World.setCell], fun k hk hn => Below.heap_setCell _ _ _ _ hn⟩ (fun j hj => by subst hj; exact hp)
theorem Turn.below {F : Nat → Prop} {w w' : World} {B : Nat} (h : Turn F w w') (hF : ∀ k, F k → B ≤ k) (hB : B ≤ w.heap.size) : Below B w w' :=
  ⟨h.os, h.tape, h.output, h.size, fun k hk => h.block k (by omega) (fun hf => by have := hF k hf; omega)⟩
theorem Turn.of_below {F : Nat → Prop} {w w' : World} (h : Below w.heap.size w w') : Turn F w w' := ⟨h.os, h.tape, h.output, h.size, fun k hk _ => h.block k hk⟩
theorem Turn.cell {F : Nat → Prop} {w w' : World} (h : Turn F w w') {a : Addr} {v : Value} (hk : w.cell? a = some v) (hn : ¬ F a.block) : w'.cell? a = some v :=
  (World.cell?_of_block (w := w) (h.block a.block (World.block_lt_of_cell? _ _ hk) hn)).trans hk

theorem below_then {w w1 w2 : World} (h : Below w.heap.size w w1) (k : Below w1.heap.size w1 w2) : Below w.heap.size w w2 :=
  ⟨k.os.trans h.os, k.tape.trans h.tape, k.output.trans h.output, Nat.le_trans h.size k.size, fun i hi => (k.block i (Nat.lt_of_lt_of_le hi h.size)).trans (h.block i hi)⟩

/-- the cells from (b, off) on hold these numbers -/
def Cells (k : IntKind) (w : World) (b off : Nat) (zs : List Int) : Prop :=
  ∀ i, i < zs.length → w.cell? ⟨b, off + i, none⟩ = some (.int k (zs.getD i 0))

theorem Cells.turn {F : Nat → Prop} {k : IntKind} {w w' : World} {b off : Nat} {zs : List Int} (h : Cells k w b off zs) (ht : Turn F w w') (hb : ¬ F b) : Cells k w' b off zs :=
  fun i hi => ht.cell (h i hi) hb

/-- a slice value whose elements are these numbers: one without elements, or an address in a block of B with such cells -/
def Row (k : IntKind) (B : Nat → Prop) (w : World) (v : Value) (zs : List Int) : Prop :=
  (∃ a c, v = .slice a 0 c ∧ (a = none → c = 0) ∧ c ≤ maxLen ∧ zs = []) ∨ ∃ b off c, v = .slice (some ⟨b, off, none⟩) zs.length c ∧ zs.length ≤ c ∧ c ≤ maxLen ∧ B b ∧ Cells k w b off zs

def any : Nat → Prop := fun _ => True

theorem Row.slice {k : IntKind} {B : Nat → Prop} {w : World} {v : Value} {zs : List Int} (h : Row k B w v zs) : ∃ a c, v = .slice a zs.length c := by
  rcases h with ⟨_, _, rfl, _, _, rfl⟩ | ⟨b, off, c, rfl, _⟩
  · exact ⟨_, _, rfl⟩
  · exact ⟨_, _, rfl⟩
theorem Row.len {k : IntKind} {B : Nat → Prop} {w : World} {v : Value} {zs : List Int} (h : Row k B w v zs) : zs.length ≤ maxLen := by
  rcases h with ⟨_, _, rfl, _, _, rfl⟩ | ⟨b, off, c, rfl, h1, h2, _⟩
  · exact Nat.zero_le _
  · omega
theorem Row.mono {k : IntKind} {B B' : Nat → Prop} {w : World} {v : Value} {zs : List Int} (h : Row k B w v zs) (hb : ∀ b, B b → B' b) : Row k B' w v zs := by
  rcases h with h | ⟨b, off, c, rfl, h1, h2, h3, h4⟩
  · exact .inl h
  · exact .inr ⟨b, off, c, rfl, h1, h2, hb b h3, h4⟩
/-- .. where the row's block is told to be one of the world's -/
theorem Row.lt {k : IntKind} {B : Nat → Prop} {w : World} {v : Value} {zs : List Int} (h : Row k B w v zs) : Row k (fun b => B b ∧ b < w.heap.size) w v zs := by
  rcases h with h | ⟨b, off, c, rfl, h1, h2, h3, h4⟩
  · exact .inl h
  · by_cases h0 : zs.length = 0
    · obtain rfl := List.eq_nil_of_length_eq_zero h0
      exact .inl ⟨_, _, rfl, (fun h => by cases h), h2, rfl⟩
    · exact .inr ⟨b, off, c, rfl, h1, h2, ⟨h3, World.block_lt_of_cell? _ _ (h4 0 (by omega))⟩, h4⟩
theorem Row.turn {k : IntKind} {B F : Nat → Prop} {w w' : World} {v : Value} {zs : List Int} (h : Row k B w v zs) (ht : Turn F w w') (hn : ∀ b, B b → ¬ F b) : Row k B w' v zs := by
  rcases h with h | ⟨b, off, c, rfl, h1, h2, h3, h4⟩
  · exact .inl h
  · exact .inr ⟨b, off, c, rfl, h1, h2, h3, h4.turn ht (hn b h3)⟩
theorem Row.below {k : IntKind} {B : Nat → Prop} {w w' : World} {v : Value} {zs : List Int} (h : Row k B w v zs) (hb : Below w.heap.size w w') : Row k B w' v zs :=
  h.turn (F := fun _ => False) (Turn.of_below hb) (fun _ _ h => h)
theorem row_none (k : IntKind) (B : Nat → Prop) (w : World) : Row k B w (.slice none 0 0) [] := .inl ⟨none, 0, rfl, fun _ => rfl, Nat.zero_le _, rfl⟩

theorem own_base {w : World} {base : Nat} {e : TypeId} {size : Nat} {v : Value} {n : Nat} {xs : List Value} (h : w.ownsRow base e size v n xs) : ∀ g, v.ownBlock = some g → base ≤ g := by
  intro g hg
  rcases h.2 with ⟨rfl, _⟩ | ⟨g', cap, cur, rfl, hb, _⟩
  · simp [Value.ownBlock] at hg
  · simp [Value.ownBlock] at hg; omega
theorem row_of_owns {w : World} {base : Nat} {e : TypeId} {v : Value} {n : Nat} {k : IntKind} {ys : List Int} (h : w.ownsRow base e 1 v n (ys.map (Value.int k))) : Row k (fun b => base ≤ b) w v ys := by
  have hl : ys.length = n := by have := h.1; simpa using this
  rcases h.2 with ⟨rfl, h0⟩ | ⟨g, cap, cur, rfl, hb, hg, hn, hm, hs, ht⟩
  · have : ys = [] := List.eq_nil_of_length_eq_zero (by omega)
    exact .inl ⟨none, 0, rfl, fun _ => rfl, Nat.zero_le _, this⟩
  · subst hl
    refine .inr ⟨g, 0, cap, rfl, hn, hm, hb, fun i hi => ?_⟩
    have := h.cellAt i (by omega)
    rw [Nat.zero_add, this]
    simp [hi]

/-- a block whose cells may be written -/
def Free (w : World) (b : Nat) : Prop := ∃ cur T, w.heap[b]? = some (.cells cur T (0, 0))
theorem Free.turn {F : Nat → Prop} {w w' : World} {b : Nat} (h : Free w b) (ht : Turn F w w') (hb : ¬ F b) : Free w' b := by
  obtain ⟨cur, T, hc⟩ := h
  exact ⟨cur, T, (ht.block b (Array.getElem?_eq_some_iff.1 hc).1 hb).trans hc⟩
theorem row_of_owns_free {w : World} {base : Nat} {e : TypeId} {v : Value} {n : Nat} {k : IntKind} {ys : List Int} (h : w.ownsRow base e 1 v n (ys.map (Value.int k))) : Row k (fun b => base ≤ b ∧ Free w b) w v ys := by
  have hl : ys.length = n := by have := h.1; simpa using this
  rcases h.2 with ⟨rfl, h0⟩ | ⟨g, cap, cur, rfl, hb, hg, hn, hm, hs, ht⟩
  · have : ys = [] := List.eq_nil_of_length_eq_zero (by omega)
    exact .inl ⟨none, 0, rfl, fun _ => rfl, Nat.zero_le _, this⟩
  · subst hl
    refine .inr ⟨g, 0, cap, rfl, hn, hm, ⟨hb, cur, e, hg⟩, fun i hi => ?_⟩
    have := h.cellAt i (by omega)
    rw [Nat.zero_add, this]
    simp [hi]
/-- a row's block may go on as one that may be written -/
theorem Row.free {k : IntKind} {B F : Nat → Prop} {w w' : World} {v : Value} {zs : List Int} (h : Row k (fun b => B b ∧ Free w b) w v zs) (ht : Turn F w w') (hn : ∀ b, B b → ¬ F b) : Row k (fun b => B b ∧ Free w' b) w' v zs := by
  rcases h with h | ⟨b, off, c, rfl, h1, h2, h3, h4⟩
  · exact .inl h
  · exact .inr ⟨b, off, c, rfl, h1, h2, ⟨h3.1, h3.2.turn ht (hn b h3.1)⟩, h4.turn ht (hn b h3.1)⟩

theorem one_new (w : World) (T : TypeId) (x : Value) : ∀ (j : Nat) (u : Value), [x][j]? = some u → (w.alloc (.cells #[x] T)).cell? (Addr.add ⟨w.heap.size, 0, none⟩ j) = some u := by
  intro j u hu
  match j, hu with
  | 0, hu => simp at hu; subst hu; simp [Addr.add]
  | j + 1, hu => simp at hu

theorem getD_map {k : IntKind} {zs : List Int} {j : Nat} {u : Value} (hu : (zs.map (Value.int k))[j]? = some u) : j < zs.length ∧ u = .int k (zs.getD j 0) := by
  have hj : j < zs.length := by have := (List.getElem?_eq_some_iff.1 hu).1; simpa using this
  refine ⟨hj, ?_⟩
  rw [List.getElem?_map] at hu
  simp [hj] at hu
  subst hu
  simp [hj]

theorem below_grown {w w1 : World} {base : Nat} {row : Option Nat} (hg : w.grownBy w1 row) (hb : base ≤ w.heap.size) (hr : ∀ k, row = some k → base ≤ k) : Below base w w1 := (Below.refl _ _).grown hg hb hr

/-- append of a row onto a row of one's own -/
theorem append_row {P : Program} {w : World} {base : Nat} {t ty e : TypeId} {i : TypeInfo} {z : Value} {k : IntKind} {bytes : Nat} {B : Nat → Prop} (ht : P.underlying t = some (.slice e)) (hi : P.info? e = some i) (hz : i.zero = some z) (hsize : i.size = 1) (hby : i.bytes = bytes) (hzs : z.cells.size = 1)
    {v x : Value} {xs zs : List Int} (hown : w.ownsRow base e 1 v xs.length (xs.map (Value.int k))) (hx : Row k B w x zs) (hm : xs.length + zs.length ≤ maxLen) (hb : (xs.length + zs.length) * bytes ≤ 140737488355328) (hbase : base ≤ w.heap.size) :
    ∃ v' w', (Builtin.append_ #[t, t] ty #[v, x]).run P w = .ok v' w' ∧ w'.ownsRow base e 1 v' (xs ++ zs).length ((xs ++ zs).map (Value.int k)) ∧ Below base w w' := by
  have key : ∀ (a : Addr) (c : Nat), (∀ j u, (zs.map (Value.int k))[j]? = some u → w.cell? (a.add j) = some u) → ∃ v' w', (Builtin.append_ #[t, t] ty #[v, .slice (some a) zs.length c]).run P w = .ok v' w' ∧ w'.ownsRow base e 1 v' (xs ++ zs).length ((xs ++ zs).map (Value.int k)) ∧ Below base w w' := by
    intro a c hc
    obtain ⟨v', w', hr, r1, r2, _⟩ := run_append_own (P := P) w base t ty e i z 1 bytes ht hi hz hsize hby hzs (by omega) v xs.length (xs.map (Value.int k)) hown a zs.length c (zs.map (Value.int k)) (by simp) hc (ints_oneCell _ _) hm hb hbase
    exact ⟨v', w', hr, by rw [List.length_append, List.map_append]; exact r1, below_grown r2 hbase (own_base hown)⟩
  rcases hx with ⟨a, c, rfl, hn, _, rfl⟩ | ⟨b, off, c, rfl, h1, h2, h3, h4⟩
  · cases a with
    | none =>
      obtain rfl := hn rfl
      exact ⟨v, w, run_append_owned_none (P := P) w base t ty e i 1 ht hi v _ _ hown, by simpa using hown, Below.refl _ _⟩
    | some a => exact key a c (fun j u hu => by simp at hu)
  · refine key _ c (fun j u hu => ?_)
    obtain ⟨hj, rfl⟩ := getD_map hu
    rw [Addr.add_lit]
    exact h4 j hj

/-- append, of which the run is known, in a list of operations -/
theorem list_append_run {P : Program} {ops : Array Oper} {rest : List Oper} {o : Oper} {a : Act} {w : World} {Q : Exit → Act → World → Prop}
    (hg : o.guard = none) (s x : Operand) (t : TypeId) (hop : o.op = Op.call { callee := Callee.builtin Builtin.append, args := #[s, x], argTypes := #[t, t] }) (v xv v' : Value) (w' : World) (hs : a.eval s = v) (hx : a.eval x = xv)
    (hrun : (Builtin.append_ #[t, t] o.type #[v, xv]).run P w = .ok v' w') (hK : wpList P ops Q rest (a.put o.dst v') w') : wpList P ops Q (o :: rest) a w := by
  refine wpList_plain hg fun K' hK' => ?_
  unfold Oper.wp
  simp [execOp, hop, resolve, invoke, builtin, hs, hx, hrun, Result.andThen]
  exact hK' _ _ hK

/-- a row from a place on -/
theorem cut_from {P : Program} {w : World} {t e : TypeId} {i : TypeInfo} {k ki : IntKind} {B : Nat → Prop} {x : Value} {zs : List Int} (ht : P.underlying t = some (.slice e)) (hi : P.info? e = some i) (hs : i.size = 1) (h : Row k B w x zs) (n : Nat) (hn : n ≤ zs.length) :
    ∃ x', (∀ u : World, (Instr.slice t x (some (.int ki (n : Int))) none none).run P u = .ok x' u) ∧ Row k B w x' (zs.drop n) := by
  rcases h with ⟨a, c, rfl, hnil, hc, rfl⟩ | ⟨b, off, c, rfl, h1, h2, h3, h4⟩
  · obtain rfl : n = 0 := by simpa using hn
    refine ⟨.slice a 0 c, fun u => ?_, .inl ⟨a, c, rfl, hnil, hc, by simp⟩⟩
    cases a with
    | none => obtain rfl := hnil rfl; simp [Instr.slice, run_underlying ht, Instr.sliceBounds, Instr.sliceBound, asIntOf, sizeOf, typeInfo, hi, Result.andThen]
    | some a =>
      by_cases hc0 : c = 0
      · subst hc0; simp [Instr.slice, run_underlying ht, Instr.sliceBounds, Instr.sliceBound, asIntOf, sizeOf, typeInfo, hi, Result.andThen]
      · simp [Instr.slice, run_underlying ht, Instr.sliceBounds, Instr.sliceBound, asIntOf, sizeOf, typeInfo, hi, Result.andThen, hc0, Addr.add]
  · have hle : (n : Int) ≤ (zs.length : Int) := by omega
    by_cases hc : c = n
    · subst hc
      have hz : zs.drop c = [] := List.drop_of_length_le (by omega)
      rw [hz]
      refine ⟨.slice (some ⟨b, off, none⟩) 0 0, fun u => ?_, .inl ⟨_, _, rfl, (fun h => by cases h), Nat.zero_le _, rfl⟩⟩
      have : zs.length = c := by omega
      simp [Instr.slice, run_underlying ht, Instr.sliceBounds, Instr.sliceBound, asIntOf, sizeOf, typeInfo, hi, Result.andThen, this]
    · refine ⟨.slice (some ⟨b, off + n, none⟩) (zs.length - n) (c - n), fun u => ?_, .inr ⟨b, off + n, c - n, by simp, by simp; omega, by omega, h3, fun j hj => ?_⟩⟩
      · simp [Instr.slice, run_underlying ht, Instr.sliceBounds, Instr.sliceBound, asIntOf, sizeOf, typeInfo, hi, Result.andThen, hc, hs, Addr.add_lit, hle, hn]
      · simp at hj
        rw [Nat.add_assoc, h4 (n + j) (by omega)]
        simp [List.getD_eq_getElem?_getD]

/-- a row up to a place -/
theorem cut_to {P : Program} {w : World} {t e : TypeId} {i : TypeInfo} {k ki : IntKind} {B : Nat → Prop} {x : Value} {zs : List Int} (ht : P.underlying t = some (.slice e)) (hi : P.info? e = some i) (hs : i.size = 1) (h : Row k B w x zs) (n : Nat) (hn : n ≤ zs.length) :
    ∃ x', (∀ u : World, (Instr.slice t x none (some (.int ki (n : Int))) none).run P u = .ok x' u) ∧ Row k B w x' (zs.take n) := by
  rcases h with ⟨a, c, rfl, hnil, hc, rfl⟩ | ⟨b, off, c, rfl, h1, h2, h3, h4⟩
  · obtain rfl : n = 0 := by simpa using hn
    refine ⟨.slice a 0 c, fun u => ?_, .inl ⟨a, c, rfl, hnil, hc, by simp⟩⟩
    cases a with
    | none => obtain rfl := hnil rfl; simp [Instr.slice, run_underlying ht, Instr.sliceBounds, Instr.sliceBound, asIntOf, sizeOf, typeInfo, hi, Result.andThen]
    | some a =>
      by_cases hc0 : c = 0
      · subst hc0; simp [Instr.slice, run_underlying ht, Instr.sliceBounds, Instr.sliceBound, asIntOf, sizeOf, typeInfo, hi, Result.andThen]
      · simp [Instr.slice, run_underlying ht, Instr.sliceBounds, Instr.sliceBound, asIntOf, sizeOf, typeInfo, hi, Result.andThen, hc0, Addr.add]
  · have hle : n ≤ c := by omega
    refine ⟨.slice (some ⟨b, off, none⟩) n c, fun u => ?_, .inr ⟨b, off, c, by simp; omega, by simp; omega, h2, h3, fun j hj => ?_⟩⟩
    · simp [Instr.slice, run_underlying ht, Instr.sliceBounds, Instr.sliceBound, asIntOf, sizeOf, typeInfo, hi, Result.andThen, Addr.add, hle]
    · simp at hj
      rw [h4 j (by omega)]
      simp [List.getD_eq_getElem?_getD, List.getElem?_take, show j < n by omega]

/-- a row from a place up to another -/
theorem cut_mid {P : Program} {w : World} {t e : TypeId} {i : TypeInfo} {k : IntKind} {B : Nat → Prop} {x : Value} {zs : List Int} (ht : P.underlying t = some (.slice e)) (hi : P.info? e = some i) (hs : i.size = 1) (h : Row k B w x zs) (m n : Nat) (hn : m + n ≤ zs.length) :
    ∃ x', (∀ u : World, (Instr.slice t x (some (.int .i64 (m : Int))) (some (.int .i64 ((m + n : Nat) : Int))) none).run P u = .ok x' u) ∧ Row k B w x' ((zs.drop m).take n) := by
  rcases h with ⟨a, c, rfl, hnil, hc, rfl⟩ | ⟨b, off, c, rfl, h1, h2, h3, h4⟩
  · obtain ⟨rfl, rfl⟩ : m = 0 ∧ n = 0 := by simp at hn; omega
    refine ⟨.slice a 0 c, fun u => ?_, .inl ⟨a, c, rfl, hnil, hc, by simp⟩⟩
    cases a with
    | none => obtain rfl := hnil rfl; simp [Instr.slice, run_underlying ht, Instr.sliceBounds, Instr.sliceBound, asIntOf, sizeOf, typeInfo, hi, Result.andThen]
    | some a =>
      by_cases hc0 : c = 0
      · subst hc0; simp [Instr.slice, run_underlying ht, Instr.sliceBounds, Instr.sliceBound, asIntOf, sizeOf, typeInfo, hi, Result.andThen]
      · simp [Instr.slice, run_underlying ht, Instr.sliceBounds, Instr.sliceBound, asIntOf, sizeOf, typeInfo, hi, Result.andThen, Addr.add]
  · have hle : m + n ≤ c := by omega
    have hle2 : (m : Int) + n ≤ (c : Int) := by omega
    have hle3 : m ≤ m + n := by omega
    by_cases hc : c = m
    · subst hc
      obtain rfl : n = 0 := by omega
      rw [List.take_zero]
      refine ⟨.slice (some ⟨b, off, none⟩) 0 0, fun u => ?_, .inl ⟨_, _, rfl, (fun h => by cases h), Nat.zero_le _, rfl⟩⟩
      simp [Instr.slice, run_underlying ht, Instr.sliceBounds, Instr.sliceBound, asIntOf, sizeOf, typeInfo, hi, Result.andThen]
    · have hln : ((zs.drop m).take n).length = n := by simp; omega
      refine ⟨.slice (some ⟨b, off + m, none⟩) n (c - m), fun u => ?_, .inr ⟨b, off + m, c - m, by rw [hln], by rw [hln]; omega, by omega, h3, fun j hj => ?_⟩⟩
      · have hsub : m + n - m = n := by omega
        have h0 : (0 : Int) ≤ (m : Int) + n := by omega
        have hto : ((m : Int) + n).toNat = m + n := by omega
        simp [Instr.slice, run_underlying ht, Instr.sliceBounds, Instr.sliceBound, asIntOf, sizeOf, typeInfo, hi, Result.andThen, hc, hs, Addr.add_lit, hle2, hsub, h0, hto]
      · rw [hln] at hj
        rw [Nat.add_assoc, h4 (m + j) (by omega)]
        simp [List.getD_eq_getElem?_getD, List.getElem?_take, hj]

theorem getD_byte {zs : List Int} (h : Bytes zs) {j : Nat} (hj : j < zs.length) : 0 ≤ zs.getD j 0 ∧ zs.getD j 0 < 256 := h _ (by simp [hj])
theorem drop_cons (zs : List Int) (k : Nat) (h : k < zs.length) : zs.drop k = zs.getD k 0 :: zs.drop (k + 1) := by
  rw [List.drop_eq_getElem_cons h]; simp [h]
theorem Bytes.drop {zs : List Int} (h : Bytes zs) (n : Nat) : Bytes (zs.drop n) := fun x hx => h x (List.mem_of_mem_drop hx)
theorem Bytes.take {zs : List Int} (h : Bytes zs) (n : Nat) : Bytes (zs.take n) := fun x hx => h x (List.mem_of_mem_take hx)
theorem Bytes.append {xs zs : List Int} (h : Bytes xs) (h' : Bytes zs) : Bytes (xs ++ zs) := fun x hx => (List.mem_append.1 hx).elim (h x) (h' x)

theorem info_u8 : (Try.prog.info? 5).map (fun i => (i.zero, i.size, i.bytes)) = some (some (.int .u8 0), 1, 1) := by kernel_rfl
end Go.Proofs.Ytombpfpfeebnpaa
