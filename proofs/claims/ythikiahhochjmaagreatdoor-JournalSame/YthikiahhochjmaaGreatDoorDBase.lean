/- Slices that own their rows; the map of a disk told by a list of its entries; a disk in memory. -/
import Derived.Test.YthikiahhochjmaaGreatDoorPack2
import Derived.Maps.OwnSet
import Derived.Maps.RangeWalk
import Derived.Maps.OwnOps
import Derived.ArgAppend
import Derived.Sort.KeysCollected
import Derived.Sort.OwnSorted
namespace Go.Proofs.YthikiahhochjmaaGreatDoor
open Go.RowKit Go.Maps
set_option linter.unusedVariables false

theorem Turn.map {F : Nat → Prop} {H : Type} {w w' : World} {P : Program} {k : TypeId} {R : Value → Option (DataW H × List MemPlace)} {b n : Nat} {D : DataW H} (h : Turn F w w') (ho : w.ownsMap P k R b n D) (hn : ¬ F b) : w'.ownsMap P k R b n D := by
  obtain ⟨es, clock, hb, F', hs, hD⟩ := ho
  exact ⟨es, clock, h.same hb hn, F', hs, hD⟩
theorem Turn.ranges {F : Nat → Prop} {H : Type} {w w' : World} {P : Program} {k : TypeId} {R : Value → Option (DataW H × List MemPlace)} {b r n cnt : Nat} {D : DataW H} {left : Lit → Bool} (h : Turn F w w') (ho : w.ranges P k R b r n D left cnt) (hb : ¬ F b) (hr : ¬ F r) : w'.ranges P k R b r n D left cnt := by
  obtain ⟨es, clock, since, seen, c0, h1, F', h2, h3, h4, rest⟩ := ho
  exact ⟨es, clock, since, seen, c0, h.same h1 hb, F', h2, h3, h.same h4 hr, rest⟩

/-- one entry of a disk's map: its name, the slice of its bytes, these, and how many are safe -/
structure Ent where
  n : Nm
  v : Value
  d : List Int
  s : Nat
def Ent.fl (e : Ent) : Fl := ⟨e.n, e.d, e.s⟩
def Ent.val (e : Ent) : Value := .agg #[e.v, .int .i64 (e.s : Int)]
def Ent.en (e : Ent) : Lit × DataW Value := (.string e.n, .held e.val)
/-- each value is told by itself -/
def rawR (v : Value) : Option (DataW Value × List MemPlace) := some (.held v, [])
def DD (E : List Ent) : DataW Value := .map (E.map Ent.en)

theorem DD_isMap (E : List Ent) : IsMap (DD E) := ⟨_, rfl⟩
theorem DD_size (E : List Ent) : Maps.size (DD E) = E.length := by simp [DD, Maps.size]
theorem DD_del (E : List Ent) (n : Nm) : (DD E).del (.string n) = DD (delK Ent.n n E) := by
  simp only [DD, DataW.del, delK, List.filter_map]
  congr 1
theorem ins_en (e : Ent) : ∀ E : List Ent, DataW.insert e.en (E.map Ent.en) = (insK Ent.n e E).map Ent.en
  | [] => rfl
  | y :: r => by
    simp only [List.map_cons, DataW.insert, insK]
    show (if bytesBefore e.n y.n then _ else _) = _
    rw [ins_en e r]
    split <;> rfl
theorem DD_put (E : List Ent) (e : Ent) : (DD E).put (.string e.n) (.held e.val) = DD (putK Ent.n e E) := by
  have h := DD_del E e.n
  simp only [DD, DataW.del, DataW.map.injEq] at h
  simp only [DD, DataW.put]
  rw [h]
  exact congrArg _ (ins_en e _)
theorem find_en (n : Nm) : ∀ E : List Ent, (E.map Ent.en).find? (fun p => p.1.sameKey (.string n)) = (getK Ent.n n E).map Ent.en := by
  intro E
  unfold getK
  rw [List.find?_map]
  congr 1
theorem DD_at (E : List Ent) (n : Nm) (z : DataW Value) : (DD E).atKey (.string n) z = match getK Ent.n n E with | some e => .held e.val | none => z := by
  simp only [DD, DataW.atKey, find_en]
  cases getK Ent.n n E <;> rfl
theorem DD_has (E : List Ent) (n : Nm) : Maps.has (DD E) (.string n) = (getK Ent.n n E).isSome := by
  show (E.map Ent.en).any (fun p => p.1.sameKey (.string n)) = _
  have h := find_en n E
  cases hg : getK Ent.n n E with
  | some e =>
    rw [hg] at h
    have h1 := List.find?_some h
    have h2 := List.mem_of_find?_eq_some h
    exact List.any_eq_true.2 ⟨_, h2, h1⟩
  | none =>
    rw [hg] at h
    have h1 := List.find?_eq_none.1 h
    rw [Option.isSome_none, List.any_eq_false]
    exact h1
theorem strKeys_DD (E : List Ent) : strKeys (DD E) = E.map Ent.n := by
  simp [DD, strKeys, Ent.en, strOf, Function.comp_def]

theorem ownsMap_tight {H : Type} {w : World} {P : Program} {k : TypeId} {R : Value → Option (DataW H × List MemPlace)} {b n : Nat} {D : DataW H} (h : w.ownsMap P k R b n D) : w.ownsMap P k R b (Maps.size D) D := by
  obtain ⟨es, clock, hb, F, hs, rfl⟩ := h
  exact ⟨es, clock, hb, F, by simp [Maps.size, length_sorted], rfl⟩

/-- a disk in memory: at block B, its map, its entries -/
structure DMem (w : World) (B : Nat) (mv : Option Nat) (E : List Ent) (S : Dk) : Prop where
  obj : w.heap[B]? = some (.cells #[.int .i64 (S.size : Int), .map mv, .bool S.down, .int .u64 (S.arm : Int)] 66 (0, 0))
  map : (mv = none ∧ E = []) ∨ ∃ b, mv = some b ∧ w.ownsMap Tryz.prog 9 rawR b E.length (DD E)
  own : ∀ e ∈ E, OwnSl w 5 1 e.v e.d.length (e.d.map (Value.int .u8))
  apart : E.Pairwise (fun x y => ∀ j, x.v.ownBlock = some j → y.v.ownBlock ≠ some j)
  fs : S.fs = E.map Ent.fl
  well : Well S
def DFoot (B : Nat) (mv : Option Nat) (E : List Ent) (j : Nat) : Prop := j = B ∨ mv = some j ∨ ∃ e ∈ E, e.v.ownBlock = some j
/-- a disk whose blocks are some of F -/
def DAt (w : World) (B : Nat) (F : Nat → Prop) (S : Dk) : Prop := ∃ mv E, DMem w B mv E S ∧ ∀ j, DFoot B mv E j → F j

theorem DMem.lt {w : World} {B : Nat} {mv : Option Nat} {E : List Ent} {S : Dk} (h : DMem w B mv E S) : ∀ j, DFoot B mv E j → j < w.heap.size := by
  rintro j (rfl | hj | ⟨e, he, hj⟩)
  · exact (Array.getElem?_eq_some_iff.1 h.obj).1
  · rcases h.map with ⟨h1, _⟩ | ⟨b, h1, h2⟩
    · rw [h1] at hj; cases hj
    · rw [h1] at hj; cases hj; exact h2.lt
  · obtain ⟨cur, hc⟩ := (h.own e he).lt j hj; exact (Array.getElem?_eq_some_iff.1 hc).1
theorem DMem.turn {F : Nat → Prop} {w w' : World} {B : Nat} {mv : Option Nat} {E : List Ent} {S : Dk} (h : DMem w B mv E S) (t : Turn F w w') (hF : ∀ j, DFoot B mv E j → ¬ F j) : DMem w' B mv E S :=
  ⟨t.same h.obj (hF B (.inl rfl)), by
    rcases h.map with h1 | ⟨b, h1, h2⟩
    · exact .inl h1
    · exact .inr ⟨b, h1, t.map h2 (hF b (.inr (.inl h1)))⟩,
    fun e he => (h.own e he).turn t (fun j hj => hF j (.inr (.inr ⟨e, he, hj⟩))), h.apart, h.fs, h.well⟩
theorem DAt.turn {F G : Nat → Prop} {w w' : World} {B : Nat} {S : Dk} (h : DAt w B F S) (t : Turn G w w') (hF : ∀ j, F j → j < w.heap.size → ¬ G j) : DAt w' B F S := by
  obtain ⟨mv, E, m, f⟩ := h
  exact ⟨mv, E, m.turn t (fun j hj => hF j (f j hj) (m.lt j hj)), f⟩
theorem DAt.mono {F G : Nat → Prop} {w : World} {B : Nat} {S : Dk} (h : DAt w B F S) (hF : ∀ j, F j → j < w.heap.size → G j) : DAt w B G S := by
  obtain ⟨mv, E, m, f⟩ := h
  exact ⟨mv, E, m, fun j hj => hF j (f j hj) (m.lt j hj)⟩
theorem DAt.well {F : Nat → Prop} {w : World} {B : Nat} {S : Dk} (h : DAt w B F S) : Well S := by obtain ⟨mv, E, m, f⟩ := h; exact m.well
theorem DAt.lt {F : Nat → Prop} {w : World} {B : Nat} {S : Dk} (h : DAt w B F S) : F B ∧ B < w.heap.size := by obtain ⟨mv, E, m, f⟩ := h; exact ⟨f B (.inl rfl), m.lt B (.inl rfl)⟩

theorem DMem.neB {w : World} {B : Nat} {mv : Option Nat} {E : List Ent} {S : Dk} (h : DMem w B mv E S) : mv ≠ some B := by
  rintro e
  rcases h.map with ⟨h1, _⟩ | ⟨b, h1, es, cl, hb, _⟩
  · rw [h1] at e; cases e
  · rw [h1] at e; cases e; rw [h.obj] at hb; cases hb
theorem OwnSl.neMap {H : Type} {w : World} {e : TypeId} {s : Nat} {v : Value} {n : Nat} {xs : List Value} {P : Program} {kt : TypeId} {R : Value → Option (DataW H × List MemPlace)} {b m : Nat} {D : DataW H}
    (h : OwnSl w e s v n xs) (ho : w.ownsMap P kt R b m D) : ∀ j, v.ownBlock = some j → j ≠ b := by
  rintro j hj rfl
  obtain ⟨cur, hcur⟩ := h.lt j hj
  obtain ⟨es, cl, hb, _⟩ := ho; rw [hcur] at hb; cases hb

theorem dLaw : Keyed Tryz.prog 9 := string_keyed Tryz.underlying9
theorem dKey {s : ByteArray} (h : s.size ≤ maxLen) : keyOf Tryz.prog 9 (.string s) = some (.string s.data.toList) := WideMaps.keyOf_string_mk Tryz.underlying9 h
theorem dZero (w : World) : (zeroValue 84).run Tryz.prog w = .ok (.agg #[.slice none 0 0, .int .i64 0]) w := by kernel_rfl
theorem rawR_eq (v : Value) : rawR v = some (.held v, []) := rfl
theorem rawR_inv {v : Value} {D : DataW Value} {ps : List MemPlace} (h : rawR v = some (D, ps)) : D = .held v := by simp [rawR] at h; exact h.1.symm
end Go.Proofs.YthikiahhochjmaaGreatDoor
