/- Slots in memory, beside their disk; a file's name; what a slot's bytes carry. -/
import Derived.Test.YtodnnblnchjeiaaVHold
import Derived.Test.YtodnnblnchjeiaaVCode
import Derived.Test.YtodnnblnchjeiaaDAwake
import Derived.Test.YtodnnblnchjeiaaFTake
import Derived.Test.YtodnnblnchjeiaaFPack
import Derived.Laws.ResultCell
namespace Go.Proofs.Ytodnnblnchjeiaa
open Go.RowKit Go.Maps
set_option linter.unusedVariables false
set_option linter.unusedSimpArgs false

/-- slots in memory: at block X, over the disk at block D -/
structure SlMem (w : World) (G : Nat → Prop) (X D : Nat) (v : Value) (x : Sl) : Prop where
  obj : w.heap[X]? = some (.cells #[.pointer (some ⟨D, 0, none⟩), .int .u64 (x.n : Int), v, .bool x.down] 56 (0, 0))
  home : G X
  own : OwnSl w 5 1 v x.d.length (x.d.map (Value.int .u8))
  blk : ∀ j, v.ownBlock = some j → G j
theorem SlMem.turn {F G : Nat → Prop} {w w' : World} {X D : Nat} {v : Value} {x : Sl} (h : SlMem w G X D v x) (T : Turn F w w') (hF : ∀ j, G j → ¬ F j) : SlMem w' G X D v x :=
  ⟨T.same h.obj (hF X h.home), h.home, h.own.turn T (fun j hj => hF j (h.blk j hj)), h.blk⟩
theorem SlMem.mono {G G' : Nat → Prop} {w : World} {X D : Nat} {v : Value} {x : Sl} (h : SlMem w G X D v x) (hG : ∀ j, G j → j < w.heap.size → G' j) : SlMem w G' X D v x :=
  ⟨h.obj, hG X h.home (Array.getElem?_eq_some_iff.1 h.obj).1, h.own, fun j hj => hG j (h.blk j hj) (by obtain ⟨cur, hc⟩ := h.own.lt j hj; exact (Array.getElem?_eq_some_iff.1 hc).1)⟩
/-- slots and their disk, in blocks of H -/
def VAt (w : World) (H : Nat → Prop) (X D : Nat) (x : Sl) (S : Dk) : Prop :=
  ∃ F G v, DAt w D F S ∧ SlMem w G X D v x ∧ (∀ j, F j → ¬ G j) ∧ (∀ j, F j → H j ∧ j < w.heap.size) ∧ (∀ j, G j → H j ∧ j < w.heap.size)
theorem VAt.turn {A H : Nat → Prop} {w w' : World} {X D : Nat} {x : Sl} {S : Dk} (h : VAt w H X D x S) (T : Turn A w w') (hA : ∀ j, H j → ¬ A j) : VAt w' H X D x S := by
  obtain ⟨F, G, v, d, m, hn, hF, hG⟩ := h
  have hs := T.size
  exact ⟨F, G, v, d.turn T (fun j hj _ => hA j (hF j hj).1), m.turn T (fun j hj => hA j (hG j hj).1), hn, fun j hj => ⟨(hF j hj).1, by have := (hF j hj).2; omega⟩, fun j hj => ⟨(hG j hj).1, by have := (hG j hj).2; omega⟩⟩
theorem VAt.same {H : Nat → Prop} {w w' : World} {X D : Nat} {x : Sl} {S : Dk} (h : VAt w H X D x S) (T : Turn (fun _ => False) w w') : VAt w' H X D x S := h.turn T (fun _ _ h => h)
theorem VAt.mono {H H' : Nat → Prop} {w : World} {X D : Nat} {x : Sl} {S : Dk} (h : VAt w H X D x S) (hH : ∀ j, H j → j < w.heap.size → H' j) : VAt w H' X D x S := by
  obtain ⟨F, G, v, d, m, hn, hF, hG⟩ := h
  exact ⟨F, G, v, d, m, hn, fun j hj => ⟨hH j (hF j hj).1 (hF j hj).2, (hF j hj).2⟩, fun j hj => ⟨hH j (hG j hj).1 (hG j hj).2, (hG j hj).2⟩⟩
theorem VAt.nf {H : Nat → Prop} {w w1 w2 : World} {X D : Nat} {x : Sl} {S : Dk} (h : VAt w2 (NF w1 (NF w H)) X D x S) (hs : w.heap.size ≤ w1.heap.size) : VAt w2 (NF w H) X D x S :=
  h.mono (fun j hj _ => by rcases hj with hj | hj; exact hj; exact .inr (by omega))
theorem VAt.well {H : Nat → Prop} {w : World} {X D : Nat} {x : Sl} {S : Dk} (h : VAt w H X D x S) : Well S := by
  obtain ⟨F, G, v, d, m, _⟩ := h; exact d.well
theorem VAt.ptr {w : World} {H : Nat → Prop} {X D : Nat} {x : Sl} {S : Dk} (h : VAt w H X D x S) : w.cell? ⟨X, 0, none⟩ = some (.pointer (some ⟨D, 0, none⟩)) ∧ w.cell? ⟨X, 1, none⟩ = some (.int .u64 (x.n : Int)) ∧ w.cell? ⟨X, 3, none⟩ = some (.bool x.down) := by
  obtain ⟨F, G, v, d, m, _⟩ := h
  exact ⟨cell_obj m.obj 0, cell_obj m.obj 1, cell_obj m.obj 3⟩
/-- in blocks that were there -/
theorem VAt.tight {w w1 : World} {H : Nat → Prop} {X D : Nat} {x : Sl} {S : Dk} (h : VAt w H X D x S) (T : Turn (fun _ => False) w w1) : VAt w1 (fun j => H j ∧ j < w.heap.size) X D x S :=
  (h.mono (fun j hj hl => ⟨hj, hl⟩)).turn T (fun _ _ h => h)
/-- the disk alone -/
theorem VAt.disk {w : World} {H : Nat → Prop} {X D : Nat} {x : Sl} {S : Dk} (h : VAt w H X D x S) : ∃ F, DAt w D F S ∧ ∀ j, F j → H j := by
  obtain ⟨F, G, v, d, m, hn, hF, hG⟩ := h; exact ⟨F, d, fun j hj => (hF j hj).1⟩
/-- a disk's call done, beside slots -/
theorem disk_doneV {H F G : Nat → Prop} {w w' : World} {X D : Nat} {v : Value} {x : Sl} {S' : Dk} (T : Turn F w w') (d : DAt w' D (NF w F) S') (m : SlMem w G X D v x) (hn : ∀ j, F j → ¬ G j) (hF : ∀ j, F j → H j ∧ j < w.heap.size) (hG : ∀ j, G j → H j ∧ j < w.heap.size) :
    VAt w' (NF w H) X D x S' := by
  have hs := T.size
  refine ⟨fun j => NF w F j ∧ j < w'.heap.size, G, v, d.mono (fun j hj hl => ⟨hj, hl⟩), m.turn T (fun j hg hf => hn j hf hg), ?_, ?_, ?_⟩
  · rintro j ⟨hj | hj, _⟩ hg
    · exact hn j hj hg
    · have := (hG j hg).2; omega
  · rintro j ⟨hj | hj, hl⟩
    · exact ⟨.inl (hF j hj).1, hl⟩
    · exact ⟨.inr hj, hl⟩
  · intro j hj
    exact ⟨.inl (hG j hj).1, by have := (hG j hj).2; omega⟩
/-- any call of the disk, told over slots and disk -/
theorem VAt.call {w : World} {H : Nat → Prop} {X D : Nat} {x : Sl} {S S' : Dk} {fn : Nat} {args : Array Value} {c : Int} (h : VAt w H X D x S)
    (hc : ∀ F, DAt w D F S → Calls Try.prog fn args w fun e w' => e = .returned (.int .i64 c) ∧ Turn F w w' ∧ DAt w' D (NF w F) S') :
    Calls Try.prog fn args w fun e w' => e = .returned (.int .i64 c) ∧ Turn H w w' ∧ VAt w' (NF w H) X D x S' := by
  obtain ⟨F, G, v, d, m, hn, hF, hG⟩ := h
  refine (hc F d).mono ?_
  rintro e w' ⟨he, T, d'⟩
  exact ⟨he, T.mono (fun j hj => (hF j hj).1), disk_doneV T d' m hn hF hG⟩

/-- the name as a string -/
def nameVS (n : Nat) : ByteArray := ⟨(nmV n).toArray⟩
theorem nameVS_len (n : Nat) : (nameVS n).size ≤ maxLen := by unfold nameVS; rcases nmV_two n with h | h <;> rw [h] <;> decide
theorem nameVS_list (n : Nat) : (nameVS n).data.toList = nmV n := rfl
set_option maxRecDepth 100000 in
set_option maxHeartbeats 1000000 in
theorem nameV_w (n : Nat) (w : World) : Calls Try.prog 28 #[.int .u64 (n : Int)] w fun e w' => e = .returned (.string (nameVS n)) ∧ Turn (fun _ => False) w w' := by
  have tA : ∀ c : Int, Turn (fun _ => False) w (w.alloc (.cells #[.int .u8 115, .int .u8 c] 5)) := fun c => (Turn.refl _ w).alloc _
  have kc := fun c : Int => conv_row (row_marked w [115, c] 5 (0, 0) (by simp [maxLen]))
  by_cases h : n % 2 = 0
  · have hn : (n : Int) % 2 = 0 := by omega
    have en : nameVS n = ⟨#[115, 48]⟩ := by unfold nameVS nmV; rw [if_pos h]
    have k : (convert 32 9 (.slice (some ⟨w.heap.size, 0, none⟩) 2 2)).run Try.prog (w.alloc (.cells #[.int .u8 115, .int .u8 48] 5)) = .ok (.string (nameVS n)) (w.alloc (.cells #[.int .u8 115, .int .u8 48] 5)) := by
      rw [show nameVS n = strOfNums [115, 48] by rw [en]; rfl]; exact kc 48
    have t := tA 48
    clear kc tA en h
    go_enter Try.func28, Try.ntmps28
    go_wp2
    go_ret
    exact ⟨rfl, t⟩
  · have hn : (n : Int) % 2 = 1 := by omega
    have en : nameVS n = ⟨#[115, 49]⟩ := by unfold nameVS nmV; rw [if_neg h]
    have k : (convert 32 9 (.slice (some ⟨w.heap.size, 0, none⟩) 2 2)).run Try.prog (w.alloc (.cells #[.int .u8 115, .int .u8 49] 5)) = .ok (.string (nameVS n)) (w.alloc (.cells #[.int .u8 115, .int .u8 49] 5)) := by
      rw [show nameVS n = strOfNums [115, 49] by rw [en]; rfl]; exact kc 49
    have t := tA 49
    clear kc tA en h
    go_enter Try.func28, Try.ntmps28
    go_wp2
    go_ret
    exact ⟨rfl, t⟩
set_option maxHeartbeats 400000 in
theorem thereV_w (c : Int) (w : World) : Calls Try.prog 42 #[.int .i64 c] w fun e w' => e = .returned (.int .i64 (thereV c)) ∧ w' = w := by
  unfold thereV
  by_cases h : c = 6
  · rw [if_pos h]
    subst h
    go_enter Try.func42, Try.ntmps42
    go_wp2
    go_ret
    exact ⟨rfl, rfl⟩
  · rw [if_neg h]
    have h' : (c == 6) = false := by rw [beq_eq_false_iff_ne]; exact h
    go_enter Try.func42, Try.ntmps42
    go_wp2
    go_ret
    exact ⟨rfl, rfl⟩
set_option maxHeartbeats 1000000 in
theorem toldV_w (w : World) (H : Nat → Prop) (X D : Nat) (x : Sl) (S : Dk) (c : Int) (h : VAt w H X D x S) :
    Calls Try.prog 25 #[.pointer (some ⟨X, 0, none⟩), .int .i64 c] w fun e w' => e = .returned (.int .i64 c) ∧ Turn H w w' ∧ VAt w' (NF w H) X D { x with down := decide (c = 3) } S := by
  obtain ⟨F, G, v, d, m, hn, hF, hG⟩ := h
  have c3 : w.cell? ⟨X, 3, none⟩ = some (.bool x.down) := cell_obj m.obj 3
  have f3 : w.frozen? ⟨X, 3, none⟩ = false := frozen_obj m.obj 3
  have t : Turn (fun j => j = X) w (w.setCell ⟨X, 3, none⟩ (.bool (decide (c = 3)))) := (Turn.refl (fun j => j = X) w).setCell (p := ⟨X, 3, none⟩) (.inl rfl) _
  have k := heap_setCell_obj (j := 3) m.obj (.bool (decide (c = 3)))
  have m' : SlMem (w.setCell ⟨X, 3, none⟩ (.bool (decide (c = 3)))) G X D v { x with down := decide (c = 3) } :=
    ⟨by rw [k]; rfl, m.home, m.own.turn t (fun j hj => m.own.neObj m.obj (by decide) j hj), m.blk⟩
  have hs := t.size
  have H1 := hide (And.intro (t.mono (G := H) (fun j hj => by rw [hj]; exact (hG X m.home).1)) (show VAt (w.setCell ⟨X, 3, none⟩ (.bool (decide (c = 3)))) (NF w H) X D { x with down := decide (c = 3) } S from ⟨F, G, v, d.turn t (fun j hj _ hX => hn j hj (by rw [hX]; exact m.home)), m', hn, fun j hj => ⟨.inl (hF j hj).1, by have := (hF j hj).2; omega⟩, fun j hj => ⟨.inl (hG j hj).1, by have := (hG j hj).2; omega⟩⟩))
  have eb : (c == 3) = decide (c = 3) := by rw [Bool.eq_iff_iff]; simp
  have Heb := hide eb
  clear t k m' m d hn hF hG hs eb
  go_enter Try.func25, Try.ntmps25
  go_wp2
  go_ret
  rw [unhide Heb]
  exact ⟨rfl, unhide H1⟩
theorem wide_same : wide = wideV := rfl
theorem small_bytes {c : List Int} (hb : Bytes c) : (smallT wideV c 0).2.1.length ≤ c.length ∧ (smallT wideV c 0).1 < 18446744073709551616 := by
  refine ⟨?_, Nat.lt_of_le_of_lt (smallT_le wideV c 0) (by decide)⟩
  unfold smallT
  rw [if_neg (by simp)]
  split
  · exact Nat.le_refl _
  · split
    · exact Nat.le_refl _
    · simp
end Go.Proofs.Ytodnnblnchjeiaa
