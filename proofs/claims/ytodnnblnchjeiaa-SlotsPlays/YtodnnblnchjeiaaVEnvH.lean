/- The law's variables, slots and texts, their blocks told. -/
import Derived.Test.YtodnnblnchjeiaaVEnv
namespace Go.Proofs.Ytodnnblnchjeiaa
open Go.RowKit Go.Maps
set_option linter.unusedVariables false
set_option linter.unusedSimpArgs false

structure EnvH (w0 w : World) (V : Vars) (A : Vals) (H M : Nat → Prop) (x : Sl) (S : Dk) (L B : List Int) : Prop where
  nd : V.list.Nodup
  cells : Cells7 w V A
  ge : ∀ j ∈ V.list, w0.heap.size ≤ j
  v : VAt w H A.X A.D x S
  r1 : Row .u8 M w A.l L
  r2 : Row .u8 M w A.x B
  hH : ∀ j, H j → w0.heap.size ≤ j ∧ j < w.heap.size ∧ j ∉ V.list
  hM : ∀ j, M j → w0.heap.size ≤ j ∧ j < w.heap.size ∧ j ∉ V.list ∧ ¬ H j
  turn : Turn (fun j => w0.heap.size ≤ j) w0 w
variable {w0 w w' : World} {V : Vars} {A : Vals} {H M : Nat → Prop} {x : Sl} {S : Dk} {L B : List Int}
theorem EnvH.env (h : EnvH w0 w V A H M x S L B) : Env w0 w V A x S L B := ⟨h.nd, h.cells, h.ge, ⟨H, M, h.v, h.r1, h.r2, h.hH, h.hM⟩, h.turn⟩
theorem Env.get (h : Env w0 w V A x S L B) : ∃ H M, EnvH w0 w V A H M x S L B := by
  obtain ⟨nd, c, ge, ⟨H, M, v, r1, r2, hH, hM⟩, T⟩ := h
  exact ⟨H, M, nd, c, ge, v, r1, r2, hH, hM, T⟩
/-- blocks that are none of these turn -/
theorem EnvH.away (h : EnvH w0 w V A H M x S L B) {F : Nat → Prop} (T : Turn F w w') (hF : ∀ j, F j → w0.heap.size ≤ j ∧ ¬ H j ∧ ¬ M j ∧ j ∉ V.list) : EnvH w0 w' V A H M x S L B := by
  have s := T.size
  exact ⟨h.nd, h.cells.turn T (fun j hj hf => (hF j hf).2.2.2 hj), h.ge, h.v.turn T (fun j hj hf => (hF j hf).2.1 hj), h.r1.turn T (fun j hj hf => (hF j hf).2.2.1 hj), h.r2.turn T (fun j hj hf => (hF j hf).2.2.1 hj),
    fun j hj => ⟨(h.hH j hj).1, by have := (h.hH j hj).2.1; omega, (h.hH j hj).2.2⟩, fun j hj => ⟨(h.hM j hj).1, by have := (h.hM j hj).2.1; omega, (h.hM j hj).2.2⟩, h.turn.then (T.mono (fun j hj => (hF j hj).1))⟩
theorem EnvH.calm (h : EnvH w0 w V A H M x S L B) (T : Turn (fun _ => False) w w') : EnvH w0 w' V A H M x S L B := h.away T (fun j hj => hj.elim)
/-- a call on the slots or their disk -/
theorem EnvH.step (h : EnvH w0 w V A H M x S L B) {x' : Sl} {S' : Dk} (T : Turn H w w') (v : VAt w' (NF w H) A.X A.D x' S') : EnvH w0 w' V A (fun j => NF w H j ∧ j < w'.heap.size) M x' S' L B := by
  have s := T.size
  have s0 := h.turn.size
  refine ⟨h.nd, h.cells.turn T (fun j hj hh => (h.hH j hh).2.2 hj), h.ge, v.mono (fun j hj hl => ⟨hj, hl⟩), h.r1.turn T (fun b hb => (h.hM b hb).2.2.2), h.r2.turn T (fun b hb => (h.hM b hb).2.2.2), ?_, ?_, h.turn.then (T.mono (fun j hj => (h.hH j hj).1))⟩
  · rintro j ⟨hj | hj, hl⟩
    · exact ⟨(h.hH j hj).1, hl, (h.hH j hj).2.2⟩
    · exact ⟨by omega, hl, fun hv => by have := h.cells.lt j hv; omega⟩
  · intro j hj
    refine ⟨(h.hM j hj).1, by have := (h.hM j hj).2.1; omega, (h.hM j hj).2.2.1, ?_⟩
    rintro ⟨hh | hh, _⟩
    · exact (h.hM j hj).2.2.2 hh
    · have := (h.hM j hj).2.1; omega
/-- the variables written, texts in blocks of M or new ones -/
theorem EnvH.put (h : EnvH w0 w V A H M x S L B) {A' : Vals} {M' : Nat → Prop} {L' B' : List Int} (T : Turn (fun j => j ∈ V.list) w w') (c : Cells7 w' V A') (hD : A'.D = A.D) (hX : A'.X = A.X)
    (r1 : Row .u8 M' w A'.l L') (r2 : Row .u8 M' w A'.x B') (hM : ∀ j, M' j → w0.heap.size ≤ j ∧ j < w.heap.size ∧ j ∉ V.list ∧ ¬ H j) : EnvH w0 w' V A' H M' x S L' B' := by
  have s := T.size
  refine ⟨h.nd, c, h.ge, ?_, r1.turn T (fun b hb => (hM b hb).2.2.1), r2.turn T (fun b hb => (hM b hb).2.2.1), fun j hj => ⟨(h.hH j hj).1, by have := (h.hH j hj).2.1; omega, (h.hH j hj).2.2⟩, fun j hj => ⟨(hM j hj).1, by have := (hM j hj).2.1; omega, (hM j hj).2.2⟩, h.turn.then (T.mono (fun j hj => h.ge j hj))⟩
  rw [hD, hX]
  exact h.v.turn T (fun j hj => (h.hH j hj).2.2)
theorem VAt.call2 {fn : Nat} {args : Array Value} {c : Int} {X D : Nat} {S' : Dk} (h : VAt w H X D x S)
    (hc : ∀ F, DAt w D F S → (∀ j, F j → H j) → Calls Try.prog fn args w fun e w' => e = .returned (.int .i64 c) ∧ Turn F w w' ∧ DAt w' D (NF w F) S') :
    Calls Try.prog fn args w fun e w' => e = .returned (.int .i64 c) ∧ Turn H w w' ∧ VAt w' (NF w H) X D x S' := by
  obtain ⟨F, G, v, d, m, hn, hF, hG⟩ := h
  refine (hc F d (fun j hj => (hF j hj).1)).mono ?_
  rintro e w' ⟨he, T, d'⟩
  exact ⟨he, T.mono (fun j hj => (hF j hj).1), disk_doneV T d' m hn hF hG⟩
end Go.Proofs.Ytodnnblnchjeiaa
