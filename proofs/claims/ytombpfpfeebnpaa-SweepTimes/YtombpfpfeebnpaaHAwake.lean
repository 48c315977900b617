/- Heap: calls that do; awake; a nil heap. -/
import Derived.Test.YtombpfpfeebnpaaHPush
namespace Go.Proofs.Ytombpfpfeebnpaa
open Go.RowKit Go.Maps
set_option linter.unusedVariables false
set_option linter.unusedSimpArgs false

theorem Turn.fresh {F : Nat → Prop} {w w' : World} (h : Turn F w w') (hF : ∀ j, F j → w.heap.size ≤ j) : Turn (fun _ => False) w w' :=
  ⟨h.os, h.tape, h.output, h.size, fun k hk _ => h.block k hk (fun hf => by have := hF k hf; omega)⟩
theorem Turn.bel {w w' : World} (h : Turn (fun _ => False) w w') : Below w.heap.size w w' := h.below (fun _ h => h.elim) (Nat.le_refl _)

theorem push_ok {w : World} {B n : Nat} {F : Nat → Prop} {T : List It} (h : HAt w B n F T) (hF : ∀ j, w.heap.size ≤ j → F j) (i : Nat) (rank : Int) (hi : i < n) (ho : ∀ r : Int, (i, r) ∉ T) :
    Calls Try.prog 60 #[.pointer (some ⟨B, 0, none⟩), .int .i64 (i : Int), .int .i64 rank] w fun e w' => e = .returned (.int .i64 0) ∧ Turn F w w' ∧ ∃ T' : List It, HAt w' B n F T' ∧ T'.length = T.length + 1 ∧ ∀ u, u ∈ T' ↔ u = (i, rank) ∨ u ∈ T := by
  refine (pushH h hF i rank).mono ?_
  rintro e w' ⟨t, ⟨h1, _⟩ | ⟨i', r, h1, h2, _⟩ | ⟨i', T', h1, h2, h3, h4, h5, h6, rfl⟩⟩
  · exact absurd ⟨Int.natCast_nonneg i, by omega⟩ h1
  · obtain rfl : i = i' := by omega
    exact absurd h2 (ho r)
  · obtain rfl : i = i' := by omega
    exact ⟨rfl, t, T', h4, h5, h6⟩
theorem lower_ok {w : World} {B n : Nat} {F : Nat → Prop} {T : List It} (h : HAt w B n F T) (i : Nat) (r rank : Int) (hm : (i, r) ∈ T) (hr : rank ≤ r) :
    Calls Try.prog 59 #[.pointer (some ⟨B, 0, none⟩), .int .i64 (i : Int), .int .i64 rank] w fun e w' => e = .returned (.int .i64 0) ∧ Turn F w w' ∧ ∃ T' : List It, HAt w' B n F T' ∧ T'.length = T.length ∧ With T T' (i, rank) := by
  have hi := h.id_lt hm
  simp only at hi
  refine (lowerH h i rank).mono ?_
  rintro e w' ⟨t, ⟨h1, _⟩ | ⟨_, h1, _⟩ | ⟨i', r', h1, h2, h3, _⟩ | ⟨i', r', T', h1, h2, h3, h4, h5, h6, rfl⟩⟩
  · exact absurd ⟨Int.natCast_nonneg i, by omega⟩ h1
  · exact absurd hm (h1 i r rfl)
  · obtain rfl : i = i' := by omega
    have := h.uniq hm h2 rfl
    simp at this
    omega
  · obtain rfl : i = i' := by omega
    exact ⟨rfl, t, T', h4, h5, h6⟩
/-- x comes ahead of all others -/
def IsMin (T : List It) (x : It) : Prop := x ∈ T ∧ ∀ y ∈ T, ¬ bef y x
theorem IsMin.eq {T : List It} {x y : It} (h : IsMin T x) (k : IsMin T y) : x = y := bef_total (k.2 x h.1) (h.2 y k.1)
theorem pop_ok {w : World} {B n : Nat} {F : Nat → Prop} {T : List It} (h : HAt w B n F T) (x : It) (hx : IsMin T x) :
    Calls Try.prog 48 #[.pointer (some ⟨B, 0, none⟩)] w fun e w' => e = .returned (.tuple #[itV x, .bool true]) ∧ Turn F w w' ∧ ∃ T' : List It, HAt w' B n F T' ∧ Less T T' x.1 := by
  refine (popH h).mono ?_
  rintro e w' ⟨t, ⟨rfl, _⟩ | ⟨x', T', h1, h2, h3, h4, rfl⟩⟩
  · exact absurd hx.1 (by simp)
  · obtain rfl := hx.eq ⟨h1, h2⟩
    exact ⟨rfl, t, T', h3, h4⟩
theorem pop_empty {w : World} {B n : Nat} {F : Nat → Prop} (h : HAt w B n F []) :
    Calls Try.prog 48 #[.pointer (some ⟨B, 0, none⟩)] w fun e w' => e = .returned (.tuple #[itV (0, 0), .bool false]) ∧ Turn F w w' ∧ HAt w' B n F [] := by
  refine (popH h).mono ?_
  rintro e w' ⟨t, ⟨_, h1, rfl⟩ | ⟨x', T', h1, _⟩⟩
  · exact ⟨rfl, t, h1⟩
  · simp at h1
theorem peek_ok {w : World} {B n : Nat} {F : Nat → Prop} {T : List It} (h : HAt w B n F T) (x : It) (hx : IsMin T x) :
    Calls Try.prog 56 #[.pointer (some ⟨B, 0, none⟩)] w fun e w' => e = .returned (.tuple #[itV x, .bool true]) ∧ Turn (fun _ => False) w w' ∧ HAt w' B n F T := by
  refine (peekH h).mono ?_
  rintro e w' ⟨h1, t, ⟨rfl, _⟩ | ⟨x', T2, h2, h3, rfl⟩⟩
  · exact absurd hx.1 (by simp)
  · obtain rfl := hx.eq ⟨by rw [h2]; simp, h3⟩
    exact ⟨rfl, t, h1⟩
theorem peek_empty {w : World} {B n : Nat} {F : Nat → Prop} (h : HAt w B n F []) :
    Calls Try.prog 56 #[.pointer (some ⟨B, 0, none⟩)] w fun e w' => e = .returned (.tuple #[itV (0, 0), .bool false]) ∧ Turn (fun _ => False) w w' ∧ HAt w' B n F [] := by
  refine (peekH h).mono ?_
  rintro e w' ⟨h1, t, ⟨_, rfl⟩ | ⟨x', T2, h2, h3, rfl⟩⟩
  · exact ⟨rfl, t, h1⟩
  · cases h2

end Go.Proofs.Ytombpfpfeebnpaa
