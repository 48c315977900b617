/- The program's disk and the reference's, side by side; names held against each other; Spoil. -/
import Derived.Test.YthpfdgjpmooclaaRCrash
import Derived.Test.YthpfdgjpmooclaaRNames
import Derived.Test.YthpfdgjpmooclaaBOwnI
import Derived.Test.YthpfdgjpmooclaaDFork2
namespace Go.Proofs.Ythpfdgjpmooclaa
open Go.RowKit Go.Maps
set_option linter.unusedVariables false
set_option linter.unusedSimpArgs false

/-- both disks, apart from each other, in blocks of A -/
structure Two (A : Nat → Prop) (w : World) (B R : Nat) (S1 S2 : Dk) : Prop where
  both : ∃ F1 F2 : Nat → Prop, DAt w B F1 S1 ∧ RAt w R F2 S2 ∧ (∀ j, F1 j → A j ∧ j < w.heap.size) ∧ (∀ j, F2 j → A j ∧ j < w.heap.size) ∧ ∀ j, F1 j → ¬ F2 j
  new : ∀ j, w.heap.size ≤ j → A j

theorem Two.of {A : Nat → Prop} {w : World} {B R : Nat} {S1 S2 : Dk} {F1 F2 : Nat → Prop} (hd : DAt w B F1 S1) (hr : RAt w R F2 S2) (h1 : ∀ j, F1 j → A j) (h2 : ∀ j, F2 j → A j) (hs : ∀ j, F1 j → F2 j → j < w.heap.size → False) (hn : ∀ j, w.heap.size ≤ j → A j) : Two A w B R S1 S2 :=
  ⟨⟨fun j => F1 j ∧ j < w.heap.size, fun j => F2 j ∧ j < w.heap.size, hd.mono (fun j h k => ⟨h, k⟩), hr.mono (fun j h k => ⟨h, k⟩), fun j h => ⟨h1 j h.1, h.2⟩, fun j h => ⟨h2 j h.1, h.2⟩, fun j h k => hs j h.1 k.1 h.2⟩, hn⟩
theorem Two.turn {A G : Nat → Prop} {w w' : World} {B R : Nat} {S1 S2 : Dk} (h : Two A w B R S1 S2) (t : Turn G w w') (hG : ∀ j, A j → j < w.heap.size → ¬ G j) : Two A w' B R S1 S2 := by
  obtain ⟨⟨F1, F2, d, r, l1, l2, s⟩, n⟩ := h
  refine ⟨⟨F1, F2, d.turn t (fun j hj hl => hG j (l1 j hj).1 hl), r.turn t (fun j hj hl => hG j (l2 j hj).1 hl), fun j hj => ⟨(l1 j hj).1, Nat.lt_of_lt_of_le (l1 j hj).2 t.size⟩, fun j hj => ⟨(l2 j hj).1, Nat.lt_of_lt_of_le (l2 j hj).2 t.size⟩, s⟩, fun j hj => n j (Nat.le_trans t.size hj)⟩
theorem Two.drew {A : Nat → Prop} {w : World} {B R : Nat} {S1 S2 : Dk} (h : Two A w B R S1 S2) : Two A w.drew B R S1 S2 := h.turn (G := fun _ => False) ((Turn.refl _ _).drew) (fun _ _ _ => id)
theorem Two.drewN {A : Nat → Prop} {w : World} {B R : Nat} {S1 S2 : Dk} (h : Two A w B R S1 S2) (n : Nat) : Two A (w.drewN n) B R S1 S2 := h.turn (G := fun _ => False) ((Turn.refl _ _).drewN n) (fun _ _ _ => id)
theorem Two.mono {A A' : Nat → Prop} {w : World} {B R : Nat} {S1 S2 : Dk} (h : Two A w B R S1 S2) (hA : ∀ j, A j → A' j) : Two A' w B R S1 S2 := by
  obtain ⟨⟨F1, F2, d, r, l1, l2, s⟩, n⟩ := h
  exact ⟨⟨F1, F2, d, r, fun j hj => ⟨hA j (l1 j hj).1, (l1 j hj).2⟩, fun j hj => ⟨hA j (l2 j hj).1, (l2 j hj).2⟩, s⟩, fun j hj => hA j (n j hj)⟩
/-- what was made just now is none of theirs -/
def shield (A : Nat → Prop) (a b : Nat) : Nat → Prop := fun j => A j ∧ (j < a ∨ b ≤ j)
theorem Two.shield {A : Nat → Prop} {w w' : World} {B R : Nat} {S1 S2 : Dk} (h : Two A w B R S1 S2) (t : Turn (fun _ => False) w w') : Two (shield A w.heap.size w'.heap.size) w' B R S1 S2 := by
  obtain ⟨⟨F1, F2, d, r, l1, l2, s⟩, n⟩ := h
  exact ⟨⟨F1, F2, d.turn t (fun _ _ _ => id), r.turn t (fun _ _ _ => id), fun j hj => ⟨⟨(l1 j hj).1, .inl (l1 j hj).2⟩, Nat.lt_of_lt_of_le (l1 j hj).2 t.size⟩, fun j hj => ⟨⟨(l2 j hj).1, .inl (l2 j hj).2⟩, Nat.lt_of_lt_of_le (l2 j hj).2 t.size⟩, s⟩, fun j hj => ⟨n j (Nat.le_trans t.size hj), .inr hj⟩⟩
theorem two_d {A : Nat → Prop} {w w' : World} {B' R : Nat} {S2 S' : Dk} {F1 F2 : Nat → Prop} (r : RAt w R F2 S2) (l1 : ∀ j, F1 j → A j ∧ j < w.heap.size) (l2 : ∀ j, F2 j → A j ∧ j < w.heap.size) (s : ∀ j, F1 j → ¬ F2 j) (n : ∀ j, w.heap.size ≤ j → A j) (t : Turn F1 w w') (d' : DAt w' B' (NF w F1) S') : Two A w' B' R S' S2 ∧ Turn A w w' := by
  refine ⟨Two.of d' (r.turn t (fun j hj _ hf => s j hf hj)) (fun j hj => ?_) (fun j hj => (l2 j hj).1) (fun j h1 h2 _ => ?_) (fun j hj => n j (Nat.le_trans t.size hj)), t.mono (fun j hj => (l1 j hj).1)⟩
  · rcases hj with h | h
    · exact (l1 j h).1
    · exact n j h
  · rcases h1 with h | h
    · exact s j h h2
    · have := (l2 j h2).2; omega
theorem two_r {A : Nat → Prop} {w w' : World} {B R : Nat} {S1 S' : Dk} {F1 F2 : Nat → Prop} (d : DAt w B F1 S1) (l1 : ∀ j, F1 j → A j ∧ j < w.heap.size) (l2 : ∀ j, F2 j → A j ∧ j < w.heap.size) (s : ∀ j, F1 j → ¬ F2 j) (n : ∀ j, w.heap.size ≤ j → A j) (t : Turn F2 w w') (r' : RAt w' R (NF w F2) S') : Two A w' B R S1 S' ∧ Turn A w w' := by
  refine ⟨Two.of (d.turn t (fun j hj _ hf => s j hj hf)) r' (fun j hj => (l1 j hj).1) (fun j hj => ?_) (fun j h1 h2 _ => ?_) (fun j hj => n j (Nat.le_trans t.size hj)), t.mono (fun j hj => (l2 j hj).1)⟩
  · rcases hj with h | h
    · exact (l2 j h).1
    · exact n j h
  · rcases h2 with h | h
    · exact s j h1 h
    · have := (l1 j h1).2; omega

theorem dSync2 {A : Nat → Prop} {w : World} {B R : Nat} {S1 S2 : Dk} (h : Two A w B R S1 S2) (s : ByteArray) (hs : s.size ≤ maxLen) : Calls Try.prog 25 #[.pointer (some ⟨B, 0, none⟩), .string s] w fun e w' => e = .returned (.int .i64 (syncC S1 s.data.toList)) ∧ Two A w' B R (syncS S1 s.data.toList) S2 ∧ Turn A w w' := by
  obtain ⟨⟨F1, F2, d, r, l1, l2, s0⟩, n⟩ := h
  exact (Sync_walk w B F1 S1 s hs d).mono fun e w' ⟨he, t, d'⟩ => ⟨he, two_d r l1 l2 s0 n t d'⟩
theorem rSync2 {A : Nat → Prop} {w : World} {B R : Nat} {S1 S2 : Dk} (h : Two A w B R S1 S2) (s : ByteArray) (hs : s.size ≤ maxLen) : Calls Try.prog 37 #[.pointer (some ⟨R, 0, none⟩), .string s] w fun e w' => e = .returned (.int .i64 (syncC S2 s.data.toList)) ∧ Two A w' B R S1 (syncS S2 s.data.toList) ∧ Turn A w w' := by
  obtain ⟨⟨F1, F2, d, r, l1, l2, s0⟩, n⟩ := h
  exact (rSync_walk w R F2 S2 s hs r).mono fun e w' ⟨he, t, d'⟩ => ⟨he, two_r d l1 l2 s0 n t d'⟩
theorem dRemove2 {A : Nat → Prop} {w : World} {B R : Nat} {S1 S2 : Dk} (h : Two A w B R S1 S2) (s : ByteArray) (hs : s.size ≤ maxLen) : Calls Try.prog 29 #[.pointer (some ⟨B, 0, none⟩), .string s] w fun e w' => e = .returned (.int .i64 (removeC S1 s.data.toList)) ∧ Two A w' B R (removeS S1 s.data.toList) S2 ∧ Turn A w w' := by
  obtain ⟨⟨F1, F2, d, r, l1, l2, s0⟩, n⟩ := h
  exact (Remove_walk w B F1 S1 s hs d).mono fun e w' ⟨he, t, d'⟩ => ⟨he, two_d r l1 l2 s0 n t d'⟩
theorem rRemove2 {A : Nat → Prop} {w : World} {B R : Nat} {S1 S2 : Dk} (h : Two A w B R S1 S2) (s : ByteArray) (hs : s.size ≤ maxLen) : Calls Try.prog 40 #[.pointer (some ⟨R, 0, none⟩), .string s] w fun e w' => e = .returned (.int .i64 (removeC S2 s.data.toList)) ∧ Two A w' B R S1 (removeS S2 s.data.toList) ∧ Turn A w w' := by
  obtain ⟨⟨F1, F2, d, r, l1, l2, s0⟩, n⟩ := h
  exact (rRemove_walk w R F2 S2 s hs r).mono fun e w' ⟨he, t, d'⟩ => ⟨he, two_r d l1 l2 s0 n t d'⟩
theorem dCut2 {A : Nat → Prop} {w : World} {B R : Nat} {S1 S2 : Dk} (h : Two A w B R S1 S2) (s : ByteArray) (z : Int) (hs : s.size ≤ maxLen) : Calls Try.prog 28 #[.pointer (some ⟨B, 0, none⟩), .string s, .int .i64 z] w fun e w' => e = .returned (.int .i64 (cutC S1 s.data.toList z)) ∧ Two A w' B R (cutS S1 s.data.toList z) S2 ∧ Turn A w w' := by
  obtain ⟨⟨F1, F2, d, r, l1, l2, s0⟩, n⟩ := h
  exact (Cut_walk w B F1 S1 s z hs d).mono fun e w' ⟨he, t, d'⟩ => ⟨he, two_d r l1 l2 s0 n t d'⟩
theorem rCut2 {A : Nat → Prop} {w : World} {B R : Nat} {S1 S2 : Dk} (h : Two A w B R S1 S2) (s : ByteArray) (z : Int) (hs : s.size ≤ maxLen) : Calls Try.prog 39 #[.pointer (some ⟨R, 0, none⟩), .string s, .int .i64 z] w fun e w' => e = .returned (.int .i64 (cutC S2 s.data.toList z)) ∧ Two A w' B R S1 (cutS S2 s.data.toList z) ∧ Turn A w w' := by
  obtain ⟨⟨F1, F2, d, r, l1, l2, s0⟩, n⟩ := h
  exact (rCut_walk w R F2 S2 s z hs r).mono fun e w' ⟨he, t, d'⟩ => ⟨he, two_r d l1 l2 s0 n t d'⟩
theorem dAppend2 {A : Nat → Prop} {w : World} {B R : Nat} {S1 S2 : Dk} (h : Two A w B R S1 S2) (Bk : Nat → Prop) (s : ByteArray) (bv : Value) (zs : List Int) (hs : s.size ≤ maxLen) (hrow : Row .u8 Bk w bv zs) : Calls Try.prog 11 #[.pointer (some ⟨B, 0, none⟩), .string s, bv] w fun e w' => e = .returned (.int .i64 (appendC S1 s.data.toList zs)) ∧ Two A w' B R (appendS S1 s.data.toList zs) S2 ∧ Turn A w w' := by
  obtain ⟨⟨F1, F2, d, r, l1, l2, s0⟩, n⟩ := h
  exact (Append_walk w B F1 Bk S1 s bv zs hs d hrow).mono fun e w' ⟨he, t, d'⟩ => ⟨he, two_d r l1 l2 s0 n t d'⟩
theorem rAppend2 {A : Nat → Prop} {w : World} {B R : Nat} {S1 S2 : Dk} (h : Two A w B R S1 S2) (Bk : Nat → Prop) (s : ByteArray) (bv : Value) (zs : List Int) (hs : s.size ≤ maxLen) (hrow : Row .u8 Bk w bv zs) (hBk : ∀ b, Bk b → ¬ A b) : Calls Try.prog 45 #[.pointer (some ⟨R, 0, none⟩), .string s, bv] w fun e w' => e = .returned (.int .i64 (appendC S2 s.data.toList zs)) ∧ Two A w' B R S1 (appendS S2 s.data.toList zs) ∧ Turn A w w' := by
  obtain ⟨⟨F1, F2, d, r, l1, l2, s0⟩, n⟩ := h
  exact (rAppend_walk w R F2 Bk S2 s bv zs hs r hrow (fun b hb hf => hBk b hb (l2 b hf).1)).mono fun e w' ⟨he, t, d'⟩ => ⟨he, two_r d l1 l2 s0 n t d'⟩
theorem dCrash2 {A : Nat → Prop} {w : World} {B R : Nat} {S1 S2 : Dk} (h : Two A w B R S1 S2) (Bk : Nat → Prop) (kv : Value) (ks : List Int) (hrow : Row .i64 Bk w kv ks) (hBk : ∀ b, Bk b → ¬ A b) : Calls Try.prog 12 #[.pointer (some ⟨B, 0, none⟩), kv] w fun e w' => e = .returned (.int .i64 0) ∧ Two A w' B R (crashS S1 ks) S2 ∧ Turn A w w' := by
  obtain ⟨⟨F1, F2, d, r, l1, l2, s0⟩, n⟩ := h
  exact (Crash_walk w B F1 Bk S1 kv ks d hrow (fun b hb hf => hBk b hb (l1 b hf).1)).mono fun e w' ⟨he, t, d'⟩ => ⟨he, two_d r l1 l2 s0 n t d'⟩
theorem rCrash2 {A : Nat → Prop} {w : World} {B R : Nat} {S1 S2 : Dk} (h : Two A w B R S1 S2) (Bk : Nat → Prop) (kv : Value) (ks : List Int) (hrow : Row .i64 Bk w kv ks) (hBk : ∀ b, Bk b → ¬ A b) : Calls Try.prog 42 #[.pointer (some ⟨R, 0, none⟩), kv] w fun e w' => (∃ v, e = .returned v) ∧ Two A w' B R S1 (crashS S2 ks) ∧ Turn A w w' := by
  obtain ⟨⟨F1, F2, d, r, l1, l2, s0⟩, n⟩ := h
  exact (rCrash_walk w R F2 Bk S2 kv ks r hrow (fun b hb hf => hBk b hb (l2 b hf).1)).mono fun e w' ⟨he, t, d'⟩ => ⟨he, two_r d l1 l2 s0 n t d'⟩
theorem dStart2 {A : Nat → Prop} {w : World} {B R : Nat} {S1 S2 : Dk} (h : Two A w B R S1 S2) : Calls Try.prog 17 #[.pointer (some ⟨B, 0, none⟩)] w fun e w' => e = .returned (.int .i64 0) ∧ Two A w' B R (startS S1) S2 ∧ Turn A w w' := by
  obtain ⟨⟨F1, F2, d, r, l1, l2, s0⟩, n⟩ := h
  exact (Start_walk w B F1 S1 d).mono fun e w' ⟨he, t, d'⟩ => ⟨he, two_d r l1 l2 s0 n t d'⟩
theorem rStart2 {A : Nat → Prop} {w : World} {B R : Nat} {S1 S2 : Dk} (h : Two A w B R S1 S2) : Calls Try.prog 18 #[.pointer (some ⟨R, 0, none⟩)] w fun e w' => (∃ v, e = .returned v) ∧ Two A w' B R S1 (startS S2) ∧ Turn A w w' := by
  obtain ⟨⟨F1, F2, d, r, l1, l2, s0⟩, n⟩ := h
  exact (rStart_walk w R F2 S2 r).mono fun e w' ⟨he, t, d'⟩ => ⟨he, two_r d l1 l2 s0 n t d'⟩
theorem dArm2 {A : Nat → Prop} {w : World} {B R : Nat} {S1 S2 : Dk} (h : Two A w B R S1 S2) (x : Int) (hx : x ≤ 9223372036854775807) : Calls Try.prog 27 #[.pointer (some ⟨B, 0, none⟩), .int .i64 x] w fun e w' => e = .returned (.int .i64 0) ∧ Two A w' B R (armS S1 x) S2 ∧ Turn A w w' := by
  obtain ⟨⟨F1, F2, d, r, l1, l2, s0⟩, n⟩ := h
  exact (Arm_walk w B F1 S1 x hx d).mono fun e w' ⟨he, t, d'⟩ => ⟨he, two_d r l1 l2 s0 n t (d'.mono (fun j hj _ => .inl hj))⟩
theorem dFork2 {A : Nat → Prop} {w : World} {B R : Nat} {S1 S2 : Dk} (h : Two A w B R S1 S2) : Calls Try.prog 10 #[.pointer (some ⟨B, 0, none⟩)] w fun e w' => ∃ B2, e = .returned (.pointer (some ⟨B2, 0, none⟩)) ∧ Turn (fun _ => False) w w' ∧ (∃ F, DAt w' B F S1 ∧ (∀ j, F j → A j ∧ j < w.heap.size) ∧ ∀ j, F j → ¬ w.heap.size ≤ j) ∧ ∀ w'' : World, Turn (fun j => A j ∧ ¬ (w.heap.size ≤ j ∧ j < w'.heap.size)) w' w'' → (∃ F2, RAt w'' R F2 S2 ∧ (∀ j, F2 j → A j ∧ j < w.heap.size)) → Two A w'' B2 R S1 S2 := by
  obtain ⟨⟨F1, F2, d, r, l1, l2, s0⟩, n⟩ := h
  refine (Fork_walk w B F1 S1 d).mono fun e w' ⟨B2, he, t, d'⟩ => ⟨B2, he, t, ⟨F1, d.turn t (fun _ _ _ => id), l1, fun j hj => by have := (l1 j hj).2; omega⟩, fun w'' t2 hr => ?_⟩
  obtain ⟨F3, r3, l3⟩ := hr
  refine Two.of (F1 := fun j => w.heap.size ≤ j ∧ j < w'.heap.size) ((d'.mono (fun j hj hl => ⟨hj, hl⟩)).turn t2 (fun j hj _ q => q.2 hj)) r3 (fun j hj => n j hj.1) (fun j hj => (l3 j hj).1) (fun j h1 h2 _ => by have := (l3 j h2).2; omega) (fun j hj => n j (by have := t.size; have := t2.size; omega))
theorem dRead2 {A : Nat → Prop} {w : World} {B R : Nat} {S1 S2 : Dk} (h : Two A w B R S1 S2) (s : ByteArray) (hs : s.size ≤ maxLen) : Calls Try.prog 22 #[.pointer (some ⟨B, 0, none⟩), .string s] w fun e w' => ∃ v, e = .returned (.tuple #[v, .int .i64 (readC S1 s.data.toList)]) ∧ OwnSl w' 5 1 v (readD S1 s.data.toList).length ((readD S1 s.data.toList).map (Value.int .u8)) ∧ (∀ j, v.ownBlock = some j → w.heap.size ≤ j) ∧ Turn (fun _ => False) w w' := by
  obtain ⟨⟨F1, F2, d, r, l1, l2, s0⟩, n⟩ := h
  exact Read_walk w B F1 S1 s hs d
theorem rRead2 {A : Nat → Prop} {w : World} {B R : Nat} {S1 S2 : Dk} (h : Two A w B R S1 S2) (s : ByteArray) (hs : s.size ≤ maxLen) : Calls Try.prog 23 #[.pointer (some ⟨R, 0, none⟩), .string s] w fun e w' => ∃ v, e = .returned (.tuple #[v, .int .i64 (readC S2 s.data.toList)]) ∧ OwnSl w' 5 1 v (readD S2 s.data.toList).length ((readD S2 s.data.toList).map (Value.int .u8)) ∧ (∀ j, v.ownBlock = some j → w.heap.size ≤ j) ∧ Turn (fun _ => False) w w' := by
  obtain ⟨⟨F1, F2, d, r, l1, l2, s0⟩, n⟩ := h
  exact rRead_walk w R F2 S2 s hs r
theorem dNames2 {A : Nat → Prop} {w : World} {B R : Nat} {S1 S2 : Dk} (h : Two A w B R S1 S2) : Calls Try.prog 19 #[.pointer (some ⟨B, 0, none⟩)] w fun e w' => ∃ v, e = .returned (.tuple #[v, .int .i64 (namesC S1)]) ∧ OwnSl w' 9 1 v (namesL S1).length ((namesL S1).map encStr) ∧ Turn (fun _ => False) w w' := by
  obtain ⟨⟨F1, F2, d, r, l1, l2, s0⟩, n⟩ := h
  exact (Names_walk w B F1 S1 d).mono fun e w' ⟨v, he, ho, t⟩ => ⟨v, he, OwnSl.of_owns ho, t⟩
theorem rNames2 {A : Nat → Prop} {w : World} {B R : Nat} {S1 S2 : Dk} (h : Two A w B R S1 S2) : Calls Try.prog 20 #[.pointer (some ⟨R, 0, none⟩)] w fun e w' => ∃ v, e = .returned (.tuple #[v, .int .i64 (namesC S2)]) ∧ OwnSl w' 9 1 v (namesL S2).length ((namesL S2).map encStr) ∧ Turn (fun _ => False) w w' := by
  obtain ⟨⟨F1, F2, d, r, l1, l2, s0⟩, n⟩ := h
  exact (rNames_walk w R F2 S2 r).mono fun e w' ⟨v, he, ho, _, t⟩ => ⟨v, he, ho, t⟩
theorem dDown2 {A : Nat → Prop} {w : World} {B R : Nat} {S1 S2 : Dk} (h : Two A w B R S1 S2) : Calls Try.prog 14 #[.pointer (some ⟨B, 0, none⟩)] w fun e w' => e = .returned (.bool S1.down) ∧ w' = w := by
  obtain ⟨⟨F1, F2, d, r, l1, l2, s0⟩, n⟩ := h
  exact Down_walk w B F1 S1 d
theorem dUsed2 {A : Nat → Prop} {w : World} {B R : Nat} {S1 S2 : Dk} (h : Two A w B R S1 S2) : Calls Try.prog 15 #[.pointer (some ⟨B, 0, none⟩)] w fun e w' => e = .returned (.int .i64 (used S1.fs : Nat)) ∧ Turn (fun _ => False) w w' := by
  obtain ⟨⟨F1, F2, d, r, l1, l2, s0⟩, n⟩ := h
  exact Used_walk w B F1 S1 d
theorem rUsed2 {A : Nat → Prop} {w : World} {B R : Nat} {S1 S2 : Dk} (h : Two A w B R S1 S2) : Calls Try.prog 16 #[.pointer (some ⟨R, 0, none⟩)] w fun e w' => e = .returned (.int .i64 (used S2.fs : Nat)) ∧ w' = w := by
  obtain ⟨⟨F1, F2, d, r, l1, l2, s0⟩, n⟩ := h
  obtain ⟨lv, E, m, _⟩ := r
  exact rused_walk w R lv E S2 m
theorem rOff2 {A : Nat → Prop} {w : World} {B R : Nat} {S1 S2 : Dk} (h : Two A w B R S1 S2) : w.cell? ⟨R, 3, none⟩ = some (.bool S2.down) := by
  obtain ⟨⟨F1, F2, d, r, l1, l2, s0⟩, n⟩ := h
  obtain ⟨lv, E, m, _⟩ := r
  exact cell_obj m.obj 3
theorem rArm2 {A : Nat → Prop} {w : World} {B R : Nat} {S1 S2 : Dk} (h : Two A w B R S1 S2) (x : Int) (hx : x ≤ 9223372036854775807) : w.cell? ⟨R, 2, none⟩ = some (.int .i64 (S2.arm : Int)) ∧ w.frozen? ⟨R, 2, none⟩ = false ∧ Two A (w.setCell ⟨R, 2, none⟩ (.int .i64 (x.toNat : Int))) B R S1 (armS S2 x) ∧ Turn A w (w.setCell ⟨R, 2, none⟩ (.int .i64 (x.toNat : Int))) := by
  obtain ⟨⟨F1, F2, d, r, l1, l2, s0⟩, n⟩ := h
  obtain ⟨lv, E, m, hF⟩ := r
  have t := setRow w R 2 (.int .i64 (x.toNat : Int))
  have m' := m.re (S' := armS S2 x) t (by rw [heap_setCell_obj (j := 2) m.obj]; rfl) rfl (well_arm m.well x hx)
  exact ⟨cell_obj m.obj 2, frozen_obj m.obj 2, two_r d l1 l2 s0 n (t.mono (fun j hj => by subst hj; exact hF j (.inl rfl))) ⟨lv, E, m', fun j hj => .inl (hF j hj)⟩⟩
theorem Two.wells {A : Nat → Prop} {w : World} {B R : Nat} {S1 S2 : Dk} (h : Two A w B R S1 S2) : Well S1 ∧ Well S2 := by
  obtain ⟨⟨F1, F2, d, r, l1, l2, s0⟩, n⟩ := h
  obtain ⟨lv, E, m, _⟩ := r
  exact ⟨d.well, m.well⟩

set_option maxHeartbeats 400000 in
theorem one_str (a b : ByteArray) (w : World) (hab : (a.toList == b.toList) = true) : Calls Try.prog 49 #[.string a, .string b] w fun e w' => e = .returned (.bool true) ∧ w' = w := by
  go_enter Try.func49, Try.ntmps49
  go_wp2
  go_ret
  exact ⟨rfl, rfl⟩

set_option maxHeartbeats 1000000 in
theorem same_str (v v' : Value) (L : List Nm) (w : World) (hm : L.length ≤ 1000) (ho : OwnSl w 9 1 v L.length (L.map encStr)) (ho' : OwnSl w 9 1 v' L.length (L.map encStr)) :
    Calls Try.prog 48 #[v, v', .func (.func 49) #[] #[]] w fun e w' => e = .returned (.bool true) ∧ ∃ n, w' = w.drewN n := by
  have hcell : ∀ (x : Value) (p : Option Addr) (c : Nat), x = .slice p L.length c → OwnSl w 9 1 x L.length (L.map encStr) → ∀ k (h : k < L.length), ∃ b off, p = some ⟨b, off, none⟩ ∧ w.cell? ⟨b, off + k, none⟩ = some (.string ⟨L[k].toArray⟩) := by
    intro x p c hx ho k h
    subst hx
    have ho1 := ho
    rcases ho.2 with ⟨_, h0⟩ | ⟨g, off, cap, cur, hv, _⟩
    · omega
    · simp only [Value.slice.injEq] at hv
      refine ⟨g, off, hv.1, ?_⟩
      rw [hv.1] at ho1
      exact ho1.cells k _ (by simp [h])
  obtain ⟨p, c, hv⟩ := ho.form
  obtain ⟨p', c', hv'⟩ := ho'.form
  have h1 := hcell v p c hv ho
  have h2 := hcell v' p' c' hv' ho'
  have H1 := hide h1
  have H2 := hide h2
  subst hv hv'
  clear hcell h1 h2 ho ho'
  go_enter Try.func48, Try.ntmps48
  go_wp2
  go_loopw [7] (fun i wr => ∃ k : Nat, k ≤ L.length ∧ i = .int .i64 k ∧ Hid (∃ m, wr = w.drewN m)) (fun i _ => L.length - (intOf i).toNat)
  case atStart => exact ⟨0, Nat.zero_le _, rfl, hide ⟨0, rfl⟩⟩
  case round =>
    obtain ⟨k, hk, rfl, hwr⟩ := hrel
    by_cases hlt : k < L.length
    · obtain ⟨b, off, rfl, q1⟩ := unhide H1 k hlt
      obtain ⟨b', off', rfl, q2⟩ := unhide H2 k hlt
      have q1 : wr.cell? ⟨b, off + k, none⟩ = some (.string ⟨L[k].toArray⟩) := by obtain ⟨m, rfl⟩ := unhide hwr; exact q1
      have q2 : wr.cell? ⟨b', off' + k, none⟩ = some (.string ⟨L[k].toArray⟩) := by obtain ⟨m, rfl⟩ := unhide hwr; exact q2
      generalize (⟨L[k].toArray⟩ : ByteArray) = a at *
      go_wp2
      go_quiet ((go_at_call 49; exact Calls.quiet_of_same (one_str _ _ _ (by simp))))
      go_wp2
      refine ⟨⟨k + 1, by omega, by go_num, hide ?_⟩, by simp [intOf]; omega⟩
      obtain ⟨m, rfl⟩ := unhide hwr
      exact ⟨m + nq, drewN_more w m nq⟩
    · go_wp2
      go_ret
      exact ⟨rfl, unhide hwr⟩
set_option maxHeartbeats 400000 in
theorem plain_str (v v' : Value) (L : List Nm) (w : World) (hm : L.length ≤ 1000) (ho : OwnSl w 9 1 v L.length (L.map encStr)) (ho' : OwnSl w 9 1 v' L.length (L.map encStr)) :
    Calls Try.prog 21 #[v, v'] w fun e w' => e = .returned (.bool true) ∧ ∃ n, w' = w.drewN n := by
  go_enter Try.func21, Try.ntmps21
  go_wp2_with fail
  refine (same_str v v' L _ hm ho ho').mono ?_
  rintro e w' ⟨rfl, n, hw'⟩
  subst hw'
  go_wp2
  go_ret
  exact ⟨rfl, n, rfl⟩

set_option maxHeartbeats 400000 in
theorem spoil_some (b off n c : Nat) (w : World) (hc : ∃ cur T, w.heap[b]? = some (.cells cur T (0, 0)) ∧ ∀ j, j < n → ∃ z, cur[off + j]? = some (.int .u8 z)) (hn : n ≤ maxLen) :
    Calls Try.prog 38 #[.slice (some ⟨b, off, none⟩) n c] w fun e w' => (∃ v, e = .returned v) ∧ Turn (fun j => j = b) w w' := by
  unfold maxLen at hn
  go_enter Try.func38, Try.ntmps38
  go_wp2_with fail
  go_loopw [2] (fun i wr => ∃ k : Nat, k ≤ n ∧ i = .int .i64 (k : Int) ∧ Hid (∃ cur T, wr.heap[b]? = some (.cells cur T (0, 0)) ∧ ∀ j, j < n → ∃ z, cur[off + j]? = some (.int .u8 z)) ∧ Hid (Turn (fun j => j = b) w wr)) (fun i _ => n - (intOf i).toNat)
  case atStart => exact ⟨0, Nat.zero_le _, rfl, hide hc, hide (Turn.refl _ _)⟩
  case round =>
    obtain ⟨k, hk, rfl, hcur, hturn⟩ := hrel
    by_cases hlt : k < n
    · obtain ⟨cur, T, hg, hz⟩ := unhide hcur
      obtain ⟨z, hzk⟩ := hz k hlt
      have hcell : wr.cell? ⟨b, off + k, none⟩ = some (.int .u8 z) := (cell_obj hg _).trans hzk
      have hfr := frozen_obj hg (off + k)
      have hnext : Hid (∃ cur T, (wr.setCell ⟨b, off + k, none⟩ (.int .u8 (bits .xor .u8 z 85))).heap[b]? = some (.cells cur T (0, 0)) ∧ ∀ j, j < n → ∃ z, cur[off + j]? = some (.int .u8 z)) := by
        refine hide ⟨_, T, heap_setCell_obj hg _, fun j hj => ?_⟩
        by_cases e : j = k
        · subst e
          have hlt2 := (Array.getElem?_eq_some_iff.1 hzk).1
          exact ⟨bits .xor .u8 z 85, by simp [hlt2]⟩
        · obtain ⟨y, hy⟩ := hz j hj
          refine ⟨y, ?_⟩
          rw [Array.getElem?_setIfInBounds_ne (by omega)]; exact hy
      have hturn2 : Hid (Turn (fun j => j = b) w (wr.setCell ⟨b, off + k, none⟩ (.int .u8 (bits .xor .u8 z 85)))) := hide ((unhide hturn).then (setRow wr b (off + k) _))
      clear hg hz hcur hturn hzk
      go_wp2
      exact ⟨⟨k + 1, by omega, by go_num, hnext, hturn2⟩, by simp [intOf]; omega⟩
    · go_wp2
      go_end0
      exact ⟨⟨_, rfl⟩, unhide hturn⟩
set_option maxHeartbeats 400000 in
theorem spoil_none (a : Option Addr) (c : Nat) (w : World) :
    Calls Try.prog 38 #[.slice a 0 c] w fun e w' => (∃ v, e = .returned v) ∧ w' = w := by
  go_enter Try.func38, Try.ntmps38
  go_wp2_with fail
  refine wp_loop_rounds 1 ?_; rw [rounds_succ]
  go_wp2
  go_end0
  exact ⟨⟨_, rfl⟩, rfl⟩
theorem spoil_any (P : Nat → Prop) (v : Value) (zs : List Int) (w : World) (hr : Row .u8 (fun b => P b ∧ Free w b) w v zs) :
    Calls Try.prog 38 #[v] w fun e w' => (∃ v, e = .returned v) ∧ Turn P w w' := by
  rcases hr with ⟨a, c, rfl, _, _, rfl⟩ | ⟨b, off, c, rfl, h1, h2, ⟨hB, cur, T, hg⟩, h4⟩
  · exact (spoil_none a c w).mono fun e w' ⟨he, hw⟩ => ⟨he, by rw [hw]; exact Turn.refl _ _⟩
  · refine (spoil_some b off zs.length c w ⟨cur, T, hg, fun j hj => ⟨zs.getD j 0, ?_⟩⟩ (by omega)).mono fun e w' ⟨he, hw⟩ => ⟨he, hw.mono (fun j h => by subst h; exact hB)⟩
    rw [← cell_obj hg]; exact h4 j hj
theorem free_of_sl {w : World} {e : TypeId} {v : Value} {k : IntKind} {ys : List Int} (h : OwnSl w e 1 v ys.length (ys.map (Value.int k))) : Row k (fun b => v.ownBlock = some b ∧ Free w b) w v ys := by
  rcases row_of_sl h with h' | ⟨b, off, c, hv, h1, h2, h3, h4⟩
  · exact .inl h'
  · obtain ⟨cur, hc⟩ := h.lt b h3
    exact .inr ⟨b, off, c, hv, h1, h2, ⟨h3, cur, e, hc⟩, h4⟩
end Go.Proofs.Ythpfdgjpmooclaa
