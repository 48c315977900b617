/- What Open asks of a disk whose files were touched: bytes, and names whose numbers can be read. -/
import Derived.Test.YthikiahhochjmaaGreatDoorJBadP
namespace Go.Proofs.YthikiahhochjmaaGreatDoor
open Go.RowKit Go.Maps Go.Sort
set_option linter.unusedVariables false
set_option linter.unusedSimpArgs false

def FsBytes (S : Dk) : Prop := ∀ x ∈ S.fs, Bytes x.d
theorem frames_bytes : ∀ {l : List (List Int)}, (∀ b ∈ l, Bytes b) → Bytes (frames l)
  | [], _ => fun x hx => by simp [frames] at hx
  | b :: l, h => by
    rw [frames_cons]
    intro x hx
    rcases List.mem_append.1 hx with hx | hx
    · exact packB_bytes (h b (by simp)) x hx
    · exact frames_bytes (fun y hy => h y (by simp [hy])) x hx
theorem hold_bytes {S : Dk} {segs : List Sg} {m : Nat} (h : Hold S segs m) (hb : ∀ b ∈ recsOf segs, Bytes b) : FsBytes S := by
  intro x hx
  rw [h.fs] at hx
  have hg : ∀ s ∈ segs, Bytes (frames s.recs) := fun s hs => frames_bytes (fun b hbs => hb b (List.mem_flatMap.2 ⟨s, hs, hbs⟩))
  rcases snoc_of segs with rfl | ⟨l, s, rfl⟩
  · simp [filesG] at hx
  · rw [filesG_snoc] at hx
    rcases List.mem_append.1 hx with hx | hx
    · obtain ⟨t, ht, rfl⟩ := List.mem_map.1 hx
      exact hg t (List.mem_append_left _ ht)
    · simp at hx
      rw [hx]
      exact hg s (by simp)
theorem bytes_remove {S : Dk} (n : Nm) (h : FsBytes S) : FsBytes (removeS S n) := by
  unfold removeS
  split
  · exact h
  · split
    · exact h
    · split
      · intro x hx; rw [hitS_files] at hx; exact h x hx
      · intro x hx; exact h x (mem_delK.1 hx).1
theorem bytes_cut {S : Dk} (n : Nm) (z : Int) (h : FsBytes S) : FsBytes (cutS S n z) := by
  unfold cutS
  split
  · exact h
  · split
    · exact h
    · rename_i f hf
      split
      · exact h
      · split
        · intro x hx; rw [hitS_files] at hx; exact h x hx
        · intro x hx
          rcases mem_putK.1 hx with rfl | hx
          · intro y hy; exact h f (getK_some hf).1 y (List.mem_of_mem_take hy)
          · exact h x hx.1
theorem bytes_append {S : Dk} (n : Nm) {b : List Int} (hb : Bytes b) (h : FsBytes S) : FsBytes (appendS S n b) := by
  have ha : FsBytes (appS S n b) := by
    intro x hx
    rcases mem_putK.1 hx with rfl | hx
    · intro y hy
      rcases List.mem_append.1 hy with hy | hy
      · unfold fileOf at hy
        cases hg : getK Fl.n n S.fs with
        | none => rw [hg] at hy; simp at hy
        | some f => rw [hg] at hy; exact h f (getK_some hg).1 y hy
      · exact hb y hy
    · exact h x hx.1
  unfold appendS
  split
  · exact h
  · split
    · exact h
    · intro x hx; rw [hitS_files] at hx; exact ha x hx
/-- a disk's names, behind each call, are elder ones, or the one that is named -/
def NamesIn (S S' : Dk) (n : Nm) : Prop := ∀ y ∈ S'.fs, y.n = n ∨ ∃ x ∈ S.fs, x.n = y.n
theorem names_remove (S : Dk) (n : Nm) : NamesIn S (removeS S n) n := by
  unfold removeS
  split
  · exact fun y hy => .inr ⟨y, hy, rfl⟩
  · split
    · exact fun y hy => .inr ⟨y, hy, rfl⟩
    · split
      · intro y hy; rw [hitS_files] at hy; exact .inr ⟨y, hy, rfl⟩
      · intro y hy; exact .inr ⟨y, (mem_delK.1 hy).1, rfl⟩
theorem names_cut (S : Dk) (n : Nm) (z : Int) : NamesIn S (cutS S n z) n := by
  unfold cutS
  split
  · exact fun y hy => .inr ⟨y, hy, rfl⟩
  · split
    · exact fun y hy => .inr ⟨y, hy, rfl⟩
    · split
      · exact fun y hy => .inr ⟨y, hy, rfl⟩
      · split
        · intro y hy; rw [hitS_files] at hy; exact .inr ⟨y, hy, rfl⟩
        · intro y hy
          rcases mem_putK.1 hy with rfl | hy
          · exact .inl rfl
          · exact .inr ⟨y, hy.1, rfl⟩
theorem names_append (S : Dk) (n : Nm) (b : List Int) : NamesIn S (appendS S n b) n := by
  unfold appendS
  split
  · exact fun y hy => .inr ⟨y, hy, rfl⟩
  · split
    · exact fun y hy => .inr ⟨y, hy, rfl⟩
    · intro y hy
      rw [hitS_files] at hy
      rcases mem_putK.1 hy with rfl | hy
      · exact .inl rfl
      · exact .inr ⟨y, hy.1, rfl⟩
/-- what Open asks of the names -/
theorem numbers_in {w : World} {S S' : Dk} {segs : List Sg} {m : Nat} {n : Nm} (h : Hold S segs m) (hl : ∀ s ∈ segs, s.first < 100) (hin : NamesIn S S' n)
    (hn : ∀ u : World, Turn (fun _ => False) w u → Calls Tryz.prog 65 #[.string ⟨n.toArray⟩] u fun e w' => e = .returned (numR n) ∧ Turn (fun _ => False) u w') (hv : markB n = true → ∀ v, numOf n = some v → v < 100) :
    Numbers w (namesL S') ∧ ∀ x ∈ namesL S', markB x = true → ∀ v, numOf x = some v → v < 100 := by
  have hold : ∀ x ∈ namesL S', x = n ∨ ∃ f, f < 100 ∧ x = nameS f := by
    intro x hx
    unfold namesL at hx
    split at hx
    · cases hx
    · obtain ⟨y, hy, rfl⟩ := List.mem_map.1 hx
      rcases hin y hy with e | ⟨z, hz, e⟩
      · exact .inl e
      · right
        rw [h.fs] at hz
        obtain ⟨s, hs, es⟩ := filesG_mem hz
        exact ⟨s.first, hl s hs, by rw [← e, es]⟩
  refine ⟨fun x hx u hu => ?_, fun x hx hm v hv2 => ?_⟩
  · rcases hold x hx with rfl | ⟨f, hf, rfl⟩
    · exact hn u hu
    · exact number_ok f (by omega) u
  · rcases hold x hx with rfl | ⟨f, hf, rfl⟩
    · exact hv hm v hv2
    · rw [num_nameS f (by omega)] at hv2
      cases hv2; exact hf
/-- the disk beside a journal -/
theorem disk_of {w : World} {H : Nat → Prop} {J D : Nat} {X : Jn} {S : Dk} (h : JAt w H J D X S) : ∃ F, DAt w D F S ∧ ∀ j, F j → H j := by
  obtain ⟨F, G, sv, E, d, m, hn, hF, hG⟩ := h
  exact ⟨F, d, fun j hj => (hF j hj).1⟩
end Go.Proofs.YthikiahhochjmaaGreatDoor
