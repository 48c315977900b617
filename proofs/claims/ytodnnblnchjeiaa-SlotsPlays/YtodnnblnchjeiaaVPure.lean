/- Plain facts of two files in turn: their names, what each call of slots makes of them and of their disk. -/
import Derived.Test.YtodnnblnchjeiaaDPure
import Derived.Test.YtodnnblnchjeiaaFPure
namespace Go.Proofs.Ytodnnblnchjeiaa
set_option linter.unusedVariables false
set_option linter.unusedSimpArgs false

/-- the file in which a number stands -/
def nmV (n : Nat) : Nm := if n % 2 = 0 then [115, 48] else [115, 49]
theorem nmV_two (n : Nat) : nmV n = [115, 48] ∨ nmV n = [115, 49] := by unfold nmV; split <;> simp
theorem nmV_ne (n : Nat) : nmV n ≠ nmV (n + 1) := by
  unfold nmV
  by_cases h : n % 2 = 0
  · rw [if_pos h, if_neg (by omega)]; decide
  · rw [if_neg h, if_pos (by omega)]; decide
theorem nmV_good (n : Nat) : goodB (nmV n) = true := by rcases nmV_two n with h | h <;> rw [h] <;> decide
theorem nmV_one (n : Nat) (m : Nm) (h : m = [115, 48] ∨ m = [115, 49]) : m = nmV n ∨ m = nmV (n + 1) := by
  unfold nmV
  by_cases hn : n % 2 = 0
  · rw [if_pos hn, if_neg (by omega)]; exact h
  · rw [if_neg hn, if_pos (by omega)]; exact h.symm
theorem refuse_nmV {S : Dk} (hd : S.down = false) (n : Nat) : refuse S (nmV n) = 0 := by unfold refuse; rw [hd, nmV_good]; rfl

/-! ### What is kept under a name -/
theorem get_put {l : List Fl} (f : Fl) (hr : Rise Fl.n l) (n : Nm) : getK Fl.n n (putK Fl.n f l) = if n = f.n then some f else getK Fl.n n l := by
  have h1 : Rise Fl.n (putK Fl.n f l) := hr.put
  by_cases h : n = f.n
  · rw [if_pos h, h]
    exact getK_of_mem h1 (mem_putK.2 (.inl rfl))
  · rw [if_neg h]
    cases hg : getK Fl.n n l with
    | none =>
      cases hp : getK Fl.n n (putK Fl.n f l) with
      | none => rfl
      | some g =>
        obtain ⟨h2, h3⟩ := getK_some hp
        rcases mem_putK.1 h2 with rfl | ⟨h4, _⟩
        · exact absurd h3.symm h
        · exact absurd h3 (getK_none hg g h4)
    | some g =>
      obtain ⟨h2, h3⟩ := getK_some hg
      rw [← h3]
      exact getK_of_mem h1 (mem_putK.2 (.inr ⟨h2, by rw [h3]; exact h⟩))
theorem get_del {l : List Fl} (hr : Rise Fl.n l) (m n : Nm) : getK Fl.n n (delK Fl.n m l) = if n = m then none else getK Fl.n n l := by
  have h1 : Rise Fl.n (delK Fl.n m l) := hr.del m
  by_cases h : n = m
  · rw [if_pos h]
    cases hp : getK Fl.n n (delK Fl.n m l) with
    | none => rfl
    | some g =>
      obtain ⟨h2, h3⟩ := getK_some hp
      exact absurd (h3.trans h) (mem_delK.1 h2).2
  · rw [if_neg h]
    cases hg : getK Fl.n n l with
    | none =>
      cases hp : getK Fl.n n (delK Fl.n m l) with
      | none => rfl
      | some g =>
        obtain ⟨h2, h3⟩ := getK_some hp
        exact absurd h3 (getK_none hg g (mem_delK.1 h2).1)
    | some g =>
      obtain ⟨h2, h3⟩ := getK_some hg
      rw [← h3]
      exact getK_of_mem h1 (mem_delK.2 ⟨h2, by rw [h3]; exact h⟩)
theorem get_fall (keep : List Int) (n : Nm) : ∀ (l : List Fl) (k : Nat), Rise Fl.n l →
    ∃ x, getK Fl.n n (fallL keep k l) = match getK Fl.n n l with | none => none | some f => if (fallD f x).length = 0 then none else some (fallF f x)
  | [], k, _ => ⟨0, rfl⟩
  | f :: r, k, hr => by
    have hr' := hr
    unfold Rise at hr'
    rw [List.pairwise_cons] at hr'
    have htl : Rise Fl.n r := hr'.2
    obtain ⟨x, hx⟩ := get_fall keep n r (k + 1) htl
    by_cases h : f.n = n
    · refine ⟨turnK keep k, ?_⟩
      have e1 : getK Fl.n n (f :: r) = some f := by rw [← h]; exact getK_of_mem hr (by simp)
      have e2 : getK Fl.n n r = none := by
        cases hg : getK Fl.n n r with
        | none => rfl
        | some g =>
          obtain ⟨h2, h3⟩ := getK_some hg
          exact absurd (h.trans h3.symm) (before_ne (hr'.1 g h2))
      rw [e2] at hx
      rw [e1]
      simp only [fallL]
      split
      · exact hx
      · have hrf := rise_fall (keep := keep) (k := k) hr
        simp only [fallL] at hrf
        rename_i h0
        rw [if_neg h0] at hrf
        have : n = (fallF f (turnK keep k)).n := h.symm
        rw [this]
        exact getK_of_mem hrf (by simp)
    · refine ⟨x, ?_⟩
      have e1 : getK Fl.n n (f :: r) = getK Fl.n n r := by
        unfold getK; rw [List.find?_cons_of_neg (by simpa using h)]
      rw [e1, ← hx]
      simp only [fallL]
      split
      · rfl
      · unfold getK; rw [List.find?_cons_of_neg (by simpa [fallF] using h)]
theorem fall_safe {f : Fl} (h : f.s = f.d.length) (x : Int) : fallD f x = f.d := by
  have := keepN_le f x
  unfold fallD
  rw [if_pos (by omega)]

/-! ### A slot -/
def wideV : Nat := 18446744073709551615
/-- what a frame of the file of such numbers carries -/
def parseV (c : List Int) (r : Nat) : Int × Nat × List Int :=
  if (smallT wideV c 0).1 = 0 ∨ (smallT wideV c 0).1 % 2 ≠ r then (12, 0, []) else (0, (smallT wideV c 0).1, c.drop (c.length - (smallT wideV c 0).2.1.length))
/-- what a file's bytes are -/
def bytesV (b : List Int) (r : Nat) : Int × Nat × List Int :=
  if (takeT b).2.2 = 0 then parseV (takeT b).1 r else if (takeT b).2.2 = 6 ∨ (takeT b).2.2 = 9 then (0, 0, []) else (12, 0, [])
def readV (S : Dk) (r : Nat) : Int × Nat × List Int :=
  if readC S (nmV r) = 6 then (0, 0, []) else if readC S (nmV r) ≠ 0 then (readC S (nmV r), 0, []) else bytesV (readD S (nmV r)) r
def pickV (a b : Nat × List Int) : Nat × List Int := if a.1 < b.1 then b else a
def openV (S : Dk) : Int × Nat × List Int :=
  if (readV S 0).1 ≠ 0 then ((readV S 0).1, 0, []) else if (readV S 1).1 ≠ 0 then ((readV S 1).1, 0, []) else (0, pickV (pickV (0, []) (readV S 0).2) (readV S 1).2)

/-- slots: the last one's number and bytes -/
structure Sl where
  n : Nat
  d : List Int
  down : Bool
def thereV (e : Int) : Int := if e = 6 then 0 else e
def fitsV (S : Dk) (n : Nat) (p : List Int) : Bool := decide (appendC (removeS (armS S 0) (nmV n)) (nmV n) p = 0)
/-- a frame is laid into the file of a number behind n -/
def layV (S : Dk) (n : Nat) (p : List Int) : Int × Dk :=
  if thereV (syncC S (nmV n)) ≠ 0 then (syncC S (nmV n), syncS S (nmV n)) else
  if thereV (removeC (syncS S (nmV n)) (nmV (n + 1))) ≠ 0 then (removeC (syncS S (nmV n)) (nmV (n + 1)), removeS (syncS S (nmV n)) (nmV (n + 1))) else
  if appendC (removeS (syncS S (nmV n)) (nmV (n + 1))) (nmV (n + 1)) p ≠ 0 then (appendC (removeS (syncS S (nmV n)) (nmV (n + 1))) (nmV (n + 1)) p, appendS (removeS (syncS S (nmV n)) (nmV (n + 1))) (nmV (n + 1)) p) else
  (syncC (appendS (removeS (syncS S (nmV n)) (nmV (n + 1))) (nmV (n + 1)) p) (nmV (n + 1)), syncS (appendS (removeS (syncS S (nmV n)) (nmV (n + 1))) (nmV (n + 1)) p) (nmV (n + 1)))
def frameV (n : Nat) (b : List Int) : List Int := packB (numB n ++ b)
def saveV (X : Sl) (S : Dk) (b : List Int) : Int × Sl × Dk :=
  if X.down = true ∨ S.down = true then (3, { X with down := true }, S)
  else if 1048576 < (numB (X.n + 1) ++ b).length then (4, X, S)
  else if fitsV S (X.n + 1) (frameV (X.n + 1) b) = false then (4, X, S)
  else if (layV S X.n (frameV (X.n + 1) b)).1 ≠ 0 then ((layV S X.n (frameV (X.n + 1) b)).1, { X with down := decide ((layV S X.n (frameV (X.n + 1) b)).1 = 3) }, (layV S X.n (frameV (X.n + 1) b)).2)
  else (0, ⟨X.n + 1, b, X.down⟩, (layV S X.n (frameV (X.n + 1) b)).2)

theorem small_num (n : Nat) (b : List Int) (h : n < 18446744073709551616) : smallT wideV (numB n ++ b) 0 = (n, b, 0) := by
  unfold smallT
  rw [if_neg (by simp), dec_zero n b h, if_neg (by simp), if_neg (by unfold wideV; simp only; omega)]
  simp
theorem bytes_frame (n : Nat) (b : List Int) (h0 : 0 < n) (h : n < 18446744073709551616) (hl : (numB n ++ b).length ≤ 1048576) (r : Nat) (hr : n % 2 = r) : bytesV (frameV n b) r = (0, n, b) := by
  have ht := take_pack (numB n ++ b) [] hl
  rw [List.append_nil] at ht
  unfold bytesV frameV
  rw [ht]
  simp only [if_true]
  unfold parseV
  rw [small_num n b h]
  simp only
  rw [if_neg (by omega)]
  rw [show (numB n ++ b).length - b.length = (numB n).length by rw [List.length_append]; omega, List.drop_left' rfl]
end Go.Proofs.Ytodnnblnchjeiaa
