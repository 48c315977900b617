/- Plain facts on numbers as bytes, seven bits each: what a number's bytes are, what bytes begin with, and that both fit. Nothing of the program is named here. Networks, plain: arcs, their order, sorting by halves and by gathering, their bytes. Nothing of the program is named here. A heap in a list, with the places of things beside it: plain. Distances, plain: ways, a search by rising ranks, going over all arcs. Nothing of the program is named here. Small helpers that all walks over this program share: endings, worlds that turn at some blocks alone, rows of numbers, appending to a row of one's own, cutting a row. Slices that own their rows; elements that are read; rows of any size appended, cut, written. -/
import Derived.WalkKit
import Derived.Laws.BitsAllLaws
import Derived.Laws.Bits64
import Derived.Laws.Wrap64
import Derived.Test.YtombpfpfeebnpaaChecked
import Derived.WalkLawsBesides
import Derived.Deep.QuietTactic
import Derived.BigQuiet
import Derived.Maps.OwnOps
import Derived.ArgAppend
namespace Go.Proofs.Ytombpfpfeebnpaa
set_option linter.unusedVariables false

/-- the bytes of a number: so many at most -/
def numF : Nat → Nat → List Int
  | 0, _ => []
  | f + 1, v => if v < 128 then [(v : Int)] else ((v % 128 + 128 : Nat) : Int) :: numF f (v / 128)
theorem numF_more : ∀ (f g v : Nat), v < f → v < g → numF f v = numF g v
  | 0, _, _, h, _ => by omega
  | _ + 1, 0, _, _, h => by omega
  | f + 1, g + 1, v, h, k => by
    unfold numF
    split
    · rfl
    · rw [numF_more f g (v / 128) (by omega) (by omega)]
/-- the bytes of a number -/
def numB (v : Nat) : List Int := numF (v + 1) v

theorem numB_low {v : Nat} (h : v < 128) : numB v = [(v : Int)] := by unfold numB numF; rw [if_pos h]
theorem numB_high {v : Nat} (h : 128 ≤ v) : numB v = ((v % 128 + 128 : Nat) : Int) :: numB (v / 128) := by
  have e : numB v = ((v % 128 + 128 : Nat) : Int) :: numF v (v / 128) := by unfold numB; rw [numF, if_neg (by omega)]
  rw [e, numF_more v (v / 128 + 1) (v / 128) (by omega) (by omega)]; rfl

def Bytes (xs : List Int) : Prop := ∀ x ∈ xs, 0 ≤ x ∧ x < 256

theorem numB_bytes : ∀ v : Nat, Bytes (numB v) := by
  intro v
  induction v using Nat.strongRecOn with
  | ind v ih =>
    by_cases h : v < 128
    · rw [numB_low h]; intro x hx; simp at hx; omega
    · rw [numB_high (by omega)]
      intro x hx
      rcases List.mem_cons.1 hx with rfl | hx
      · omega
      · exact ih (v / 128) (by omega) x hx

theorem numB_pos : ∀ v : Nat, 1 ≤ (numB v).length := by
  intro v
  by_cases h : v < 128
  · rw [numB_low h]; simp
  · rw [numB_high (by omega)]; simp

theorem numB_len : ∀ (k v : Nat), v < 128 ^ (k + 1) → (numB v).length ≤ k + 1
  | 0, v, h => by rw [numB_low (by simpa using h)]; simp
  | k + 1, v, h => by
    by_cases hv : v < 128
    · rw [numB_low hv]; simp
    · rw [numB_high (by omega), List.length_cons]
      have := numB_len k (v / 128) (by rw [Nat.div_lt_iff_lt_mul (by omega), ← Nat.pow_succ]; exact h)
      omega
theorem numB_ten (v : Nat) (h : v < 18446744073709551616) : (numB v).length ≤ 10 := numB_len 9 v (by omega)

theorem numB_mono : ∀ (b a : Nat), a ≤ b → (numB a).length ≤ (numB b).length := by
  intro b
  induction b using Nat.strongRecOn with
  | ind b ih =>
    intro a h
    by_cases ha : a < 128
    · rw [numB_low ha]; exact numB_pos b
    · rw [numB_high (show 128 ≤ a by omega), numB_high (show 128 ≤ b by omega)]
      have := ih (b / 128) (by omega) (a / 128) (Nat.div_le_div_right h)
      simp; omega

/-- what bytes begin with: the number, how many bytes it has, the fault's number; i bytes are behind already, which are v -/
def dec : Nat → Nat → List Int → Nat × Nat × Int
  | i, v, [] => (0, 0, 9)
  | i, v, x :: r =>
    if i = 9 ∧ 1 < x then (0, 0, 10)
    else if 128 ≤ x then dec (i + 1) (v + x.toNat % 128 * 128 ^ i) r
    else if x = 0 ∧ 0 < i then (0, 0, 10)
    else (v + x.toNat * 128 ^ i, i + 1, 0)

theorem pow9 : 128 ^ 9 = 9223372036854775808 := by decide
theorem pow_le9 {i : Nat} (h : i ≤ 9) : 128 ^ i ≤ 9223372036854775808 := by rw [← pow9]; exact Nat.pow_le_pow_right (by omega) h
theorem pow_le8 {i : Nat} (h : i ≤ 8) : 128 ^ i ≤ 72057594037927936 := by
  have : 128 ^ i ≤ 128 ^ 8 := Nat.pow_le_pow_right (by omega) h
  simpa using this
theorem pow_gt0 (i : Nat) : 0 < 128 ^ i := Nat.pow_pos (by omega)

theorem dec_num : ∀ (v i a : Nat) (r : List Int), i ≤ 9 → v * 128 ^ i < 18446744073709551616 → (0 < i → 0 < v) → dec i a (numB v ++ r) = (a + v * 128 ^ i, i + (numB v).length, 0) := by
  intro v
  induction v using Nat.strongRecOn with
  | ind v ih =>
    intro i a r hi hv hp
    by_cases h : v < 128
    · rw [numB_low h]
      show (if i = 9 ∧ (1 : Int) < (v : Int) then _ else _) = _
      rw [if_neg (by
        rintro ⟨rfl, h1⟩
        rw [pow9] at hv; omega), if_neg (by omega), if_neg (by
        rintro ⟨h1, h2⟩
        have := hp h2; omega)]
      simp
    · have hi9 : i ≠ 9 := by rintro rfl; rw [pow9] at hv; omega
      have hs : v / 128 * 128 ^ (i + 1) ≤ v * 128 ^ i := by
        rw [Nat.pow_succ, Nat.mul_comm (128 ^ i) 128, ← Nat.mul_assoc]
        exact Nat.mul_le_mul_right _ (by omega)
      rw [numB_high (by omega)]
      show (if i = 9 ∧ (1 : Int) < ((v % 128 + 128 : Nat) : Int) then _ else _) = _
      rw [if_neg (by omega), if_pos (by omega), show dec (i + 1) (a + ((v % 128 + 128 : Nat) : Int).toNat % 128 * 128 ^ i) (List.append (numB (v / 128)) r) = _ from ih (v / 128) (by omega) (i + 1) _ r (by omega) (by omega) (by omega)]
      have e1 : ((v % 128 + 128 : Nat) : Int).toNat % 128 = v % 128 := by omega
      have e2 : v % 128 * 128 ^ i + v / 128 * 128 ^ (i + 1) = v * 128 ^ i := by
        rw [Nat.pow_succ, Nat.mul_comm (128 ^ i) 128, ← Nat.mul_assoc, ← Nat.add_mul]
        congr 1; omega
      rw [e1, Nat.add_assoc, e2, List.length_cons]
      congr 2; omega

theorem dec_zero (v : Nat) (r : List Int) (h : v < 18446744073709551616) : dec 0 0 (numB v ++ r) = (v, (numB v).length, 0) := by
  rw [dec_num v 0 0 r (by omega) (by simpa using h) (by omega)]; simp

/-- bytes that are read are the number's own -/
theorem dec_form : ∀ (zs : List Int) (i a y n : Nat), Bytes zs → i ≤ 9 → dec i a zs = (y, n, 0) →
    ∃ u m, y = a + u * 128 ^ i ∧ n = i + m ∧ zs.take m = numB u ∧ (0 < i → 0 < u) ∧ u * 128 ^ i < 18446744073709551616 ∧ m ≤ zs.length ∧ 0 < m ∧ n ≤ 10
  | [], i, a, y, n, hb, hi, h => by simp [dec] at h
  | x :: r, i, a, y, n, hb, hi, h => by
    have hx := hb x (by simp)
    unfold dec at h
    split at h
    · simp at h
    rename_i h9
    split at h
    · rename_i h128
      obtain ⟨u, m, h1, h2, h3, h4, h5, h6, h7, h8⟩ := dec_form r (i + 1) _ y n (fun z hz => hb z (by simp [hz])) (by omega) h
      have hu := h4 (by omega)
      have e : x.toNat % 128 * 128 ^ i + u * 128 ^ (i + 1) = (x.toNat % 128 + 128 * u) * 128 ^ i := by
        rw [Nat.pow_succ, Nat.mul_comm (128 ^ i) 128, ← Nat.mul_assoc, ← Nat.add_mul, Nat.mul_comm u 128]
      refine ⟨x.toNat % 128 + 128 * u, m + 1, by rw [h1, Nat.add_assoc, e], by omega, ?_, by omega, ?_, by simp; omega, by omega, h8⟩
      · rw [List.take_succ_cons, numB_high (by omega), h3]
        congr 1
        · omega
        · congr 1; omega
      · rw [← e]
        have h10 := pow_le8 (show i ≤ 8 by omega)
        have hdiv : 128 ^ (i + 1) ∣ 18446744073709551616 ∨ i = 8 := by
          rcases Nat.lt_or_ge i 8 with hl | hl
          · left
            match i, hl with
            | 0, _ => decide
            | 1, _ => decide
            | 2, _ => decide
            | 3, _ => decide
            | 4, _ => decide
            | 5, _ => decide
            | 6, _ => decide
            | 7, _ => decide
          · right; omega
        have hlt : x.toNat % 128 * 128 ^ i < 128 ^ (i + 1) := by
          rw [Nat.pow_succ, Nat.mul_comm (128 ^ i) 128]
          exact Nat.mul_lt_mul_of_pos_right (by omega) (pow_gt0 i)
        have hd2 : 128 ^ (i + 1) ∣ 18446744073709551616 := by
          rcases hdiv with h | rfl
          · exact h
          · exact ⟨2, by decide⟩
        obtain ⟨q, hq⟩ := hd2
        rw [hq] at h5 ⊢
        have hp1 := pow_gt0 (i + 1)
        rw [Nat.mul_comm u] at h5 ⊢
        have hu2 : u < q := Nat.lt_of_mul_lt_mul_left h5
        have : 128 ^ (i + 1) * (u + 1) ≤ 128 ^ (i + 1) * q := Nat.mul_le_mul_left _ hu2
        rw [Nat.mul_add, Nat.mul_one] at this
        omega
    · rename_i h128
      split at h
      · simp at h
      rename_i h0
      simp only [Prod.mk.injEq] at h
      obtain ⟨rfl, rfl, _⟩ := h
      refine ⟨x.toNat, 1, rfl, rfl, ?_, by omega, ?_, by simp, by omega, by omega⟩
      · rw [numB_low (by omega)]; simp; omega
      · rcases Nat.lt_or_ge i 9 with hl | hl
        · have h10 := pow_le8 (show i ≤ 8 by omega)
          exact Nat.lt_of_le_of_lt (Nat.mul_le_mul (show x.toNat ≤ 127 by omega) h10) (by decide)
        · have h9' : i = 9 := by omega
          subst h9'
          rw [pow9]; omega

theorem dec_ok {zs : List Int} {y n : Nat} (hb : Bytes zs) (h : dec 0 0 zs = (y, n, 0)) : zs.take n = numB y ∧ y < 18446744073709551616 ∧ n ≤ zs.length ∧ 0 < n ∧ n ≤ 10 := by
  obtain ⟨u, m, h1, h2, h3, _, h5, h6, h7, h8⟩ := dec_form zs 0 0 y n hb (by omega) h
  simp at h1 h2 h5
  subst h1 h2
  exact ⟨h3, h5, h6, h7, h8⟩

/-- a fault leaves nothing else -/
theorem dec_fault : ∀ (zs : List Int) (i a : Nat), (dec i a zs).2.2 ≠ 0 → dec i a zs = (0, 0, (dec i a zs).2.2)
  | [], i, a, h => by simp [dec]
  | x :: r, i, a, h => by
    unfold dec at h ⊢
    split
    · rfl
    · rename_i h1
      rw [if_neg h1] at h
      split
      · rename_i h2
        rw [if_pos h2] at h
        exact dec_fault r _ _ h
      · rename_i h2
        rw [if_neg h2] at h
        split
        · rfl
        · rename_i h3
          rw [if_neg h3] at h
          simp at h

/-- a number without its last byte ends too early -/
theorem dec_cut : ∀ (v i a : Nat), v * 128 ^ i < 18446744073709551616 → i ≤ 9 → dec i a (numB v).dropLast = (0, 0, 9) := by
  intro v
  induction v using Nat.strongRecOn with
  | ind v ih =>
    intro i a hv hi
    by_cases h : v < 128
    · rw [numB_low h]; simp [dec]
    · have hi9 : i ≠ 9 := by rintro rfl; rw [pow9] at hv; omega
      have hs : v / 128 * 128 ^ (i + 1) ≤ v * 128 ^ i := by
        rw [Nat.pow_succ, Nat.mul_comm (128 ^ i) 128, ← Nat.mul_assoc]
        exact Nat.mul_le_mul_right _ (by omega)
      have hne : numB (v / 128) ≠ [] := by intro e; have := numB_pos (v / 128); rw [e] at this; simp at this
      rw [numB_high (by omega), List.dropLast_cons_of_ne_nil hne]
      show (if i = 9 ∧ (1 : Int) < ((v % 128 + 128 : Nat) : Int) then _ else _) = _
      rw [if_neg (by omega), if_pos (by omega)]
      exact ih (v / 128) (by omega) (i + 1) _ (by omega) (by omega)

/-- a number with a sign, as one without -/
def zig (v : Int) : Nat := if v < 0 then (-2 * v - 1).toNat else (2 * v).toNat
def unzig (v : Nat) : Int := if v % 2 = 1 then -((v / 2 : Nat) : Int) - 1 else ((v / 2 : Nat) : Int)
theorem unzig_zig (v : Int) : unzig (zig v) = v := by
  unfold zig unzig
  split <;> split <;> omega
theorem zig_lt {v : Int} (h0 : -9223372036854775808 ≤ v) (h1 : v ≤ 9223372036854775807) : zig v < 18446744073709551616 := by
  unfold zig; split <;> omega

/-- the reader's steps: what is answered, what is left, the fault -/
def numT (r : List Int) (e : Int) : Nat × List Int × Int :=
  if e ≠ 0 then (0, r, e) else if (dec 0 0 r).2.2 ≠ 0 then (0, r, (dec 0 0 r).2.2) else ((dec 0 0 r).1, r.drop (dec 0 0 r).2.1, 0)
def smallT (most : Nat) (r : List Int) (e : Int) : Nat × List Int × Int :=
  if e ≠ 0 then (0, r, e) else if (dec 0 0 r).2.2 ≠ 0 then (0, r, (dec 0 0 r).2.2) else if most < (dec 0 0 r).1 then (0, r, 10) else ((dec 0 0 r).1, r.drop (dec 0 0 r).2.1, 0)
def textT (most : Nat) (r : List Int) (e : Int) : List Int × List Int × Int :=
  if (smallT most r e).2.2 ≠ 0 then ([], r, (smallT most r e).2.2)
  else if (smallT most r e).2.1.length < (smallT most r e).1 then ([], r, 9)
  else ((smallT most r e).2.1.take (smallT most r e).1, (smallT most r e).2.1.drop (smallT most r e).1, 0)
def endT (r : List Int) (e : Int) : Int := if e ≠ 0 then e else if 0 < r.length then 10 else 0

end Go.Proofs.Ytombpfpfeebnpaa


namespace Go.Proofs.Ytombpfpfeebnpaa
set_option linter.unusedVariables false
set_option linter.unusedSimpArgs false

/-- an arc: from, to, weight -/
abbrev Ar := Int × Int × Int
abbrev keyA (a : Ar) : Int × Int := (a.1, a.2.1)
abbrev ltA (a b : Ar) : Prop := a.1 < b.1 ∨ a.1 = b.1 ∧ a.2.1 < b.2.1
abbrev leA (a b : Ar) : Prop := ¬ ltA b a
abbrev okA (n : Int) (a : Ar) : Prop := 0 ≤ a.1 ∧ a.1 < n ∧ 0 ≤ a.2.1 ∧ a.2.1 < n ∧ a.1 ≠ a.2.1 ∧ 1 ≤ a.2.2 ∧ a.2.2 ≤ 1048576
abbrev BoundedN (n : Int) (l : List Ar) : Prop := 1 ≤ n ∧ n ≤ 4194304 ∧ l.length ≤ 4194304 ∧ ∀ a ∈ l, okA n a
/-- no two arcs have the same ends -/
abbrev Dist (l : List Ar) : Prop := (l.map keyA).Nodup
abbrev MayA (n : Int) (l : List Ar) : Prop := BoundedN n l ∧ Dist l

theorem ltA_trans {a b c : Ar} (h : ltA a b) (k : ltA b c) : ltA a c := by unfold ltA at *; omega
theorem leA_trans {a b c : Ar} (h : leA a b) (k : leA b c) : leA a c := by unfold leA ltA at *; omega
theorem ltA_irr (a : Ar) : ¬ ltA a a := by unfold ltA; omega
theorem ltA_leA {a b : Ar} (h : ltA a b) : leA a b := by unfold leA ltA at *; omega
theorem leA_ne {a b : Ar} (h : leA a b) (k : keyA a ≠ keyA b) : ltA a b := by
  unfold leA ltA at *
  have : ¬ (a.1 = b.1 ∧ a.2.1 = b.2.1) := fun e => k (by unfold keyA; rw [e.1, e.2])
  omega
theorem ltA_ne {a b : Ar} (h : ltA a b) : keyA a ≠ keyA b := by
  intro e
  unfold keyA at e
  simp only [Prod.mk.injEq] at e
  unfold ltA at h
  omega

/-- each arc is ahead of its neighbour -/
def Rising (l : List Ar) : Prop := ∀ i a b, l[i]? = some a → l[i + 1]? = some b → ltA a b
theorem adj_pairwise {R : Ar → Ar → Prop} (ht : ∀ a b c, R a b → R b c → R a c) : ∀ {l : List Ar}, (∀ i a b, l[i]? = some a → l[i + 1]? = some b → R a b) → l.Pairwise R
  | [], _ => List.Pairwise.nil
  | [a], _ => List.pairwise_singleton _ _
  | a :: b :: r, h => by
    have hb : (b :: r).Pairwise R := adj_pairwise ht (fun i x y hx hy => h (i + 1) x y (by simpa using hx) (by simpa using hy))
    have hab : R a b := h 0 a b rfl rfl
    refine List.Pairwise.cons ?_ hb
    intro x hx
    rcases List.mem_cons.1 hx with rfl | hx
    · exact hab
    · exact ht _ _ _ hab ((List.pairwise_cons.1 hb).1 x hx)
theorem pairwise_adj {R : Ar → Ar → Prop} {l : List Ar} (h : l.Pairwise R) : ∀ i a b, l[i]? = some a → l[i + 1]? = some b → R a b := by
  intro i a b ha hb
  obtain ⟨h1, rfl⟩ := List.getElem?_eq_some_iff.1 ha
  obtain ⟨h2, rfl⟩ := List.getElem?_eq_some_iff.1 hb
  exact List.pairwise_iff_getElem.1 h i (i + 1) h1 h2 (by omega)
theorem rising_iff {l : List Ar} : Rising l ↔ l.Pairwise ltA := ⟨fun h => adj_pairwise (R := ltA) (fun _ _ _ a b => ltA_trans a b) h, fun h => pairwise_adj h⟩

theorem lt_dist {l : List Ar} (h : l.Pairwise ltA) : Dist l := by
  unfold Dist List.Nodup
  rw [List.pairwise_map]
  exact h.imp (fun h => ltA_ne h)
theorem sorted_dist {l : List Ar} (h : l.Pairwise leA) (d : Dist l) : l.Pairwise ltA := by
  unfold Dist List.Nodup at d
  rw [List.pairwise_map] at d
  exact (h.and d).imp (fun h => leA_ne h.1 h.2)
theorem lt_unique {a b : List Ar} (h : a.Perm b) (ha : a.Pairwise ltA) (hb : b.Pairwise ltA) : a = b :=
  List.Perm.eq_of_pairwise (le := ltA) (fun x y _ _ h1 h2 => absurd (ltA_trans h1 h2) (ltA_irr x)) ha hb h
theorem dist_perm {a b : List Ar} (h : a.Perm b) : Dist a ↔ Dist b := (h.map keyA).nodup_iff

/-- two rising lists, together -/
def mergeA (a b : List Ar) : List Ar :=
  match a, b with
  | [], b => b
  | a, [] => a
  | x :: a, y :: b => if ltA y x then y :: mergeA (x :: a) b else x :: mergeA a (y :: b)
termination_by a.length + b.length
theorem mergeA_nil (b : List Ar) : mergeA [] b = b := by unfold mergeA; rfl
theorem mergeA_none (a : List Ar) : mergeA a [] = a := by cases a <;> (unfold mergeA; rfl)
theorem mergeA_cons (x y : Ar) (a b : List Ar) : mergeA (x :: a) (y :: b) = if ltA y x then y :: mergeA (x :: a) b else x :: mergeA a (y :: b) := by rw [mergeA]
theorem mergeA_perm : ∀ (n : Nat) (a b : List Ar), a.length + b.length = n → (mergeA a b).Perm (a ++ b)
  | n, [], b, _ => by rw [mergeA_nil]; simp
  | n, x :: a, [], _ => by rw [mergeA_none]; simp
  | 0, x :: a, y :: b, h => by simp at h
  | n + 1, x :: a, y :: b, h => by
    rw [mergeA_cons]
    simp only [List.length_cons] at h
    split
    · have := mergeA_perm n (x :: a) b (by simp only [List.length_cons]; omega)
      exact (this.cons y).trans (List.perm_middle (a := y) (l₁ := x :: a) (l₂ := b)).symm
    · have := mergeA_perm n a (y :: b) (by simp only [List.length_cons]; omega)
      exact this.cons x
theorem mergeA_sorted : ∀ (n : Nat) (a b : List Ar), a.length + b.length = n → a.Pairwise leA → b.Pairwise leA → (mergeA a b).Pairwise leA
  | n, [], b, _, _, hb => by rw [mergeA_nil]; exact hb
  | n, x :: a, [], _, ha, _ => by rw [mergeA_none]; exact ha
  | 0, x :: a, y :: b, h, _, _ => by simp at h
  | n + 1, x :: a, y :: b, h, ha, hb => by
    rw [mergeA_cons]
    simp only [List.length_cons] at h
    have ha' := List.pairwise_cons.1 ha
    have hb' := List.pairwise_cons.1 hb
    split
    · rename_i hlt
      refine List.Pairwise.cons ?_ (mergeA_sorted n (x :: a) b (by simp only [List.length_cons]; omega) ha hb'.2)
      intro z hz
      rcases List.mem_append.1 ((mergeA_perm _ (x :: a) b rfl).mem_iff.1 hz) with hz | hz
      · rcases List.mem_cons.1 hz with rfl | hz
        · exact ltA_leA hlt
        · exact leA_trans (ltA_leA hlt) (ha'.1 z hz)
      · exact hb'.1 z hz
    · rename_i hlt
      refine List.Pairwise.cons ?_ (mergeA_sorted n a (y :: b) (by simp only [List.length_cons]; omega) ha'.2 hb)
      intro z hz
      rcases List.mem_append.1 ((mergeA_perm _ a (y :: b) rfl).mem_iff.1 hz) with hz | hz
      · exact ha'.1 z hz
      · rcases List.mem_cons.1 hz with rfl | hz
        · exact hlt
        · exact leA_trans hlt (hb'.1 z hz)
/-- sorting by halves -/
def sortA (l : List Ar) : List Ar :=
  if h : l.length < 2 then l else mergeA (sortA (l.take (l.length / 2))) (sortA (l.drop (l.length / 2)))
termination_by l.length
decreasing_by all_goals simp; omega
theorem sortA_short {l : List Ar} (h : l.length < 2) : sortA l = l := by rw [sortA, dif_pos h]
theorem sortA_long {l : List Ar} (h : ¬ l.length < 2) : sortA l = mergeA (sortA (l.take (l.length / 2))) (sortA (l.drop (l.length / 2))) := by rw [sortA, dif_neg h]
theorem sortA_perm : ∀ (n : Nat) (l : List Ar), l.length ≤ n → (sortA l).Perm l
  | 0, l, h => by rw [sortA_short (by omega)]
  | n + 1, l, h => by
    by_cases h2 : l.length < 2
    · rw [sortA_short h2]
    · rw [sortA_long h2]
      refine (mergeA_perm _ _ _ rfl).trans ?_
      have h1 := sortA_perm n (l.take (l.length / 2)) (by rw [List.length_take]; omega)
      have h3 := sortA_perm n (l.drop (l.length / 2)) (by rw [List.length_drop]; omega)
      have := h1.append h3
      rwa [List.take_append_drop] at this
theorem sortA_sorted : ∀ (n : Nat) (l : List Ar), l.length ≤ n → (sortA l).Pairwise leA
  | 0, l, h => by rw [sortA_short (by omega)]; obtain rfl := List.eq_nil_of_length_eq_zero (by omega : l.length = 0); exact List.Pairwise.nil
  | n + 1, l, h => by
    by_cases h2 : l.length < 2
    · rw [sortA_short h2]
      match l, h2 with
      | [], _ => exact List.Pairwise.nil
      | [a], _ => exact List.pairwise_singleton _ _
    · rw [sortA_long h2]
      exact mergeA_sorted _ _ _ rfl (sortA_perm_sorted n _ (by rw [List.length_take]; omega)) (sortA_perm_sorted n _ (by rw [List.length_drop]; omega))
where sortA_perm_sorted (n : Nat) (l : List Ar) (h : l.length ≤ n) : (sortA l).Pairwise leA := sortA_sorted n l h
theorem perm_sort (l : List Ar) : (sortA l).Perm l := sortA_perm l.length l (Nat.le_refl _)
theorem sort_sorted (l : List Ar) : (sortA l).Pairwise leA := sortA_sorted l.length l (Nat.le_refl _)
theorem sort_len (l : List Ar) : (sortA l).length = l.length := (perm_sort l).length_eq
theorem sort_mem {l : List Ar} {a : Ar} : a ∈ sortA l ↔ a ∈ l := (perm_sort l).mem_iff
theorem sort_dist {l : List Ar} (h : Dist l) : (sortA l).Pairwise ltA := sorted_dist (sort_sorted l) ((dist_perm (perm_sort l)).2 h)
theorem sort_rising {l : List Ar} (h : Rising l) : sortA l = l := lt_unique (perm_sort l) (sort_dist (lt_dist (rising_iff.1 h))) (rising_iff.1 h)
/-- neighbours of other ends in what is sorted: no two of the same ends at all -/
theorem dist_iff (l : List Ar) : Dist l ↔ ∀ i a b, (sortA l)[i]? = some a → (sortA l)[i + 1]? = some b → ¬ (a.1 = b.1 ∧ a.2.1 = b.2.1) := by
  constructor
  · intro h i a b ha hb e
    exact ltA_ne (pairwise_adj (sort_dist h) i a b ha hb) (by unfold keyA; rw [e.1, e.2])
  · intro h
    refine (dist_perm (perm_sort l)).1 (lt_dist (adj_pairwise (R := ltA) (fun _ _ _ a b => ltA_trans a b) (fun i a b ha hb => leA_ne (pairwise_adj (sort_sorted l) i a b ha hb) (fun e => h i a b ha hb ?_))))
    unfold keyA at e
    simpa using e
theorem rising_dist {l : List Ar} (h : Rising l) : Dist l := lt_dist (rising_iff.1 h)

/-- a network's bytes -/
def arcB (a : Ar) : List Int := numB a.1.toNat ++ numB a.2.1.toNat ++ numB a.2.2.toNat
def encB (n : Int) (l : List Ar) : List Int := 7 :: (numB n.toNat ++ numB l.length ++ l.flatMap arcB)
/-- an arc that is read -/
def arcT (r : List Int) (e : Int) : Ar × List Int × Int :=
  ((((smallT 4194304 r e).1 : Int), ((smallT 4194304 (smallT 4194304 r e).2.1 (smallT 4194304 r e).2.2).1 : Int),
    ((smallT 1048576 (smallT 4194304 (smallT 4194304 r e).2.1 (smallT 4194304 r e).2.2).2.1 (smallT 4194304 (smallT 4194304 r e).2.1 (smallT 4194304 r e).2.2).2.2).1 : Int)),
   (smallT 1048576 (smallT 4194304 (smallT 4194304 r e).2.1 (smallT 4194304 r e).2.2).2.1 (smallT 4194304 (smallT 4194304 r e).2.1 (smallT 4194304 r e).2.2).2.2).2)
def arcsT : Nat → List Int → Int → List Ar × List Int × Int
  | 0, r, e => ([], r, e)
  | k + 1, r, e => if (arcT r e).2.2 ≠ 0 then ([], (arcT r e).2) else ((arcT r e).1 :: (arcsT k (arcT r e).2.1 0).1, (arcsT k (arcT r e).2.1 0).2)
/-- what a reader tells: the number of nodes, the arcs, what is left, the fault -/
def netT (r : List Int) : Int × List Ar × List Int × Int :=
  (((smallT 4194304 r 0).1 : Int), arcsT (smallT 4194304 (smallT 4194304 r 0).2.1 (smallT 4194304 r 0).2.2).1 (smallT 4194304 (smallT 4194304 r 0).2.1 (smallT 4194304 r 0).2.2).2.1 (smallT 4194304 (smallT 4194304 r 0).2.1 (smallT 4194304 r 0).2.2).2.2)

theorem small_fault {m : Nat} {r : List Int} {e : Int} (h : e ≠ 0) : smallT m r e = (0, r, e) := by unfold smallT; rw [if_pos h]
theorem small_num (m v : Nat) (r : List Int) (h : v ≤ m) (hm : m < 18446744073709551616) : smallT m (numB v ++ r) 0 = (v, r, 0) := by
  unfold smallT
  rw [if_neg (by simp), dec_zero v r (by omega), if_neg (by simp), if_neg (by show ¬ m < v; omega)]
  simp
theorem small_ok {m : Nat} {r : List Int} {v : Nat} {r' : List Int} (hb : Bytes r) (h : smallT m r 0 = (v, r', 0)) : r = numB v ++ r' ∧ v ≤ m ∧ Bytes r' := by
  unfold smallT at h
  rw [if_neg (by simp)] at h
  generalize hd : dec 0 0 r = D at h
  obtain ⟨y, n, f⟩ := D
  simp only at h
  by_cases hf : f ≠ 0
  · rw [if_pos hf] at h; simp at h; exact absurd h.2.2 hf
  rw [if_neg hf] at h
  by_cases hm : m < y
  · rw [if_pos hm] at h; simp at h
  rw [if_neg hm] at h
  obtain rfl : f = 0 := by omega
  simp only [Prod.mk.injEq] at h
  obtain ⟨rfl, rfl, _⟩ := h
  obtain ⟨h1, h2, h3, h4, h5⟩ := dec_ok hb hd
  refine ⟨by rw [← h1, List.take_append_drop], by omega, fun x hx => hb x (List.mem_of_mem_drop hx)⟩
theorem bytes_append {a b : List Int} (h : Bytes a) (k : Bytes b) : Bytes (a ++ b) := by
  intro x hx
  rcases List.mem_append.1 hx with h1 | h1
  · exact h x h1
  · exact k x h1
theorem arcT_num (n : Int) (a : Ar) (r : List Int) (hn : n ≤ 4194304) (h : okA n a) : arcT (arcB a ++ r) 0 = (a, r, 0) := by
  obtain ⟨f, t, v⟩ := a
  unfold okA at h
  simp only at h
  unfold arcT arcB
  simp only [List.append_assoc]
  rw [small_num 4194304 f.toNat _ (by omega) (by omega)]
  simp only
  rw [small_num 4194304 t.toNat _ (by omega) (by omega)]
  simp only
  rw [small_num 1048576 v.toNat _ (by omega) (by omega)]
  simp only [Prod.mk.injEq]
  refine ⟨⟨by omega, by omega, by omega⟩, ?_⟩; simp
theorem arcsT_num (n : Int) (hn : n ≤ 4194304) : ∀ (l : List Ar) (r : List Int), (∀ a ∈ l, okA n a) → arcsT l.length (l.flatMap arcB ++ r) 0 = (l, r, 0)
  | [], r, _ => by simp [arcsT]
  | a :: l, r, h => by
    rw [List.length_cons, List.flatMap_cons, List.append_assoc]
    unfold arcsT
    rw [arcT_num n a _ hn (h a (by simp))]
    simp only
    rw [if_neg (by simp), arcsT_num n hn l r (fun x hx => h x (by simp [hx]))]
theorem netT_num {n : Int} {l : List Ar} (h : BoundedN n l) : netT (numB n.toNat ++ numB l.length ++ l.flatMap arcB) = (n, l, [], 0) := by
  obtain ⟨h1, h2, h3, h4⟩ := h
  unfold netT
  rw [List.append_assoc, small_num 4194304 n.toNat _ (by omega) (by omega)]
  simp only
  rw [small_num 4194304 l.length _ (by omega) (by omega)]
  simp only
  have := arcsT_num n h2 l [] h4
  rw [List.append_nil] at this
  rw [this]
  simp only [Prod.mk.injEq, and_true]
  omega
theorem arcT_ok {r : List Int} {a : Ar} {r' : List Int} (hb : Bytes r) (h : arcT r 0 = (a, r', 0)) : r = arcB a ++ r' ∧ Bytes r' := by
  unfold arcT at h
  generalize h1 : smallT 4194304 r 0 = S1 at h
  obtain ⟨v1, r1, e1⟩ := S1
  simp only at h
  generalize h2 : smallT 4194304 r1 e1 = S2 at h
  obtain ⟨v2, r2, e2⟩ := S2
  simp only at h
  generalize h3 : smallT 1048576 r2 e2 = S3 at h
  obtain ⟨v3, r3, e3⟩ := S3
  simp only [Prod.mk.injEq] at h
  obtain ⟨rfl, rfl, rfl⟩ := h
  have he2 : e2 = 0 := by
    rcases Decidable.em (e2 = 0) with h | h
    · exact h
    · rw [small_fault h] at h3; simp at h3; exact h3.2.2
  subst he2
  have he1 : e1 = 0 := by
    rcases Decidable.em (e1 = 0) with h | h
    · exact h
    · rw [small_fault h] at h2; simp at h2; exact h2.2.2
  subst he1
  obtain ⟨rfl, _, b1⟩ := small_ok hb h1
  obtain ⟨rfl, _, b2⟩ := small_ok b1 h2
  obtain ⟨rfl, _, b3⟩ := small_ok b2 h3
  refine ⟨?_, b3⟩
  unfold arcB
  simp only [List.append_assoc, Int.toNat_natCast]
theorem arcsT_ok : ∀ (k : Nat) (r : List Int) (l : List Ar) (r' : List Int), Bytes r → arcsT k r 0 = (l, r', 0) → r = l.flatMap arcB ++ r' ∧ l.length = k
  | 0, r, l, r', hb, h => by
    simp only [arcsT, Prod.mk.injEq] at h
    obtain ⟨rfl, rfl, _⟩ := h
    simp
  | k + 1, r, l, r', hb, h => by
    unfold arcsT at h
    generalize h1 : arcT r 0 = S1 at h
    obtain ⟨a, r1, e1⟩ := S1
    simp only at h
    by_cases he : e1 ≠ 0
    · rw [if_pos he] at h
      simp only [Prod.mk.injEq] at h
      exact absurd h.2.2 he
    rw [if_neg he] at h
    obtain rfl : e1 = 0 := by omega
    obtain ⟨hr, hb1⟩ := arcT_ok hb h1
    generalize h2 : arcsT k r1 0 = S2 at h
    obtain ⟨l2, r2, e2⟩ := S2
    simp only [Prod.mk.injEq] at h
    obtain ⟨rfl, rfl, rfl⟩ := h
    obtain ⟨hr2, hl2⟩ := arcsT_ok k r1 l2 r2 hb1 h2
    refine ⟨?_, by simp [hl2]⟩
    rw [hr, hr2, List.flatMap_cons, List.append_assoc]
theorem arcsT_fault (k : Nat) (r : List Int) (e : Int) (h : e ≠ 0) : (arcsT k r e).1 = [] ∧ (arcsT k r e).2.2 = e := by
  cases k with
  | zero => exact ⟨rfl, rfl⟩
  | succ k =>
    unfold arcsT
    have : arcT r e = ((0, 0, 0), r, e) := by
      unfold arcT
      rw [small_fault h]
      simp only
      rw [small_fault h]
      simp only
      rw [small_fault h]
      rfl
    rw [this]
    simp [h]
theorem netT_ok {r : List Int} {n : Int} {l : List Ar} (hb : Bytes r) (h : netT r = (n, l, [], 0)) : r = numB n.toNat ++ numB l.length ++ l.flatMap arcB := by
  unfold netT at h
  generalize h1 : smallT 4194304 r 0 = S1 at h
  obtain ⟨v1, r1, e1⟩ := S1
  simp only at h
  generalize h2 : smallT 4194304 r1 e1 = S2 at h
  obtain ⟨v2, r2, e2⟩ := S2
  simp only [Prod.mk.injEq] at h
  obtain ⟨rfl, h⟩ := h
  have he2 : e2 = 0 := by
    rcases Decidable.em (e2 = 0) with h' | h'
    · exact h'
    · have := (arcsT_fault v2 r2 e2 h').2
      rw [h] at this
      exact this.symm
  subst he2
  have he1 : e1 = 0 := by
    rcases Decidable.em (e1 = 0) with h | h
    · exact h
    · rw [small_fault h] at h2; simp at h2; exact h2.2.2
  subst he1
  obtain ⟨rfl, _, b1⟩ := small_ok hb h1
  obtain ⟨rfl, _, b2⟩ := small_ok b1 h2
  obtain ⟨hr, hl⟩ := arcsT_ok v2 r2 l [] b2 h
  rw [hr, hl]
  simp
/-- what any bytes are: nodes, arcs, the fault -/
def decodeT (b : List Int) : Int × List Ar × Int :=
  match b with
  | [] => (0, [], 9)
  | x :: r => if x ≠ 7 then (0, [], 10) else if (netT r).2.2.2 ≠ 0 then (0, [], (netT r).2.2.2)
    else if BoundedN (netT r).1 (netT r).2.1 ∧ (netT r).2.1.Pairwise ltA ∧ (netT r).2.2.1 = [] then ((netT r).1, (netT r).2.1, 0) else (0, [], 10)
theorem decode_encode {n : Int} {l : List Ar} (h : BoundedN n l) (hr : Rising l) : decodeT (encB n l) = (n, l, 0) := by
  unfold encB decodeT
  simp only
  rw [if_neg (by simp), netT_num h]
  simp only
  rw [if_neg (by simp), if_pos (by exact ⟨h, rising_iff.1 hr, by simp⟩)]
theorem encode_decode {b : List Int} {n : Int} {l : List Ar} (hb : Bytes b) (h : decodeT b = (n, l, 0)) : BoundedN n l ∧ Rising l ∧ encB n l = b := by
  match b, hb, h with
  | [], _, h => simp [decodeT] at h
  | x :: r, hb, h =>
    unfold decodeT at h
    simp only at h
    by_cases hx : x ≠ 7
    · rw [if_pos hx] at h; simp at h
    rw [if_neg hx] at h
    generalize hN : netT r = N at h
    obtain ⟨n', l', r', e'⟩ := N
    simp only at h
    by_cases he : e' ≠ 0
    · rw [if_pos he] at h; simp only [Prod.mk.injEq] at h; exact absurd h.2.2 he
    rw [if_neg he] at h
    obtain rfl : e' = 0 := by omega
    by_cases hc : BoundedN n' l' ∧ l'.Pairwise ltA ∧ r' = []
    · rw [if_pos hc] at h
      simp only [Prod.mk.injEq] at h
      obtain ⟨rfl, rfl, _⟩ := h
      obtain ⟨h1, h2, rfl⟩ := hc
      refine ⟨h1, rising_iff.2 h2, ?_⟩
      have := netT_ok (fun z hz => hb z (by simp [hz])) hN
      obtain rfl : x = 7 := by omega
      rw [this]; rfl
    · rw [if_neg hc] at h; simp at h
theorem arcB_bytes (a : Ar) : Bytes (arcB a) := by
  unfold arcB; exact bytes_append (bytes_append (numB_bytes _) (numB_bytes _)) (numB_bytes _)
theorem arcB_len (n : Int) (a : Ar) (hn : n ≤ 4194304) (h : okA n a) : (arcB a).length ≤ 12 := by
  obtain ⟨f, t, v⟩ := a
  unfold okA at h
  simp only at h
  unfold arcB
  have h1 := numB_len 3 f.toNat (by omega)
  have h2 := numB_len 3 t.toNat (by omega)
  have h3 := numB_len 2 v.toNat (by omega)
  simp only [List.length_append]
  omega
theorem arcsB_len (n : Int) (hn : n ≤ 4194304) : ∀ (l : List Ar), (∀ a ∈ l, okA n a) → (l.flatMap arcB).length ≤ 12 * l.length
  | [], _ => by simp
  | a :: l, h => by
    have h1 := arcB_len n a hn (h a (by simp))
    have h2 := arcsB_len n hn l (fun x hx => h x (by simp [hx]))
    rw [List.flatMap_cons, List.length_append, List.length_cons]
    omega
end Go.Proofs.Ytombpfpfeebnpaa


namespace Go.Proofs.Ytombpfpfeebnpaa
set_option linter.unusedVariables false
set_option linter.unusedSimpArgs false

/-- a thing and its rank -/
abbrev It := Nat × Int
/-- which of two comes ahead -/
def bef (a b : It) : Prop := a.2 < b.2 ∨ a.2 = b.2 ∧ a.1 < b.1
instance (a b : It) : Decidable (bef a b) := by unfold bef; infer_instance
theorem bef_irr (a : It) : ¬ bef a a := by unfold bef; omega
theorem bef_asym {a b : It} (h : bef a b) : ¬ bef b a := by unfold bef at *; omega
theorem nbef_trans {a b c : It} (h : ¬ bef b a) (h2 : ¬ bef c b) : ¬ bef c a := by unfold bef at *; omega
theorem bef_nbef {a b c : It} (h : bef a b) (h2 : ¬ bef c b) : ¬ bef c a := by unfold bef at *; omega
theorem nbef_bef {a b c : It} (h : ¬ bef b a) (h2 : bef b c) : ¬ bef c a := by unfold bef at *; omega
theorem bef_total {a b : It} (h : ¬ bef a b) (h2 : ¬ bef b a) : a = b := by
  unfold bef at *
  exact Prod.ext (by omega) (by omega)

/-- a heap: what is in, and at which place each thing is (plus 1; 0: it is not in) -/
structure Well (n : Nat) (T : List It) (P : List Int) : Prop where
  pl : P.length = n
  idx : ∀ (i : Nat) (y : It), T[i]? = some y → P[y.1]? = some ((i : Int) + 1)
  back : ∀ (id : Nat) (p : Int), P[id]? = some p → p = 0 ∨ ∃ (i : Nat) (r : Int), T[i]? = some (id, r)
  ord : ∀ (i : Nat) (y z : It), 0 < i → T[i]? = some y → T[(i - 1) / 2]? = some z → ¬ bef y z

/-- a heap with a free place, at which or near which x will be -/
structure Hole (n : Nat) (T : List It) (P : List Int) (k : Nat) (x : It) : Prop where
  pl : P.length = n
  hk : k < T.length
  hx : x.1 < n
  idx : ∀ (i : Nat) (y : It), i ≠ k → T[i]? = some y → P[y.1]? = some ((i : Int) + 1) ∧ y.1 ≠ x.1
  back : ∀ (id : Nat) (p : Int), P[id]? = some p → id ≠ x.1 → p = 0 ∨ ∃ (i : Nat) (r : Int), i ≠ k ∧ T[i]? = some (id, r)
  ord : ∀ (i : Nat) (y z : It), 0 < i → i ≠ k → (i - 1) / 2 ≠ k → T[i]? = some y → T[(i - 1) / 2]? = some z → ¬ bef y z
  ordk : ∀ (i : Nat) (y z : It), i ≠ k → (i - 1) / 2 = k → 0 < k → T[i]? = some y → T[(k - 1) / 2]? = some z → ¬ bef y z

/-- what is below the free place does not come ahead of x -/
def Below2 (T : List It) (k : Nat) (x : It) : Prop := ∀ (i : Nat) (y : It), i ≠ k → (i - 1) / 2 = k → T[i]? = some y → ¬ bef y x
/-- x does not come ahead of what is above the free place -/
def Above2 (T : List It) (k : Nat) (x : It) : Prop := ∀ z : It, 0 < k → T[(k - 1) / 2]? = some z → ¬ bef x z
/-- what is in, but for the free place -/
def But (T : List It) (k : Nat) (y : It) : Prop := ∃ i : Nat, i ≠ k ∧ T[i]? = some y

theorem Well.inj {n : Nat} {T : List It} {P : List Int} (h : Well n T P) {i j : Nat} {y z : It} (hi : T[i]? = some y) (hj : T[j]? = some z) (he : y.1 = z.1) : i = j := by
  have h1 := h.idx i y hi
  have h2 := h.idx j z hj
  rw [he, h2] at h1
  simp at h1
  omega
theorem Hole.inj {n : Nat} {T : List It} {P : List Int} {k : Nat} {x : It} (h : Hole n T P k x) {i j : Nat} {y z : It} (hik : i ≠ k) (hjk : j ≠ k) (hi : T[i]? = some y) (hj : T[j]? = some z) (he : y.1 = z.1) : i = j := by
  have h1 := (h.idx i y hik hi).1
  have h2 := (h.idx j z hjk hj).1
  rw [he, h2] at h1
  simp at h1
  omega
theorem Well.id_lt {n : Nat} {T : List It} {P : List Int} (h : Well n T P) {i : Nat} {y : It} (hi : T[i]? = some y) : y.1 < n := by
  have := h.idx i y hi
  have := (List.getElem?_eq_some_iff.1 this).1
  rw [h.pl] at this; exact this

/-- the move of a neighbour y (at place j) to the free place -/
theorem Hole.move_common {n : Nat} {T : List It} {P : List Int} {k : Nat} {x : It} (h : Hole n T P k x) {j : Nat} {y : It} (hjk : j ≠ k) (hj : T[j]? = some y) :
    (P.set y.1 ((k : Int) + 1)).length = n ∧ j < (T.set k y).length ∧
    (∀ (i : Nat) (u : It), i ≠ j → (T.set k y)[i]? = some u → (P.set y.1 ((k : Int) + 1))[u.1]? = some ((i : Int) + 1) ∧ u.1 ≠ x.1) ∧
    (∀ (id : Nat) (p : Int), (P.set y.1 ((k : Int) + 1))[id]? = some p → id ≠ x.1 → p = 0 ∨ ∃ (i : Nat) (r : Int), i ≠ j ∧ (T.set k y)[i]? = some (id, r)) ∧
    (∀ u, But (T.set k y) j u ↔ But T k u) := by
  have hjl := (List.getElem?_eq_some_iff.1 hj).1
  have hk := h.hk
  have hy := h.idx j y hjk hj
  have hyl := (List.getElem?_eq_some_iff.1 hy.1).1
  refine ⟨by rw [List.length_set]; exact h.pl, by rw [List.length_set]; exact hjl, ?_, ?_, ?_⟩
  · intro i u hij hu
    rw [List.getElem?_set] at hu
    by_cases hik : k = i
    · subst hik
      rw [if_pos rfl, if_pos hk] at hu
      cases hu
      refine ⟨?_, hy.2⟩
      rw [List.getElem?_set, if_pos rfl, if_pos hyl]
    · rw [if_neg hik] at hu
      have hu2 := h.idx i u (fun e => hik e.symm) hu
      refine ⟨?_, hu2.2⟩
      rw [List.getElem?_set, if_neg (fun e => hij (h.inj (fun e => hik e.symm) hjk hu hj e.symm)), hu2.1]
  · intro id p hp hid
    rw [List.getElem?_set] at hp
    by_cases he : y.1 = id
    · right
      refine ⟨k, y.2, fun e => hjk e.symm, ?_⟩
      rw [List.getElem?_set, if_pos rfl, if_pos hk, ← he]
    · rw [if_neg he] at hp
      rcases h.back id p hp hid with h0 | ⟨i, r, h1, h2⟩
      · exact .inl h0
      · refine .inr ⟨i, r, ?_, ?_⟩
        · rintro rfl
          rw [hj] at h2; cases h2; exact he rfl
        · rw [List.getElem?_set, if_neg (fun e => h1 e.symm), h2]
  · intro u
    constructor
    · rintro ⟨i, h1, h2⟩
      rw [List.getElem?_set] at h2
      by_cases hik : k = i
      · subst hik
        rw [if_pos rfl, if_pos hk] at h2
        cases h2
        exact ⟨j, hjk, hj⟩
      · rw [if_neg hik] at h2
        exact ⟨i, fun e => hik e.symm, h2⟩
    · rintro ⟨i, h1, h2⟩
      by_cases hij : i = j
      · subst hij
        rw [hj] at h2; cases h2
        exact ⟨k, fun e => hjk e.symm, by rw [List.getElem?_set, if_pos rfl, if_pos hk]⟩
      · exact ⟨i, hij, by rw [List.getElem?_set, if_neg (fun e => h1 e.symm), h2]⟩

theorem Hole.up {n : Nat} {T : List It} {P : List Int} {k : Nat} {x z : It} (h : Hole n T P k x) (hb : Below2 T k x) (h0 : 0 < k) (hz : T[(k - 1) / 2]? = some z) (hxz : bef x z) :
    Hole n (T.set k z) (P.set z.1 ((k : Int) + 1)) ((k - 1) / 2) x ∧ Below2 (T.set k z) ((k - 1) / 2) x ∧ ∀ u, But (T.set k z) ((k - 1) / 2) u ↔ But T k u := by
  have hk := h.hk
  have hjk : (k - 1) / 2 ≠ k := by omega
  obtain ⟨a1, a2, a3, a4, a5⟩ := h.move_common hjk hz
  refine ⟨⟨a1, a2, h.hx, a3, a4, ?_, ?_⟩, ?_, a5⟩
  · intro i y w hi hij hpj hy hw
    rw [List.getElem?_set] at hy hw
    by_cases hik : k = i
    · subst hik; exact absurd rfl hpj
    · rw [if_neg hik] at hy
      by_cases hpk : k = (i - 1) / 2
      · rw [if_pos hpk, if_pos (by omega)] at hw
        cases hw
        exact h.ordk i y z (fun e => hik e.symm) hpk.symm h0 hy hz
      · rw [if_neg hpk] at hw
        exact h.ord i y w hi (fun e => hik e.symm) (fun e => hpk e.symm) hy hw
  · intro i y w hij hpj hj0 hy hw
    rw [List.getElem?_set, if_neg (by omega)] at hw
    have hzw : ¬ bef z w := h.ord ((k - 1) / 2) z w hj0 hjk (by omega) hz hw
    rw [List.getElem?_set] at hy
    by_cases hik : k = i
    · subst hik
      rw [if_pos rfl, if_pos hk] at hy
      cases hy; exact hzw
    · rw [if_neg hik] at hy
      have hyz : ¬ bef y z := h.ord i y z (by omega) (fun e => hik e.symm) (by omega) hy (by rw [hpj]; exact hz)
      exact nbef_trans hzw hyz
  · intro i y hij hpj hy
    rw [List.getElem?_set] at hy
    by_cases hik : k = i
    · subst hik
      rw [if_pos rfl, if_pos hk] at hy
      cases hy; exact bef_asym hxz
    · rw [if_neg hik] at hy
      have hyz : ¬ bef y z := h.ord i y z (by omega) (fun e => hik e.symm) (by omega) hy (by rw [hpj]; exact hz)
      exact bef_nbef hxz hyz

theorem Hole.fill {n : Nat} {T : List It} {P : List Int} {k : Nat} {x : It} (h : Hole n T P k x) (hb : Below2 T k x) (ha : Above2 T k x) :
    Well n (T.set k x) (P.set x.1 ((k : Int) + 1)) ∧ ∀ u, u ∈ T.set k x ↔ u = x ∨ But T k u := by
  have hk := h.hk
  refine ⟨⟨by rw [List.length_set]; exact h.pl, ?_, ?_, ?_⟩, ?_⟩
  · intro i y hy
    rw [List.getElem?_set] at hy
    by_cases hik : k = i
    · subst hik
      rw [if_pos rfl, if_pos hk] at hy
      cases hy
      rw [List.getElem?_set, if_pos rfl, if_pos (by rw [h.pl]; exact h.hx)]
    · rw [if_neg hik] at hy
      have := h.idx i y (fun e => hik e.symm) hy
      rw [List.getElem?_set, if_neg (fun e => this.2 e.symm), this.1]
  · intro id p hp
    by_cases he : id = x.1
    · right
      exact ⟨k, x.2, by rw [List.getElem?_set, if_pos rfl, if_pos hk, he]⟩
    · rw [List.getElem?_set, if_neg (fun e => he e.symm)] at hp
      rcases h.back id p hp he with h0 | ⟨i, r, h1, h2⟩
      · exact .inl h0
      · exact .inr ⟨i, r, by rw [List.getElem?_set, if_neg (fun e => h1 e.symm), h2]⟩
  · intro i y z hi hy hz
    rw [List.getElem?_set] at hy hz
    by_cases hik : k = i
    · subst hik
      rw [if_pos rfl, if_pos hk] at hy
      rw [if_neg (by omega)] at hz
      cases hy
      exact ha z hi hz
    · rw [if_neg hik] at hy
      by_cases hpk : k = (i - 1) / 2
      · rw [if_pos hpk, if_pos (by omega)] at hz
        cases hz
        exact hb i y (fun e => hik e.symm) hpk.symm hy
      · rw [if_neg hpk] at hz
        exact h.ord i y z hi (fun e => hik e.symm) (fun e => hpk e.symm) hy hz
  · intro u
    rw [List.mem_iff_getElem?]
    constructor
    · rintro ⟨i, hi⟩
      rw [List.getElem?_set] at hi
      by_cases hik : k = i
      · subst hik
        rw [if_pos rfl, if_pos hk] at hi
        cases hi; exact .inl rfl
      · rw [if_neg hik] at hi
        exact .inr ⟨i, fun e => hik e.symm, hi⟩
    · rintro (rfl | ⟨i, h1, h2⟩)
      · exact ⟨k, by rw [List.getElem?_set, if_pos rfl, if_pos hk]⟩
      · exact ⟨i, by rw [List.getElem?_set, if_neg (fun e => h1 e.symm), h2]⟩

/-- which of the two places below is told first -/
def FirstB (T : List It) (k j : Nat) (y : It) : Prop := (j = 2 * k + 1 ∨ j = 2 * k + 2) ∧ T[j]? = some y ∧ ∀ (i : Nat) (u : It), (i = 2 * k + 1 ∨ i = 2 * k + 2) → T[i]? = some u → ¬ bef u y

theorem Hole.down {n : Nat} {T : List It} {P : List Int} {k j : Nat} {x y : It} (h : Hole n T P k x) (hf : FirstB T k j y) (hyx : bef y x) :
    Hole n (T.set k y) (P.set y.1 ((k : Int) + 1)) j x ∧ Above2 (T.set k y) j x ∧ ∀ u, But (T.set k y) j u ↔ But T k u := by
  have hk := h.hk
  obtain ⟨hj, hy, hfirst⟩ := hf
  have hjk : j ≠ k := by omega
  have hpj : (j - 1) / 2 = k := by omega
  obtain ⟨a1, a2, a3, a4, a5⟩ := h.move_common hjk hy
  refine ⟨⟨a1, a2, h.hx, a3, a4, ?_, ?_⟩, ?_, a5⟩
  · intro i u w hi hij hpi hu hw
    rw [List.getElem?_set] at hu hw
    by_cases hik : k = i
    · subst hik
      rw [if_pos rfl, if_pos hk] at hu
      rw [if_neg (by omega)] at hw
      cases hu
      exact h.ordk j y w hjk hpj hi hy hw
    · rw [if_neg hik] at hu
      by_cases hpk : k = (i - 1) / 2
      · rw [if_pos hpk, if_pos (by omega)] at hw
        cases hw
        exact hfirst i u (by omega) hu
      · rw [if_neg hpk] at hw
        exact h.ord i u w hi (fun e => hik e.symm) (fun e => hpk e.symm) hu hw
  · intro i u w hij hpi hj0 hu hw
    rw [hpj, List.getElem?_set, if_pos rfl, if_pos hk] at hw
    cases hw
    rw [List.getElem?_set, if_neg (by omega)] at hu
    exact h.ord i u y (by omega) (by omega) (by omega) hu (by rw [hpi]; exact hy)
  · intro z hj0 hz
    rw [hpj, List.getElem?_set, if_pos rfl, if_pos hk] at hz
    cases hz
    exact bef_asym hyx

theorem below_of {T : List It} {k j : Nat} {x y : It} (hf : FirstB T k j y) (h : ¬ bef y x) : Below2 T k x := by
  intro i u hik hp hu
  exact nbef_trans h (hf.2.2 i u (by omega) hu)
theorem below_none {T : List It} {k : Nat} {x : It} (h : T.length ≤ 2 * k + 1) : Below2 T k x := by
  intro i u hik hp hu
  have := (List.getElem?_eq_some_iff.1 hu).1
  omega

/-- the calls' beginnings -/
theorem Well.push {n : Nat} {T : List It} {P : List Int} (h : Well n T P) (z : It) {id : Nat} (r : Int) (h0 : P[id]? = some 0) :
    Hole n (T ++ [z]) P T.length (id, r) ∧ Below2 (T ++ [z]) T.length (id, r) ∧ ∀ u, But (T ++ [z]) T.length u ↔ u ∈ T := by
  have hid := (List.getElem?_eq_some_iff.1 h0).1
  have hlow : ∀ (i : Nat) (y : It), i ≠ T.length → (T ++ [z])[i]? = some y → T[i]? = some y := by
    intro i y hi hy
    have := (List.getElem?_eq_some_iff.1 hy).1
    rw [List.length_append, List.length_singleton] at this
    rwa [List.getElem?_append_left (by omega)] at hy
  refine ⟨⟨h.pl, by simp, by rw [← h.pl]; exact hid, ?_, ?_, ?_, ?_⟩, ?_, ?_⟩
  · intro i y hi hy
    have := h.idx i y (hlow i y hi hy)
    refine ⟨this, ?_⟩
    rintro he
    simp only at he
    rw [he, h0] at this
    simp at this
    omega
  · intro j p hp hj
    rcases h.back j p hp with h1 | ⟨i, q, hi⟩
    · exact .inl h1
    · have := (List.getElem?_eq_some_iff.1 hi).1
      exact .inr ⟨i, q, by omega, by rw [List.getElem?_append_left this, hi]⟩
  · intro i y w hi hik hpk hy hw
    exact h.ord i y w hi (hlow i y hik hy) (hlow _ w hpk hw)
  · intro i y w hi hp h1 hy hw
    have := (List.getElem?_eq_some_iff.1 (hlow i y hi hy)).1
    omega
  · intro i y hi hp hy
    have := (List.getElem?_eq_some_iff.1 (hlow i y hi hy)).1
    omega
  · intro u
    rw [List.mem_iff_getElem?]
    constructor
    · rintro ⟨i, h1, h2⟩
      exact ⟨i, hlow i u h1 h2⟩
    · rintro ⟨i, hi⟩
      have := (List.getElem?_eq_some_iff.1 hi).1
      exact ⟨i, by omega, by rw [List.getElem?_append_left this, hi]⟩

theorem Well.lower {n : Nat} {T : List It} {P : List Int} (h : Well n T P) {k id : Nat} {r q : Int} (hk : T[k]? = some (id, r)) (hq : q ≤ r) :
    Hole n T P k (id, q) ∧ Below2 T k (id, q) ∧ ∀ u, But T k u ↔ u ∈ T ∧ u.1 ≠ id := by
  have hkl := (List.getElem?_eq_some_iff.1 hk).1
  refine ⟨⟨h.pl, hkl, (by have := h.id_lt hk; exact this), ?_, ?_, ?_, ?_⟩, ?_, ?_⟩
  · intro i y hi hy
    exact ⟨h.idx i y hy, fun e => hi (h.inj hy hk e)⟩
  · intro j p hp hj
    rcases h.back j p hp with h1 | ⟨i, s, hi⟩
    · exact .inl h1
    · refine .inr ⟨i, s, ?_, hi⟩
      rintro rfl
      rw [hk] at hi; cases hi; exact hj rfl
  · intro i y w hi hik hpk hy hw
    exact h.ord i y w hi hy hw
  · intro i y w hi hp h1 hy hw
    have a1 := h.ord i y (id, r) (by omega) hy (by rw [hp]; exact hk)
    have a2 := h.ord k (id, r) w h1 hk hw
    exact nbef_trans a2 a1
  · intro i y hi hp hy
    have a1 := h.ord i y (id, r) (by omega) hy (by rw [hp]; exact hk)
    unfold bef at *
    simp only at *
    omega
  · intro u
    rw [List.mem_iff_getElem?]
    constructor
    · rintro ⟨i, h1, h2⟩
      exact ⟨⟨i, h2⟩, fun e => h1 (h.inj h2 hk e)⟩
    · rintro ⟨⟨i, hi⟩, hn⟩
      refine ⟨i, ?_, hi⟩
      rintro rfl
      rw [hk] at hi; cases hi; exact hn rfl

/-- the one that is taken out, and the last one -/
theorem Well.takeEnd {n : Nat} {T : List It} {P : List Int} (h : Well n T P) {k : Nat} {y : It} (hk : T[k]? = some y) (he : k + 1 = T.length) :
    Well n (T.take k) (P.set y.1 0) ∧ ∀ u, u ∈ T.take k ↔ u ∈ T ∧ u.1 ≠ y.1 := by
  have hlow : ∀ (i : Nat) (u : It), (T.take k)[i]? = some u → i < k ∧ T[i]? = some u := by
    intro i u hu
    rw [List.getElem?_take] at hu
    split at hu
    · exact ⟨by assumption, hu⟩
    · cases hu
  refine ⟨⟨by rw [List.length_set]; exact h.pl, ?_, ?_, ?_⟩, ?_⟩
  · intro i u hu
    obtain ⟨h1, h2⟩ := hlow i u hu
    rw [List.getElem?_set, if_neg (fun e => by have := h.inj hk h2 e; omega), h.idx i u h2]
  · intro id p hp
    rw [List.getElem?_set] at hp
    by_cases hy : y.1 = id
    · rw [if_pos hy] at hp
      split at hp
      · cases hp; exact .inl rfl
      · cases hp
    · rw [if_neg hy] at hp
      rcases h.back id p hp with h0 | ⟨i, r, hi⟩
      · exact .inl h0
      · have hl := (List.getElem?_eq_some_iff.1 hi).1
        have hne : i ≠ k := by rintro rfl; rw [hk] at hi; cases hi; exact hy rfl
        exact .inr ⟨i, r, by rw [List.getElem?_take, if_pos (by omega), hi]⟩
  · intro i u w hi hu hw
    exact h.ord i u w hi (hlow i u hu).2 (hlow _ w hw).2
  · intro u
    rw [List.mem_iff_getElem?, List.mem_iff_getElem?]
    constructor
    · rintro ⟨i, hi⟩
      obtain ⟨h1, h2⟩ := hlow i u hi
      exact ⟨⟨i, h2⟩, fun e => by have := h.inj h2 hk e; omega⟩
    · rintro ⟨⟨i, hi⟩, hn⟩
      have hl := (List.getElem?_eq_some_iff.1 hi).1
      have hne : i ≠ k := by rintro rfl; rw [hk] at hi; cases hi; exact hn rfl
      exact ⟨i, by rw [List.getElem?_take, if_pos (by omega), hi]⟩

theorem Well.takeMid {n : Nat} {T : List It} {P : List Int} (h : Well n T P) {k e : Nat} {y l : It} (hk : T[k]? = some y) (he : e + 1 = T.length) (hke : k < e) (hl : T[e]? = some l) :
    Hole n (T.take e) (P.set y.1 0) k l ∧ (∀ z, 0 < k → (T.take e)[(k - 1) / 2]? = some z → bef l z → Below2 (T.take e) k l) ∧ ∀ u, u = l ∨ But (T.take e) k u ↔ u ∈ T ∧ u.1 ≠ y.1 := by
  have hlow : ∀ (i : Nat) (u : It), (T.take e)[i]? = some u → i < e ∧ T[i]? = some u := by
    intro i u hu
    rw [List.getElem?_take] at hu
    split at hu
    · exact ⟨by assumption, hu⟩
    · cases hu
  have hyl : y.1 ≠ l.1 := fun e => by have := h.inj hk hl e; omega
  refine ⟨⟨by rw [List.length_set]; exact h.pl, by rw [List.length_take]; omega, h.id_lt hl, ?_, ?_, ?_, ?_⟩, ?_, ?_⟩
  · intro i u hik hu
    obtain ⟨h1, h2⟩ := hlow i u hu
    refine ⟨?_, fun e => by have := h.inj h2 hl e; omega⟩
    rw [List.getElem?_set, if_neg (fun e => hik (h.inj hk h2 e).symm), h.idx i u h2]
  · intro id p hp hid
    rw [List.getElem?_set] at hp
    by_cases hy : y.1 = id
    · rw [if_pos hy] at hp
      split at hp
      · cases hp; exact .inl rfl
      · cases hp
    · rw [if_neg hy] at hp
      rcases h.back id p hp with h0 | ⟨i, r, hi⟩
      · exact .inl h0
      · have hlt := (List.getElem?_eq_some_iff.1 hi).1
        have hne : i ≠ k := by rintro rfl; rw [hk] at hi; cases hi; exact hy rfl
        have hne2 : i ≠ e := by rintro rfl; rw [hl] at hi; cases hi; exact hid rfl
        exact .inr ⟨i, r, hne, by rw [List.getElem?_take, if_pos (by omega), hi]⟩
  · intro i u w hi hik hpk hu hw
    exact h.ord i u w hi (hlow i u hu).2 (hlow _ w hw).2
  · intro i u w hik hp h0 hu hw
    have a1 := h.ord i u y (by omega) (hlow i u hu).2 (by rw [hp]; exact hk)
    have a2 := h.ord k y w h0 hk (hlow _ w hw).2
    exact nbef_trans a2 a1
  · intro z h0 hz hlz i u hik hp hu
    have a1 := h.ord i u y (by omega) (hlow i u hu).2 (by rw [hp]; exact hk)
    have a2 := h.ord k y z h0 hk (hlow _ z hz).2
    exact bef_nbef hlz (nbef_trans a2 a1)
  · intro u
    rw [List.mem_iff_getElem?]
    constructor
    · rintro (rfl | ⟨i, h1, h2⟩)
      · exact ⟨⟨e, hl⟩, fun e => hyl e.symm⟩
      · exact ⟨⟨i, (hlow i u h2).2⟩, fun e => h1 (h.inj (hlow i u h2).2 hk e)⟩
    · rintro ⟨⟨i, hi⟩, hn⟩
      have hlt := (List.getElem?_eq_some_iff.1 hi).1
      by_cases hie : i = e
      · subst hie; rw [hl] at hi; cases hi; exact .inl rfl
      · refine .inr ⟨i, ?_, by rw [List.getElem?_take, if_pos (by omega), hi]⟩
        rintro rfl
        rw [hk] at hi; cases hi; exact hn rfl

/-- the first one comes ahead of all -/
theorem Well.first {n : Nat} {T : List It} {P : List Int} (h : Well n T P) {x : It} (h0 : T[0]? = some x) : ∀ y ∈ T, ¬ bef y x := by
  have : ∀ (m i : Nat) (y : It), i ≤ m → T[i]? = some y → ¬ bef y x := by
    intro m
    induction m with
    | zero => intro i y hi hy; obtain rfl : i = 0 := by omega
              rw [h0] at hy; cases hy; exact bef_irr x
    | succ m ih =>
      intro i y hi hy
      by_cases hz : i = 0
      · subst hz; rw [h0] at hy; cases hy; exact bef_irr x
      · have hl := (List.getElem?_eq_some_iff.1 hy).1
        have hp : T[(i - 1) / 2]? = some (T[(i - 1) / 2]'(by omega)) := by simp [show (i - 1) / 2 < T.length by omega]
        exact nbef_trans (ih _ _ (by omega) hp) (h.ord i y _ (by omega) hy hp)
  intro y hy
  obtain ⟨i, hi⟩ := List.mem_iff_getElem?.1 hy
  exact this i i y (Nat.le_refl _) hi

/-- no more things than there are -/
theorem few_of (n : Nat) : ∀ L : List Nat, L.Nodup → (∀ x ∈ L, x < n) → L.length ≤ n := by
  induction n with
  | zero => intro L _ h; cases L with
    | nil => simp
    | cons a l => have := h a (by simp); omega
  | succ n ih =>
    intro L hd h
    by_cases hn : n ∈ L
    · have := ih (L.erase n) (hd.erase n) (fun x hx => by
        have h1 := (hd.mem_erase_iff).1 hx
        have := h x h1.2
        have := h1.1
        omega)
      rw [List.length_erase_of_mem hn] at this
      omega
    · have := ih L hd (fun x hx => by
        have := h x hx
        have : x ≠ n := by rintro rfl; exact hn hx
        omega)
      omega
theorem Well.len {n : Nat} {T : List It} {P : List Int} (h : Well n T P) : T.length ≤ n := by
  have := few_of n (T.map Prod.fst) (by
    rw [List.nodup_iff_pairwise_ne, List.pairwise_iff_getElem]
    intro i j hi hj hij he
    simp at hi hj
    simp only [List.getElem_map] at he
    have := h.inj (i := i) (j := j) (y := T[i]) (z := T[j]) (by simp [hi]) (by simp [hj]) he
    omega) (by
    intro x hx
    obtain ⟨y, hy, rfl⟩ := List.mem_map.1 hx
    obtain ⟨i, hi⟩ := List.mem_iff_getElem?.1 hy
    exact h.id_lt hi)
  simpa using this
theorem Well.push_len {n : Nat} {T : List It} {P : List Int} (h : Well n T P) {id : Nat} (h0 : P[id]? = some 0) : T.length < n := by
  have hid := (List.getElem?_eq_some_iff.1 h0).1
  have := few_of n (id :: T.map Prod.fst) (by
    rw [List.nodup_cons]
    constructor
    · intro hm
      obtain ⟨y, hy, rfl⟩ := List.mem_map.1 hm
      obtain ⟨i, hi⟩ := List.mem_iff_getElem?.1 hy
      have := h.idx i y hi
      rw [h0] at this
      simp at this
      omega
    rw [List.nodup_iff_pairwise_ne, List.pairwise_iff_getElem]
    intro i j hi hj hij he
    simp at hi hj
    simp only [List.getElem_map] at he
    have := h.inj (i := i) (j := j) (y := T[i]) (z := T[j]) (by simp [hi]) (by simp [hj]) he
    omega) (by
    intro x hx
    rcases List.mem_cons.1 hx with rfl | hx
    · rw [← h.pl]; exact hid
    obtain ⟨y, hy, rfl⟩ := List.mem_map.1 hx
    obtain ⟨i, hi⟩ := List.mem_iff_getElem?.1 hy
    exact h.id_lt hi)
  simp at this
  omega
/-- an empty one -/
theorem well_nil (n : Nat) : Well n [] (List.replicate n 0) := by
  refine ⟨by simp, fun i y h => by simp at h, fun id p hp => ?_, fun i y z _ h => by simp at h⟩
  rw [List.getElem?_replicate] at hp
  split at hp
  · cases hp; exact .inl rfl
  · cases hp
end Go.Proofs.Ytombpfpfeebnpaa


namespace Go.Proofs.Ytombpfpfeebnpaa
set_option linter.unusedVariables false
set_option linter.unusedSimpArgs false

/-- what is beyond all distances -/
abbrev INF : Int := 1152921504606846976
/-- ways: by which one goes on, and how far -/
abbrev Goes := Int → Int → Int → Prop
/-- of n nodes, each arc of 1 to 2^20 -/
def Fair (n : Nat) (E : Goes) : Prop := ∀ u t x, E u t x → 0 ≤ u ∧ u < n ∧ 0 ≤ t ∧ t < n ∧ 1 ≤ x ∧ x ≤ 1048576
/-- a way from s, and its sum -/
inductive Walk (n : Nat) (E : Goes) (s : Int) : Int → Int → Prop where
  | none : 0 ≤ s → s < n → Walk n E s s 0
  | more {u t x y : Int} : Walk n E s u y → E u t x → Walk n E s t (y + x)
/-- the distance -/
structure IsD (n : Nat) (E : Goes) (s u d : Int) : Prop where
  ge : 0 ≤ d
  le : d ≤ INF
  walk : d < INF → Walk n E s u d
  least : ∀ y, Walk n E s u y → d ≤ y

theorem Walk.nonneg {n : Nat} {E : Goes} {s u y : Int} (hE : Fair n E) (h : Walk n E s u y) : 0 ≤ y ∧ 0 ≤ u ∧ u < n ∧ 0 ≤ s ∧ s < n := by
  induction h with
  | none h1 h2 => exact ⟨Int.le_refl _, h1, h2, h1, h2⟩
  | more h1 h2 ih => have := hE _ _ _ h2; omega
theorem IsD.uniq {n : Nat} {E : Goes} {s u d e : Int} (h : IsD n E s u d) (k : IsD n E s u e) : d = e := by
  rcases Int.lt_trichotomy d e with hlt | he | hlt
  · have := k.least d (h.walk (by have := k.le; omega)); omega
  · exact he
  · have := h.least e (k.walk (by have := h.le; omega)); omega
theorem IsD.none {n : Nat} {E : Goes} {s u d : Int} (hE : Fair n E) (hs : ¬ (0 ≤ s ∧ s < n)) (h : IsD n E s u d) : d = INF := by
  have := h.le
  by_cases h1 : d < INF
  · have := (h.walk h1).nonneg hE; exact absurd ⟨this.2.2.2.1, this.2.2.2.2⟩ hs
  · omega
theorem isD_none {n : Nat} {E : Goes} {s u : Int} (hE : Fair n E) (hs : ¬ (0 ≤ s ∧ s < n)) : IsD n E s u INF :=
  ⟨by decide, Int.le_refl _, fun h => absurd h (by decide), fun y h => absurd ⟨(h.nonneg hE).2.2.2.1, (h.nonneg hE).2.2.2.2⟩ hs⟩
theorem isD_self {n : Nat} {E : Goes} {s : Int} (hE : Fair n E) (hs : 0 ≤ s ∧ s < n) : IsD n E s s 0 :=
  ⟨Int.le_refl _, by decide, fun _ => .none hs.1 hs.2, fun y h => (h.nonneg hE).1⟩
theorem least_of (P : Nat → Prop) : ∀ k, P k → ∃ m, P m ∧ ∀ j, P j → m ≤ j := by
  intro k
  induction k using Nat.strongRecOn with
  | ind k ih =>
    intro hk
    by_cases h : ∃ j, j < k ∧ P j
    · obtain ⟨j, h1, h2⟩ := h; exact ih j h1 h2
    · exact ⟨k, hk, fun j hj => Nat.le_of_not_lt (fun hlt => h ⟨j, hlt, hj⟩)⟩
theorem isD_exists {n : Nat} {E : Goes} (hE : Fair n E) (s u : Int) : ∃ d, IsD n E s u d := by
  by_cases h : ∃ y : Nat, Walk n E s u y ∧ (y : Int) < INF
  · obtain ⟨y, hy⟩ := h
    obtain ⟨m, ⟨hm, hm2⟩, hl⟩ := least_of (fun y : Nat => Walk n E s u y ∧ (y : Int) < INF) y hy
    refine ⟨m, by omega, by omega, fun _ => hm, fun z hz => ?_⟩
    by_cases hz2 : z < INF
    · have h0 := (hz.nonneg hE).1
      have := hl z.toNat ⟨by rw [Int.toNat_of_nonneg h0]; exact hz, by omega⟩
      omega
    · omega
  · refine ⟨INF, by decide, Int.le_refl _, fun h => absurd h (by decide), fun z hz => ?_⟩
    have h0 := (hz.nonneg hE).1
    exact Decidable.byContradiction (fun hc => h ⟨z.toNat, by rw [Int.toNat_of_nonneg h0]; exact hz, by omega⟩)
/-- an arc is no shorter than what it adds -/
theorem IsD.arc {n : Nat} {E : Goes} {s u t x d e : Int} (hE : Fair n E) (h : IsD n E s u d) (k : IsD n E s t e) (ha : E u t x) : e ≤ d + x := by
  have hx := hE _ _ _ ha
  by_cases h1 : d < INF
  · exact k.least _ (.more (h.walk h1) ha)
  · have := k.le; omega
/-- each distance but 0 and the end is made of an arc and a distance -/
theorem IsD.made {n : Nat} {E : Goes} {s u d : Int} (hE : Fair n E) (h : IsD n E s u d) (h1 : d < INF) (hu : u ≠ s) : ∃ p x e, E p u x ∧ IsD n E s p e ∧ e + x = d := by
  have hw := h.walk h1
  cases hw with
  | none _ _ => exact absurd rfl hu
  | @more p _ x y hw ha =>
    obtain ⟨e, he⟩ := isD_exists hE s p
    have h2 := he.least y hw
    have h3 := he.arc hE h ha
    exact ⟨p, x, e, ha, he, by omega⟩
theorem Walk.join {n : Nat} {E : Goes} {s u t y z : Int} (h : Walk n E s u y) (k : Walk n E u t z) : Walk n E s t (y + z) := by
  induction k with
  | none _ _ => simpa using h
  | more _ ha ih => rw [← Int.add_assoc]; exact .more ih ha
/-- no way is shorter by way of a third node -/
theorem IsD.three {n : Nat} {E : Goes} {s u t d e f : Int} (h : IsD n E s u d) (k : IsD n E u t e) (l : IsD n E s t f) : f ≤ d + e := by
  have := l.le; have := h.ge; have := k.ge
  by_cases h1 : d < INF
  · by_cases h2 : e < INF
    · exact l.least _ ((h.walk h1).join (k.walk h2))
    · omega
  · omega
/-- what nothing lowers is the distance -/
theorem isD_fix {n : Nat} {E : Goes} {s : Int} (hE : Fair n E) (D : Int → Int) (h0 : ∀ u : Int, 0 ≤ u → u < n → 0 ≤ D u ∧ D u ≤ INF) (hs : 0 ≤ s → s < n → D s = 0) (hw : ∀ u : Int, 0 ≤ u → u < n → D u < INF → Walk n E s u (D u)) (ha : ∀ u t x, E u t x → D t ≤ D u + x) (u : Int) (hu : 0 ≤ u) (hu2 : u < n) : IsD n E s u (D u) := by
  refine ⟨(h0 u hu hu2).1, (h0 u hu hu2).2, hw u hu hu2, fun y hy => ?_⟩
  clear hu hu2
  induction hy with
  | none h1 h2 => rw [hs h1 h2]; exact Int.le_refl _
  | more _ k ih => have := ha _ _ _ k; omega

/-- all distances from s -/
def IsDs (n : Nat) (E : Goes) (s : Int) (L : List Int) : Prop := L.length = n ∧ ∀ (u : Nat) d, L[u]? = some d → IsD n E s u d
theorem IsDs.uniq {n : Nat} {E : Goes} {s : Int} {L M : List Int} (h : IsDs n E s L) (k : IsDs n E s M) : L = M := by
  refine List.ext_getElem (by rw [h.1, k.1]) (fun i h1 h2 => ?_)
  exact (h.2 i L[i] (by simp [h1])).uniq (k.2 i M[i] (by simp [h2]))
theorem isDs_none {n : Nat} {E : Goes} {s : Int} (hE : Fair n E) (hs : ¬ (0 ≤ s ∧ s < n)) : IsDs n E s (List.replicate n INF) := by
  refine ⟨List.length_replicate, fun u d h => ?_⟩
  rw [List.getElem?_replicate] at h
  by_cases hu : u < n
  · rw [if_pos hu] at h; cases h; exact isD_none hE hs
  · rw [if_neg hu] at h; cases h

/- a search -/
/-- a search under way: L: how far each node is by the ways that were seen; T: seen and not taken; R: taken, in their order; Dn: the arcs that were gone along -/
structure Dij (n : Nat) (E : Goes) (s : Int) (L : List Int) (T R : List It) (Dn : Goes) : Prop where
  len : L.length = n
  rng : ∀ (u : Nat) d, L[u]? = some d → 0 ≤ d ∧ d ≤ INF
  walk : ∀ (u : Nat) d, L[u]? = some d → d < INF → Walk n E s u d
  start : ∀ u : Nat, s = u → u < n → L[u]? = some 0
  heap : ∀ y : It, y ∈ T ↔ (L[y.1]? = some y.2 ∧ y.2 < INF ∧ y ∉ R)
  took : ∀ y ∈ R, L[y.1]? = some y.2 ∧ y.2 < INF
  sort : R.Pairwise bef
  low : ∀ y ∈ R, ∀ z ∈ T, bef y z
  done : ∀ (u t : Nat) x d, Dn u t x → (u, d) ∈ R → ∃ e, L[t]? = some e ∧ e ≤ d + x

theorem Dij.taken_or {n : Nat} {E : Goes} {s : Int} {L : List Int} {T R : List It} {Dn : Goes} (h : Dij n E s L T R Dn) {u : Nat} {d : Int} (hu : L[u]? = some d) : (u, d) ∈ R ∨ (u, d) ∈ T ∨ d = INF := by
  by_cases h1 : (u, d) ∈ R
  · exact .inl h1
  · by_cases h2 : d < INF
    · exact .inr (.inl ((h.heap (u, d)).2 ⟨hu, h2, h1⟩))
    · have := (h.rng u d hu).2; exact .inr (.inr (by omega))
theorem Dij.lt {n : Nat} {E : Goes} {s : Int} {L : List Int} {T R : List It} {Dn : Goes} (h : Dij n E s L T R Dn) {y : It} (hy : y ∈ R) : y.1 < n := by
  have := (List.getElem?_eq_some_iff.1 (h.took y hy).1).1; rw [h.len] at this; exact this
theorem Dij.few {n : Nat} {E : Goes} {s : Int} {L : List Int} {T R : List It} {Dn : Goes} (h : Dij n E s L T R Dn) : R.length ≤ n := by
  have := few_of n (R.map Prod.fst) (by
    rw [List.nodup_iff_pairwise_ne, List.pairwise_map]
    refine h.sort.imp_of_mem (fun {a b} ha hb hab he => ?_)
    have h1 := (h.took a ha).1
    have h2 := (h.took b hb).1
    rw [he, h2] at h1
    have : a = b := Prod.ext he (by simpa using h1.symm)
    rw [this] at hab
    exact bef_irr _ hab) (by
    intro x hx
    obtain ⟨y, hy, rfl⟩ := List.mem_map.1 hx
    exact h.lt hy)
  simpa using this
/-- what is taken next -/
theorem Dij.pop {n : Nat} {E : Goes} {s : Int} {L : List Int} {T T' R : List It} {Dn : Goes} (h : Dij n E s L T R Dn) {x : It} (hx : x ∈ T) (hm : ∀ y ∈ T, ¬ bef y x) (hT : ∀ u, u ∈ T' ↔ u ∈ T ∧ u.1 ≠ x.1) :
    Dij n E s L T' (R ++ [x]) (fun u t w => Dn u t w ∧ u ≠ x.1) := by
  have hx2 := (h.heap x).1 hx
  refine ⟨h.len, h.rng, h.walk, h.start, ?_, ?_, ?_, ?_, ?_⟩
  · intro y
    rw [hT y, h.heap y]
    simp only [List.mem_append, List.mem_singleton, not_or]
    constructor
    · rintro ⟨⟨h1, h2, h3⟩, h4⟩
      exact ⟨h1, h2, h3, fun e => h4 (by rw [e])⟩
    · rintro ⟨h1, h2, h3, h4⟩
      refine ⟨⟨h1, h2, h3⟩, fun e => h4 ?_⟩
      rw [e, hx2.1] at h1
      exact Prod.ext e (by simpa using h1.symm)
  · intro y hy
    rcases List.mem_append.1 hy with hy | hy
    · exact h.took y hy
    · rw [List.mem_singleton] at hy; subst hy; exact ⟨hx2.1, hx2.2.1⟩
  · rw [List.pairwise_append]
    refine ⟨h.sort, List.pairwise_singleton _ _, fun a ha b hb => ?_⟩
    rw [List.mem_singleton] at hb; subst hb; exact h.low a ha b hx
  · intro y hy z hz
    have hz2 := (hT z).1 hz
    rcases List.mem_append.1 hy with hy | hy
    · exact h.low y hy z hz2.1
    · rw [List.mem_singleton] at hy; subst hy
      exact Decidable.byContradiction (fun hc => hz2.2 (by rw [bef_total hc (hm z hz2.1)]))
  · intro u t w d hd hu
    rcases List.mem_append.1 hu with hu | hu
    · exact h.done u t w d hd.1 hu
    · rw [List.mem_singleton] at hu
      exact absurd (by rw [← hu]) hd.2
/-- an arc that is gone along and is no shorter -/
theorem Dij.skip {n : Nat} {E : Goes} {s : Int} {L : List Int} {T R : List It} {Dn : Goes} (h : Dij n E s L T R Dn) {x : It} {t : Nat} {w old : Int} (hx : x ∈ R) (hold : L[t]? = some old) (hle : ¬ (min (x.2 + w) INF < old)) :
    Dij n E s L T R (fun u t' w' => Dn u t' w' ∨ (u = x.1 ∧ t' = t ∧ w' = w)) := by
  refine { h with done := ?_ }
  intro u t' w' d hd hu
  rcases hd with hd | ⟨h1, h2, rfl⟩
  · exact h.done u t' w' d hd hu
  · obtain rfl : u = x.1 := by omega
    obtain rfl : t' = t := by omega
    have h3 := (h.took _ hu).1
    have h4 := (h.took _ hx).1
    simp only at h3
    rw [h4] at h3
    have h5 := (h.rng _ _ hold).2
    simp at h3
    exact ⟨old, hold, by omega⟩
/-- .. and is shorter -/
theorem Dij.see {n : Nat} {E : Goes} {s : Int} {L : List Int} {T T' R : List It} {Dn : Goes} (hE : Fair n E) (h : Dij n E s L T R Dn) {x : It} {t : Nat} {w old : Int} (hx : x ∈ R) (hmax : ∀ y ∈ R, y.2 ≤ x.2) (ha : E x.1 t w) (hold : L[t]? = some old) (hlt : x.2 + w < old)
    (hT : ∀ u, u ∈ T' ↔ u = (t, x.2 + w) ∨ u ∈ T ∧ u.1 ≠ t) :
    Dij n E s (L.set t (x.2 + w)) T' R (fun u t' w' => Dn u t' w' ∨ (u = x.1 ∧ t' = t ∧ w' = w)) := by
  have hw := hE _ _ _ ha
  have hx2 := h.took x hx
  have hx0 := h.rng _ _ hx2.1
  have ho := h.rng _ _ hold
  have htl := (List.getElem?_eq_some_iff.1 hold).1
  have hnR : ∀ y ∈ R, y.1 ≠ t := by
    intro y hy e
    have h1 := (h.took y hy).1
    rw [e, hold] at h1
    have := hmax y hy
    simp at h1
    omega
  have hset : ∀ u : Nat, u ≠ t → (L.set t (x.2 + w))[u]? = L[u]? := fun u hu => by rw [List.getElem?_set, if_neg (fun e => hu e.symm)]
  have hsett : (L.set t (x.2 + w))[t]? = some (x.2 + w) := by rw [List.getElem?_set, if_pos rfl, if_pos htl]
  refine ⟨by rw [List.length_set]; exact h.len, ?_, ?_, ?_, ?_, ?_, h.sort, ?_, ?_⟩
  · intro u d hu
    by_cases e : u = t
    · subst e; rw [hsett] at hu; cases hu; omega
    · rw [hset u e] at hu; exact h.rng u d hu
  · intro u d hu hd
    by_cases e : u = t
    · subst e; rw [hsett] at hu; cases hu
      exact .more (h.walk _ _ hx2.1 hx2.2) ha
    · rw [hset u e] at hu; exact h.walk u d hu hd
  · intro u hu hn
    have h0 := h.start u hu hn
    have e : u ≠ t := by
      rintro rfl
      rw [hold] at h0; cases h0; omega
    rw [hset u e]; exact h0
  · intro y
    rw [hT y]
    by_cases e : y.1 = t
    · constructor
      · rintro (rfl | ⟨_, h1⟩)
        · exact ⟨hsett, by simp only; omega, fun hc => hnR _ hc rfl⟩
        · exact absurd e h1
      · rintro ⟨h1, _, _⟩
        rw [e, hsett] at h1
        exact .inl (Prod.ext e (by simpa using h1.symm))
    · rw [hset y.1 e, h.heap y]
      constructor
      · rintro (rfl | ⟨h1, _⟩)
        · exact absurd rfl e
        · exact h1
      · exact fun h1 => .inr ⟨h1, e⟩
  · intro y hy
    rw [hset y.1 (hnR y hy)]; exact h.took y hy
  · intro y hy z hz
    rcases (hT z).1 hz with rfl | ⟨h1, _⟩
    · left; have := hmax y hy; simp only; omega
    · exact h.low y hy z h1
  · intro u t' w' d hd hu
    have hdone : ∃ e, L[t']? = some e ∧ (e ≤ d + w' ∨ (t' = t ∧ x.2 + w ≤ d + w')) := by
      rcases hd with hd | ⟨h1, h2, rfl⟩
      · obtain ⟨e, h1, h2⟩ := h.done u t' w' d hd hu; exact ⟨e, h1, .inl h2⟩
      · obtain rfl : u = x.1 := by omega
        obtain rfl : t' = t := by omega
        have h3 := (h.took _ hu).1
        simp only at h3
        rw [hx2.1] at h3
        simp at h3
        exact ⟨old, hold, .inr ⟨rfl, by omega⟩⟩
    obtain ⟨e, h1, h2⟩ := hdone
    by_cases et : t' = t
    · subst et
      rw [hold] at h1; cases h1
      exact ⟨x.2 + w, hsett, by omega⟩
    · exact ⟨e, by rw [hset t' et]; exact h1, by omega⟩
theorem Dij.dn {n : Nat} {E : Goes} {s : Int} {L : List Int} {T R : List It} {Dn Dm : Goes} (h : Dij n E s L T R Dn) (hm : ∀ u t w, Dm u t w → Dn u t w) : Dij n E s L T R Dm := { h with done := fun u t x d hd hu => h.done u t x d (hm _ _ _ hd) hu }
/-- all ways from what was taken were gone along: how low what comes is -/
theorem Dij.bound {n : Nat} {E : Goes} {s : Int} {L : List Int} {T R : List It} (hE : Fair n E) (h : Dij n E s L T R E) {u y : Int} (hw : Walk n E s u y) :
    (∃ k r, u = (k : Nat) ∧ (k, r) ∈ R ∧ r ≤ y) ∨ (∃ z ∈ T, z.2 ≤ y) ∨ INF ≤ y := by
  induction hw with
  | none h1 h2 =>
    obtain ⟨k, rfl⟩ : ∃ k : Nat, s = k := ⟨s.toNat, by omega⟩
    rcases h.taken_or (h.start k rfl (by omega)) with h3 | h3 | h3
    · exact .inl ⟨k, 0, rfl, h3, Int.le_refl _⟩
    · exact .inr (.inl ⟨_, h3, Int.le_refl _⟩)
    · exact absurd h3 (by decide)
  | more _ ha ih =>
    have hx := hE _ _ _ ha
    rcases ih with ⟨k, r, rfl, h1, h2⟩ | ⟨z, h1, h2⟩ | h1
    · obtain ⟨t, ht⟩ : ∃ t : Nat, _ = (t : Int) := ⟨_, (Int.toNat_of_nonneg hx.2.2.1).symm⟩
      rw [ht] at ha ⊢
      obtain ⟨e, h3, h4⟩ := h.done k t _ r ha h1
      rcases h.taken_or h3 with h5 | h5 | h5
      · exact .inl ⟨t, e, rfl, h5, by omega⟩
      · exact .inr (.inl ⟨_, h5, by simp only; omega⟩)
      · exact .inr (.inr (by omega))
    · exact .inr (.inl ⟨z, h1, by omega⟩)
    · exact .inr (.inr (by omega))
theorem Dij.isD_took {n : Nat} {E : Goes} {s : Int} {L : List Int} {T R : List It} (hE : Fair n E) (h : Dij n E s L T R E) {y : It} (hy : y ∈ R) : IsD n E s y.1 y.2 := by
  have h1 := h.took y hy
  have h2 := h.rng _ _ h1.1
  refine ⟨h2.1, h2.2, fun _ => h.walk _ _ h1.1 h1.2, fun z hz => ?_⟩
  rcases h.bound hE hz with ⟨k, r, hk, h3, h4⟩ | ⟨v, h3, h4⟩ | h3
  · obtain rfl : y.1 = k := by omega
    have := (h.took _ h3).1
    simp only at this
    rw [h1.1] at this
    simp at this
    omega
  · have := h.low y hy v h3
    unfold bef at this
    omega
  · omega
/-- what comes first is as far as it is -/
theorem Dij.isD_next {n : Nat} {E : Goes} {s : Int} {L : List Int} {T R : List It} (hE : Fair n E) (h : Dij n E s L T R E) {x : It} (hx : x ∈ T) (hm : ∀ y ∈ T, ¬ bef y x) : IsD n E s x.1 x.2 := by
  have h1 := (h.heap x).1 hx
  have h2 := h.rng _ _ h1.1
  refine ⟨h2.1, h2.2, fun _ => h.walk _ _ h1.1 h1.2.1, fun z hz => ?_⟩
  rcases h.bound hE hz with ⟨k, r, hk, h3, h4⟩ | ⟨v, h3, h4⟩ | h3
  · obtain rfl : x.1 = k := by omega
    have := (h.took _ h3).1
    simp only at this
    rw [h1.1] at this
    have e : x = (x.1, r) := Prod.ext rfl (by simpa using this)
    exact absurd (e ▸ h3) h1.2.2
  · have := hm v h3
    unfold bef at this
    omega
  · omega
/-- nothing is left: all is as far as it is -/
theorem Dij.all {n : Nat} {E : Goes} {s : Int} {L : List Int} {R : List It} (hE : Fair n E) (h : Dij n E s L [] R E) : IsDs n E s L := by
  refine ⟨h.len, fun u d hu => ?_⟩
  have h2 := h.rng _ _ hu
  rcases h.taken_or hu with h1 | h1 | h1
  · exact h.isD_took hE h1
  · simp at h1
  · subst h1
    refine ⟨h2.1, h2.2, fun hc => absurd hc (by decide), fun z hz => ?_⟩
    rcases h.bound hE hz with ⟨k, r, hk, h3, h4⟩ | ⟨v, h3, h4⟩ | h3
    · obtain rfl : u = k := by omega
      have := h.took _ h3
      simp only at this
      rw [hu] at this
      simp at this
      omega
    · simp at h3
    · exact h3
/-- just the nodes that are near, by rising distances, then by their numbers -/
structure Near (n : Nat) (E : Goes) (s most : Int) (R : List It) : Prop where
  sort : R.Pairwise bef
  near : ∀ y ∈ R, y.1 < n ∧ IsD n E s y.1 y.2 ∧ y.2 < INF ∧ y.2 ≤ most
  all : ∀ (u : Nat) d, u < n → IsD n E s u d → d < INF → d ≤ most → (u, d) ∈ R
theorem bef_trans {a b c : It} (h : bef a b) (k : bef b c) : bef a c := by unfold bef at *; omega
theorem sorted_eq : ∀ {A B : List It}, A.Pairwise bef → B.Pairwise bef → (∀ x, x ∈ A ↔ x ∈ B) → A = B
  | [], [], _, _, _ => rfl
  | [], b :: B, _, _, h => absurd ((h b).2 (by simp)) (by simp)
  | a :: A, [], _, _, h => absurd ((h a).1 (by simp)) (by simp)
  | a :: A, b :: B, ha, hb, h => by
    rw [List.pairwise_cons] at ha hb
    have e : a = b := by
      rcases List.mem_cons.1 ((h a).1 (by simp)) with e | h1
      · exact e
      · rcases List.mem_cons.1 ((h b).2 (by simp)) with e | h2
        · exact e.symm
        · exact absurd (hb.1 a h1) (bef_asym (ha.1 b h2))
    subst e
    rw [sorted_eq ha.2 hb.2 (fun x => ?_)]
    constructor
    · intro hx
      rcases List.mem_cons.1 ((h x).1 (by simp [hx])) with rfl | h1
      · exact absurd (ha.1 x hx) (bef_irr x)
      · exact h1
    · intro hx
      rcases List.mem_cons.1 ((h x).2 (by simp [hx])) with rfl | h1
      · exact absurd (hb.1 x hx) (bef_irr x)
      · exact h1
theorem Near.uniq {n : Nat} {E : Goes} {s most : Int} {A B : List It} (h : Near n E s most A) (k : Near n E s most B) : A = B :=
  sorted_eq h.sort k.sort (fun x => ⟨fun hx => by obtain ⟨h1, h2, h3, h4⟩ := h.near x hx; exact k.all x.1 x.2 h1 h2 h3 h4, fun hx => by obtain ⟨h1, h2, h3, h4⟩ := k.near x hx; exact h.all x.1 x.2 h1 h2 h3 h4⟩)
theorem Dij.near_stop {n : Nat} {E : Goes} {s most : Int} {L : List Int} {T R : List It} (hE : Fair n E) (h : Dij n E s L T R E) (hR : ∀ y ∈ R, y.2 ≤ most) (hT : ∀ z ∈ T, most < z.2) : Near n E s most R := by
  refine ⟨h.sort, fun y hy => ⟨h.lt hy, h.isD_took hE hy, (h.took y hy).2, hR y hy⟩, fun u d hu hd h1 h2 => ?_⟩
  rcases h.bound hE (hd.walk h1) with ⟨k, r, hk, h3, h4⟩ | ⟨v, h3, h4⟩ | h3
  · obtain rfl : u = k := by omega
    have := (h.isD_took hE h3).uniq hd
    simp only at this
    rw [← this]; exact h3
  · have := hT v h3; omega
  · omega
theorem near_none {n : Nat} {E : Goes} {s most : Int} (hE : Fair n E) (hs : ¬ (0 ≤ s ∧ s < n)) : Near n E s most [] :=
  ⟨List.Pairwise.nil, fun y hy => by simp at hy, fun u d hu hd h1 h2 => by have := hd.none hE hs; omega⟩
/-- at the beginning -/
theorem dij_start {n : Nat} {E : Goes} {s : Nat} (hs : s < n) : Dij n E s ((List.replicate n INF).set s 0) [(s, 0)] [] E := by
  have hset : ∀ u : Nat, ((List.replicate n INF).set s 0)[u]? = if s = u then some 0 else (List.replicate n INF)[u]? := by
    intro u
    rw [List.getElem?_set]
    by_cases e : s = u
    · rw [if_pos e, if_pos e, if_pos (by simp; exact hs)]
    · rw [if_neg e, if_neg e]
  have hv : ∀ (u : Nat) d, ((List.replicate n INF).set s 0)[u]? = some d → (u = s ∧ d = 0) ∨ d = INF := by
    intro u d h
    rw [hset u] at h
    by_cases e : s = u
    · rw [if_pos e] at h; cases h; exact .inl ⟨e.symm, rfl⟩
    · rw [if_neg e, List.getElem?_replicate] at h
      by_cases hu : u < n
      · rw [if_pos hu] at h; cases h; exact .inr rfl
      · rw [if_neg hu] at h; cases h
  refine ⟨by simp, ?_, ?_, ?_, ?_, by simp, List.Pairwise.nil, by simp, by simp⟩
  · intro u d h; rcases hv u d h with ⟨_, rfl⟩ | rfl <;> decide
  · intro u d h h1
    rcases hv u d h with ⟨rfl, rfl⟩ | rfl
    · exact .none (by omega) (by omega)
    · exact absurd h1 (by decide)
  · intro u hu hn
    obtain rfl : s = u := by omega
    rw [hset s, if_pos rfl]
  · intro y
    constructor
    · intro h
      rw [List.mem_singleton] at h; subst h
      exact ⟨by rw [hset s, if_pos rfl], (by decide : (0 : Int) < INF), by simp⟩
    · rintro ⟨h1, h2, _⟩
      rcases hv _ _ h1 with ⟨h3, h4⟩ | h3
      · rw [List.mem_singleton]; exact Prod.ext h3 h4
      · omega
end Go.Proofs.Ytombpfpfeebnpaa


namespace Go.Proofs.Ytombpfpfeebnpaa
open Go.RowKit
set_option linter.unusedVariables false
set_option linter.unusedSimpArgs false

theorem hide {p : Prop} (h : p) : Hid p := h
theorem unhide {p : Prop} (h : Hid p) : p := h
theorem ret_int {k : IntKind} {a b : Int} (h : a = b) : Ending.returned (.int k a) = .returned (.int k b) := by rw [h]
theorem ret_bool {a b : Bool} (h : a = b) : Ending.returned (.bool a) = .returned (.bool b) := by rw [h]

/-- whatever block is none of F is as it was -/
structure Turn (F : Nat → Prop) (w w' : World) : Prop where
  os : w'.os = w.os
  tape : w'.tape = w.tape
  output : w'.output = w.output
  size : w.heap.size ≤ w'.heap.size
  block : ∀ k, k < w.heap.size → ¬ F k → w'.heap[k]? = w.heap[k]?

theorem Turn.refl (F : Nat → Prop) (w : World) : Turn F w w := ⟨rfl, rfl, rfl, Nat.le_refl _, fun _ _ _ => rfl⟩
theorem Turn.trans {F G : Nat → Prop} {a b c : World} (h : Turn F a b) (k : Turn G b c) (hG : ∀ j, G j → F j ∨ a.heap.size ≤ j) : Turn F a c :=
  ⟨k.os.trans h.os, k.tape.trans h.tape, k.output.trans h.output, Nat.le_trans h.size k.size, fun i hi hn => (k.block i (Nat.lt_of_lt_of_le hi h.size) (fun hg => by rcases hG i hg with h' | h'; exact hn h'; omega)).trans (h.block i hi hn)⟩
theorem Turn.then {F : Nat → Prop} {a b c : World} (h : Turn F a b) (k : Turn F b c) : Turn F a c := h.trans k (fun _ => .inl)
theorem Turn.mono {F G : Nat → Prop} {w w' : World} (h : Turn F w w') (hG : ∀ j, F j → G j) : Turn G w w' := ⟨h.os, h.tape, h.output, h.size, fun k hk hn => h.block k hk (fun hf => hn (hG k hf))⟩
theorem Turn.grown {F : Nat → Prop} {w w' : World} {row : Option Nat} (hg : w.grownBy w' row) (hr : ∀ k, row = some k → F k) : Turn F w w' :=
  ⟨hg.os, hg.tape, hg.output, hg.size, fun k hk hn => hg.block k hk (fun e => hn (hr k e.symm))⟩
theorem Turn.alloc {F : Nat → Prop} {a w : World} (h : Turn F a w) (o : Obj) : Turn F a (w.alloc o) :=
  h.trans (G := fun _ => False) (Turn.grown (World.grownBy_alloc w o none) (fun k e => by cases e)) (fun _ hf => hf.elim)
theorem Turn.drew {F : Nat → Prop} {a w : World} (h : Turn F a w) : Turn F a w.drew := ⟨h.os, h.tape, h.output, h.size, h.block⟩
theorem Turn.drewN {F : Nat → Prop} {a w : World} (h : Turn F a w) (n : Nat) : Turn F a (w.drewN n) := by
  induction n with
  | zero => exact h
  | succ n ih => exact ih.drew
theorem Turn.setCell {F : Nat → Prop} {a w : World} (h : Turn F a w) {p : Addr} (hp : F p.block ∨ a.heap.size ≤ p.block) (u : Value) : Turn F a (w.setCell p u) :=
  h.trans (G := fun j => j = p.block) ⟨rfl, rfl, rfl, by simp [World.setCell], fun k hk hn => Below.heap_setCell _ _ _ _ hn⟩ (fun j hj => by subst hj; exact hp)
theorem Turn.below {F : Nat → Prop} {w w' : World} {B : Nat} (h : Turn F w w') (hF : ∀ k, F k → B ≤ k) (hB : B ≤ w.heap.size) : Below B w w' :=
  ⟨h.os, h.tape, h.output, h.size, fun k hk => h.block k (by omega) (fun hf => by have := hF k hf; omega)⟩
theorem Turn.of_below {F : Nat → Prop} {w w' : World} (h : Below w.heap.size w w') : Turn F w w' := ⟨h.os, h.tape, h.output, h.size, fun k hk _ => h.block k hk⟩
theorem Turn.cell {F : Nat → Prop} {w w' : World} (h : Turn F w w') {a : Addr} {v : Value} (hk : w.cell? a = some v) (hn : ¬ F a.block) : w'.cell? a = some v :=
  (World.cell?_of_block (w := w) (h.block a.block (World.block_lt_of_cell? _ _ hk) hn)).trans hk

theorem below_then {w w1 w2 : World} (h : Below w.heap.size w w1) (k : Below w1.heap.size w1 w2) : Below w.heap.size w w2 :=
  ⟨k.os.trans h.os, k.tape.trans h.tape, k.output.trans h.output, Nat.le_trans h.size k.size, fun i hi => (k.block i (Nat.lt_of_lt_of_le hi h.size)).trans (h.block i hi)⟩

/-- the cells from (b, off) on hold these numbers -/
def Cells (k : IntKind) (w : World) (b off : Nat) (zs : List Int) : Prop :=
  ∀ i, i < zs.length → w.cell? ⟨b, off + i, none⟩ = some (.int k (zs.getD i 0))

theorem Cells.turn {F : Nat → Prop} {k : IntKind} {w w' : World} {b off : Nat} {zs : List Int} (h : Cells k w b off zs) (ht : Turn F w w') (hb : ¬ F b) : Cells k w' b off zs :=
  fun i hi => ht.cell (h i hi) hb

/-- a slice value whose elements are these numbers: one without elements, or an address in a block of B with such cells -/
def Row (k : IntKind) (B : Nat → Prop) (w : World) (v : Value) (zs : List Int) : Prop :=
  (∃ a c, v = .slice a 0 c ∧ (a = none → c = 0) ∧ c ≤ maxLen ∧ zs = []) ∨ ∃ b off c, v = .slice (some ⟨b, off, none⟩) zs.length c ∧ zs.length ≤ c ∧ c ≤ maxLen ∧ B b ∧ Cells k w b off zs

def any : Nat → Prop := fun _ => True

theorem Row.slice {k : IntKind} {B : Nat → Prop} {w : World} {v : Value} {zs : List Int} (h : Row k B w v zs) : ∃ a c, v = .slice a zs.length c := by
  rcases h with ⟨_, _, rfl, _, _, rfl⟩ | ⟨b, off, c, rfl, _⟩
  · exact ⟨_, _, rfl⟩
  · exact ⟨_, _, rfl⟩
theorem Row.len {k : IntKind} {B : Nat → Prop} {w : World} {v : Value} {zs : List Int} (h : Row k B w v zs) : zs.length ≤ maxLen := by
  rcases h with ⟨_, _, rfl, _, _, rfl⟩ | ⟨b, off, c, rfl, h1, h2, _⟩
  · exact Nat.zero_le _
  · omega
theorem Row.mono {k : IntKind} {B B' : Nat → Prop} {w : World} {v : Value} {zs : List Int} (h : Row k B w v zs) (hb : ∀ b, B b → B' b) : Row k B' w v zs := by
  rcases h with h | ⟨b, off, c, rfl, h1, h2, h3, h4⟩
  · exact .inl h
  · exact .inr ⟨b, off, c, rfl, h1, h2, hb b h3, h4⟩
/-- .. where the row's block is told to be one of the world's -/
theorem Row.lt {k : IntKind} {B : Nat → Prop} {w : World} {v : Value} {zs : List Int} (h : Row k B w v zs) : Row k (fun b => B b ∧ b < w.heap.size) w v zs := by
  rcases h with h | ⟨b, off, c, rfl, h1, h2, h3, h4⟩
  · exact .inl h
  · by_cases h0 : zs.length = 0
    · obtain rfl := List.eq_nil_of_length_eq_zero h0
      exact .inl ⟨_, _, rfl, (fun h => by cases h), h2, rfl⟩
    · exact .inr ⟨b, off, c, rfl, h1, h2, ⟨h3, World.block_lt_of_cell? _ _ (h4 0 (by omega))⟩, h4⟩
theorem Row.turn {k : IntKind} {B F : Nat → Prop} {w w' : World} {v : Value} {zs : List Int} (h : Row k B w v zs) (ht : Turn F w w') (hn : ∀ b, B b → ¬ F b) : Row k B w' v zs := by
  rcases h with h | ⟨b, off, c, rfl, h1, h2, h3, h4⟩
  · exact .inl h
  · exact .inr ⟨b, off, c, rfl, h1, h2, h3, h4.turn ht (hn b h3)⟩
theorem Row.below {k : IntKind} {B : Nat → Prop} {w w' : World} {v : Value} {zs : List Int} (h : Row k B w v zs) (hb : Below w.heap.size w w') : Row k B w' v zs :=
  h.turn (F := fun _ => False) (Turn.of_below hb) (fun _ _ h => h)
theorem row_none (k : IntKind) (B : Nat → Prop) (w : World) : Row k B w (.slice none 0 0) [] := .inl ⟨none, 0, rfl, fun _ => rfl, Nat.zero_le _, rfl⟩

theorem own_base {w : World} {base : Nat} {e : TypeId} {size : Nat} {v : Value} {n : Nat} {xs : List Value} (h : w.ownsRow base e size v n xs) : ∀ g, v.ownBlock = some g → base ≤ g := by
  intro g hg
  rcases h.2 with ⟨rfl, _⟩ | ⟨g', cap, cur, rfl, hb, _⟩
  · simp [Value.ownBlock] at hg
  · simp [Value.ownBlock] at hg; omega
theorem row_of_owns {w : World} {base : Nat} {e : TypeId} {v : Value} {n : Nat} {k : IntKind} {ys : List Int} (h : w.ownsRow base e 1 v n (ys.map (Value.int k))) : Row k (fun b => base ≤ b) w v ys := by
  have hl : ys.length = n := by have := h.1; simpa using this
  rcases h.2 with ⟨rfl, h0⟩ | ⟨g, cap, cur, rfl, hb, hg, hn, hm, hs, ht⟩
  · have : ys = [] := List.eq_nil_of_length_eq_zero (by omega)
    exact .inl ⟨none, 0, rfl, fun _ => rfl, Nat.zero_le _, this⟩
  · subst hl
    refine .inr ⟨g, 0, cap, rfl, hn, hm, hb, fun i hi => ?_⟩
    have := h.cellAt i (by omega)
    rw [Nat.zero_add, this]
    simp [hi]

/-- a block whose cells may be written -/
def Free (w : World) (b : Nat) : Prop := ∃ cur T, w.heap[b]? = some (.cells cur T (0, 0))
theorem Free.turn {F : Nat → Prop} {w w' : World} {b : Nat} (h : Free w b) (ht : Turn F w w') (hb : ¬ F b) : Free w' b := by
  obtain ⟨cur, T, hc⟩ := h
  exact ⟨cur, T, (ht.block b (Array.getElem?_eq_some_iff.1 hc).1 hb).trans hc⟩
theorem row_of_owns_free {w : World} {base : Nat} {e : TypeId} {v : Value} {n : Nat} {k : IntKind} {ys : List Int} (h : w.ownsRow base e 1 v n (ys.map (Value.int k))) : Row k (fun b => base ≤ b ∧ Free w b) w v ys := by
  have hl : ys.length = n := by have := h.1; simpa using this
  rcases h.2 with ⟨rfl, h0⟩ | ⟨g, cap, cur, rfl, hb, hg, hn, hm, hs, ht⟩
  · have : ys = [] := List.eq_nil_of_length_eq_zero (by omega)
    exact .inl ⟨none, 0, rfl, fun _ => rfl, Nat.zero_le _, this⟩
  · subst hl
    refine .inr ⟨g, 0, cap, rfl, hn, hm, ⟨hb, cur, e, hg⟩, fun i hi => ?_⟩
    have := h.cellAt i (by omega)
    rw [Nat.zero_add, this]
    simp [hi]
/-- a row's block may go on as one that may be written -/
theorem Row.free {k : IntKind} {B F : Nat → Prop} {w w' : World} {v : Value} {zs : List Int} (h : Row k (fun b => B b ∧ Free w b) w v zs) (ht : Turn F w w') (hn : ∀ b, B b → ¬ F b) : Row k (fun b => B b ∧ Free w' b) w' v zs := by
  rcases h with h | ⟨b, off, c, rfl, h1, h2, h3, h4⟩
  · exact .inl h
  · exact .inr ⟨b, off, c, rfl, h1, h2, ⟨h3.1, h3.2.turn ht (hn b h3.1)⟩, h4.turn ht (hn b h3.1)⟩

theorem one_new (w : World) (T : TypeId) (x : Value) : ∀ (j : Nat) (u : Value), [x][j]? = some u → (w.alloc (.cells #[x] T)).cell? (Addr.add ⟨w.heap.size, 0, none⟩ j) = some u := by
  intro j u hu
  match j, hu with
  | 0, hu => simp at hu; subst hu; simp [Addr.add]
  | j + 1, hu => simp at hu

theorem getD_map {k : IntKind} {zs : List Int} {j : Nat} {u : Value} (hu : (zs.map (Value.int k))[j]? = some u) : j < zs.length ∧ u = .int k (zs.getD j 0) := by
  have hj : j < zs.length := by have := (List.getElem?_eq_some_iff.1 hu).1; simpa using this
  refine ⟨hj, ?_⟩
  rw [List.getElem?_map] at hu
  simp [hj] at hu
  subst hu
  simp [hj]

theorem below_grown {w w1 : World} {base : Nat} {row : Option Nat} (hg : w.grownBy w1 row) (hb : base ≤ w.heap.size) (hr : ∀ k, row = some k → base ≤ k) : Below base w w1 := (Below.refl _ _).grown hg hb hr

/-- append of a row onto a row of one's own -/
theorem append_row {P : Program} {w : World} {base : Nat} {t ty e : TypeId} {i : TypeInfo} {z : Value} {k : IntKind} {bytes : Nat} {B : Nat → Prop} (ht : P.underlying t = some (.slice e)) (hi : P.info? e = some i) (hz : i.zero = some z) (hsize : i.size = 1) (hby : i.bytes = bytes) (hzs : z.cells.size = 1)
    {v x : Value} {xs zs : List Int} (hown : w.ownsRow base e 1 v xs.length (xs.map (Value.int k))) (hx : Row k B w x zs) (hm : xs.length + zs.length ≤ maxLen) (hb : (xs.length + zs.length) * bytes ≤ 140737488355328) (hbase : base ≤ w.heap.size) :
    ∃ v' w', (Builtin.append_ #[t, t] ty #[v, x]).run P w = .ok v' w' ∧ w'.ownsRow base e 1 v' (xs ++ zs).length ((xs ++ zs).map (Value.int k)) ∧ Below base w w' := by
  have key : ∀ (a : Addr) (c : Nat), (∀ j u, (zs.map (Value.int k))[j]? = some u → w.cell? (a.add j) = some u) → ∃ v' w', (Builtin.append_ #[t, t] ty #[v, .slice (some a) zs.length c]).run P w = .ok v' w' ∧ w'.ownsRow base e 1 v' (xs ++ zs).length ((xs ++ zs).map (Value.int k)) ∧ Below base w w' := by
    intro a c hc
    obtain ⟨v', w', hr, r1, r2, _⟩ := run_append_own (P := P) w base t ty e i z 1 bytes ht hi hz hsize hby hzs (by omega) v xs.length (xs.map (Value.int k)) hown a zs.length c (zs.map (Value.int k)) (by simp) hc (ints_oneCell _ _) hm hb hbase
    exact ⟨v', w', hr, by rw [List.length_append, List.map_append]; exact r1, below_grown r2 hbase (own_base hown)⟩
  rcases hx with ⟨a, c, rfl, hn, _, rfl⟩ | ⟨b, off, c, rfl, h1, h2, h3, h4⟩
  · cases a with
    | none =>
      obtain rfl := hn rfl
      exact ⟨v, w, run_append_owned_none (P := P) w base t ty e i 1 ht hi v _ _ hown, by simpa using hown, Below.refl _ _⟩
    | some a => exact key a c (fun j u hu => by simp at hu)
  · refine key _ c (fun j u hu => ?_)
    obtain ⟨hj, rfl⟩ := getD_map hu
    rw [Addr.add_lit]
    exact h4 j hj

/-- append, of which the run is known, in a list of operations -/
theorem list_append_run {P : Program} {ops : Array Oper} {rest : List Oper} {o : Oper} {a : Act} {w : World} {Q : Exit → Act → World → Prop}
    (hg : o.guard = none) (s x : Operand) (t : TypeId) (hop : o.op = Op.call { callee := Callee.builtin Builtin.append, args := #[s, x], argTypes := #[t, t] }) (v xv v' : Value) (w' : World) (hs : a.eval s = v) (hx : a.eval x = xv)
    (hrun : (Builtin.append_ #[t, t] o.type #[v, xv]).run P w = .ok v' w') (hK : wpList P ops Q rest (a.put o.dst v') w') : wpList P ops Q (o :: rest) a w := by
  refine wpList_plain hg fun K' hK' => ?_
  unfold Oper.wp
  simp [execOp, hop, resolve, invoke, builtin, hs, hx, hrun, Result.andThen]
  exact hK' _ _ hK

/-- a row from a place on -/
theorem cut_from {P : Program} {w : World} {t e : TypeId} {i : TypeInfo} {k ki : IntKind} {B : Nat → Prop} {x : Value} {zs : List Int} (ht : P.underlying t = some (.slice e)) (hi : P.info? e = some i) (hs : i.size = 1) (h : Row k B w x zs) (n : Nat) (hn : n ≤ zs.length) :
    ∃ x', (∀ u : World, (Instr.slice t x (some (.int ki (n : Int))) none none).run P u = .ok x' u) ∧ Row k B w x' (zs.drop n) := by
  rcases h with ⟨a, c, rfl, hnil, hc, rfl⟩ | ⟨b, off, c, rfl, h1, h2, h3, h4⟩
  · obtain rfl : n = 0 := by simpa using hn
    refine ⟨.slice a 0 c, fun u => ?_, .inl ⟨a, c, rfl, hnil, hc, by simp⟩⟩
    cases a with
    | none => obtain rfl := hnil rfl; simp [Instr.slice, run_underlying ht, Instr.sliceBounds, Instr.sliceBound, asIntOf, sizeOf, typeInfo, hi, Result.andThen]
    | some a =>
      by_cases hc0 : c = 0
      · subst hc0; simp [Instr.slice, run_underlying ht, Instr.sliceBounds, Instr.sliceBound, asIntOf, sizeOf, typeInfo, hi, Result.andThen]
      · simp [Instr.slice, run_underlying ht, Instr.sliceBounds, Instr.sliceBound, asIntOf, sizeOf, typeInfo, hi, Result.andThen, hc0, Addr.add]
  · have hle : (n : Int) ≤ (zs.length : Int) := by omega
    by_cases hc : c = n
    · subst hc
      have hz : zs.drop c = [] := List.drop_of_length_le (by omega)
      rw [hz]
      refine ⟨.slice (some ⟨b, off, none⟩) 0 0, fun u => ?_, .inl ⟨_, _, rfl, (fun h => by cases h), Nat.zero_le _, rfl⟩⟩
      have : zs.length = c := by omega
      simp [Instr.slice, run_underlying ht, Instr.sliceBounds, Instr.sliceBound, asIntOf, sizeOf, typeInfo, hi, Result.andThen, this]
    · refine ⟨.slice (some ⟨b, off + n, none⟩) (zs.length - n) (c - n), fun u => ?_, .inr ⟨b, off + n, c - n, by simp, by simp; omega, by omega, h3, fun j hj => ?_⟩⟩
      · simp [Instr.slice, run_underlying ht, Instr.sliceBounds, Instr.sliceBound, asIntOf, sizeOf, typeInfo, hi, Result.andThen, hc, hs, Addr.add_lit, hle, hn]
      · simp at hj
        rw [Nat.add_assoc, h4 (n + j) (by omega)]
        simp [List.getD_eq_getElem?_getD]

/-- a row up to a place -/
theorem cut_to {P : Program} {w : World} {t e : TypeId} {i : TypeInfo} {k ki : IntKind} {B : Nat → Prop} {x : Value} {zs : List Int} (ht : P.underlying t = some (.slice e)) (hi : P.info? e = some i) (hs : i.size = 1) (h : Row k B w x zs) (n : Nat) (hn : n ≤ zs.length) :
    ∃ x', (∀ u : World, (Instr.slice t x none (some (.int ki (n : Int))) none).run P u = .ok x' u) ∧ Row k B w x' (zs.take n) := by
  rcases h with ⟨a, c, rfl, hnil, hc, rfl⟩ | ⟨b, off, c, rfl, h1, h2, h3, h4⟩
  · obtain rfl : n = 0 := by simpa using hn
    refine ⟨.slice a 0 c, fun u => ?_, .inl ⟨a, c, rfl, hnil, hc, by simp⟩⟩
    cases a with
    | none => obtain rfl := hnil rfl; simp [Instr.slice, run_underlying ht, Instr.sliceBounds, Instr.sliceBound, asIntOf, sizeOf, typeInfo, hi, Result.andThen]
    | some a =>
      by_cases hc0 : c = 0
      · subst hc0; simp [Instr.slice, run_underlying ht, Instr.sliceBounds, Instr.sliceBound, asIntOf, sizeOf, typeInfo, hi, Result.andThen]
      · simp [Instr.slice, run_underlying ht, Instr.sliceBounds, Instr.sliceBound, asIntOf, sizeOf, typeInfo, hi, Result.andThen, hc0, Addr.add]
  · have hle : n ≤ c := by omega
    refine ⟨.slice (some ⟨b, off, none⟩) n c, fun u => ?_, .inr ⟨b, off, c, by simp; omega, by simp; omega, h2, h3, fun j hj => ?_⟩⟩
    · simp [Instr.slice, run_underlying ht, Instr.sliceBounds, Instr.sliceBound, asIntOf, sizeOf, typeInfo, hi, Result.andThen, Addr.add, hle]
    · simp at hj
      rw [h4 j (by omega)]
      simp [List.getD_eq_getElem?_getD, List.getElem?_take, show j < n by omega]

/-- a row from a place up to another -/
theorem cut_mid {P : Program} {w : World} {t e : TypeId} {i : TypeInfo} {k : IntKind} {B : Nat → Prop} {x : Value} {zs : List Int} (ht : P.underlying t = some (.slice e)) (hi : P.info? e = some i) (hs : i.size = 1) (h : Row k B w x zs) (m n : Nat) (hn : m + n ≤ zs.length) :
    ∃ x', (∀ u : World, (Instr.slice t x (some (.int .i64 (m : Int))) (some (.int .i64 ((m + n : Nat) : Int))) none).run P u = .ok x' u) ∧ Row k B w x' ((zs.drop m).take n) := by
  rcases h with ⟨a, c, rfl, hnil, hc, rfl⟩ | ⟨b, off, c, rfl, h1, h2, h3, h4⟩
  · obtain ⟨rfl, rfl⟩ : m = 0 ∧ n = 0 := by simp at hn; omega
    refine ⟨.slice a 0 c, fun u => ?_, .inl ⟨a, c, rfl, hnil, hc, by simp⟩⟩
    cases a with
    | none => obtain rfl := hnil rfl; simp [Instr.slice, run_underlying ht, Instr.sliceBounds, Instr.sliceBound, asIntOf, sizeOf, typeInfo, hi, Result.andThen]
    | some a =>
      by_cases hc0 : c = 0
      · subst hc0; simp [Instr.slice, run_underlying ht, Instr.sliceBounds, Instr.sliceBound, asIntOf, sizeOf, typeInfo, hi, Result.andThen]
      · simp [Instr.slice, run_underlying ht, Instr.sliceBounds, Instr.sliceBound, asIntOf, sizeOf, typeInfo, hi, Result.andThen, Addr.add]
  · have hle : m + n ≤ c := by omega
    have hle2 : (m : Int) + n ≤ (c : Int) := by omega
    have hle3 : m ≤ m + n := by omega
    by_cases hc : c = m
    · subst hc
      obtain rfl : n = 0 := by omega
      rw [List.take_zero]
      refine ⟨.slice (some ⟨b, off, none⟩) 0 0, fun u => ?_, .inl ⟨_, _, rfl, (fun h => by cases h), Nat.zero_le _, rfl⟩⟩
      simp [Instr.slice, run_underlying ht, Instr.sliceBounds, Instr.sliceBound, asIntOf, sizeOf, typeInfo, hi, Result.andThen]
    · have hln : ((zs.drop m).take n).length = n := by simp; omega
      refine ⟨.slice (some ⟨b, off + m, none⟩) n (c - m), fun u => ?_, .inr ⟨b, off + m, c - m, by rw [hln], by rw [hln]; omega, by omega, h3, fun j hj => ?_⟩⟩
      · have hsub : m + n - m = n := by omega
        have h0 : (0 : Int) ≤ (m : Int) + n := by omega
        have hto : ((m : Int) + n).toNat = m + n := by omega
        simp [Instr.slice, run_underlying ht, Instr.sliceBounds, Instr.sliceBound, asIntOf, sizeOf, typeInfo, hi, Result.andThen, hc, hs, Addr.add_lit, hle2, hsub, h0, hto]
      · rw [hln] at hj
        rw [Nat.add_assoc, h4 (m + j) (by omega)]
        simp [List.getD_eq_getElem?_getD, List.getElem?_take, hj]

theorem getD_byte {zs : List Int} (h : Bytes zs) {j : Nat} (hj : j < zs.length) : 0 ≤ zs.getD j 0 ∧ zs.getD j 0 < 256 := h _ (by simp [hj])
theorem drop_cons (zs : List Int) (k : Nat) (h : k < zs.length) : zs.drop k = zs.getD k 0 :: zs.drop (k + 1) := by
  rw [List.drop_eq_getElem_cons h]; simp [h]
theorem Bytes.drop {zs : List Int} (h : Bytes zs) (n : Nat) : Bytes (zs.drop n) := fun x hx => h x (List.mem_of_mem_drop hx)
theorem Bytes.take {zs : List Int} (h : Bytes zs) (n : Nat) : Bytes (zs.take n) := fun x hx => h x (List.mem_of_mem_take hx)
theorem Bytes.append {xs zs : List Int} (h : Bytes xs) (h' : Bytes zs) : Bytes (xs ++ zs) := fun x hx => (List.mem_append.1 hx).elim (h x) (h' x)

theorem info_u8 : (Try.prog.info? 5).map (fun i => (i.zero, i.size, i.bytes)) = some (some (.int .u8 0), 1, 1) := by kernel_rfl
end Go.Proofs.Ytombpfpfeebnpaa


namespace Go.Proofs.Ytombpfpfeebnpaa
open Go.RowKit Go.Maps
set_option linter.unusedVariables false
set_option linter.unusedSimpArgs false

theorem Turn.undrew {F : Nat → Prop} {w w' : World} (h : Turn F w.drew w') : Turn F w w' := ⟨h.os, h.tape, h.output, h.size, h.block⟩
theorem Turn.same {F : Nat → Prop} {w w' : World} (h : Turn F w w') {k : Nat} {o : Obj} (hk : w.heap[k]? = some o) (hn : ¬ F k) : w'.heap[k]? = some o :=
  (h.block k (Array.getElem?_eq_some_iff.1 hk).1 hn).trans hk
/-- a slice that owns its row from a place on, its spare room too -/
def OwnSl (w : World) (e : TypeId) (s : Nat) (v : Value) (n : Nat) (xs : List Value) : Prop :=
  xs.length = n * s ∧ ((v = .slice none 0 0 ∧ n = 0) ∨
    ∃ g off cap cur, v = .slice (some ⟨g, off, none⟩) n cap ∧ w.heap[g]? = some (.cells cur e (0, 0)) ∧ n ≤ cap ∧ cap ≤ maxLen ∧ off + cap * s ≤ cur.size ∧ (cur.toList.drop off).take (n * s) = xs)

theorem OwnSl.lt {w : World} {e : TypeId} {s : Nat} {v : Value} {n : Nat} {xs : List Value} (h : OwnSl w e s v n xs) : ∀ k, v.ownBlock = some k → ∃ cur, w.heap[k]? = some (.cells cur e (0, 0)) := by
  intro k hk
  rcases h.2 with ⟨rfl, _⟩ | ⟨g, off, cap, cur, rfl, hg, _⟩
  · simp [Value.ownBlock] at hk
  · simp [Value.ownBlock] at hk
    subst hk
    exact ⟨cur, hg⟩
theorem OwnSl.kept {w w' : World} {e : TypeId} {s : Nat} {v : Value} {n : Nat} {xs : List Value} (h : OwnSl w e s v n xs) (hb : ∀ k, v.ownBlock = some k → w'.heap[k]? = w.heap[k]?) : OwnSl w' e s v n xs := by
  refine ⟨h.1, ?_⟩
  rcases h.2 with hn | ⟨g, off, cap, cur, rfl, hg, rest⟩
  · exact .inl hn
  · exact .inr ⟨g, off, cap, cur, rfl, (hb g rfl).trans hg, rest⟩
theorem OwnSl.turn {F : Nat → Prop} {w w' : World} {e : TypeId} {s : Nat} {v : Value} {n : Nat} {xs : List Value} (h : OwnSl w e s v n xs) (ht : Turn F w w') (hn : ∀ k, v.ownBlock = some k → ¬ F k) : OwnSl w' e s v n xs :=
  h.kept (fun k hk => by obtain ⟨cur, hc⟩ := h.lt k hk; exact ht.block k (Array.getElem?_eq_some_iff.1 hc).1 (hn k hk))
theorem OwnSl.of_owns {w : World} {base : Nat} {e : TypeId} {s : Nat} {v : Value} {n : Nat} {xs : List Value} (h : w.ownsRow base e s v n xs) : OwnSl w e s v n xs := by
  refine ⟨h.1, ?_⟩
  rcases h.2 with hn | ⟨g, cap, cur, hv, _, hg, h1, h2, h3, h4⟩
  · exact .inl hn
  · exact .inr ⟨g, 0, cap, cur, hv, hg, h1, h2, by omega, by simpa using h4⟩
theorem OwnSl.cells {w : World} {e : TypeId} {s n g off cap : Nat} {xs : List Value} (h : OwnSl w e s (.slice (some ⟨g, off, none⟩) n cap) n xs) : ∀ j u, xs[j]? = some u → w.cell? ⟨g, off + j, none⟩ = some u := by
  intro j u hu
  rcases h.2 with ⟨hv, _⟩ | ⟨g', off', cap', cur, hv, hg, _, _, _, ht⟩
  · simp at hv
  · simp only [Value.slice.injEq, Option.some.injEq, Addr.mk.injEq, and_true, true_and] at hv
    obtain ⟨⟨rfl, rfl⟩, rfl⟩ := hv
    rw [cell_of_row w g (off + j) cur e (0, 0) hg]
    rw [← ht, List.getElem?_take, List.getElem?_drop] at hu
    split at hu
    · simpa using hu
    · cases hu

theorem cell_some {w : World} {g j : Nat} {cur : Array Value} {e : TypeId} (hg : w.heap[g]? = some (.cells cur e (0, 0))) (hj : j < cur.size) : (w.cell? ⟨g, j, none⟩).isSome = true ∧ w.frozen? ⟨g, j, none⟩ = false := by
  rw [cell_of_row w g j cur e (0, 0) hg]
  refine ⟨by simp [hj], ?_⟩
  simp [World.frozen?, hg]

/-- a write of neighbouring cells into a row -/
theorem heap_setCells {g : Nat} {e : TypeId} : ∀ (vs : List Value) (o : Nat) (w : World) (cur : Array Value), w.heap[g]? = some (.cells cur e (0, 0)) → o + vs.length ≤ cur.size →
    ∃ cur', (w.setCells g o vs).heap[g]? = some (.cells cur' e (0, 0)) ∧ cur'.size = cur.size ∧ ∀ j, cur'[j]? = if o ≤ j ∧ j < o + vs.length then vs[j - o]? else cur[j]?
  | [], o, w, cur, h, _ => ⟨cur, h, rfl, fun j => by rw [if_neg (by simp)]⟩
  | v :: vs, o, w, cur, h, hl => by
    have h1 : (w.setCell ⟨g, o, none⟩ v).heap[g]? = some (.cells (cur.setIfInBounds o v) e (0, 0)) := by
      have hlt := (Array.getElem?_eq_some_iff.1 h).1
      have h' := (Array.getElem?_eq_some_iff.1 h).2
      show (w.heap.modify g _)[g]? = _
      rw [Array.getElem?_eq_getElem (by rw [Array.size_modify]; exact hlt), Array.getElem_modify_self, h']
      rfl
    obtain ⟨cur', a1, a2, a3⟩ := heap_setCells vs (o + 1) (w.setCell ⟨g, o, none⟩ v) _ h1 (by simp at hl ⊢; omega)
    refine ⟨cur', a1, by simpa using a2, fun j => ?_⟩
    rw [a3 j]
    simp at hl
    by_cases hj : j = o
    · subst hj
      rw [if_neg (by omega), if_pos (by simp)]
      simp [show j < cur.size by omega]
    · by_cases hj2 : o + 1 ≤ j ∧ j < o + 1 + vs.length
      · rw [if_pos hj2, if_pos (by simp; omega)]
        rw [show j - o = (j - (o + 1)) + 1 by omega, List.getElem?_cons_succ]
      · rw [if_neg hj2, if_neg (by simp; omega)]
        simp [show ¬ o = j by omega]

theorem grown_setCell (w : World) (p : Addr) (u : Value) : w.grownBy (w.setCell p u) (some p.block) :=
  ⟨rfl, rfl, rfl, by simp [World.setCell], fun k hk hn => Below.heap_setCell _ _ _ _ (fun e => hn (by rw [e]))⟩
theorem grown_setCells (g : Nat) : ∀ (vs : List Value) (o : Nat) (w : World), w.grownBy (w.setCells g o vs) (some g)
  | [], _, w => ⟨rfl, rfl, rfl, Nat.le_refl _, fun _ _ _ => rfl⟩
  | v :: vs, o, w => by
    have h1 := grown_setCell w ⟨g, o, none⟩ v
    have h2 := grown_setCells g vs (o + 1) (w.setCell ⟨g, o, none⟩ v)
    exact ⟨h2.os.trans h1.os, h2.tape.trans h1.tape, h2.output.trans h1.output, Nat.le_trans h1.size h2.size, fun k hk hn => (h2.block k (Nat.lt_of_lt_of_le hk h1.size) hn).trans (h1.block k hk hn)⟩

/-- append onto such a slice -/
theorem run_append_sl {P : Program} {w : World} {t ty e : TypeId} {i : TypeInfo} {z : Value} {size bytes : Nat} (ht : P.underlying t = some (.slice e)) (hi : P.info? e = some i) (hz : i.zero = some z)
    (hsize : i.size = size) (hby : i.bytes = bytes) (hzs : z.cells.size = size) (hsz : 0 < size) {v : Value} {n : Nat} {xs : List Value} (h : OwnSl w e size v n xs)
    (a : Addr) (m c : Nat) (news : List Value) (hl : news.length = m * size) (hnews : ∀ j u, news[j]? = some u → w.cell? (a.add j) = some u) (h1 : ∀ u ∈ news, u.oneCell' = true) (hm : n + m ≤ maxLen) (hb : (n + m) * bytes ≤ 140737488355328) (hm0 : 0 < m) :
    ∃ g off cap w', (Builtin.append_ #[t, t] ty #[v, .slice (some a) m c]).run P w = .ok (.slice (some ⟨g, off, none⟩) (n + m) cap) w' ∧ OwnSl w' e size (.slice (some ⟨g, off, none⟩) (n + m) cap) (n + m) (xs ++ news) ∧ w.grownBy w' v.ownBlock ∧ (v.ownBlock = some g ∨ w.heap.size ≤ g) := by
  have form : ∀ {w' : World} {v' : Value}, w'.ownsRow w.heap.size e size v' (n + m) (xs ++ news) → ∃ g off cap, v' = .slice (some ⟨g, off, none⟩) (n + m) cap ∧ w.heap.size ≤ g := by
    intro w' v' ho
    rcases ho.2 with ⟨_, h0⟩ | ⟨g, cap, cur, rfl, hb, _⟩
    · omega
    · exact ⟨g, 0, cap, rfl, hb⟩
  rcases h.2 with ⟨rfl, rfl⟩ | ⟨g, off, cap, cur, rfl, hg, hnc, hcm, hfit, htk⟩
  · obtain rfl : xs = [] := List.eq_nil_of_length_eq_zero (by simpa using h.1)
    obtain ⟨v', w', hrun, r1, r2, _⟩ := run_append_own (P := P) w w.heap.size t ty e i z size bytes ht hi hz hsize hby hzs hsz (.slice none 0 0) 0 [] (World.ownsRow_nil w _ e size) a m c news hl hnews h1 hm hb (Nat.le_refl _)
    obtain ⟨g, off, cap, rfl, hge⟩ := form r1
    exact ⟨g, off, cap, w', hrun, OwnSl.of_owns r1, r2, .inr hge⟩
  · by_cases hr : n + m ≤ cap
    · subst hsize
      have hsp : n * i.size + news.length ≤ cap * i.size := by rw [hl, ← Nat.add_mul]; exact Nat.mul_le_mul_right _ hr
      have hrun := run_append_room_cells (P := P) w t ty e i ht hi g off n cap a m c news hl hnews h1 hr (fun j hj => (cell_some hg (by omega)).1) (fun j hj => (cell_some hg (by omega)).2)
      obtain ⟨cur', c1, c2, c3⟩ := heap_setCells news (off + n * i.size) w cur hg (by omega)
      refine ⟨g, off, cap, _, hrun, ⟨by rw [List.length_append, h.1, hl, Nat.add_mul], .inr ⟨g, off, cap, cur', rfl, c1, hr, hcm, by omega, ?_⟩⟩, grown_setCells g _ _ w, .inl rfl⟩
      · apply List.ext_getElem?
        intro j
        have hxl := h.1
        rw [List.getElem?_take, List.getElem?_drop]
        split
        · rename_i hj
          rw [show cur'.toList[off + j]? = cur'[off + j]? by simp, c3]
          have htk' : ∀ q, q < n * i.size → cur[off + q]? = xs[q]? := by
            intro q hq
            rw [← htk, List.getElem?_take, if_pos hq, List.getElem?_drop]
            simp
          by_cases hj2 : j < n * i.size
          · rw [if_neg (by omega), List.getElem?_append_left (by omega), htk' j hj2]
          · rw [Nat.add_mul] at hj
            rw [if_pos (by omega), List.getElem?_append_right (by omega), hxl, show off + j - (off + n * i.size) = j - n * i.size by omega]
        · rename_i hj
          rw [Nat.add_mul] at hj
          rw [List.getElem?_eq_none (by rw [List.length_append]; omega)]
    · obtain ⟨v', w', hrun, r1, r2⟩ := run_append_arg_grows (P := P) w t ty e i z size bytes ht hi hz hsize hby hzs hsz ⟨g, off, none⟩ n cap xs h.1 (fun j u hj => by rw [Addr.add_lit]; exact h.cells j u hj) a m c news hl hnews (by omega) hm hb
      obtain ⟨g', off', cap', rfl, hge⟩ := form r1
      exact ⟨g', off', cap', w', hrun, OwnSl.of_owns r1, ⟨r2.os, r2.tape, r2.output, r2.size, fun k hk _ => r2.block k hk (by simp)⟩, .inr hge⟩


theorem OwnSl.neObj {w : World} {e e' : TypeId} {s : Nat} {v : Value} {n : Nat} {xs : List Value} {B : Nat} {cur : Array Value} (h : OwnSl w e s v n xs) (hB : w.heap[B]? = some (.cells cur e' (0, 0))) (he : e ≠ e') : ∀ j, v.ownBlock = some j → j ≠ B := by
  rintro j hj rfl
  obtain ⟨cur, hcur⟩ := h.lt j hj
  rw [hcur] at hB; cases hB; exact he rfl
theorem cell_obj {w : World} {g : Nat} {cur : Array Value} {e : TypeId} {fr : Nat × Nat} (hg : w.heap[g]? = some (.cells cur e fr)) (j : Nat) : w.cell? ⟨g, j, none⟩ = cur[j]? := cell_of_row w g j cur e fr hg
theorem frozen_obj {w : World} {g : Nat} {cur : Array Value} {e : TypeId} (hg : w.heap[g]? = some (.cells cur e (0, 0))) (j : Nat) : w.frozen? ⟨g, j, none⟩ = false := by simp [World.frozen?, hg]
theorem heap_alloc_new (w : World) (o : Obj) : (w.alloc o).heap[w.heap.size]? = some o := (MapKept.heap_alloc w o).1
theorem heap_setCell_obj {w : World} {g j : Nat} {cur : Array Value} {e : TypeId} (h : w.heap[g]? = some (.cells cur e (0, 0))) (v : Value) : (w.setCell ⟨g, j, none⟩ v).heap[g]? = some (.cells (cur.setIfInBounds j v) e (0, 0)) := by
  have hlt := (Array.getElem?_eq_some_iff.1 h).1
  have h' := (Array.getElem?_eq_some_iff.1 h).2
  show (w.heap.modify g _)[g]? = _
  rw [Array.getElem?_eq_getElem (by rw [Array.size_modify]; exact hlt), Array.getElem_modify_self, h']
  rfl
theorem row_of_sl {w : World} {e : TypeId} {v : Value} {k : IntKind} {ys : List Int} (h : OwnSl w e 1 v ys.length (ys.map (Value.int k))) : Row k (fun b => v.ownBlock = some b) w v ys := by
  rcases h.2 with ⟨rfl, h0⟩ | ⟨g, off, cap, cur, rfl, hg, hn, hm, hs, ht⟩
  · have : ys = [] := List.eq_nil_of_length_eq_zero h0
    exact .inl ⟨none, 0, rfl, fun _ => rfl, Nat.zero_le _, this⟩
  · refine .inr ⟨g, off, cap, rfl, hn, hm, rfl, fun i hi => ?_⟩
    refine h.cells i _ ?_
    simp [hi]

/-- elements that are read: so many, each of s cells -/
def Src (s : Nat) (w : World) (x : Value) (m : Nat) (news : List Value) : Prop :=
  news.length = m * s ∧ ((∃ a c, x = .slice a 0 c ∧ (a = none → c = 0) ∧ m = 0) ∨ ∃ a c, x = .slice (some a) m c ∧ 0 < m ∧ ∀ j u, news[j]? = some u → w.cell? (a.add j) = some u)

theorem Src.turn {F : Nat → Prop} {s : Nat} {w w' : World} {x : Value} {m : Nat} {news : List Value} (h : Src s w x m news) (t : Turn F w w') (hF : ∀ k, x.ownBlock = some k → ¬ F k) : Src s w' x m news := by
  refine ⟨h.1, ?_⟩
  rcases h.2 with h | ⟨a, c, rfl, h0, hc⟩
  · exact .inl h
  · refine .inr ⟨a, c, rfl, h0, fun j u hu => t.cell (hc j u hu) ?_⟩
    have : (a.add j).block = a.block := by unfold Addr.add; split <;> rfl
    rw [this]
    exact hF a.block rfl
theorem OwnSl.src {w : World} {e : TypeId} {s : Nat} {v : Value} {n : Nat} {xs : List Value} (h : OwnSl w e s v n xs) : Src s w v n xs := by
  refine ⟨h.1, ?_⟩
  have h' := h
  rcases h.2 with ⟨rfl, rfl⟩ | ⟨g, off, cap, cur, rfl, hg, hnc, hcm, hfit, htk⟩
  · exact .inl ⟨none, 0, rfl, fun _ => rfl, rfl⟩
  · by_cases h0 : n = 0
    · subst h0; exact .inl ⟨_, _, rfl, (fun h => by cases h), rfl⟩
    · exact .inr ⟨_, _, rfl, by omega, fun j u hu => by rw [Addr.add_lit]; exact h'.cells j u hu⟩
theorem src_row {k : IntKind} {B : Nat → Prop} {w : World} {x : Value} {zs : List Int} (h : Row k B w x zs) : Src 1 w x zs.length (zs.map (Value.int k)) := by
  refine ⟨by simp, ?_⟩
  rcases h with ⟨a, c, rfl, ha, _, rfl⟩ | ⟨b, off, c, rfl, h1, h2, h3, h4⟩
  · exact .inl ⟨a, c, rfl, ha, rfl⟩
  · by_cases h0 : zs.length = 0
    · exact .inl ⟨_, _, by rw [h0], (fun h => by cases h), h0⟩
    · refine .inr ⟨_, _, rfl, by omega, fun j u hu => ?_⟩
      obtain ⟨hj, rfl⟩ := getD_map hu
      rw [Addr.add_lit]
      exact h4 j hj

/-- append onto a slice of one's own -/
theorem append_src {P : Program} {w : World} {t ty e : TypeId} {i : TypeInfo} {z : Value} {s bytes : Nat} (ht : P.underlying t = some (.slice e)) (hi : P.info? e = some i) (hz : i.zero = some z)
    (hsize : i.size = s) (hby : i.bytes = bytes) (hzs : z.cells.size = s) (hs : 0 < s) {v x : Value} {n m : Nat} {xs news : List Value} (h : OwnSl w e s v n xs) (hx : Src s w x m news) (h1 : ∀ u ∈ news, u.oneCell' = true) (hm : n + m ≤ maxLen) (hb : (n + m) * bytes ≤ 140737488355328) :
    ∃ v' w', (Builtin.append_ #[t, t] ty #[v, x]).run P w = .ok v' w' ∧ OwnSl w' e s v' (n + m) (xs ++ news) ∧ Turn (fun j => v.ownBlock = some j) w w' ∧ (∀ j, v'.ownBlock = some j → v.ownBlock = some j ∨ w.heap.size ≤ j) := by
  rcases hx.2 with ⟨a, c, rfl, ha, rfl⟩ | ⟨a, c, rfl, h0, hc⟩
  · have hn : news = [] := List.eq_nil_of_length_eq_zero (by simpa using hx.1)
    subst hn
    refine ⟨v, w, ?_, by simpa using h, Turn.refl _ _, fun j hj => .inl hj⟩
    rcases h.2 with ⟨rfl, h0⟩ | ⟨g, off, cap, cur, rfl, hg, hnc, hcm, hfit, htk⟩
    · cases a <;> simp [Builtin.append_, run_underlying ht, sizeOf, typeInfo, hi, Builtin.lenOf, Builtin.firstCells, loadCells, loadCellsFrom, Result.andThen]
    · cases a <;> simp [Builtin.append_, run_underlying ht, sizeOf, typeInfo, hi, Builtin.lenOf, Builtin.firstCells, hnc, storeCells, loadCells, loadCellsFrom, Result.andThen]
  · obtain ⟨g, off', cap, w', hrun, q, gr, hl⟩ := run_append_sl (P := P) (w := w) (t := t) (ty := ty) ht hi hz hsize hby hzs hs h a m c news hx.1 hc h1 hm hb h0
    refine ⟨_, w', hrun, q, Turn.grown gr (fun j hj => hj), fun j hj => ?_⟩
    simp [Value.ownBlock] at hj
    subst hj
    exact hl

/-- elements from a place on -/
theorem cutS_from {P : Program} {w : World} {t e : TypeId} {i : TypeInfo} {ki : IntKind} {s : Nat} (ht : P.underlying t = some (.slice e)) (hi : P.info? e = some i) (hs : i.size = s) {v : Value} {n : Nat} {xs : List Value} (h : OwnSl w e s v n xs) (k : Nat) (hk : k ≤ n) :
    ∃ x, (∀ u : World, (Instr.slice t v (some (.int ki (k : Int))) none none).run P u = .ok x u) ∧ Src s w x (n - k) (xs.drop (k * s)) ∧ (∀ j, x.ownBlock = some j → v.ownBlock = some j) := by
  have hl : (xs.drop (k * s)).length = (n - k) * s := by rw [List.length_drop, h.1, Nat.sub_mul]
  have h' := h
  rcases h.2 with ⟨rfl, rfl⟩ | ⟨g, off, cap, cur, rfl, hg, hnc, hcm, hfit, htk⟩
  · obtain rfl : k = 0 := by omega
    refine ⟨.slice none 0 0, fun u => ?_, ⟨hl, .inl ⟨none, 0, rfl, fun _ => rfl, rfl⟩⟩, fun j hj => hj⟩
    simp [Instr.slice, run_underlying ht, Instr.sliceBounds, Instr.sliceBound, asIntOf, sizeOf, typeInfo, hi, Result.andThen]
  · have hle : (k : Int) ≤ (n : Int) := by omega
    by_cases hc : cap = k
    · subst hc
      obtain rfl : n = cap := by omega
      refine ⟨.slice (some ⟨g, off, none⟩) 0 0, fun u => ?_, ⟨hl, .inl ⟨_, _, rfl, (fun h => by cases h), by omega⟩⟩, fun j hj => hj⟩
      simp [Instr.slice, run_underlying ht, Instr.sliceBounds, Instr.sliceBound, asIntOf, sizeOf, typeInfo, hi, Result.andThen]
    · refine ⟨.slice (some ⟨g, off + k * s, none⟩) (n - k) (cap - k), fun u => ?_, ⟨hl, ?_⟩, fun j hj => hj⟩
      · simp [Instr.slice, run_underlying ht, Instr.sliceBounds, Instr.sliceBound, asIntOf, sizeOf, typeInfo, hi, Result.andThen, hc, hs, Addr.add_lit, hle, hk]
      · by_cases h0 : n - k = 0
        · exact .inl ⟨_, _, by rw [h0], (fun h => by cases h), h0⟩
        · refine .inr ⟨_, _, rfl, by omega, fun j u hu => ?_⟩
          rw [List.getElem?_drop] at hu
          rw [Addr.add_lit, Nat.add_assoc]
          exact h'.cells _ u hu
/-- elements up to a place -/
theorem cutS_to {P : Program} {w : World} {t e : TypeId} {i : TypeInfo} {ki : IntKind} {s : Nat} (ht : P.underlying t = some (.slice e)) (hi : P.info? e = some i) (hs : i.size = s) {v : Value} {n : Nat} {xs : List Value} (h : OwnSl w e s v n xs) (k : Nat) (hk : k ≤ n) :
    ∃ x, (∀ u : World, (Instr.slice t v none (some (.int ki (k : Int))) none).run P u = .ok x u) ∧ Src s w x k (xs.take (k * s)) ∧ (∀ j, x.ownBlock = some j → v.ownBlock = some j) := by
  have hl : (xs.take (k * s)).length = k * s := by rw [List.length_take, h.1]; exact Nat.min_eq_left (Nat.mul_le_mul_right _ hk)
  have h' := h
  rcases h.2 with ⟨rfl, rfl⟩ | ⟨g, off, cap, cur, rfl, hg, hnc, hcm, hfit, htk⟩
  · obtain rfl : k = 0 := by omega
    refine ⟨.slice none 0 0, fun u => ?_, ⟨hl, .inl ⟨none, 0, rfl, fun _ => rfl, rfl⟩⟩, fun j hj => hj⟩
    simp [Instr.slice, run_underlying ht, Instr.sliceBounds, Instr.sliceBound, asIntOf, sizeOf, typeInfo, hi, Result.andThen]
  · have hle : k ≤ cap := by omega
    refine ⟨.slice (some ⟨g, off, none⟩) k cap, fun u => ?_, ⟨hl, ?_⟩, fun j hj => hj⟩
    · by_cases hc0 : cap = 0
      · obtain rfl : k = 0 := by omega
        subst hc0
        simp [Instr.slice, run_underlying ht, Instr.sliceBounds, Instr.sliceBound, asIntOf, sizeOf, typeInfo, hi, Result.andThen, Addr.add]
      · simp [Instr.slice, run_underlying ht, Instr.sliceBounds, Instr.sliceBound, asIntOf, sizeOf, typeInfo, hi, Result.andThen, Addr.add, hle, hc0]
    · by_cases h0 : k = 0
      · exact .inl ⟨_, _, by rw [h0], (fun h => by cases h), h0⟩
      · refine .inr ⟨_, _, rfl, by omega, fun j u hu => ?_⟩
        rw [List.getElem?_take] at hu
        split at hu
        · rw [Addr.add_lit]; exact h'.cells _ u hu
        · cases hu
/-- a cell of a row written -/
theorem OwnSl.set {w : World} {e : TypeId} {s g off n cap : Nat} {xs : List Value} (h : OwnSl w e s (.slice (some ⟨g, off, none⟩) n cap) n xs) (j : Nat) (hj : j < n * s) (u : Value) : OwnSl (w.setCell ⟨g, off + j, none⟩ u) e s (.slice (some ⟨g, off, none⟩) n cap) n (xs.set j u) ∧ w.frozen? ⟨g, off + j, none⟩ = false := by
  rcases h.2 with ⟨hv, _⟩ | ⟨g', off', cap', cur, hv, hg, h1, h2, h3, h4⟩
  · simp at hv
  · simp only [Value.slice.injEq, Option.some.injEq, Addr.mk.injEq, and_true, true_and] at hv
    obtain ⟨⟨rfl, rfl⟩, rfl⟩ := hv
    refine ⟨⟨by rw [List.length_set]; exact h.1, .inr ⟨g, off, cap, cur.setIfInBounds (off + j) u, rfl, heap_setCell_obj hg u, h1, h2, by simpa using h3, ?_⟩⟩, frozen_obj hg _⟩
    have hns : n * s ≤ cap * s := Nat.mul_le_mul_right _ h1
    apply List.ext_getElem?
    intro q
    rw [List.getElem?_take, List.getElem?_drop, List.getElem?_set]
    have hq : ∀ q, q < n * s → cur.toList[off + q]? = xs[q]? := fun q hq => by rw [← h4, List.getElem?_take, if_pos hq, List.getElem?_drop]
    split
    · rename_i hlt
      rw [Array.getElem?_toList, Array.getElem?_setIfInBounds]
      by_cases hjq : j = q
      · subst hjq
        rw [if_pos rfl, if_pos (by omega), if_pos rfl, if_pos (by rw [h.1]; exact hj)]
      · rw [if_neg (by omega), if_neg hjq, ← hq q hlt]; simp
    · rename_i hlt
      rw [if_neg (by omega), List.getElem?_eq_none (by rw [h.1]; omega)]

/-- the cells of one file -/
def isSl (v : Value) : Prop := ∃ a n c, v = .slice a n c
end Go.Proofs.Ytombpfpfeebnpaa
