/- Plain facts of files by rising names: lists with a key, a disk's state, and what each call makes of it. -/
import GoSem.ClaimWide
import Derived.WideAt
import Derived.WideShapes
namespace Go.Proofs.YthikiahhochjmaaGreatDoor
set_option linter.unusedVariables false
set_option linter.unusedSimpArgs false

abbrev Nm := List UInt8

section keyed
variable {α β : Type}
def insK (key : α → Nm) (x : α) : List α → List α
  | [] => [x]
  | y :: r => if bytesBefore (key x) (key y) then x :: y :: r else y :: insK key x r
def delK (key : α → Nm) (n : Nm) (l : List α) : List α := l.filter (fun y => !(key y == n))
def putK (key : α → Nm) (x : α) (l : List α) : List α := insK key x (delK key (key x) l)
def getK (key : α → Nm) (n : Nm) (l : List α) : Option α := l.find? (fun y => key y == n)
/-- by rising keys -/
def Rise (key : α → Nm) (l : List α) : Prop := l.Pairwise (fun x y => bytesBefore (key x) (key y) = true)

theorem before_irrefl (a : Nm) : bytesBefore a a = false := WideAt.bytes_irrefl a
theorem before_ne {a b : Nm} (h : bytesBefore a b = true) : a ≠ b := fun e => by rw [e, before_irrefl] at h; cases h
theorem before_anti {a b : Nm} (h : bytesBefore a b = true) : bytesBefore b a = false := by
  cases h' : bytesBefore b a
  · rfl
  · have := WideShapes.bytes_trans a b a h h'; rw [before_irrefl] at this; cases this

theorem map_insK (key : α → Nm) (key' : β → Nm) (g : α → β) (hk : ∀ x, key' (g x) = key x) (x : α) (l : List α) : (insK key x l).map g = insK key' (g x) (l.map g) := by
  induction l with
  | nil => rfl
  | cons y r ih => simp only [insK, List.map_cons, hk]; split <;> simp [ih]
theorem map_delK (key : α → Nm) (key' : β → Nm) (g : α → β) (hk : ∀ x, key' (g x) = key x) (n : Nm) (l : List α) : (delK key n l).map g = delK key' n (l.map g) := by
  unfold delK; rw [List.filter_map]; congr 1; apply List.filter_congr; intro x _; simp [hk]
theorem map_putK (key : α → Nm) (key' : β → Nm) (g : α → β) (hk : ∀ x, key' (g x) = key x) (x : α) (l : List α) : (putK key x l).map g = putK key' (g x) (l.map g) := by
  unfold putK; rw [map_insK key key' g hk, map_delK key key' g hk, hk]
theorem map_getK (key : α → Nm) (key' : β → Nm) (g : α → β) (hk : ∀ x, key' (g x) = key x) (n : Nm) (l : List α) : (getK key n l).map g = getK key' n (l.map g) := by
  unfold getK
  rw [List.find?_map]
  congr 2
  funext y
  simp [hk]

theorem mem_insK {key : α → Nm} {x y : α} {l : List α} : y ∈ insK key x l ↔ y = x ∨ y ∈ l := by
  induction l with
  | nil => simp [insK]
  | cons z r ih => simp only [insK]; split <;> simp [ih]; constructor <;> (rintro (h | h | h) <;> simp [h])
theorem mem_delK {key : α → Nm} {n : Nm} {y : α} {l : List α} : y ∈ delK key n l ↔ y ∈ l ∧ key y ≠ n := by simp [delK]
theorem mem_putK {key : α → Nm} {x y : α} {l : List α} : y ∈ putK key x l ↔ y = x ∨ (y ∈ l ∧ key y ≠ key x) := by rw [putK, mem_insK, mem_delK]
theorem getK_some {key : α → Nm} {n : Nm} {l : List α} {e : α} (h : getK key n l = some e) : e ∈ l ∧ key e = n := by
  have := List.find?_some h
  exact ⟨List.mem_of_find?_eq_some h, by simpa using this⟩
theorem getK_none {key : α → Nm} {n : Nm} {l : List α} (h : getK key n l = none) : ∀ e ∈ l, key e ≠ n := by
  intro e he
  have := List.find?_eq_none.1 h e he
  simpa using this
theorem delK_none {key : α → Nm} {n : Nm} {l : List α} (h : ∀ e ∈ l, key e ≠ n) : delK key n l = l := by
  unfold delK; rw [List.filter_eq_self]; intro a ha; simp [h a ha]
theorem delK_mid {key : α → Nm} {X Y : List α} {x : α} (h : Rise key (X ++ x :: Y)) : delK key (key x) (X ++ x :: Y) = X ++ Y := by
  unfold Rise at h
  rw [List.pairwise_append] at h
  obtain ⟨_, h2, h3⟩ := h
  rw [List.pairwise_cons] at h2
  have e1 : delK key (key x) X = X := delK_none (fun e he => before_ne (h3 e he x (by simp)))
  have e2 : delK key (key x) Y = Y := delK_none (fun e he => (before_ne (h2.1 e he)).symm)
  have : delK key (key x) (X ++ x :: Y) = delK key (key x) X ++ delK key (key x) Y := by simp [delK, List.filter_append, List.filter_cons]
  rw [this, e1, e2]
theorem insK_mid {key : α → Nm} {X Y : List α} {x : α} (h : Rise key (X ++ x :: Y)) : insK key x (X ++ Y) = X ++ x :: Y := by
  unfold Rise at h
  rw [List.pairwise_append] at h
  obtain ⟨h1, h2, h3⟩ := h
  clear h1
  rw [List.pairwise_cons] at h2
  induction X with
  | nil =>
    cases Y with
    | nil => rfl
    | cons y r => simp [insK, h2.1 y (by simp)]
  | cons z X ih =>
    have hz := before_anti (h3 z (by simp) x (by simp))
    simp only [List.cons_append, insK, hz, Bool.false_eq_true, if_false]
    rw [ih (fun a ha => h3 a (by simp [ha]))]
theorem Rise.swap {key : α → Nm} {X Y : List α} {x x' : α} (h : Rise key (X ++ x :: Y)) (e : key x' = key x) : Rise key (X ++ x' :: Y) := by
  unfold Rise at *
  rw [List.pairwise_append, List.pairwise_cons] at *
  refine ⟨h.1, ⟨fun a ha => by rw [e]; exact h.2.1.1 a ha, h.2.1.2⟩, fun a ha b hb => ?_⟩
  rcases List.mem_cons.1 hb with rfl | hb
  · rw [e]; exact h.2.2 a ha x (by simp)
  · exact h.2.2 a ha b (by simp [hb])
/-- a new thing in an old one's place -/
theorem putK_mid {key : α → Nm} {X Y : List α} {x x' : α} (h : Rise key (X ++ x :: Y)) (e : key x' = key x) : putK key x' (X ++ x :: Y) = X ++ x' :: Y := by
  unfold putK; rw [e, delK_mid h, insK_mid (h.swap e)]
theorem Rise.del {key : α → Nm} {l : List α} (h : Rise key l) (n : Nm) : Rise key (delK key n l) := List.Pairwise.filter _ h
theorem Rise.ins {key : α → Nm} {x : α} : ∀ {l : List α}, Rise key l → (∀ e ∈ l, key e ≠ key x) → Rise key (insK key x l)
  | [], _, _ => by simp [insK, Rise]
  | y :: r, h, hn => by
    unfold Rise at *
    rw [List.pairwise_cons] at h
    simp only [insK]
    split
    · rename_i hb
      rw [List.pairwise_cons]
      refine ⟨fun a ha => ?_, List.pairwise_cons.2 h⟩
      rcases List.mem_cons.1 ha with rfl | ha
      · exact hb
      · exact WideShapes.bytes_trans _ _ _ hb (h.1 a ha)
    · rename_i hb
      rw [List.pairwise_cons]
      refine ⟨fun a ha => ?_, Rise.ins h.2 (fun e he => hn e (by simp [he]))⟩
      rcases mem_insK.1 ha with rfl | ha
      · rcases WideAt.bytes_total (key a) (key y) (fun e => hn y (by simp) e.symm) with h' | h'
        · exact absurd h' hb
        · exact h'
      · exact h.1 a ha
theorem Rise.put {key : α → Nm} {x : α} {l : List α} (h : Rise key l) : Rise key (putK key x l) :=
  (h.del _).ins (fun e he => (mem_delK.1 he).2)
theorem split_of_mem {l : List α} {x : α} (h : x ∈ l) : ∃ X Y, l = X ++ x :: Y := List.append_of_mem h
theorem insK_split (key : α → Nm) (x : α) : ∀ l : List α, ∃ X Y, l = X ++ Y ∧ insK key x l = X ++ x :: Y
  | [] => ⟨[], [], rfl, rfl⟩
  | y :: r => by
    simp only [insK]
    split
    · exact ⟨[], y :: r, rfl, rfl⟩
    · obtain ⟨X, Y, h1, h2⟩ := insK_split key x r
      exact ⟨y :: X, Y, by rw [h1]; rfl, by rw [h2]; rfl⟩
theorem getK_mid {key : α → Nm} {X Y : List α} {x : α} (h : Rise key (X ++ x :: Y)) : getK key (key x) (X ++ x :: Y) = some x := by
  unfold Rise at h
  rw [List.pairwise_append] at h
  unfold getK
  rw [List.find?_append]
  have : X.find? (fun y => key y == key x) = none := by
    rw [List.find?_eq_none]; intro y hy
    simpa using before_ne (h.2.2 y hy x (by simp))
  simp [this]
theorem getK_of_mem {key : α → Nm} {l : List α} {x : α} (h : Rise key l) (hx : x ∈ l) : getK key (key x) l = some x := by
  obtain ⟨X, Y, rfl⟩ := split_of_mem hx; exact getK_mid h
theorem Rise.map {key : α → Nm} {key' : β → Nm} {g : α → β} (hk : ∀ x, key' (g x) = key x) {l : List α} (h : Rise key l) : Rise key' (l.map g) := by
  unfold Rise at *
  rw [List.pairwise_map]
  exact List.Pairwise.imp (fun {a b} hab => by rw [hk, hk]; exact hab) h
end keyed

/-- one file: its name, its bytes, how many of them are safe -/
structure Fl where
  n : Nm
  d : List Int
  s : Nat
def used (l : List Fl) : Nat := (l.map (fun f => f.d.length)).sum
/-- a disk -/
structure Dk where
  size : Nat
  fs : List Fl
  down : Bool
  arm : Nat

theorem used_append (a b : List Fl) : used (a ++ b) = used a + used b := by simp [used]
theorem used_cons (f : Fl) (b : List Fl) : used (f :: b) = f.d.length + used b := by simp [used]
theorem used_perm {a b : List Fl} (h : a.Perm b) : used a = used b := (h.map _).sum_nat
theorem used_nil : used [] = 0 := rfl
theorem used_mem {l : List Fl} {f : Fl} (h : f ∈ l) : f.d.length ≤ used l := by
  obtain ⟨X, Y, rfl⟩ := split_of_mem h; rw [used_append, used_cons]; omega

def byteB (c : Nat) : Bool := (decide (97 ≤ c) && decide (c ≤ 122)) || (decide (48 ≤ c) && decide (c ≤ 57)) || decide (c = 46)
def goodB (n : Nm) : Bool := decide (1 ≤ n.length) && decide (n.length ≤ 16) && n.all (fun c => byteB c.toNat)
theorem goodB_len {n : Nm} (h : goodB n = true) : 1 ≤ n.length ∧ n.length ≤ 16 := by simp [goodB] at h; exact ⟨h.1.1, h.1.2⟩

/-- why nothing is done -/
def refuse (S : Dk) (n : Nm) : Int := if S.down then 3 else if goodB n then 0 else 1
/-- a call that would be done: is it hit? -/
def hitB (S : Dk) : Bool := decide (S.arm = 1)
def hitS (S : Dk) : Dk := if S.arm = 0 then S else { S with arm := S.arm - 1, down := decide (S.arm = 1) }

def fileOf (S : Dk) (n : Nm) : Fl := (getK Fl.n n S.fs).getD ⟨n, [], 0⟩
def fullB (S : Dk) (n : Nm) (b : List Int) : Bool := decide (S.size < used S.fs + b.length) || ((getK Fl.n n S.fs).isNone && decide (64 ≤ S.fs.length))
def appS (S : Dk) (n : Nm) (b : List Int) : Dk := { S with fs := putK Fl.n ⟨n, (fileOf S n).d ++ b, (fileOf S n).s⟩ S.fs }
def appendC (S : Dk) (n : Nm) (b : List Int) : Int := if refuse S n ≠ 0 then refuse S n else if fullB S n b then 4 else if hitB S then 3 else 0
def appendS (S : Dk) (n : Nm) (b : List Int) : Dk := if refuse S n ≠ 0 then S else if fullB S n b then S else hitS (appS S n b)

def syncC (S : Dk) (n : Nm) : Int := if refuse S n ≠ 0 then refuse S n else match getK Fl.n n S.fs with | none => 6 | some _ => if hitB S then 3 else 0
def syncS (S : Dk) (n : Nm) : Dk := if refuse S n ≠ 0 then S else match getK Fl.n n S.fs with | none => S | some f => if hitB S then hitS S else { hitS S with fs := putK Fl.n ⟨n, f.d, f.d.length⟩ S.fs }

def readC (S : Dk) (n : Nm) : Int := if refuse S n ≠ 0 then refuse S n else match getK Fl.n n S.fs with | none => 6 | some _ => 0
def readD (S : Dk) (n : Nm) : List Int := if refuse S n ≠ 0 then [] else match getK Fl.n n S.fs with | none => [] | some f => f.d

def cutC (S : Dk) (n : Nm) (m : Int) : Int := if refuse S n ≠ 0 then refuse S n else match getK Fl.n n S.fs with | none => 6 | some f => if m < 0 ∨ (f.d.length : Int) < m then 1 else if hitB S then 3 else 0
def cutS (S : Dk) (n : Nm) (m : Int) : Dk := if refuse S n ≠ 0 then S else match getK Fl.n n S.fs with | none => S | some f => if m < 0 ∨ (f.d.length : Int) < m then S else if hitB S then hitS S else { hitS S with fs := putK Fl.n ⟨n, f.d.take m.toNat, m.toNat⟩ S.fs }

def removeC (S : Dk) (n : Nm) : Int := if refuse S n ≠ 0 then refuse S n else match getK Fl.n n S.fs with | none => 6 | some _ => if hitB S then 3 else 0
def removeS (S : Dk) (n : Nm) : Dk := if refuse S n ≠ 0 then S else match getK Fl.n n S.fs with | none => S | some f => if hitB S then hitS S else { hitS S with fs := delK Fl.n n S.fs }

def namesC (S : Dk) : Int := if S.down then 3 else 0
def namesL (S : Dk) : List Nm := if S.down then [] else S.fs.map Fl.n

def armS (S : Dk) (m : Int) : Dk := { S with arm := m.toNat }

/-- the keep of the k-th file -/
def turnK (keep : List Int) (k : Nat) : Int := if keep.length = 0 then 0 else keep.getD (k % keep.length) 0
/-- how many bytes that are not safe stay -/
def keepN (f : Fl) (x : Int) : Nat := min x.toNat (f.d.length - f.s)
def secEnd (n : Nat) : Nat := if n % 64 = 0 then n else n + 64 - n % 64
/-- how long it is then -/
def endN (f : Fl) (x : Int) : Nat := if keepN f x = f.d.length - f.s then f.d.length else min (secEnd (f.s + keepN f x)) f.d.length
def fallD (f : Fl) (x : Int) : List Int := if keepN f x = f.d.length - f.s then f.d else f.d.take (f.s + keepN f x) ++ List.replicate (endN f x - (f.s + keepN f x)) 0
def fallF (f : Fl) (x : Int) : Fl := ⟨f.n, fallD f x, (fallD f x).length⟩
/-- all files behind a fall -/
def fallL (keep : List Int) : Nat → List Fl → List Fl
  | _, [] => []
  | k, f :: r => if (fallD f (turnK keep k)).length = 0 then fallL keep (k + 1) r else fallF f (turnK keep k) :: fallL keep (k + 1) r
def crashS (S : Dk) (keep : List Int) : Dk := { S with fs := fallL keep 0 S.fs, down := true }
def startS (S : Dk) : Dk := { (if S.down then crashS S [] else S) with down := false, arm := 0 }

/-- what holds of each disk -/
structure Well (S : Dk) : Prop where
  rise : Rise Fl.n S.fs
  good : ∀ f ∈ S.fs, goodB f.n = true ∧ f.s ≤ f.d.length
  room : used S.fs ≤ S.size
  size : S.size ≤ 16777216
  files : S.fs.length ≤ 64
  arm : S.arm ≤ 9223372036854775807

theorem secEnd_le (n : Nat) : n ≤ secEnd n ∧ secEnd n < n + 64 := by unfold secEnd; split <;> omega
theorem keepN_le (f : Fl) (x : Int) : keepN f x ≤ f.d.length - f.s := Nat.min_le_right _ _
theorem endN_le (f : Fl) (x : Int) (h : f.s ≤ f.d.length) : f.s + keepN f x ≤ endN f x ∧ endN f x ≤ f.d.length := by
  have h1 := keepN_le f x
  have h2 := secEnd_le (f.s + keepN f x)
  unfold endN; split <;> omega
theorem fallD_len (f : Fl) (x : Int) (h : f.s ≤ f.d.length) : (fallD f x).length = endN f x := by
  have h1 := keepN_le f x
  have h2 := endN_le f x h
  unfold fallD
  split
  · rename_i e; unfold endN; rw [if_pos e]
  · rw [List.length_append, List.length_take, List.length_replicate]; omega
theorem used_fall (keep : List Int) : ∀ (l : List Fl) (k : Nat), (∀ f ∈ l, f.s ≤ f.d.length) → used (fallL keep k l) ≤ used l ∧ (fallL keep k l).length ≤ l.length
  | [], k, _ => by simp [fallL]
  | f :: r, k, h => by
    have ih := used_fall keep r (k + 1) (fun g hg => h g (by simp [hg]))
    have h1 := fallD_len f (turnK keep k) (h f (by simp))
    have h2 := (endN_le f (turnK keep k) (h f (by simp))).2
    simp only [fallL]
    split
    · rw [used_cons]; simp; omega
    · rw [used_cons, used_cons]; simp [fallF]; omega
theorem mem_fall {keep : List Int} : ∀ {l : List Fl} {k : Nat} {g : Fl}, g ∈ fallL keep k l → ∃ f ∈ l, g.n = f.n ∧ g.s = g.d.length
  | [], k, g, h => by simp [fallL] at h
  | f :: r, k, g, h => by
    simp only [fallL] at h
    split at h
    · obtain ⟨f', h1, h2⟩ := mem_fall h; exact ⟨f', by simp [h1], h2⟩
    · rcases List.mem_cons.1 h with rfl | h
      · exact ⟨f, by simp, rfl, rfl⟩
      · obtain ⟨f', h1, h2⟩ := mem_fall h; exact ⟨f', by simp [h1], h2⟩
theorem rise_fall {keep : List Int} : ∀ {l : List Fl} {k : Nat}, Rise Fl.n l → Rise Fl.n (fallL keep k l)
  | [], k, h => by simp [fallL, Rise]
  | f :: r, k, h => by
    unfold Rise at *
    rw [List.pairwise_cons] at h
    simp only [fallL]
    split
    · exact rise_fall h.2
    · rw [List.pairwise_cons]
      refine ⟨fun a ha => ?_, rise_fall h.2⟩
      obtain ⟨f', h1, h2, _⟩ := mem_fall ha
      rw [h2]; exact h.1 f' h1
end Go.Proofs.YthikiahhochjmaaGreatDoor
