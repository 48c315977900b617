/- Plain facts of a journal: its segments' names, what each call makes of it and of its disk. -/
import Derived.Test.YthikiahhochjmaaGreatDoorPack1
import Derived.Test.YthikiahhochjmaaGreatDoorFPure
import Derived.Lib.ItoaNum
import Derived.Lib.ParseIntB
import Derived.Lib.Repeat
import Derived.Lib.Strings
namespace Go.Proofs.YthikiahhochjmaaGreatDoor
set_option linter.unusedVariables false
set_option linter.unusedSimpArgs false

/-! ### Numbers in so many digits -/
/-- the last k digits of n -/
def dig (n : Nat) : Nat → Nm
  | 0 => []
  | k + 1 => dig (n / 10) k ++ [UInt8.ofNat (48 + n % 10)]
theorem dig_len : ∀ (k n : Nat), (dig n k).length = k
  | 0, _ => rfl
  | k + 1, n => by simp [dig, dig_len k]
theorem digit_nat (n : Nat) : (UInt8.ofNat (48 + n % 10)).toNat = 48 + n % 10 := by
  rw [UInt8.toNat_ofNat']
  omega
theorem repeat_snoc (l : Nm) : ∀ c, Lib.repeatL l c ++ l = Lib.repeatL l (c + 1)
  | 0 => by simp [Lib.repeatL]
  | c + 1 => by simp only [Lib.repeatL, List.append_assoc]; rw [repeat_snoc l c]; rfl
theorem dig_zero : ∀ k, dig 0 k = Lib.repeatL [48] k
  | 0 => rfl
  | k + 1 => by rw [dig, Nat.zero_div, dig_zero k, Nat.zero_mod]; exact repeat_snoc [48] k
/-- a number's numeral with noughts ahead -/
theorem dig_dec : ∀ (k n : Nat), n < 10 ^ (k + 1) → (Lib.decDigits n).length ≤ k + 1 ∧ Lib.repeatL [48] (k + 1 - (Lib.decDigits n).length) ++ Lib.decDigits n = dig n (k + 1)
  | 0, n, h => by
    have h1 : n < 10 := by simpa using h
    rw [Lib.decDigits, dif_pos h1]
    refine ⟨by simp, ?_⟩
    simp [Lib.repeatL, dig, Nat.mod_eq_of_lt h1]
  | k + 1, n, h => by
    by_cases h1 : n < 10
    · rw [Lib.decDigits, dif_pos h1]
      refine ⟨by simp, ?_⟩
      have : n / 10 = 0 := Nat.div_eq_of_lt h1
      rw [dig, this, dig_zero, Nat.mod_eq_of_lt h1]
      simp
    · have h2 : n / 10 < 10 ^ (k + 1) := by
        rw [Nat.div_lt_iff_lt_mul (by omega)]
        rw [Nat.pow_succ] at h
        omega
      obtain ⟨i1, i2⟩ := dig_dec k (n / 10) h2
      rw [Lib.decDigits, dif_neg h1]
      refine ⟨by simp; omega, ?_⟩
      rw [dig, ← i2, ← List.append_assoc]
      simp only [List.length_append, List.length_cons, List.length_nil, Nat.zero_add]
      rw [show k + 1 + 1 - ((Lib.decDigits (n / 10)).length + 1) = k + 1 - (Lib.decDigits (n / 10)).length by omega]
/-- they are read back -/
theorem parse_dig (M : Nat) : ∀ (k n acc : Nat) (r : Nm), n < 10 ^ k → acc * 10 ^ k + n < 1844674407370955162 → acc * 10 ^ k + n ≤ M → Lib.parseUintM M acc (dig n k ++ r) = Lib.parseUintM M (acc * 10 ^ k + n) r
  | 0, n, acc, r, h, _, _ => by
    have : n = 0 := by simpa using h
    subst this
    simp [dig]
  | k + 1, n, acc, r, h, hb, hM => by
    have h2 : n / 10 < 10 ^ k := by
      rw [Nat.div_lt_iff_lt_mul (by omega)]
      rw [Nat.pow_succ] at h
      omega
    rw [Nat.pow_succ, ← Nat.mul_assoc] at hb hM ⊢
    have hd := Nat.div_add_mod n 10
    have e := parse_dig M k (n / 10) acc ([UInt8.ofNat (48 + n % 10)] ++ r) h2 (by omega) (by omega)
    rw [dig, List.append_assoc, e]
    simp only [List.cons_append, List.nil_append, Lib.parseUintM, digit_nat]
    rw [if_pos (by omega), if_neg (by omega), if_neg (by omega)]
    congr 1
    omega
/-- what so many signs say is less -/
theorem parse_lt (M : Nat) : ∀ (l : Nm) (acc v : Nat), Lib.parseUintM M acc l = .ok v → v < (acc + 1) * 10 ^ l.length
  | [], acc, v, h => by simp [Lib.parseUintM] at h; simp; omega
  | c :: r, acc, v, h => by
    unfold Lib.parseUintM at h
    split at h
    · split at h
      · cases h
      · split at h
        · cases h
        · have := parse_lt M r _ v h
          rename_i hc _ _
          refine Nat.lt_of_lt_of_le this ?_
          rw [List.length_cons, Nat.pow_succ, Nat.mul_comm (10 ^ r.length) 10, ← Nat.mul_assoc]
          exact Nat.mul_le_mul_right _ (by omega)
    · cases h

theorem before_app : ∀ {a b : Nm} (c d : Nm), bytesBefore a b = true → a.length = b.length → bytesBefore (a ++ c) (b ++ d) = true
  | [], [], _, _, h, _ => by simp [bytesBefore] at h
  | [], _ :: _, _, _, _, hl => by simp at hl
  | _ :: _, [], _, _, _, hl => by simp at hl
  | x :: a, y :: b, c, d, h, hl => by
    simp only [bytesBefore, Bool.or_eq_true, Bool.and_eq_true, decide_eq_true_eq, beq_iff_eq, List.cons_append] at h ⊢
    rcases h with h | ⟨rfl, h⟩
    · exact .inl h
    · exact .inr ⟨rfl, before_app c d h (by simpa using hl)⟩
theorem before_same : ∀ (a : Nm) {c d : Nm}, bytesBefore c d = true → bytesBefore (a ++ c) (a ++ d) = true
  | [], _, _, h => h
  | x :: a, c, d, h => by simp only [List.cons_append, bytesBefore, before_same a h]; simp
theorem dig_before : ∀ (k m n : Nat), m < n → n < 10 ^ k → bytesBefore (dig m k) (dig n k) = true
  | 0, m, n, h, hn => by simp at hn; omega
  | k + 1, m, n, h, hn => by
    have h2 : n / 10 < 10 ^ k := by
      rw [Nat.div_lt_iff_lt_mul (by omega)]
      rw [Nat.pow_succ] at hn
      omega
    rw [dig, dig]
    by_cases he : m / 10 = n / 10
    · rw [he]
      refine before_same _ ?_
      have : m % 10 < n % 10 := by omega
      simp only [bytesBefore, Bool.or_eq_true, Bool.and_eq_true, decide_eq_true_eq, beq_iff_eq]
      left
      rw [UInt8.lt_iff_toNat_lt, digit_nat, digit_nat]
      omega
    · exact before_app _ _ (dig_before k _ _ (by omega) h2) (by rw [dig_len, dig_len])

/-! ### A segment's name -/
def nameS (n : Nat) : Nm := 108 :: dig n 10
theorem nameS_len (n : Nat) : (nameS n).length = 11 := by simp [nameS, dig_len]
theorem nameS_before {m n : Nat} (h : m < n) (hn : n < 10000000000) : bytesBefore (nameS m) (nameS n) = true := by
  have := dig_before 10 m n h (by omega)
  simp [nameS, bytesBefore, this]
theorem nameS_inj {m n : Nat} (hm : m < 10000000000) (hn : n < 10000000000) (h : nameS m = nameS n) : m = n := by
  rcases Nat.lt_trichotomy m n with h1 | h1 | h1
  · exact absurd h (before_ne (nameS_before h1 hn))
  · exact h1
  · exact absurd h.symm (before_ne (nameS_before h1 hm))
theorem dig_good : ∀ (k n : Nat), (dig n k).all (fun c => byteB c.toNat) = true
  | 0, _ => rfl
  | k + 1, n => by
    rw [dig, List.all_append, dig_good k]
    simp only [List.all_cons, List.all_nil, Bool.and_true, Bool.true_and, digit_nat]
    simp [byteB]
    omega
theorem nameS_good (n : Nat) : goodB (nameS n) = true := by
  simp only [goodB, nameS_len]
  have := dig_good 10 n
  simp only [nameS, List.all_cons, this]
  decide

/-- what is left of a name without its mark -/
def trimL (n : Nm) : Nm := Lib.trimPrefix n [108]
def numOf (n : Nm) : Option Nat := if (trimL n).length ≠ 10 then none else match Lib.parseUintB 64 (trimL n) with | .ok v => some v | _ => none
def markB (n : Nm) : Bool := Lib.hasPrefix n [108]
theorem trim_nameS (n : Nat) : trimL (nameS n) = dig n 10 := by simp [trimL, Lib.trimPrefix, Lib.hasPrefix, nameS]
theorem mark_nameS (n : Nat) : markB (nameS n) = true := by simp [markB, Lib.hasPrefix, nameS]
theorem parse_nameS (n : Nat) (h : n < 10000000000) : Lib.parseUintB 64 (dig n 10) = .ok n := by
  unfold Lib.parseUintB
  rw [if_neg (by intro h; have := dig_len 10 n; rw [h] at this; simp at this)]
  have := parse_dig (2 ^ 64 - 1) 10 n 0 [] (by omega) (by omega) (by omega)
  rw [List.append_nil] at this
  rw [this]
  simp [Lib.parseUintM]
theorem num_nameS (n : Nat) (h : n < 10000000000) : numOf (nameS n) = some n := by
  unfold numOf
  rw [trim_nameS, if_neg (by rw [dig_len]; simp), parse_nameS n h]
theorem numOf_lt {n : Nm} {v : Nat} (h : numOf n = some v) : v < 10000000000 := by
  unfold numOf at h
  split at h
  · cases h
  · rename_i hl
    have hl : (trimL n).length = 10 := by omega
    split at h
    · rename_i u hu
      cases h
      unfold Lib.parseUintB at hu
      split at hu
      · cases hu
      · have := parse_lt _ _ _ _ hu
        rw [hl] at this
        omega
    · cases h

/-! ### A journal, and what each call makes of it and of its disk -/
structure Sg where
  first : Nat
  recs : List (List Int)
structure Jn where
  most : Nat
  segs : List Sg
  settled : Nat
  down : Bool
def nextOf (l : List Sg) : Nat := match l.getLast? with | none => 0 | some s => s.first + s.recs.length
def lastF (l : List Sg) : Nat := match l.getLast? with | none => 0 | some s => s.first
def firstOf (l : List Sg) : Nat := match l.head? with | none => 0 | some s => s.first
def recsOf (l : List Sg) : List (List Int) := l.flatMap Sg.recs

/-- syncing segments one by one -/
def settleF : List Sg → Dk → Int × Dk
  | [], S => (0, S)
  | s :: r, S => if syncC S (nameS s.first) ≠ 0 then (syncC S (nameS s.first), syncS S (nameS s.first)) else settleF r (syncS S (nameS s.first))
def settleJ (X : Jn) (S : Dk) : Int × Jn × Dk :=
  ((settleF (X.segs.drop X.settled) S).1, if (settleF (X.segs.drop X.settled) S).1 = 0 then { X with settled := X.segs.length - 1 } else X, (settleF (X.segs.drop X.settled) S).2)
/-- removing segments one by one -/
def dropF : List Sg → Dk → Int × Dk
  | [], S => (0, S)
  | s :: r, S => if removeC S (nameS s.first) ≠ 0 then (removeC S (nameS s.first), removeS S (nameS s.first)) else dropF r (removeS S (nameS s.first))
def pushX (X : Jn) (b : List Int) : Jn := { X with segs := X.segs ++ [⟨nextOf X.segs, [b]⟩] }
def beginJ (X : Jn) (S : Dk) (b : List Int) : Int × Jn × Dk :=
  if (settleJ X S).1 ≠ 0 then settleJ X S else
  (appendC (settleJ X S).2.2 (nameS (nextOf X.segs)) (packB b), if appendC (settleJ X S).2.2 (nameS (nextOf X.segs)) (packB b) = 0 then pushX (settleJ X S).2.1 b else (settleJ X S).2.1, appendS (settleJ X S).2.2 (nameS (nextOf X.segs)) (packB b))
/-- one record more in the last segment -/
def moreX (X : Jn) (b : List Int) : Jn := { X with segs := X.segs.dropLast ++ (X.segs.getLast?.map (fun s => ⟨s.first, s.recs ++ [b]⟩)).toList }
/-- is the last segment full, or none there? -/
def fullX (X : Jn) : Bool := match X.segs.getLast? with | none => true | some s => decide (X.most ≤ s.recs.length)
def layJ (X : Jn) (S : Dk) (b : List Int) : Int × Jn × Dk :=
  if S.down then (3, X, S) else if 4294967296 ≤ nextOf X.segs then (8, X, S) else if fullX X then beginJ X S b else
  (appendC S (nameS (lastF X.segs)) (packB b), if appendC S (nameS (lastF X.segs)) (packB b) = 0 then moreX X b else X, appendS S (nameS (lastF X.segs)) (packB b))
def toldJ (r : Int × Jn × Dk) : Int × Jn × Dk := (r.1, { r.2.1 with down := decide (r.1 = 3) }, r.2.2)
def appendJ (X : Jn) (S : Dk) (b : List Int) : Int × Jn × Dk := if X.down then (3, X, S) else if 1048576 < b.length then (4, X, S) else toldJ (layJ X S b)
def syncJ (X : Jn) (S : Dk) : Int × Jn × Dk := if X.down then (3, X, S) else if S.down then toldJ (3, X, S) else toldJ (settleJ X S)
/-- how many segments have no record from n on -/
def below (n : Nat) : List Sg → Nat
  | a :: b :: r => if b.first ≤ n then below n (b :: r) + 1 else 0
  | _ => 0
def dropJ (X : Jn) (S : Dk) (c : Nat) : Int × Jn × Dk :=
  if c = 0 then (0, X, S) else if (settleJ X S).1 ≠ 0 then settleJ X S else
  ((dropF (X.segs.take c) (settleJ X S).2.2).1, if (dropF (X.segs.take c) (settleJ X S).2.2).1 = 0 then { (settleJ X S).2.1 with segs := X.segs.drop c, settled := (settleJ X S).2.1.settled - c } else (settleJ X S).2.1, (dropF (X.segs.take c) (settleJ X S).2.2).2)
def trimJ (X : Jn) (S : Dk) (n : Nat) : Int × Jn × Dk := if X.down then (3, X, S) else if nextOf X.segs < n then (1, X, S) else if S.down then toldJ (3, X, S) else toldJ (dropJ X S (below n X.segs))

/-! ### What is found on a disk -/
/-- how a segment's file reads: why not, its records, how many bytes they have, and how many are behind -/
def readG (S : Dk) (f : Nat) : Int × List (List Int) × Nat × Nat :=
  if readC S (nameS f) ≠ 0 then (readC S (nameS f), [], 0, 0) else if (scanT (readD S (nameS f))).2.2 ≠ 0 then (12, [], 0, 0) else
  (0, (scanT (readD S (nameS f))).1, (scanT (readD S (nameS f))).2.1, (readD S (nameS f)).length - (scanT (readD S (nameS f))).2.1)
def follows (f : Nat) (all : List Sg) (en : Nat × Nat) : Bool := decide (en.2 = 0) && decide (f = nextOf all)
def findF (S : Dk) : List Nm → List Sg → Nat × Nat → Int × List Sg × Nat × Nat
  | [], all, en => (0, all, en)
  | n :: r, all, en =>
    if markB n then
      match numOf n with
      | none => (12, [], 0, 0)
      | some f =>
        if 0 < all.length ∧ follows f all en = false then (12, [], 0, 0) else
        if (readG S f).1 ≠ 0 then ((readG S f).1, [], 0, 0) else findF S r (all ++ [⟨f, (readG S f).2.1⟩]) (readG S f).2.2
    else findF S r all en
def findJ (S : Dk) : Int × List Sg × Nat × Nat := if namesC S ≠ 0 then (namesC S, [], 0, 0) else findF S (namesL S) [] (0, 0)
def mendJ (S : Dk) (all : List Sg) (en : Nat × Nat) : Int × List Sg × Dk :=
  if 1 < all.length ∧ en.1 = 0 then (removeC S (nameS (lastF all)), all.dropLast, removeS S (nameS (lastF all)))
  else if 0 < en.2 then (cutC S (nameS (lastF all)) (en.1 : Int), all, cutS S (nameS (lastF all)) (en.1 : Int))
  else (0, all, S)
/-- Open: its answer, the segments, the disk -/
def openJ (S : Dk) : Int × List Sg × Dk := if (findJ S).1 ≠ 0 then ((findJ S).1, [], S) else mendJ S (findJ S).2.1 (findJ S).2.2
def newX (most : Nat) (segs : List Sg) : Jn := ⟨most, segs, 0, false⟩
end Go.Proofs.YthikiahhochjmaaGreatDoor
