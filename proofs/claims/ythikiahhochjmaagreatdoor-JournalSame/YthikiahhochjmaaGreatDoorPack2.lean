/- Plain facts of frames: what a frame is, what bytes are as a frame, and as frames one behind the other; what is torn. Plain facts of a journal: its segments' names, what each call makes of it and of its disk. What the program's sums are. A frame made: a number in four bytes, the sum of a length and of what is carried, Pack; the program is awake. What bytes are as a frame: Take. Frames, one behind the other: Scan. -/
import Derived.Test.YthikiahhochjmaaGreatDoorPack1
import Derived.Lib.ItoaNum
import Derived.Lib.ParseIntB
import Derived.Lib.Repeat
import Derived.Lib.Strings
import Derived.Lib.SlBytesConst
namespace Go.Proofs.YthikiahhochjmaaGreatDoor
set_option linter.unusedVariables false
set_option linter.unusedSimpArgs false

/-- a number in four bytes -/
def num4 (v : Nat) : List Int := [((v % 256 : Nat) : Int), ((v / 256 % 256 : Nat) : Int), ((v / 65536 % 256 : Nat) : Int), ((v / 16777216 % 256 : Nat) : Int)]
def of4 (l : List Int) : Nat := (l.getD 0 0).toNat + 256 * (l.getD 1 0).toNat + 65536 * (l.getD 2 0).toNat + 16777216 * (l.getD 3 0).toNat
/-- the sum of a length's bytes and of what is carried -/
def sum2 (n4 b : List Int) : Nat := sumAdd (sumAdd 0 (n4.map Int.toNat)) (b.map Int.toNat)
def packB (b : List Int) : List Int := 165 :: (num4 b.length ++ num4 (sum2 (num4 b.length) b) ++ b ++ [90])
def packC (b : List Int) : Int := if 1048576 < b.length then 4 else 0
def packD (b : List Int) : List Int := if 1048576 < b.length then [] else packB b
def takeT (b : List Int) : List Int × Nat × Int :=
  if b.length = 0 then ([], 0, 6) else if b.getD 0 0 ≠ 165 ∧ b.getD 0 0 ≠ 0 then ([], 0, 10) else if b.getD 0 0 = 0 ∨ b.length < 10 then ([], 0, 9) else
  if 1048576 < of4 (b.drop 1) then ([], 0, 10) else if b.length < 10 + of4 (b.drop 1) ∨ b.getD (9 + of4 (b.drop 1)) 0 = 0 then ([], 0, 9) else
  if b.getD (9 + of4 (b.drop 1)) 0 ≠ 90 then ([], 0, 10) else
  if of4 (b.drop 5) ≠ sum2 ((b.drop 1).take 4) ((b.drop 9).take (of4 (b.drop 1))) then ([], 0, 11) else ((b.drop 9).take (of4 (b.drop 1)), 10 + of4 (b.drop 1), 0)

theorem num4_len (v : Nat) : (num4 v).length = 4 := rfl
theorem num4_bytes (v : Nat) : Bytes (num4 v) := by
  intro x hx
  simp only [num4, List.mem_cons, List.not_mem_nil, or_false] at hx
  rcases hx with rfl | rfl | rfl | rfl <;> omega
theorem of4_num4 (v : Nat) (h : v < 4294967296) (r : List Int) : of4 (num4 v ++ r) = v := by
  simp [of4, num4]
  omega
theorem packB_len (b : List Int) : (packB b).length = b.length + 10 := by simp [packB, num4]
theorem sum2_lt (n4 b : List Int) : sum2 n4 b < 4294967296 := sumAdd_lt _ _
theorem packB_bytes {b : List Int} (h : Bytes b) : Bytes (packB b) := by
  intro x hx
  simp only [packB, List.mem_cons, List.mem_append, List.not_mem_nil, or_false] at hx
  rcases hx with rfl | ((hx | hx) | hx) | rfl
  · omega
  · exact num4_bytes _ x hx
  · exact num4_bytes _ x hx
  · exact h x hx
  · omega
theorem take_bounds {b x : List Int} {n : Nat} (h : takeT b = (x, n, 0)) : 10 ≤ n ∧ n ≤ b.length ∧ x = (b.drop 9).take (n - 10) ∧ n - 10 ≤ 1048576 := by
  unfold takeT at h
  repeat' split at h
  all_goals first
    | (simp at h; done)
    | (simp only [Prod.mk.injEq] at h
       obtain ⟨h1, h2, _⟩ := h
       subst h2
       refine ⟨by omega, by omega, by rw [← h1, Nat.add_sub_cancel_left], by omega⟩)
/-- what was packed is taken, with whatever is behind it -/
theorem take_pack (b : List Int) (more : List Int) (hl : b.length ≤ 1048576) : takeT (packB b ++ more) = (b, b.length + 10, 0) := by
  have e0 : packB b ++ more = 165 :: (num4 b.length ++ (num4 (sum2 (num4 b.length) b) ++ (b ++ 90 :: more))) := by simp [packB]
  rw [e0]
  have d1 : (165 :: (num4 b.length ++ (num4 (sum2 (num4 b.length) b) ++ (b ++ 90 :: more)))).drop 1 = num4 b.length ++ (num4 (sum2 (num4 b.length) b) ++ (b ++ 90 :: more)) := rfl
  have d5 : (165 :: (num4 b.length ++ (num4 (sum2 (num4 b.length) b) ++ (b ++ 90 :: more)))).drop 5 = num4 (sum2 (num4 b.length) b) ++ (b ++ 90 :: more) := rfl
  have d9 : (165 :: (num4 b.length ++ (num4 (sum2 (num4 b.length) b) ++ (b ++ 90 :: more)))).drop 9 = b ++ 90 :: more := rfl
  have o1 : of4 (num4 b.length ++ (num4 (sum2 (num4 b.length) b) ++ (b ++ 90 :: more))) = b.length := of4_num4 _ (by omega) _
  have o5 : of4 (num4 (sum2 (num4 b.length) b) ++ (b ++ 90 :: more)) = sum2 (num4 b.length) b := of4_num4 _ (sum2_lt _ _) _
  have t1 : (num4 b.length ++ (num4 (sum2 (num4 b.length) b) ++ (b ++ 90 :: more))).take 4 = num4 b.length := List.take_left' (num4_len _)
  have hlen : (165 :: (num4 b.length ++ (num4 (sum2 (num4 b.length) b) ++ (b ++ 90 :: more)))).length = b.length + 10 + more.length := by simp [num4]; omega
  have g9 : (165 :: (num4 b.length ++ (num4 (sum2 (num4 b.length) b) ++ (b ++ 90 :: more)))).getD (9 + b.length) 0 = 90 := by
    have : (165 :: (num4 b.length ++ (num4 (sum2 (num4 b.length) b) ++ (b ++ 90 :: more)))).getD (9 + b.length) 0 = (b ++ 90 :: more).getD b.length 0 := by
      conv => rhs; rw [← d9]
      simp only [List.getD_eq_getElem?_getD, List.getElem?_drop]
    rw [this, List.getD_eq_getElem?_getD, List.getElem?_append_right (Nat.le_refl _)]; simp
  have g0 : (165 :: (num4 b.length ++ (num4 (sum2 (num4 b.length) b) ++ (b ++ 90 :: more)))).getD 0 0 = 165 := rfl
  generalize 165 :: (num4 b.length ++ (num4 (sum2 (num4 b.length) b) ++ (b ++ 90 :: more))) = L at *
  unfold takeT
  rw [hlen, g0, d1, o1, g9, d5, o5, t1, d9]
  rw [List.take_left' rfl]
  rw [if_neg (by omega), if_neg (by simp), if_neg (by omega), if_neg (by omega), if_neg (by omega), if_neg (by simp), if_neg (by simp)]
  rw [Nat.add_comm]

/-- frames, one behind the other: so many at most -/
def scanF : Nat → List Int → List (List Int) × Nat × Int
  | 0, _ => ([], 0, 0)
  | f + 1, b => if (takeT b).2.2 = 0 then ((takeT b).1 :: (scanF f (b.drop (takeT b).2.1)).1, (takeT b).2.1 + (scanF f (b.drop (takeT b).2.1)).2.1, (scanF f (b.drop (takeT b).2.1)).2.2)
    else if (takeT b).2.2 = 6 ∨ (takeT b).2.2 = 9 then ([], 0, 0) else ([], 0, (takeT b).2.2)
theorem scanF_more : ∀ (f g : Nat) (b : List Int), b.length < f → b.length < g → scanF f b = scanF g b
  | 0, _, _, h, _ => by omega
  | _ + 1, 0, _, _, h => by omega
  | f + 1, g + 1, b, h, k => by
    unfold scanF
    split
    · rename_i h0
      have hb := take_bounds (b := b) (x := (takeT b).1) (n := (takeT b).2.1) (by rw [← h0])
      rw [scanF_more f g (b.drop (takeT b).2.1) (by rw [List.length_drop]; omega) (by rw [List.length_drop]; omega)]
    · rfl
def scanT (b : List Int) : List (List Int) × Nat × Int := scanF (b.length + 1) b
theorem scan_ok {b x : List Int} {n : Nat} (h : takeT b = (x, n, 0)) : scanT b = (x :: (scanT (b.drop n)).1, n + (scanT (b.drop n)).2.1, (scanT (b.drop n)).2.2) := by
  have hb := take_bounds h
  have e : scanT b = (x :: (scanF b.length (b.drop n)).1, n + (scanF b.length (b.drop n)).2.1, (scanF b.length (b.drop n)).2.2) := by
    unfold scanT; rw [scanF, if_pos (by rw [h])]; rw [h]
  rw [e, scanF_more b.length ((b.drop n).length + 1) (b.drop n) (by rw [List.length_drop]; omega) (by omega)]; rfl
theorem scan_end {b : List Int} (h : (takeT b).2.2 = 6 ∨ (takeT b).2.2 = 9) : scanT b = ([], 0, 0) := by
  unfold scanT; rw [scanF, if_neg (by omega), if_pos h]
theorem scan_bad {b : List Int} (h0 : (takeT b).2.2 ≠ 0) (h6 : (takeT b).2.2 ≠ 6) (h9 : (takeT b).2.2 ≠ 9) : scanT b = ([], 0, (takeT b).2.2) := by
  unfold scanT; rw [scanF, if_neg h0, if_neg (by omega)]
theorem scan_bounds : ∀ (n : Nat) (b : List Int), b.length ≤ n → (scanT b).2.1 ≤ b.length ∧ 10 * (scanT b).1.length ≤ b.length
  | 0, b, h => by
    have : b = [] := List.eq_nil_of_length_eq_zero (by omega)
    subst this
    rw [scan_end (by left; rfl)]; simp
  | n + 1, b, h => by
    by_cases h0 : (takeT b).2.2 = 0
    · obtain ⟨x, m, e, ht⟩ : ∃ x m e, takeT b = (x, m, e) := ⟨_, _, _, rfl⟩
      rw [ht] at h0
      simp only at h0
      subst h0
      have hb := take_bounds ht
      have ih := scan_bounds n (b.drop m) (by rw [List.length_drop]; omega)
      rw [scan_ok ht]
      rw [List.length_drop] at ih
      simp only [List.length_cons]
      omega
    · by_cases h6 : (takeT b).2.2 = 6 ∨ (takeT b).2.2 = 9
      · rw [scan_end h6]; simp
      · rw [scan_bad h0 (by omega) (by omega)]; simp
def frames (l : List (List Int)) : List Int := l.flatMap packB
theorem frames_cons (b : List Int) (l : List (List Int)) : frames (b :: l) = packB b ++ frames l := by simp [frames]
theorem frames_append (a b : List (List Int)) : frames (a ++ b) = frames a ++ frames b := by simp [frames]
/-- whole frames ahead are all told -/
theorem scan_frames : ∀ (l : List (List Int)) (t : List Int), (∀ b ∈ l, b.length ≤ 1048576) → scanT (frames l ++ t) = (l ++ (scanT t).1, (frames l).length + (scanT t).2.1, (scanT t).2.2)
  | [], t, _ => by simp [frames]
  | b :: l, t, h => by
    have ht := take_pack b (frames l ++ t) (h b (by simp))
    rw [frames_cons, List.append_assoc, scan_ok ht]
    have hd : (packB b ++ (frames l ++ t)).drop (b.length + 10) = frames l ++ t := List.drop_left' (packB_len b)
    rw [hd, scan_frames l t (fun x hx => h x (by simp [hx]))]
    simp only [List.cons_append, List.length_append, packB_len, Nat.add_assoc]

theorem getD_zero (p : List Int) (k j : Nat) (h : p.length ≤ j) : (p ++ List.replicate k 0).getD j 0 = 0 := by
  rw [List.getD_eq_getElem?_getD, List.getElem?_append_right h, List.getElem?_replicate]
  split <;> rfl
/-- of a frame a beginning, and noughts behind: it is too short, or nothing -/
theorem take_torn (b : List Int) (m k : Nat) (hb : b.length ≤ 1048576) (hm : m < (packB b).length) : (takeT ((packB b).take m ++ List.replicate k 0)).2.2 = 6 ∨ (takeT ((packB b).take m ++ List.replicate k 0)).2.2 = 9 := by
  have hpl := packB_len b
  obtain ⟨t, ht⟩ : ∃ t, t = (packB b).take m ++ List.replicate k 0 := ⟨_, rfl⟩
  rw [← ht]
  have hlt : ((packB b).take m).length = m := by rw [List.length_take]; omega
  have hg : ∀ j, j < m → t.getD j 0 = (packB b).getD j 0 := fun j hj => by
    rw [ht, List.getD_eq_getElem?_getD, List.getElem?_append_left (by omega), List.getElem?_take, if_pos hj, List.getD_eq_getElem?_getD]
  have hz : ∀ j, m ≤ j → t.getD j 0 = 0 := fun j hj => by rw [ht]; exact getD_zero _ _ _ (by omega)
  have hle : ∀ j, (t.getD j 0 = (packB b).getD j 0 ∨ t.getD j 0 = 0) := fun j => by
    by_cases hj : j < m
    · exact .inl (hg j hj)
    · exact .inr (hz j (by omega))
  have hd : ∀ j i : Nat, (t.drop j).getD i 0 = t.getD (j + i) 0 := fun j i => by simp only [List.getD_eq_getElem?_getD, List.getElem?_drop]
  have hp1 : (packB b).getD 1 0 = ((b.length % 256 : Nat) : Int) := rfl
  have hp2 : (packB b).getD 2 0 = ((b.length / 256 % 256 : Nat) : Int) := rfl
  have hp3 : (packB b).getD 3 0 = ((b.length / 65536 % 256 : Nat) : Int) := rfl
  have hp4 : (packB b).getD 4 0 = ((b.length / 16777216 % 256 : Nat) : Int) := rfl
  have ho : of4 (t.drop 1) = (t.getD 1 0).toNat + 256 * (t.getD 2 0).toNat + 65536 * (t.getD 3 0).toNat + 16777216 * (t.getD 4 0).toNat := by
    unfold of4; rw [hd, hd, hd, hd]
  have hon : of4 (t.drop 1) ≤ b.length := by
    rw [ho]
    have a1 := hle 1
    have a2 := hle 2
    have a3 := hle 3
    have a4 := hle 4
    rw [hp1] at a1
    rw [hp2] at a2
    rw [hp3] at a3
    rw [hp4] at a4
    have := Nat.div_add_mod b.length 256
    omega
  have hof : 5 ≤ m → of4 (t.drop 1) = b.length := fun h5 => by
    rw [ho, hg 1 (by omega), hg 2 (by omega), hg 3 (by omega), hg 4 (by omega), hp1, hp2, hp3, hp4]
    omega
  unfold takeT
  by_cases h0 : t.length = 0
  · rw [if_pos h0]; exact .inl rfl
  rw [if_neg h0]
  have hfirst : t.getD 0 0 = 165 ∨ t.getD 0 0 = 0 := by
    rcases hle 0 with h | h
    · exact .inl (by rw [h]; rfl)
    · exact .inr h
  rw [if_neg (by omega)]
  by_cases h1 : t.getD 0 0 = 0 ∨ t.length < 10
  · rw [if_pos h1]; exact .inr rfl
  rw [if_neg h1, if_neg (by omega)]
  rw [if_pos]
  · exact .inr rfl
  · by_cases h2 : t.length < 10 + of4 (t.drop 1)
    · exact .inl h2
    · right
      by_cases h3 : 9 + of4 (t.drop 1) < m
      · have := hof (by omega)
        omega
      · exact hz _ (by omega)
theorem scan_torn (l : List (List Int)) (b : List Int) (m k : Nat) (hl : ∀ b ∈ l, b.length ≤ 1048576) (hb : b.length ≤ 1048576) (hm : m < (packB b).length) : scanT (frames l ++ ((packB b).take m ++ List.replicate k 0)) = (l, (frames l).length, 0) := by
  rw [scan_frames l _ hl, scan_end (take_torn b m k hb hm)]; simp

/-! ### Bits that are turned -/
def nats (zs : List Int) : List Nat := zs.map Int.toNat
theorem nats_lt {zs : List Int} (h : Bytes zs) : ∀ x ∈ nats zs, x < 256 := by
  intro x hx
  obtain ⟨z, hz, rfl⟩ := List.mem_map.1 hx
  have := h z hz
  omega
theorem num_append (u v : List Nat) : num (u ++ v) = num u ^^^ 2 ^ (8 * u.length) * num v := by
  induction u with
  | nil => simp [num]
  | cons x r ih =>
    show x ^^^ 256 * num (r ++ v) = (x ^^^ 256 * num r) ^^^ 2 ^ (8 * (r.length + 1)) * num v
    rw [ih, show (256 : Nat) = 2 ^ 8 by decide, mul_xor, ← Nat.mul_assoc, ← Nat.pow_add, show 8 + 8 * r.length = 8 * (r.length + 1) by omega, Nat.xor_assoc]
/-- what any bytes between the marks are, by the sum that they say -/
theorem take_form (n4 s4 b more : List Int) (hn : n4 = num4 b.length) (hs : s4.length = 4) (hl : b.length ≤ 1048576) :
    takeT (165 :: (n4 ++ (s4 ++ (b ++ 90 :: more)))) = if of4 s4 = sum2 n4 b then (b, b.length + 10, 0) else ([], 0, 11) := by
  have hn4 : n4.length = 4 := by rw [hn]; rfl
  obtain ⟨a0, a1, a2, a3, rfl⟩ : ∃ a0 a1 a2 a3, n4 = [a0, a1, a2, a3] := by match n4, hn4 with | [a0, a1, a2, a3], _ => exact ⟨a0, a1, a2, a3, rfl⟩
  obtain ⟨c0, c1, c2, c3, rfl⟩ : ∃ c0 c1 c2 c3, s4 = [c0, c1, c2, c3] := by match s4, hs with | [c0, c1, c2, c3], _ => exact ⟨c0, c1, c2, c3, rfl⟩
  have o1 : of4 ([a0, a1, a2, a3] ++ ([c0, c1, c2, c3] ++ (b ++ 90 :: more))) = b.length := by rw [hn]; exact of4_num4 _ (by omega) _
  have o5 : of4 ([c0, c1, c2, c3] ++ (b ++ 90 :: more)) = of4 [c0, c1, c2, c3] := rfl
  have d1 : (165 :: ([a0, a1, a2, a3] ++ ([c0, c1, c2, c3] ++ (b ++ 90 :: more)))).drop 1 = [a0, a1, a2, a3] ++ ([c0, c1, c2, c3] ++ (b ++ 90 :: more)) := rfl
  have d5 : (165 :: ([a0, a1, a2, a3] ++ ([c0, c1, c2, c3] ++ (b ++ 90 :: more)))).drop 5 = [c0, c1, c2, c3] ++ (b ++ 90 :: more) := rfl
  have d9 : (165 :: ([a0, a1, a2, a3] ++ ([c0, c1, c2, c3] ++ (b ++ 90 :: more)))).drop 9 = b ++ 90 :: more := rfl
  have t1 : ([a0, a1, a2, a3] ++ ([c0, c1, c2, c3] ++ (b ++ 90 :: more))).take 4 = [a0, a1, a2, a3] := rfl
  have hlen : (165 :: ([a0, a1, a2, a3] ++ ([c0, c1, c2, c3] ++ (b ++ 90 :: more)))).length = b.length + 10 + more.length := by simp; omega
  have g9 : (165 :: ([a0, a1, a2, a3] ++ ([c0, c1, c2, c3] ++ (b ++ 90 :: more)))).getD (9 + b.length) 0 = 90 := by
    have : (165 :: ([a0, a1, a2, a3] ++ ([c0, c1, c2, c3] ++ (b ++ 90 :: more)))).getD (9 + b.length) 0 = (b ++ 90 :: more).getD b.length 0 := by
      conv => rhs; rw [← d9]
      simp only [List.getD_eq_getElem?_getD, List.getElem?_drop]
    rw [this, List.getD_eq_getElem?_getD, List.getElem?_append_right (Nat.le_refl _)]; simp
  have g0 : (165 :: ([a0, a1, a2, a3] ++ ([c0, c1, c2, c3] ++ (b ++ 90 :: more)))).getD 0 0 = 165 := rfl
  generalize 165 :: ([a0, a1, a2, a3] ++ ([c0, c1, c2, c3] ++ (b ++ 90 :: more))) = L at *
  unfold takeT
  rw [hlen, g0, d1, o1, g9, d5, o5, t1, d9]
  rw [List.take_left' rfl]
  rw [if_neg (by omega), if_neg (by simp), if_neg (by omega), if_neg (by omega), if_neg (by omega), if_neg (by simp)]
  by_cases h : of4 [c0, c1, c2, c3] = sum2 [a0, a1, a2, a3] b
  · rw [if_neg (by simpa using h), if_pos h, Nat.add_comm]
  · rw [if_pos h, if_neg h]
/-- some neighbouring bits of what is carried are turned: the sum is another one -/
theorem sum2_turned (n4 b b' : List Int) (hn : Bytes n4) (hb : Bytes b) (hb' : Bytes b') (hl : b'.length = b.length) (k p : Nat) (hk : k ≤ 8 * b.length) (hp : p < 4294967296) (h : num (nats b') = num (nats b) ^^^ 2 ^ k * p) : sum2 n4 b' = sum2 n4 b ↔ p = 0 := by
  unfold sum2
  show sumAdd (sumAdd 0 (nats n4)) (nats b') = sumAdd (sumAdd 0 (nats n4)) (nats b) ↔ p = 0
  rw [← sumAdd_append 0 (nats n4) (nats b') (nats_lt hn), ← sumAdd_append 0 (nats n4) (nats b) (nats_lt hn)]
  have hlt : ∀ {z : List Int}, Bytes z → ∀ x ∈ nats n4 ++ nats z, x < 256 := fun hz x hx => by
    rcases List.mem_append.1 hx with hx | hx
    · exact nats_lt hn x hx
    · exact nats_lt hz x hx
  refine sum_burst _ _ (by simp [nats, hl]) (hlt hb) (hlt hb') (8 * (nats n4).length + k) p (by simp [nats]; omega) hp ?_
  rw [num_append, num_append, h, mul_xor, ← Nat.mul_assoc, ← Nat.pow_add, Nat.xor_assoc]
theorem of4_num (s4 : List Int) (h : s4.length = 4) (hb : Bytes s4) : of4 s4 = num (nats s4) := by
  obtain ⟨c0, c1, c2, c3, rfl⟩ : ∃ c0 c1 c2 c3, s4 = [c0, c1, c2, c3] := by match s4, h with | [c0, c1, c2, c3], _ => exact ⟨c0, c1, c2, c3, rfl⟩
  have h0 := hb c0 (by simp)
  have h1 := hb c1 (by simp)
  have h2 := hb c2 (by simp)
  have h3 := hb c3 (by simp)
  have key : ∀ (x y : Nat), x < 256 → x ^^^ 256 * y = x + 256 * y := fun x y hx => by
    have h1 : x ^^^ 256 * y = 256 * y ^^^ x := Nat.xor_comm _ _
    have h2 : 2 ^ 8 * y + x = 2 ^ 8 * y ^^^ x := by
      rw [Nat.two_pow_add_eq_or_of_lt (by omega : x < 2 ^ 8)]
      apply Nat.eq_of_testBit_eq
      intro i
      rw [Nat.testBit_or, Nat.testBit_xor, Nat.testBit_two_pow_mul]
      by_cases hi : 8 ≤ i
      · have : x.testBit i = false := Nat.testBit_lt_two_pow (Nat.lt_of_lt_of_le hx (by rw [show (256 : Nat) = 2 ^ 8 by decide]; exact Nat.pow_le_pow_right (by omega) hi))
        simp [this]
      · simp [hi]
    rw [h1, show (256 : Nat) = 2 ^ 8 by decide, ← h2]; omega
  simp only [of4, nats, List.map_cons, List.map_nil, num, List.getD_cons_zero, List.getD_cons_succ, Nat.mul_zero, Nat.xor_zero]
  rw [key c2.toNat _ (by omega), key c1.toNat _ (by omega), key c0.toNat _ (by omega)]
  omega
end Go.Proofs.YthikiahhochjmaaGreatDoor


namespace Go.Proofs.YthikiahhochjmaaGreatDoor
set_option linter.unusedVariables false
set_option linter.unusedSimpArgs false

/-! ### Numbers in so many digits -/
/-- the last k digits of n -/
def dig (n : Nat) : Nat → Nm
  | 0 => []
  | k + 1 => dig (n / 10) k ++ [UInt8.ofNat (48 + n % 10)]
theorem dig_len : ∀ (k n : Nat), (dig n k).length = k
  | 0, _ => rfl
  | k + 1, n => by simp [dig, dig_len k]
theorem digit_nat (n : Nat) : (UInt8.ofNat (48 + n % 10)).toNat = 48 + n % 10 := by
  rw [UInt8.toNat_ofNat']
  omega
theorem repeat_snoc (l : Nm) : ∀ c, Lib.repeatL l c ++ l = Lib.repeatL l (c + 1)
  | 0 => by simp [Lib.repeatL]
  | c + 1 => by simp only [Lib.repeatL, List.append_assoc]; rw [repeat_snoc l c]; rfl
theorem dig_zero : ∀ k, dig 0 k = Lib.repeatL [48] k
  | 0 => rfl
  | k + 1 => by rw [dig, Nat.zero_div, dig_zero k, Nat.zero_mod]; exact repeat_snoc [48] k
/-- a number's numeral with noughts ahead -/
theorem dig_dec : ∀ (k n : Nat), n < 10 ^ (k + 1) → (Lib.decDigits n).length ≤ k + 1 ∧ Lib.repeatL [48] (k + 1 - (Lib.decDigits n).length) ++ Lib.decDigits n = dig n (k + 1)
  | 0, n, h => by
    have h1 : n < 10 := by simpa using h
    rw [Lib.decDigits, dif_pos h1]
    refine ⟨by simp, ?_⟩
    simp [Lib.repeatL, dig, Nat.mod_eq_of_lt h1]
  | k + 1, n, h => by
    by_cases h1 : n < 10
    · rw [Lib.decDigits, dif_pos h1]
      refine ⟨by simp, ?_⟩
      have : n / 10 = 0 := Nat.div_eq_of_lt h1
      rw [dig, this, dig_zero, Nat.mod_eq_of_lt h1]
      simp
    · have h2 : n / 10 < 10 ^ (k + 1) := by
        rw [Nat.div_lt_iff_lt_mul (by omega)]
        rw [Nat.pow_succ] at h
        omega
      obtain ⟨i1, i2⟩ := dig_dec k (n / 10) h2
      rw [Lib.decDigits, dif_neg h1]
      refine ⟨by simp; omega, ?_⟩
      rw [dig, ← i2, ← List.append_assoc]
      simp only [List.length_append, List.length_cons, List.length_nil, Nat.zero_add]
      rw [show k + 1 + 1 - ((Lib.decDigits (n / 10)).length + 1) = k + 1 - (Lib.decDigits (n / 10)).length by omega]
/-- they are read back -/
theorem parse_dig (M : Nat) : ∀ (k n acc : Nat) (r : Nm), n < 10 ^ k → acc * 10 ^ k + n < 1844674407370955162 → acc * 10 ^ k + n ≤ M → Lib.parseUintM M acc (dig n k ++ r) = Lib.parseUintM M (acc * 10 ^ k + n) r
  | 0, n, acc, r, h, _, _ => by
    have : n = 0 := by simpa using h
    subst this
    simp [dig]
  | k + 1, n, acc, r, h, hb, hM => by
    have h2 : n / 10 < 10 ^ k := by
      rw [Nat.div_lt_iff_lt_mul (by omega)]
      rw [Nat.pow_succ] at h
      omega
    rw [Nat.pow_succ, ← Nat.mul_assoc] at hb hM ⊢
    have hd := Nat.div_add_mod n 10
    have e := parse_dig M k (n / 10) acc ([UInt8.ofNat (48 + n % 10)] ++ r) h2 (by omega) (by omega)
    rw [dig, List.append_assoc, e]
    simp only [List.cons_append, List.nil_append, Lib.parseUintM, digit_nat]
    rw [if_pos (by omega), if_neg (by omega), if_neg (by omega)]
    congr 1
    omega
/-- what so many signs say is less -/
theorem parse_lt (M : Nat) : ∀ (l : Nm) (acc v : Nat), Lib.parseUintM M acc l = .ok v → v < (acc + 1) * 10 ^ l.length
  | [], acc, v, h => by simp [Lib.parseUintM] at h; simp; omega
  | c :: r, acc, v, h => by
    unfold Lib.parseUintM at h
    split at h
    · split at h
      · cases h
      · split at h
        · cases h
        · have := parse_lt M r _ v h
          rename_i hc _ _
          refine Nat.lt_of_lt_of_le this ?_
          rw [List.length_cons, Nat.pow_succ, Nat.mul_comm (10 ^ r.length) 10, ← Nat.mul_assoc]
          exact Nat.mul_le_mul_right _ (by omega)
    · cases h

theorem before_app : ∀ {a b : Nm} (c d : Nm), bytesBefore a b = true → a.length = b.length → bytesBefore (a ++ c) (b ++ d) = true
  | [], [], _, _, h, _ => by simp [bytesBefore] at h
  | [], _ :: _, _, _, _, hl => by simp at hl
  | _ :: _, [], _, _, _, hl => by simp at hl
  | x :: a, y :: b, c, d, h, hl => by
    simp only [bytesBefore, Bool.or_eq_true, Bool.and_eq_true, decide_eq_true_eq, beq_iff_eq, List.cons_append] at h ⊢
    rcases h with h | ⟨rfl, h⟩
    · exact .inl h
    · exact .inr ⟨rfl, before_app c d h (by simpa using hl)⟩
theorem before_same : ∀ (a : Nm) {c d : Nm}, bytesBefore c d = true → bytesBefore (a ++ c) (a ++ d) = true
  | [], _, _, h => h
  | x :: a, c, d, h => by simp only [List.cons_append, bytesBefore, before_same a h]; simp
theorem dig_before : ∀ (k m n : Nat), m < n → n < 10 ^ k → bytesBefore (dig m k) (dig n k) = true
  | 0, m, n, h, hn => by simp at hn; omega
  | k + 1, m, n, h, hn => by
    have h2 : n / 10 < 10 ^ k := by
      rw [Nat.div_lt_iff_lt_mul (by omega)]
      rw [Nat.pow_succ] at hn
      omega
    rw [dig, dig]
    by_cases he : m / 10 = n / 10
    · rw [he]
      refine before_same _ ?_
      have : m % 10 < n % 10 := by omega
      simp only [bytesBefore, Bool.or_eq_true, Bool.and_eq_true, decide_eq_true_eq, beq_iff_eq]
      left
      rw [UInt8.lt_iff_toNat_lt, digit_nat, digit_nat]
      omega
    · exact before_app _ _ (dig_before k _ _ (by omega) h2) (by rw [dig_len, dig_len])

/-! ### A segment's name -/
def nameS (n : Nat) : Nm := 108 :: dig n 10
theorem nameS_len (n : Nat) : (nameS n).length = 11 := by simp [nameS, dig_len]
theorem nameS_before {m n : Nat} (h : m < n) (hn : n < 10000000000) : bytesBefore (nameS m) (nameS n) = true := by
  have := dig_before 10 m n h (by omega)
  simp [nameS, bytesBefore, this]
theorem nameS_inj {m n : Nat} (hm : m < 10000000000) (hn : n < 10000000000) (h : nameS m = nameS n) : m = n := by
  rcases Nat.lt_trichotomy m n with h1 | h1 | h1
  · exact absurd h (before_ne (nameS_before h1 hn))
  · exact h1
  · exact absurd h.symm (before_ne (nameS_before h1 hm))
theorem dig_good : ∀ (k n : Nat), (dig n k).all (fun c => byteB c.toNat) = true
  | 0, _ => rfl
  | k + 1, n => by
    rw [dig, List.all_append, dig_good k]
    simp only [List.all_cons, List.all_nil, Bool.and_true, Bool.true_and, digit_nat]
    simp [byteB]
    omega
theorem nameS_good (n : Nat) : goodB (nameS n) = true := by
  simp only [goodB, nameS_len]
  have := dig_good 10 n
  simp only [nameS, List.all_cons, this]
  decide

/-- what is left of a name without its mark -/
def trimL (n : Nm) : Nm := Lib.trimPrefix n [108]
def numOf (n : Nm) : Option Nat := if (trimL n).length ≠ 10 then none else match Lib.parseUintB 64 (trimL n) with | .ok v => some v | _ => none
def markB (n : Nm) : Bool := Lib.hasPrefix n [108]
theorem trim_nameS (n : Nat) : trimL (nameS n) = dig n 10 := by simp [trimL, Lib.trimPrefix, Lib.hasPrefix, nameS]
theorem mark_nameS (n : Nat) : markB (nameS n) = true := by simp [markB, Lib.hasPrefix, nameS]
theorem parse_nameS (n : Nat) (h : n < 10000000000) : Lib.parseUintB 64 (dig n 10) = .ok n := by
  unfold Lib.parseUintB
  rw [if_neg (by intro h; have := dig_len 10 n; rw [h] at this; simp at this)]
  have := parse_dig (2 ^ 64 - 1) 10 n 0 [] (by omega) (by omega) (by omega)
  rw [List.append_nil] at this
  rw [this]
  simp [Lib.parseUintM]
theorem num_nameS (n : Nat) (h : n < 10000000000) : numOf (nameS n) = some n := by
  unfold numOf
  rw [trim_nameS, if_neg (by rw [dig_len]; simp), parse_nameS n h]
theorem numOf_lt {n : Nm} {v : Nat} (h : numOf n = some v) : v < 10000000000 := by
  unfold numOf at h
  split at h
  · cases h
  · rename_i hl
    have hl : (trimL n).length = 10 := by omega
    split at h
    · rename_i u hu
      cases h
      unfold Lib.parseUintB at hu
      split at hu
      · cases hu
      · have := parse_lt _ _ _ _ hu
        rw [hl] at this
        omega
    · cases h

/-! ### A journal, and what each call makes of it and of its disk -/
structure Sg where
  first : Nat
  recs : List (List Int)
structure Jn where
  most : Nat
  segs : List Sg
  settled : Nat
  down : Bool
def nextOf (l : List Sg) : Nat := match l.getLast? with | none => 0 | some s => s.first + s.recs.length
def lastF (l : List Sg) : Nat := match l.getLast? with | none => 0 | some s => s.first
def firstOf (l : List Sg) : Nat := match l.head? with | none => 0 | some s => s.first
def recsOf (l : List Sg) : List (List Int) := l.flatMap Sg.recs

/-- syncing segments one by one -/
def settleF : List Sg → Dk → Int × Dk
  | [], S => (0, S)
  | s :: r, S => if syncC S (nameS s.first) ≠ 0 then (syncC S (nameS s.first), syncS S (nameS s.first)) else settleF r (syncS S (nameS s.first))
def settleJ (X : Jn) (S : Dk) : Int × Jn × Dk :=
  ((settleF (X.segs.drop X.settled) S).1, if (settleF (X.segs.drop X.settled) S).1 = 0 then { X with settled := X.segs.length - 1 } else X, (settleF (X.segs.drop X.settled) S).2)
/-- removing segments one by one -/
def dropF : List Sg → Dk → Int × Dk
  | [], S => (0, S)
  | s :: r, S => if removeC S (nameS s.first) ≠ 0 then (removeC S (nameS s.first), removeS S (nameS s.first)) else dropF r (removeS S (nameS s.first))
def pushX (X : Jn) (b : List Int) : Jn := { X with segs := X.segs ++ [⟨nextOf X.segs, [b]⟩] }
def beginJ (X : Jn) (S : Dk) (b : List Int) : Int × Jn × Dk :=
  if (settleJ X S).1 ≠ 0 then settleJ X S else
  (appendC (settleJ X S).2.2 (nameS (nextOf X.segs)) (packB b), if appendC (settleJ X S).2.2 (nameS (nextOf X.segs)) (packB b) = 0 then pushX (settleJ X S).2.1 b else (settleJ X S).2.1, appendS (settleJ X S).2.2 (nameS (nextOf X.segs)) (packB b))
/-- one record more in the last segment -/
def moreX (X : Jn) (b : List Int) : Jn := { X with segs := X.segs.dropLast ++ (X.segs.getLast?.map (fun s => ⟨s.first, s.recs ++ [b]⟩)).toList }
/-- is the last segment full, or none there? -/
def fullX (X : Jn) : Bool := match X.segs.getLast? with | none => true | some s => decide (X.most ≤ s.recs.length)
def layJ (X : Jn) (S : Dk) (b : List Int) : Int × Jn × Dk :=
  if S.down then (3, X, S) else if 4294967296 ≤ nextOf X.segs then (8, X, S) else if fullX X then beginJ X S b else
  (appendC S (nameS (lastF X.segs)) (packB b), if appendC S (nameS (lastF X.segs)) (packB b) = 0 then moreX X b else X, appendS S (nameS (lastF X.segs)) (packB b))
def toldJ (r : Int × Jn × Dk) : Int × Jn × Dk := (r.1, { r.2.1 with down := decide (r.1 = 3) }, r.2.2)
def appendJ (X : Jn) (S : Dk) (b : List Int) : Int × Jn × Dk := if X.down then (3, X, S) else if 1048576 < b.length then (4, X, S) else toldJ (layJ X S b)
def syncJ (X : Jn) (S : Dk) : Int × Jn × Dk := if X.down then (3, X, S) else if S.down then toldJ (3, X, S) else toldJ (settleJ X S)
/-- how many segments have no record from n on -/
def below (n : Nat) : List Sg → Nat
  | a :: b :: r => if b.first ≤ n then below n (b :: r) + 1 else 0
  | _ => 0
def dropJ (X : Jn) (S : Dk) (c : Nat) : Int × Jn × Dk :=
  if c = 0 then (0, X, S) else if (settleJ X S).1 ≠ 0 then settleJ X S else
  ((dropF (X.segs.take c) (settleJ X S).2.2).1, if (dropF (X.segs.take c) (settleJ X S).2.2).1 = 0 then { (settleJ X S).2.1 with segs := X.segs.drop c, settled := (settleJ X S).2.1.settled - c } else (settleJ X S).2.1, (dropF (X.segs.take c) (settleJ X S).2.2).2)
def trimJ (X : Jn) (S : Dk) (n : Nat) : Int × Jn × Dk := if X.down then (3, X, S) else if nextOf X.segs < n then (1, X, S) else if S.down then toldJ (3, X, S) else toldJ (dropJ X S (below n X.segs))

/-! ### What is found on a disk -/
/-- how a segment's file reads: why not, its records, how many bytes they have, and how many are behind -/
def readG (S : Dk) (f : Nat) : Int × List (List Int) × Nat × Nat :=
  if readC S (nameS f) ≠ 0 then (readC S (nameS f), [], 0, 0) else if (scanT (readD S (nameS f))).2.2 ≠ 0 then (12, [], 0, 0) else
  (0, (scanT (readD S (nameS f))).1, (scanT (readD S (nameS f))).2.1, (readD S (nameS f)).length - (scanT (readD S (nameS f))).2.1)
def follows (f : Nat) (all : List Sg) (en : Nat × Nat) : Bool := decide (en.2 = 0) && decide (f = nextOf all)
def findF (S : Dk) : List Nm → List Sg → Nat × Nat → Int × List Sg × Nat × Nat
  | [], all, en => (0, all, en)
  | n :: r, all, en =>
    if markB n then
      match numOf n with
      | none => (12, [], 0, 0)
      | some f =>
        if 0 < all.length ∧ follows f all en = false then (12, [], 0, 0) else
        if (readG S f).1 ≠ 0 then ((readG S f).1, [], 0, 0) else findF S r (all ++ [⟨f, (readG S f).2.1⟩]) (readG S f).2.2
    else findF S r all en
def findJ (S : Dk) : Int × List Sg × Nat × Nat := if namesC S ≠ 0 then (namesC S, [], 0, 0) else findF S (namesL S) [] (0, 0)
def mendJ (S : Dk) (all : List Sg) (en : Nat × Nat) : Int × List Sg × Dk :=
  if 1 < all.length ∧ en.1 = 0 then (removeC S (nameS (lastF all)), all.dropLast, removeS S (nameS (lastF all)))
  else if 0 < en.2 then (cutC S (nameS (lastF all)) (en.1 : Int), all, cutS S (nameS (lastF all)) (en.1 : Int))
  else (0, all, S)
/-- Open: its answer, the segments, the disk -/
def openJ (S : Dk) : Int × List Sg × Dk := if (findJ S).1 ≠ 0 then ((findJ S).1, [], S) else mendJ S (findJ S).2.1 (findJ S).2.2
def newX (most : Nat) (segs : List Sg) : Jn := ⟨most, segs, 0, false⟩
end Go.Proofs.YthikiahhochjmaaGreatDoor


namespace Go.Proofs.YthikiahhochjmaaGreatDoor
open Go.RowKit
set_option linter.unusedVariables false

theorem and_one (s : Nat) (h : s < 4294967296) : bits .and .u32 (s : Int) 1 = ((s % 2 : Nat) : Int) := by
  rw [show (1 : Int) = ((1 : Nat) : Int) from rfl, u32_and_nat _ _ h (by omega), Nat.and_one_is_mod]
theorem and_all (o : Nat) (h : o < 2) : bits .and .u32 3988292384 (-(o : Int) % 4294967296) = ((o * 3988292384 : Nat) : Int) := by
  match o, h with
  | 0, _ => decide +kernel
  | 1, _ => decide +kernel
theorem step_bits (r : Nat) (h : r < 4294967296) : bits .xor .u32 ((r : Int) / 2) (bits .and .u32 3988292384 (-((r : Int) % 2) % 4294967296)) = ((st r : Nat) : Int) := by
  have e1 : (r : Int) % 2 = ((r % 2 : Nat) : Int) := by omega
  have e2 : (r : Int) / 2 = ((r / 2 : Nat) : Int) := by omega
  rw [e1, e2, and_all _ (by omega), u32_xor_nat _ _ (by omega) (by omega)]
  rfl

set_option maxHeartbeats 1000000 in
theorem shift_walk (s : Nat) (w : World) (h : s < 4294967296) :
    Calls Tryz.prog 86 #[.int .u32 (s : Int)] w fun e w' => e = .returned (.int .u32 ((it 8 s : Nat) : Int)) ∧ w' = w := by
  go_enter Tryz.func86, Tryz.ntmps86
  go_wp2_with fail
  go_loop [0, 4] (fun a i => ∃ k r : Nat, k ≤ 8 ∧ r < 4294967296 ∧ a = .int .u32 (r : Int) ∧ i = .int .i64 (k : Int) ∧ Hid (it 8 s = it (8 - k) r)) (fun _ i => 8 - (intOf i).toNat)
  case atStart => exact ⟨0, s, by omega, h, rfl, rfl, hide rfl⟩
  case round =>
    obtain ⟨k, r, hk, hr, rfl, rfl, hq⟩ := hrel
    by_cases hlt : k < 8
    · have h1 := and_one r hr
      have h2 := step_bits r hr
      have hq2 : Hid (it 8 s = it (8 - (k + 1)) (st r)) := by
        refine hide ?_
        rw [unhide hq, show 8 - k = 8 - (k + 1) + 1 by omega]; rfl
      have hst := st_lt hr
      go_wp2
      exact ⟨⟨k + 1, st r, by omega, hst, rfl, by go_num, hq2⟩, by simp [intOf]; omega⟩
    · have hk8 : k = 8 := by omega
      subst hk8
      go_wp2
      go_ret
      refine ⟨ret_int ?_, rfl⟩
      rw [unhide hq]; rfl

/-- bytes as plain numbers -/
def nat (zs : List Int) : List Nat := zs.map Int.toNat
theorem nat_byte {zs : List Int} (h : Bytes zs) : ∀ x ∈ nat zs, x < 256 := by
  intro x hx
  obtain ⟨z, hz, rfl⟩ := List.mem_map.1 hx
  have := h z hz
  omega

theorem turn_bits (s : Nat) (h : s < 4294967296) : bits .xor .u32 IntKind.u32.max (s : Int) = ((tn s : Nat) : Int) := by
  rw [show IntKind.u32.max = ((4294967295 : Nat) : Int) from rfl, u32_xor_nat _ _ (by omega) h, tn_xor h, Nat.xor_comm]
theorem mix_bits (s : Nat) (x : Int) (h : s < 4294967296) (h0 : 0 ≤ x) (h1 : x < 256) : bits .xor .u32 (s : Int) x = ((s ^^^ x.toNat : Nat) : Int) := by
  obtain ⟨n, rfl⟩ := Int.eq_ofNat_of_zero_le h0
  rw [u32_xor_nat _ _ h (by omega)]; rfl
theorem nat_drop (zs : List Int) (k : Nat) (h : k < zs.length) : nat (zs.drop k) = (zs.getD k 0).toNat :: nat (zs.drop (k + 1)) := by
  rw [drop_cons zs k h]; rfl

set_option maxHeartbeats 1000000 in
theorem add_some (b off c : Nat) (zs : List Int) (s : Nat) (w : World) (hs : s < 4294967296) (hb : Bytes zs) (hm : zs.length ≤ maxLen) (hc : Cells .u8 w b off zs) :
    Calls Tryz.prog 73 #[.int .u32 (s : Int), .slice (some ⟨b, off, none⟩) zs.length c] w fun e w' => e = .returned (.int .u32 ((sumAdd s (nat zs) : Nat) : Int)) ∧ w' = w := by
  unfold maxLen at hm
  have ht := turn_bits s hs
  go_enter Tryz.func73, Tryz.ntmps73
  go_wp2_with (fail)
  go_loop [5, 12] (fun a i => ∃ k r : Nat, k ≤ zs.length ∧ r < 4294967296 ∧ a = .int .u32 (r : Int) ∧ i = .int .i64 (k : Int) ∧ Hid (run (tn s) (nat zs) = run r (nat (zs.drop k)))) (fun _ i => zs.length - (intOf i).toNat)
  case atStart => exact ⟨0, tn s, by omega, tn_lt s, rfl, rfl, hide rfl⟩
  case round =>
    obtain ⟨k, r, hk, hr, rfl, rfl, hq⟩ := hrel
    by_cases hlt : k < zs.length
    · have hx := getD_byte hb hlt
      have hcell := hc k hlt
      have hq1 : Hid (run (tn s) (nat zs) = run (it 8 (r ^^^ (zs.getD k 0).toNat)) (nat (zs.drop (k + 1)))) := by
        refine hide ?_
        rw [unhide hq, nat_drop zs k hlt]; rfl
      generalize zs.getD k 0 = x at *
      have h1 := mix_bits r x hr hx.1 hx.2
      have hlt2 : r ^^^ x.toNat < 4294967296 := xor_lt hr (by omega)
      generalize r ^^^ x.toNat = r2 at *
      have hit := it_lt 8 hlt2
      go_wp2_with (fail)
      refine (shift_walk r2 _ hlt2).mono ?_
      rintro e w1 ⟨rfl, rfl⟩
      go_wp2
      exact ⟨⟨k + 1, it 8 r2, by omega, hit, rfl, by go_num, hq1⟩, by simp [intOf]; omega⟩
    · have hk8 : k = zs.length := by omega
      subst hk8
      have h1 := turn_bits r hr
      go_wp2
      go_ret
      refine ⟨ret_int ?_, rfl⟩
      unfold sumAdd
      rw [unhide hq]; simp [nat, run]

set_option maxHeartbeats 400000 in
theorem add_none (a : Option Addr) (c : Nat) (s : Nat) (w : World) (hs : s < 4294967296) :
    Calls Tryz.prog 73 #[.int .u32 (s : Int), .slice a 0 c] w fun e w' => e = .returned (.int .u32 ((sumAdd s (nat []) : Nat) : Int)) ∧ w' = w := by
  have ht := turn_bits s hs
  have ht2 := turn_bits (tn s) (tn_lt s)
  go_enter Tryz.func73, Tryz.ntmps73
  go_wp2_with (fail)
  refine wp_loop_rounds 1 ?_; rw [rounds_succ]
  go_wp2
  go_ret
  exact ⟨rfl, rfl⟩
theorem add_walk (B : Nat → Prop) (v : Value) (zs : List Int) (s : Nat) (w : World) (hs : s < 4294967296) (hb : Bytes zs) (hr : Row .u8 B w v zs) :
    Calls Tryz.prog 73 #[.int .u32 (s : Int), v] w fun e w' => e = .returned (.int .u32 ((sumAdd s (nat zs) : Nat) : Int)) ∧ w' = w := by
  rcases hr with ⟨a, c, rfl, _, _, rfl⟩ | ⟨b, off, c, rfl, h1, h2, _, h4⟩
  · exact add_none a c s w hs
  · exact add_some b off c zs s w hs hb (by omega) h4
set_option maxHeartbeats 400000 in
theorem sum_walk (B : Nat → Prop) (v : Value) (zs : List Int) (w : World) (hb : Bytes zs) (hr : Row .u8 B w v zs) :
    Calls Tryz.prog 74 #[v] w fun e w' => e = .returned (.int .u32 ((sumAdd 0 (nat zs) : Nat) : Int)) ∧ w' = w := by
  go_enter Tryz.func74, Tryz.ntmps74
  go_wp2_with (fail)
  refine (add_walk B v zs 0 _ (by omega) hb hr).mono ?_
  rintro e w1 ⟨rfl, rfl⟩
  go_wp2
  go_ret
  exact ⟨rfl, rfl⟩

theorem row_marked (w : World) (zs : List Int) (e : TypeId) (fr : Nat × Nat) (hm : zs.length ≤ maxLen) : Row .u8 any (w.alloc (.cells ((zs.map (Value.int .u8)).toArray) e fr)) (.slice (some ⟨w.heap.size, 0, none⟩) zs.length zs.length) zs := by
  refine .inr ⟨w.heap.size, 0, zs.length, rfl, Nat.le_refl _, hm, trivial, fun i hi => ?_⟩
  rw [World.cell?_alloc_mark, Nat.zero_add]
  simp [hi]

end Go.Proofs.YthikiahhochjmaaGreatDoor


namespace Go.Proofs.YthikiahhochjmaaGreatDoor
open Go.RowKit Go.Maps
set_option linter.unusedVariables false
set_option linter.unusedSimpArgs false

theorem num4_at (v j : Nat) (h : j < 4) : (num4 v)[j]? = some (((v / 2 ^ (8 * j) % 256 : Nat) : Int)) := by
  match j, h with
  | 0, _ => simp [num4]
  | 1, _ => simp [num4]
  | 2, _ => simp [num4]
  | 3, _ => simp [num4]
theorem cast_byte (v k : Nat) : (v : Int) / 2 ^ k % 256 = ((v / 2 ^ k % 256 : Nat) : Int) := by
  have e : (v : Int) / 2 ^ k = ((v / 2 ^ k : Nat) : Int) := by push_cast; rfl
  rw [e]; omega
theorem num4_of (v : Nat) (ys : List Value) (hl : ys.length = 4) (h : ∀ j, j < 4 → ys[j]? = some (.int .u8 ((v / 2 ^ (8 * j) % 256 : Nat) : Int))) : ys = (num4 v).map (Value.int .u8) := by
  apply List.ext_getElem?
  intro j
  by_cases hj : j < 4
  · rw [h j hj, List.getElem?_map, num4_at v j hj]; rfl
  · rw [List.getElem?_eq_none (by omega), List.getElem?_eq_none (by simp [num4]; omega)]

theorem make_bytes (M : Nat) (hM : M ≤ 1048600) (u : World) : (Instr.makeSlice 33 (.int .i64 (M : Int)) (.int .i64 (M : Int))).run Tryz.prog u = .ok (.slice (some ⟨u.heap.size, 0, none⟩) M M) (u.alloc (.cells (List.replicate M (Value.int .u8 0)).toArray 5)) := by
  obtain ⟨i0, hi, hz0, hz1, hz2⟩ := info_parts info_u8
  have := run_make (P := Tryz.prog) u 33 5 i0 _ Tryz.underlying33 hi hz0 .i64 .i64 (M : Int) (M : Int) (by omega) (by omega) (by rw [hz2]; omega) (by omega)
  rw [hz1] at this
  rw [show (Value.int .u8 0).cells = #[Value.int .u8 0] from rfl] at this
  rw [← toList_madeCells_one]
  simpa using this
set_option maxHeartbeats 1000000 in
theorem word_walk (v : Nat) (w : World) (hv : v < 4294967296) :
    Calls Tryz.prog 57 #[.int .u32 (v : Int)] w fun e w' => ∃ x, e = .returned x ∧ OwnSl w' 5 1 x (num4 v).length ((num4 v).map (Value.int .u8)) ∧ (∀ j, x.ownBlock = some j → w.heap.size ≤ j) ∧ Turn (fun _ => False) w w' := by
  have hmk : ∀ u : World, (Instr.makeSlice 33 (.int .i64 4) (.int .i64 4)).run Tryz.prog u = .ok (.slice (some ⟨u.heap.size, 0, none⟩) 4 4) (u.alloc (.cells (List.replicate 4 (Value.int .u8 0)).toArray 5)) := fun u => make_bytes 4 (by omega) u
  have tA : Turn (fun _ => False) w (w.alloc (.cells (List.replicate 4 (Value.int .u8 0)).toArray 5)) := (Turn.refl _ w).alloc _
  have hO : OwnSl (w.alloc (.cells (List.replicate 4 (Value.int .u8 0)).toArray 5)) 5 1 (.slice (some ⟨w.heap.size, 0, none⟩) 4 4) 4 (List.replicate 4 (Value.int .u8 0)) :=
    ⟨by simp, .inr ⟨w.heap.size, 0, 4, _, rfl, heap_alloc_new w _, by omega, by unfold maxLen; omega, by simp, by simp⟩⟩
  generalize (List.replicate 4 (Value.int .u8 0)) = Z at *
  go_enter Tryz.func57, Tryz.ntmps57
  go_wp2_with fail
  generalize (w.alloc (.cells Z.toArray 5)) = wA at *
  clear hmk
  go_loopw [8] (fun i wr => ∃ k : Nat, k ≤ 4 ∧ i = .int .i64 (k : Int) ∧ ∃ ys : List Value, OwnSl wr 5 1 (.slice (some ⟨w.heap.size, 0, none⟩) 4 4) 4 ys ∧ Turn (fun _ => False) w wr ∧ Hid (∀ j, j < k → ys[j]? = some (.int .u8 ((v / 2 ^ (8 * j) % 256 : Nat) : Int)))) (fun i _ => 4 - (intOf i).toNat)
  case atStart => exact ⟨0, by omega, rfl, _, hO, tA, hide (fun j hj => by omega)⟩
  case round =>
    obtain ⟨k, hk, rfl, ys, hown, hT, hys⟩ := hrel
    by_cases hlt : k < 4
    · have hyl : ys.length = 4 := by have := hown.1; omega
      have hcl : wr.cell? ⟨w.heap.size, k, none⟩ = some (ys[k]'(by omega)) := by have := hown.cells k (ys[k]'(by omega)) (by simp); rwa [Nat.zero_add] at this
      have hst := hown.set k (by omega) (.int .u8 ((v / 2 ^ (8 * k) % 256 : Nat) : Int))
      rw [Nat.zero_add] at hst
      obtain ⟨hst, hfr⟩ := hst
      have hnew : Hid (∀ j, j < k + 1 → (ys.set k (.int .u8 ((v / 2 ^ (8 * k) % 256 : Nat) : Int)))[j]? = some (.int .u8 ((v / 2 ^ (8 * j) % 256 : Nat) : Int))) := by
        refine hide fun j hj => ?_
        by_cases e : j = k
        · subst e; rw [List.getElem?_set_self (by omega)]
        · rw [List.getElem?_set_ne (by omega)]; exact unhide hys j (by omega)
      have hT2 := hT.setCell (p := ⟨w.heap.size, k, none⟩) (.inr (Nat.le_refl _)) (.int .u8 ((v / 2 ^ (8 * k) % 256 : Nat) : Int))
      have Hst := hide hst
      clear hst
      generalize ys[k]'(by omega) = old at *
      clear hys hown
      go_wp2
      rw [cast_byte v (8 * k)]
      exact ⟨⟨k + 1, by omega, by go_num, _, unhide Hst, hT2, hnew⟩, by simp [intOf]; omega⟩
    · have hk4 : k = 4 := by omega
      subst hk4
      have he := num4_of v ys (by have := hown.1; omega) (unhide hys)
      subst he
      go_wp2
      go_ret
      exact ⟨_, rfl, hown, fun j hj => by simp [Value.ownBlock] at hj; omega, hT⟩

set_option maxHeartbeats 400000 in
theorem sumOf_walk (B B' : Nat → Prop) (v v' : Value) (n4 zs : List Int) (w : World) (hn : Bytes n4) (hb : Bytes zs) (hr : Row .u8 B w v n4) (hr' : Row .u8 B' w v' zs) :
    Calls Tryz.prog 58 #[v, v'] w fun e w' => e = .returned (.int .u32 ((sum2 n4 zs : Nat) : Int)) ∧ w' = w := by
  have hlt : sumAdd 0 (nat n4) < 4294967296 := sumAdd_lt _ _
  go_enter Tryz.func58, Tryz.ntmps58
  go_wp2_with fail
  refine (sum_walk B v n4 _ hn hr).mono ?_
  rintro e w1 ⟨rfl, rfl⟩
  go_wp2_with fail
  refine (add_walk B' v' zs _ _ hlt hb hr').mono ?_
  rintro e w1 ⟨rfl, rfl⟩
  go_wp2
  go_ret
  exact ⟨rfl, rfl⟩

/-- more bytes behind a row of one's own that is new -/
theorem push {w0 w1 : World} {v x : Value} {xs zs : List Int} (T : Turn (fun _ => False) w0 w1) (ho : OwnSl w1 5 1 v xs.length (xs.map (Value.int .u8))) (hf : ∀ j, v.ownBlock = some j → w0.heap.size ≤ j) (hx : Src 1 w1 x zs.length (zs.map (Value.int .u8))) (hm : xs.length + zs.length ≤ 140737488355328) :
    ∃ v' w2, (Builtin.append_ #[33, 33] 33 #[v, x]).run Tryz.prog w1 = .ok v' w2 ∧ OwnSl w2 5 1 v' (xs ++ zs).length ((xs ++ zs).map (Value.int .u8)) ∧ (∀ j, v'.ownBlock = some j → w0.heap.size ≤ j) ∧ Turn (fun _ => False) w0 w2 := by
  obtain ⟨i0, hi, hz0, hz1, hz2⟩ := info_parts info_u8
  obtain ⟨v', w2, h1, h2, h3, h4⟩ := append_src (P := Tryz.prog) (ty := 33) Tryz.underlying33 hi hz0 hz1 hz2 rfl (by omega) ho hx (ints_oneCell _ _) (by unfold maxLen; omega) (by omega)
  refine ⟨v', w2, h1, by rw [List.length_append, List.map_append]; exact h2, fun j hj => ?_, T.trans h3 (fun j hj => .inr (hf j hj))⟩
  rcases h4 j hj with h | h
  · exact hf j h
  · exact Nat.le_trans T.size h
theorem src_one (w : World) (x : Int) : Src 1 (w.alloc (.cells #[.int .u8 x] 5)) (.slice (some ⟨w.heap.size, 0, none⟩) 1 1) [x].length ([x].map (Value.int .u8)) :=
  ⟨rfl, .inr ⟨_, _, rfl, by simp, one_new w 5 (.int .u8 x)⟩⟩
theorem make_room (M : Nat) (hM : M ≤ 1048600) (u : World) : (Instr.makeSlice 33 (.int .i64 0) (.int .i64 (M : Int))).run Tryz.prog u = .ok (.slice (some ⟨u.heap.size, 0, none⟩) 0 M) (u.alloc (.cells (List.replicate M (Value.int .u8 0)).toArray 5)) := by
  obtain ⟨i0, hi, hz0, hz1, hz2⟩ := info_parts info_u8
  have := run_make (P := Tryz.prog) u 33 5 i0 _ Tryz.underlying33 hi hz0 .i64 .i64 0 (M : Int) (by omega) (by omega) (by rw [hz2]; omega) (by omega)
  rw [hz1] at this
  rw [show (Value.int .u8 0).cells = #[Value.int .u8 0] from rfl] at this
  rw [← toList_madeCells_one]
  simpa using this
theorem own_room (M : Nat) (hM : M ≤ 1048600) (u : World) (cur : List Value) (hc : cur.length = M) : OwnSl (u.alloc (.cells cur.toArray 5)) 5 1 (.slice (some ⟨u.heap.size, 0, none⟩) 0 M) ([] : List Int).length (([] : List Int).map (Value.int .u8)) :=
  ⟨by simp, .inr ⟨u.heap.size, 0, M, _, rfl, heap_alloc_new u _, Nat.zero_le _, by unfold maxLen; omega, by simp [hc], by simp⟩⟩

set_option maxRecDepth 20000 in
set_option maxHeartbeats 2000000 in
theorem Pack_walk (B : Nat → Prop) (v : Value) (zs : List Int) (w : World) (hb : Bytes zs) (hr : Row .u8 B w v zs) :
    Calls Tryz.prog 37 #[v] w fun e w' => ∃ x, e = .returned (.tuple #[x, .int .i64 (packC zs)]) ∧ OwnSl w' 5 1 x (packD zs).length ((packD zs).map (Value.int .u8)) ∧ (∀ j, x.ownBlock = some j → w.heap.size ≤ j) ∧ Turn (fun _ => False) w w' := by
  have hm := hr.len
  unfold maxLen at hm
  obtain ⟨a, c, rfl⟩ := hr.slice
  by_cases hbig : 1048576 < zs.length
  · have hC : packC zs = 4 := by unfold packC; rw [if_pos hbig]
    have hD : packD zs = [] := by unfold packD; rw [if_pos hbig]
    rw [hC, hD]
    clear hC hD hr
    generalize zs.length = n at *
    go_enter Tryz.func37, Tryz.ntmps37
    go_wp2
    go_ret2
    exact ⟨_, rfl, ⟨rfl, .inl ⟨rfl, rfl⟩⟩, fun j hj => by simp [Value.ownBlock] at hj, Turn.refl _ _⟩
  · have hC : packC zs = 0 := by unfold packC; rw [if_neg hbig]
    have hD : packD zs = packB zs := by unfold packD; rw [if_neg hbig]
    rw [hC, hD]
    clear hC hD
    have HB := hide hb
    go_enter Tryz.func37, Tryz.ntmps37
    go_wp2_with fail
    refine (word_walk zs.length _ (by omega)).mono ?_
    rintro e w1 ⟨x1, rfl, ho1, hf1, T1⟩
    have hr1 := hr.turn T1 (fun _ _ h => h)
    have hrow1 := row_of_sl ho1
    obtain ⟨a1, c1, rfl⟩ := hrow1.slice
    have h4 := num4_bytes zs.length
    have hlt := sum2_lt (num4 zs.length) zs
    go_wp2_with fail
    refine (sumOf_walk _ _ _ _ (num4 zs.length) zs _ h4 hb hrow1 hr1).mono ?_
    rintro e w2 ⟨rfl, rfl⟩
    go_wp2_with fail
    refine (word_walk (sum2 (num4 zs.length) zs) _ hlt).mono ?_
    rintro e w3 ⟨x3, rfl, ho3, hf3, T3⟩
    have hr3 := hr1.turn T3 (fun _ _ h => h)
    have ho13 := ho1.turn T3 (fun _ _ h => h)
    have T13 := T1.then T3
    obtain ⟨a3, c3, rfl⟩ := (row_of_sl ho3).slice
    have hmk : ∀ u : World, (Instr.makeSlice 33 (.int .i64 0) (.int .i64 (10 + (zs.length : Int)))).run Tryz.prog u = .ok (.slice (some ⟨u.heap.size, 0, none⟩) 0 (zs.length + 10)) (u.alloc (.cells (List.replicate (zs.length + 10) (Value.int .u8 0)).toArray 5)) := fun u => by
      have := make_room (zs.length + 10) (by omega) u
      rwa [show ((zs.length + 10 : Nat) : Int) = 10 + (zs.length : Int) by omega] at this
    have hO4 := own_room (zs.length + 10) (by omega) w3 (List.replicate (zs.length + 10) (Value.int .u8 0)) (by simp)
    generalize (List.replicate (zs.length + 10) (Value.int .u8 0)) = Z at *
    have T4 : Turn (fun _ => False) w3 (w3.alloc (.cells Z.toArray 5)) := (Turn.refl _ w3).alloc _
    have T5 := T4.alloc (.cells #[.int .u8 165] 5)
    have hf4 : ∀ j, (Value.slice (some ⟨w3.heap.size, 0, none⟩) 0 (zs.length + 10)).ownBlock = some j → w3.heap.size ≤ j := fun j hj => by simp [Value.ownBlock] at hj; omega
    have hO5 := hO4.turn ((Turn.refl (fun _ => False) _).alloc (.cells #[.int .u8 165] 5)) (fun _ _ h => h)
    have hs5 := src_one (w3.alloc (.cells Z.toArray 5)) 165
    obtain ⟨v6, w6, hrun6, hO6, hf6, T6⟩ := push T5 hO5 hf4 hs5 (by simp)
    rw [World.size_alloc] at hrun6
    obtain ⟨v7, w7, hrun7, hO7, hf7, T7⟩ := push T6 hO6 hf6 ((src_row (row_of_sl ho13)).turn T6 (fun _ _ h => h)) (by simp [num4])
    obtain ⟨v8, w8, hrun8, hO8, hf8, T8⟩ := push T7 hO7 hf7 ((src_row (row_of_sl ho3)).turn T7 (fun _ _ h => h)) (by simp [num4])
    obtain ⟨v9, w9, hrun9, hO9, hf9, T9⟩ := push T8 hO8 hf8 ((src_row hr3).turn T8 (fun _ _ h => h)) (by simp [num4]; omega)
    have T10 := T9.alloc (.cells #[.int .u8 90] 5)
    have hO10 := hO9.turn ((Turn.refl (fun _ => False) _).alloc (.cells #[.int .u8 90] 5)) (fun _ _ h => h)
    obtain ⟨v11, w11, hrun11, hO11, hf11, T11⟩ := push T10 hO10 hf9 (src_one w9 90) (by simp [num4]; omega)
    have hpk : [] ++ [165] ++ num4 zs.length ++ num4 (sum2 (num4 zs.length) zs) ++ zs ++ [90] = packB zs := by simp [packB]
    rw [hpk] at hO11
    have Tend := T13.then T11
    have hfe : ∀ j, v11.ownBlock = some j → w.heap.size ≤ j := fun j hj => Nat.le_trans T13.size (hf11 j hj)
    have HO11 := hide hO11
    clear hO4 hO5 hO6 hO7 hO8 hO9 hO10 hO11 hf4 hf6 hf7 hf8 hf9 hf11 T4 T5 T6 T7 T8 T9 T10 T11 hs5 hpk ho13 ho1 ho3 hf1 hf3 T1 T3 T13 hr hr1 hr3 hb h4
    go_wp2_with (first | (at_builtin; refine list_append_run rfl (.tmp 22) (.tmp 23) 33 rfl _ _ _ _ rfl rfl hrun6 ?_) | (at_builtin; refine list_append_run rfl (.tmp 25) (.tmp 26) 33 rfl _ _ _ _ rfl rfl hrun7 ?_) | (at_builtin; refine list_append_run rfl (.tmp 28) (.tmp 29) 33 rfl _ _ _ _ rfl rfl hrun8 ?_) | (at_builtin; refine list_append_run rfl (.tmp 31) (.tmp 32) 33 rfl _ _ _ _ rfl rfl hrun9 ?_) | (at_builtin; refine list_append_run rfl (.tmp 34) (.tmp 35) 33 rfl _ _ _ _ rfl rfl hrun11 ?_))
    go_ret2
    exact ⟨v11, rfl, unhide HO11, hfe, Tend⟩

end Go.Proofs.YthikiahhochjmaaGreatDoor


namespace Go.Proofs.YthikiahhochjmaaGreatDoor
open Go.RowKit Go.Maps
set_option linter.unusedVariables false
set_option linter.unusedSimpArgs false

theorem row_at {k : IntKind} {B : Nat → Prop} {w : World} {v : Value} {zs : List Int} (h : Row k B w v zs) (h0 : 0 < zs.length) : ∃ b off c, v = .slice (some ⟨b, off, none⟩) zs.length c ∧ zs.length ≤ c ∧ c ≤ maxLen ∧ ∀ i, i < zs.length → w.cell? ⟨b, off + i, none⟩ = some (.int k (zs.getD i 0)) := by
  rcases h with ⟨a, c, rfl, _, _, rfl⟩ | ⟨b, off, c, rfl, h1, h2, h3, h4⟩
  · simp at h0
  · exact ⟨b, off, c, rfl, h1, h2, h4⟩
def begC (zs : List Int) : Int := if zs.length = 0 then 6 else if zs.getD 0 0 ≠ 165 ∧ zs.getD 0 0 ≠ 0 then 10 else if zs.getD 0 0 = 0 ∨ zs.length < 10 then 9 else 0
def endC (zs : List Int) (n : Nat) : Int := if zs.length ≤ n ∨ zs.getD n 0 = 0 then 9 else if zs.getD n 0 ≠ 90 then 10 else 0

set_option maxHeartbeats 1000000 in
theorem begin_walk (B : Nat → Prop) (v : Value) (zs : List Int) (w : World) (hr : Row .u8 B w v zs) :
    Calls Tryz.prog 129 #[v] w fun e w' => e = .returned (.int .i64 (begC zs)) ∧ w' = w := by
  have hm := hr.len
  unfold maxLen at hm
  by_cases h0 : zs.length = 0
  · have e : begC zs = 6 := by unfold begC; rw [if_pos h0]
    rw [e]
    obtain ⟨a, c, rfl⟩ := hr.slice
    rw [h0]
    clear e hr hm h0
    go_enter Tryz.func129, Tryz.ntmps129
    go_wp2
    go_ret
    exact ⟨rfl, rfl⟩
  · obtain ⟨b, off, c, rfl, hc, _, hcell⟩ := row_at hr (by omega)
    have c0 := hcell 0 (by omega)
    rw [Nat.add_zero] at c0
    have e : begC zs = if zs.getD 0 0 ≠ 165 ∧ zs.getD 0 0 ≠ 0 then 10 else if zs.getD 0 0 = 0 ∨ zs.length < 10 then 9 else 0 := by unfold begC; rw [if_neg h0]
    rw [e]
    clear e hr hcell
    generalize zs.getD 0 0 = x at *
    generalize zs.length = n at *
    by_cases h1 : x = 165
    · subst h1
      by_cases h2 : n < 10
      · rw [if_neg (by simp), if_pos (.inr h2)]
        go_enter Tryz.func129, Tryz.ntmps129
        go_wp2
        go_ret
        exact ⟨rfl, rfl⟩
      · rw [if_neg (by simp), if_neg (by omega)]
        go_enter Tryz.func129, Tryz.ntmps129
        go_wp2
        go_ret
        exact ⟨rfl, rfl⟩
    · by_cases h2 : x = 0
      · subst h2
        rw [if_neg (by simp), if_pos (.inl rfl)]
        go_enter Tryz.func129, Tryz.ntmps129
        go_wp2
        go_ret
        exact ⟨rfl, rfl⟩
      · rw [if_pos ⟨h1, h2⟩]
        have n1 : (x != 165) = true := by simpa using h1
        have n2 : (x != 0) = true := by simpa using h2
        clear h1 h2
        go_enter Tryz.func129, Tryz.ntmps129
        go_wp2
        go_ret
        exact ⟨rfl, rfl⟩

set_option maxHeartbeats 1000000 in
theorem end_walk (B : Nat → Prop) (v : Value) (zs : List Int) (n : Nat) (w : World) (hr : Row .u8 B w v zs) :
    Calls Tryz.prog 131 #[v, .int .i64 (n : Int)] w fun e w' => e = .returned (.int .i64 (endC zs n)) ∧ w' = w := by
  have hm := hr.len
  unfold maxLen at hm
  by_cases h0 : zs.length ≤ n
  · have e : endC zs n = 9 := by unfold endC; rw [if_pos (.inl h0)]
    rw [e]
    obtain ⟨a, c, rfl⟩ := hr.slice
    clear e hr
    generalize zs.length = m at *
    go_enter Tryz.func131, Tryz.ntmps131
    go_wp2
    go_ret
    exact ⟨rfl, rfl⟩
  · obtain ⟨b, off, c, rfl, hc, _, hcell⟩ := row_at hr (by omega)
    have c0 := hcell n (by omega)
    have e : endC zs n = if zs.getD n 0 = 0 then 9 else if zs.getD n 0 ≠ 90 then 10 else 0 := by
      unfold endC
      by_cases h : zs.getD n 0 = 0
      · rw [if_pos (.inr h), if_pos h]
      · rw [if_neg (by omega), if_neg h]
    rw [e]
    clear e hr hcell
    generalize zs.getD n 0 = x at *
    generalize zs.length = m at *
    by_cases h1 : x = 0
    · subst h1
      rw [if_pos rfl]
      go_enter Tryz.func131, Tryz.ntmps131
      go_wp2
      go_ret
      exact ⟨rfl, rfl⟩
    · by_cases h2 : x = 90
      · subst h2
        rw [if_neg (by simp), if_neg (by simp)]
        go_enter Tryz.func131, Tryz.ntmps131
        go_wp2
        go_ret
        exact ⟨rfl, rfl⟩
      · rw [if_neg h1, if_pos h2]
        have n1 : (x == 0) = false := by simpa using h1
        have n2 : (x != 90) = true := by simpa using h2
        clear h1 h2
        go_enter Tryz.func131, Tryz.ntmps131
        go_wp2
        go_ret
        exact ⟨rfl, rfl⟩

theorem or_step (x y k : Nat) (hx : x < 2 ^ k) (hy : y * 2 ^ k + x < 4294967296) : bits .or .u32 (x : Int) ((y : Int) % 4294967296 * 2 ^ k % 4294967296) = ((x + y * 2 ^ k : Nat) : Int) := by
  have hy1 : y ≤ y * 2 ^ k := Nat.le_mul_of_pos_right _ (Nat.two_pow_pos k)
  have e : (y : Int) % 4294967296 * 2 ^ k % 4294967296 = ((y * 2 ^ k : Nat) : Int) := by
    have e1 : (y : Int) % 4294967296 = (y : Int) := by omega
    have e2 : (y : Int) * 2 ^ k = ((y * 2 ^ k : Nat) : Int) := by push_cast; rfl
    rw [e1, e2]; omega
  rw [e, u32_or_nat _ _ (by omega) (by omega), Nat.or_comm, Nat.mul_comm, ← Nat.two_pow_add_eq_or_of_lt hx, Nat.add_comm]
theorem of4_part (zs : List Int) (hl : zs.length = 4) (hb : Bytes zs) (k : Nat) (hk : k < 4) : of4 (zs.take k) < 2 ^ (8 * k) ∧ of4 (zs.take (k + 1)) = of4 (zs.take k) + (zs.getD k 0).toNat * 2 ^ (8 * k) ∧ of4 (zs.take (k + 1)) < 4294967296 := by
  obtain ⟨c0, c1, c2, c3, rfl⟩ : ∃ c0 c1 c2 c3, zs = [c0, c1, c2, c3] := by match zs, hl with | [c0, c1, c2, c3], _ => exact ⟨c0, c1, c2, c3, rfl⟩
  have h0 := hb c0 (by simp)
  have h1 := hb c1 (by simp)
  have h2 := hb c2 (by simp)
  have h3 := hb c3 (by simp)
  match k, hk with
  | 0, _ => simp [of4]; omega
  | 1, _ => simp [of4]; omega
  | 2, _ => simp [of4]; omega
  | 3, _ => simp [of4]; omega
theorem of4_or (zs : List Int) (hl : zs.length = 4) (hb : Bytes zs) (k : Nat) (hk : k < 4) : bits .or .u32 ((of4 (zs.take k) : Nat) : Int) (zs.getD k 0 % 4294967296 * 2 ^ (8 * k) % 4294967296) = ((of4 (zs.take (k + 1)) : Nat) : Int) := by
  obtain ⟨h1, h2, h3⟩ := of4_part zs hl hb k hk
  have hx := getD_byte hb (show k < zs.length by omega)
  obtain ⟨y, hy⟩ := Int.eq_ofNat_of_zero_le hx.1
  rw [hy] at h2 ⊢
  rw [Int.toNat_natCast] at h2
  rw [or_step _ y (8 * k) h1 (by omega), h2]

set_option maxHeartbeats 1000000 in
theorem number_walk (B : Nat → Prop) (v : Value) (zs : List Int) (w : World) (hl : zs.length = 4) (hb : Bytes zs) (hr : Row .u8 B w v zs) :
    Calls Tryz.prog 130 #[v] w fun e w' => e = .returned (.int .u32 ((of4 zs : Nat) : Int)) ∧ w' = w := by
  obtain ⟨b, off, c, rfl, hc, _, hcell⟩ := row_at hr (by omega)
  rw [hl]
  have Hcell := hide hcell
  have Hb := hide hb
  have Hl := hide hl
  clear hcell hr hb hc
  go_enter Tryz.func130, Tryz.ntmps130
  go_wp2_with fail
  go_loop [3, 8] (fun a i => ∃ k r : Nat, k ≤ 4 ∧ a = .int .u32 (r : Int) ∧ i = .int .i64 (k : Int) ∧ Hid (of4 (zs.take k) = r)) (fun _ i => 4 - (intOf i).toNat)
  case atStart => exact ⟨0, 0, by omega, rfl, rfl, hide (by simp [of4])⟩
  case round =>
    obtain ⟨k, r, hk, rfl, rfl, hq⟩ := hrel
    by_cases hlt : k < 4
    · have hcl := unhide Hcell k (by rw [unhide Hl]; exact hlt)
      have hor := of4_or zs (unhide Hl) (unhide Hb) k hlt
      rw [unhide hq] at hor
      generalize zs.getD k 0 = x at *
      obtain ⟨r2, hr2⟩ : ∃ r2, of4 (zs.take (k + 1)) = r2 := ⟨_, rfl⟩
      have Hr2 := hide hr2
      rw [hr2] at hor
      clear hr2 hl
      go_wp2
      exact ⟨⟨k + 1, r2, by omega, rfl, by go_num, Hr2⟩, by simp [intOf]; omega⟩
    · have hk4 : k = 4 := by omega
      subst hk4
      go_wp2
      go_ret
      refine ⟨ret_int ?_, rfl⟩
      rw [← unhide hq, List.take_of_length_le (by omega)]

/-! ### Take -/
theorem mid_u8 {w : World} {B : Nat → Prop} {x : Value} {zs : List Int} (h : Row .u8 B w x zs) (m n : Nat) (hn : m + n ≤ zs.length) :
    ∃ x', (∀ u : World, (Instr.slice 33 x (some (.int .i64 (m : Int))) (some (.int .i64 ((m + n : Nat) : Int))) none).run Tryz.prog u = .ok x' u) ∧ Row .u8 B w x' ((zs.drop m).take n) := by
  obtain ⟨i0, hi, hz0, hz1, hz2⟩ := info_parts info_u8
  exact cut_mid Tryz.underlying33 hi hz1 h m n hn
theorem of4_take (l : List Int) : of4 (l.take 4) = of4 l := by
  unfold of4
  simp [List.getD_eq_getElem?_getD, List.getElem?_take]
theorem of4_lt (l : List Int) (h : Bytes l) : of4 l < 4294967296 := by
  have key : ∀ i, 0 ≤ l.getD i 0 ∧ l.getD i 0 < 256 := fun i => by
    by_cases hi : i < l.length
    · exact getD_byte h hi
    · rw [List.getD_eq_getElem?_getD, List.getElem?_eq_none (by omega)]; simp
  have h0 := key 0
  have h1 := key 1
  have h2 := key 2
  have h3 := key 3
  unfold of4
  omega

set_option maxHeartbeats 2000000 in
theorem Take_walk (B : Nat → Prop) (v : Value) (zs : List Int) (w : World) (hb : Bytes zs) (hr : Row .u8 B w v zs) :
    Calls Tryz.prog 107 #[v] w fun e w' => ∃ x, e = .returned (.tuple #[x, .int .i64 (((takeT zs).2.1 : Nat) : Int), .int .i64 (takeT zs).2.2]) ∧ OwnSl w' 5 1 x (takeT zs).1.length ((takeT zs).1.map (Value.int .u8)) ∧ (∀ j, x.ownBlock = some j → w.heap.size ≤ j) ∧ Turn (fun _ => False) w w' := by
  have hm := hr.len
  unfold maxLen at hm
  have none_ok : ∀ (w : World), OwnSl w 5 1 (.slice none 0 0) ([] : List Int).length (([] : List Int).map (Value.int .u8)) := fun w => ⟨rfl, .inl ⟨rfl, rfl⟩⟩
  have none_new : ∀ j, (Value.slice none 0 0).ownBlock = some j → w.heap.size ≤ j := fun j hj => by simp [Value.ownBlock] at hj
  obtain ⟨a, c, rfl⟩ := hr.slice
  by_cases hbeg : begC zs = 0
  · have hlen : 10 ≤ zs.length ∧ zs.getD 0 0 = 165 := by
      unfold begC at hbeg
      repeat' split at hbeg
      all_goals first | omega | (simp at hbeg; done)
    have hT : takeT zs = if 1048576 < of4 (zs.drop 1) then ([], 0, 10) else if zs.length < 10 + of4 (zs.drop 1) ∨ zs.getD (9 + of4 (zs.drop 1)) 0 = 0 then ([], 0, 9) else
        if zs.getD (9 + of4 (zs.drop 1)) 0 ≠ 90 then ([], 0, 10) else
        if of4 (zs.drop 5) ≠ sum2 ((zs.drop 1).take 4) ((zs.drop 9).take (of4 (zs.drop 1))) then ([], 0, 11) else ((zs.drop 9).take (of4 (zs.drop 1)), 10 + of4 (zs.drop 1), 0) := by
      unfold takeT
      rw [if_neg (by omega), if_neg (by rw [hlen.2]; simp), if_neg (by omega)]
    obtain ⟨x1, hx1, hrow1⟩ := mid_u8 hr 1 4 (by omega)
    obtain ⟨x5, hx5, hrow5⟩ := mid_u8 hr 5 4 (by omega)
    have hx1' : ∀ u : World, (Instr.slice 33 (.slice a zs.length c) (some (.int .i64 1)) (some (.int .i64 5)) none).run Tryz.prog u = .ok x1 u := hx1
    have hx5' : ∀ u : World, (Instr.slice 33 (.slice a zs.length c) (some (.int .i64 5)) (some (.int .i64 9)) none).run Tryz.prog u = .ok x5 u := hx5
    have hL1 : ((zs.drop 1).take 4).length = 4 := by simp; omega
    have hL5 : ((zs.drop 5).take 4).length = 4 := by simp; omega
    have hB1 : Bytes ((zs.drop 1).take 4) := (hb.drop 1).take 4
    have hB5 : Bytes ((zs.drop 5).take 4) := (hb.drop 5).take 4
    have hn1 := number_walk B x1 _ w hL1 hB1 hrow1
    have hn5 : ∀ w' : World, (∃ n, w' = w.drewN n) → Calls Tryz.prog 130 #[x5] w' fun e w'' => e = .returned (.int .u32 ((of4 (zs.drop 5) : Nat) : Int)) ∧ w'' = w' := by
      rintro w' ⟨n, rfl⟩
      have := number_walk B x5 _ (w.drewN n) hL5 hB5 (hrow5.turn ((Turn.refl (fun _ => False) w).drewN n) (fun _ _ h => h))
      rwa [of4_take] at this
    rw [of4_take] at hn1
    rw [hT]
    clear hT hx1 hx5
    have hlt := of4_lt _ (hb.drop 1)
    have hbg := begin_walk B _ zs w hr
    rw [hbeg] at hbg
    generalize hN : of4 (zs.drop 1) = N at *
    by_cases hbig : 1048576 < N
    · rw [if_pos hbig]
      clear hn5 hrow1 hrow5 hL1 hL5 hB1 hB5 hN hlen
      go_enter Tryz.func107, Tryz.ntmps107
      go_wp2_with fail
      refine hbg.mono ?_
      rintro e w1 ⟨rfl, rfl⟩
      go_wp2_with fail
      refine hn1.mono ?_
      rintro e w1 ⟨rfl, rfl⟩
      go_wp2
      go_ret3
      exact ⟨_, rfl, none_ok _, none_new, Turn.refl _ _⟩
    · rw [if_neg hbig]
      have hen := end_walk B _ zs (9 + N) w hr
      by_cases hE : endC zs (9 + N) = 0
      · have hE' : 9 + N < zs.length ∧ zs.getD (9 + N) 0 = 90 := by
          unfold endC at hE
          repeat' split at hE
          all_goals first | omega | (simp at hE; done)
        rw [if_neg (by omega), if_neg (by omega)]
        rw [hE] at hen
        obtain ⟨x9, hx9, hrow9⟩ := mid_u8 hr 9 N (by omega)
        have hB9 : Bytes ((zs.drop 9).take N) := (hb.drop 9).take N
        have hsm : ∀ w' : World, (∃ n, w' = w.drewN n) → Calls Tryz.prog 58 #[x1, x9] w' fun e w'' => e = .returned (.int .u32 ((sum2 ((zs.drop 1).take 4) ((zs.drop 9).take N) : Nat) : Int)) ∧ w'' = w' := by
          rintro w' ⟨n, rfl⟩
          exact sumOf_walk B B x1 x9 _ _ _ hB1 hB9 (hrow1.turn ((Turn.refl (fun _ => False) w).drewN n) (fun _ _ h => h)) (hrow9.turn ((Turn.refl (fun _ => False) w).drewN n) (fun _ _ h => h))
        have hx9' : ∀ u : World, (Instr.slice 33 (.slice a zs.length c) (some (.int .i64 9)) (some (.int .i64 (9 + (N : Int)))) none).run Tryz.prog u = .ok x9 u := fun u => by have := hx9 u; rwa [show ((9 + N : Nat) : Int) = 9 + (N : Int) by omega] at this
        have hen' : Calls Tryz.prog 131 #[.slice a zs.length c, .int .i64 (9 + (N : Int))] w fun e w' => e = .returned (.int .i64 0) ∧ w' = w := by rwa [show ((9 + N : Nat) : Int) = 9 + (N : Int) by omega] at hen
        have hl9 : ((zs.drop 9).take N).length = N := by simp; omega
        clear hx9 hen hL1 hL5 hB1 hB5 hB9 hrow5 hrow1 hN hE hbeg
        generalize (zs.drop 9).take N = Y at *
        generalize sum2 ((zs.drop 1).take 4) Y = s2 at *
        generalize of4 (zs.drop 5) = s1 at *
        by_cases hs : s1 = s2
        · subst hs
          rw [if_neg (by simp)]
          have HL := hide hl9
          clear hl9
          go_enter Tryz.func107, Tryz.ntmps107
          go_wp2_with fail
          refine hbg.mono ?_
          rintro e w1 ⟨rfl, rfl⟩
          go_wp2_with fail
          refine hn1.mono ?_
          rintro e w1 ⟨rfl, rfl⟩
          go_wp2_with fail
          refine hen'.mono ?_
          rintro e w1 ⟨rfl, rfl⟩
          go_wp2_with fail
          go_quiet ((first | (go_at_call 58; exact Calls.quiet_of_same (hsm _ ⟨_, rfl⟩)) | (go_at_call 130; exact Calls.quiet_of_same (hn5 _ ⟨_, rfl⟩))))
          have TN := (Turn.refl (fun _ => False) w1).drewN nq
          have hrowN := hrow9.turn TN (fun _ _ h => h)
          go_wp2_with fail
          refine (clone_walk B x9 Y _ hrowN (by rw [unhide HL]; omega)).mono ?_
          rintro e w2 ⟨x, rfl, ho, hf, T⟩
          have hf' : ∀ j, x.ownBlock = some j → w1.heap.size ≤ j := fun j hj => Nat.le_trans TN.size (hf j hj)
          go_wp2
          go_ret3
          refine ⟨x, ?_, ho, hf', TN.then T⟩
          rw [show ((10 + N : Nat) : Int) = 9 + (N : Int) + 1 by omega]; rfl
        · rw [if_pos hs]
          have hne : ((s2 : Int) != (s1 : Int)) = true := by rw [bne_iff_ne]; omega
          clear hs
          go_enter Tryz.func107, Tryz.ntmps107
          go_wp2_with fail
          refine hbg.mono ?_
          rintro e w1 ⟨rfl, rfl⟩
          go_wp2_with fail
          refine hn1.mono ?_
          rintro e w1 ⟨rfl, rfl⟩
          go_wp2_with fail
          refine hen'.mono ?_
          rintro e w1 ⟨rfl, rfl⟩
          go_wp2_with fail
          go_quiet ((first | (go_at_call 58; exact Calls.quiet_of_same (hsm _ ⟨_, rfl⟩)) | (go_at_call 130; exact Calls.quiet_of_same (hn5 _ ⟨_, rfl⟩))))
          have TN := (Turn.refl (fun _ => False) w1).drewN nq
          go_wp2
          go_ret3
          exact ⟨_, rfl, none_ok _, none_new, TN⟩
      · have hT : (if zs.length < 10 + N ∨ zs.getD (9 + N) 0 = 0 then ([], 0, 9) else if zs.getD (9 + N) 0 ≠ 90 then ([], 0, 10) else if of4 (zs.drop 5) ≠ sum2 ((zs.drop 1).take 4) ((zs.drop 9).take N) then ([], 0, 11) else ((zs.drop 9).take N, 10 + N, 0) : List Int × Nat × Int) = ([], 0, endC zs (9 + N)) := by
          unfold endC at *
          by_cases h1 : zs.length ≤ 9 + N ∨ zs.getD (9 + N) 0 = 0
          · rw [if_pos (by omega), if_pos h1]
          · rw [if_neg (by omega), if_neg h1]
            by_cases h2 : zs.getD (9 + N) 0 ≠ 90
            · rw [if_pos h2, if_pos h2]
            · rw [if_neg h1, if_neg h2] at hE; exact absurd rfl hE
        rw [hT]
        have hen' : Calls Tryz.prog 131 #[.slice a zs.length c, .int .i64 (9 + (N : Int))] w fun e w' => e = .returned (.int .i64 (endC zs (9 + N))) ∧ w' = w := by rwa [show ((9 + N : Nat) : Int) = 9 + (N : Int) by omega] at hen
        have hne : (endC zs (9 + N) != 0) = true := by simpa using hE
        clear hT hE hen hn5 hrow1 hrow5 hL1 hL5 hB1 hB5 hN hlen hbeg
        generalize endC zs (9 + N) = x at *
        go_enter Tryz.func107, Tryz.ntmps107
        go_wp2_with fail
        refine hbg.mono ?_
        rintro e w1 ⟨rfl, rfl⟩
        go_wp2_with fail
        refine hn1.mono ?_
        rintro e w1 ⟨rfl, rfl⟩
        go_wp2_with fail
        refine hen'.mono ?_
        rintro e w1 ⟨rfl, rfl⟩
        go_wp2
        go_ret3
        exact ⟨_, rfl, none_ok _, none_new, Turn.refl _ _⟩
  · have hT : takeT zs = ([], 0, begC zs) := by
      unfold takeT begC at *
      repeat' split
      all_goals first | rfl | simp_all
    rw [hT]
    have hbg := begin_walk B _ zs w hr
    have hne : (begC zs != 0) = true := by simpa using hbeg
    clear hT hbeg
    generalize begC zs = x at *
    go_enter Tryz.func107, Tryz.ntmps107
    go_wp2_with fail
    refine hbg.mono ?_
    rintro e w1 ⟨rfl, rfl⟩
    go_wp2
    go_ret3
    exact ⟨_, rfl, none_ok _, none_new, Turn.refl _ _⟩
end Go.Proofs.YthikiahhochjmaaGreatDoor


namespace Go.Proofs.YthikiahhochjmaaGreatDoor
open Go.RowKit Go.Maps
set_option linter.unusedVariables false
set_option linter.unusedSimpArgs false

/-- a list of byte lists, all in memory that is new since so many blocks -/
def Lists (w : World) (base : Nat) (v : Value) (zss : List (List Int)) : Prop :=
  ∃ vs : List Value, OwnSl w 33 1 v vs.length vs ∧ (∀ j, v.ownBlock = some j → base ≤ j) ∧ vs.length = zss.length ∧
    ∀ (i : Nat) (u : Value) (z : List Int), vs[i]? = some u → zss[i]? = some z → OwnSl w 5 1 u z.length (z.map (Value.int .u8)) ∧ ∀ j, u.ownBlock = some j → base ≤ j

theorem Lists.turn {F : Nat → Prop} {w w' : World} {base : Nat} {v : Value} {zss : List (List Int)} (h : Lists w base v zss) (T : Turn F w w') (hF : ∀ j, base ≤ j → ¬ F j) : Lists w' base v zss := by
  obtain ⟨vs, h1, h2, h3, h4⟩ := h
  exact ⟨vs, h1.turn T (fun k hk => hF k (h2 k hk)), h2, h3, fun i u z hu hz => ⟨(h4 i u z hu hz).1.turn T (fun k hk => hF k ((h4 i u z hu hz).2 k hk)), (h4 i u z hu hz).2⟩⟩
theorem Lists.mono {w : World} {base base' : Nat} {v : Value} {zss : List (List Int)} (h : Lists w base v zss) (hb : base' ≤ base) : Lists w base' v zss := by
  obtain ⟨vs, h1, h2, h3, h4⟩ := h
  exact ⟨vs, h1, fun j hj => Nat.le_trans hb (h2 j hj), h3, fun i u z hu hz => ⟨(h4 i u z hu hz).1, fun j hj => Nat.le_trans hb ((h4 i u z hu hz).2 j hj)⟩⟩
theorem lists_none (w : World) (base : Nat) : Lists w base (.slice none 0 0) [] := ⟨[], ⟨rfl, .inl ⟨rfl, rfl⟩⟩, fun j hj => by simp [Value.ownBlock] at hj, rfl, fun i u z hu => by simp at hu⟩
theorem Lists.slice {w : World} {base : Nat} {v : Value} {zss : List (List Int)} (h : Lists w base v zss) : ∃ a c, v = .slice a zss.length c := by
  obtain ⟨vs, h1, h2, h3, h4⟩ := h
  rcases h1.2 with ⟨rfl, h0⟩ | ⟨g, off, cap, cur, rfl, _⟩
  · exact ⟨_, _, by rw [← h3, h0]⟩
  · exact ⟨_, _, by rw [h3]⟩
theorem OwnSl.form {w : World} {e : TypeId} {s : Nat} {v : Value} {n : Nat} {xs : List Value} (h : OwnSl w e s v n xs) : ∃ a c, v = .slice a n c := by
  rcases h.2 with ⟨rfl, rfl⟩ | ⟨g, off, cap, cur, rfl, _⟩
  · exact ⟨_, _, rfl⟩
  · exact ⟨_, _, rfl⟩
/-- the list at a place -/
theorem Lists.at {w : World} {base : Nat} {v : Value} {zss : List (List Int)} (h : Lists w base v zss) (i : Nat) (hi : i < zss.length) :
    ∃ g off cap u, v = .slice (some ⟨g, off, none⟩) zss.length cap ∧ w.cell? ⟨g, off + i, none⟩ = some u ∧ OwnSl w 5 1 u (zss[i]).length ((zss[i]).map (Value.int .u8)) ∧ ∀ j, u.ownBlock = some j → base ≤ j := by
  obtain ⟨vs, h1, h2, h3, h4⟩ := h
  have hu : vs[i]? = some (vs[i]'(by omega)) := by simp
  have := h4 i (vs[i]'(by omega)) (zss[i]) hu (by simp [hi])
  have h1' := h1
  rcases h1.2 with ⟨rfl, h0⟩ | ⟨g, off, cap, cur, rfl, _⟩
  · omega
  · exact ⟨g, off, cap, _, by rw [h3], h1'.cells i _ hu, this.1, this.2⟩

theorem info_sl : (Tryz.prog.info? 33).map (fun i => (i.zero, i.size, i.bytes)) = some (some (.slice none 0 0), 1, 24) := by kernel_rfl
/-- one list more behind -/
theorem Lists.push {w0 w1 : World} {base : Nat} {v x : Value} {zss : List (List Int)} {z : List Int} (T : Turn (fun _ => False) w0 w1) (hb : base = w0.heap.size) (h : Lists w1 base v zss) (hx : OwnSl w1 5 1 x z.length (z.map (Value.int .u8))) (hf : ∀ j, x.ownBlock = some j → base ≤ j) (hm : zss.length ≤ 1099511627776) :
    ∃ v' w2, (Builtin.append_ #[29, 29] 29 #[v, .slice (some ⟨w1.heap.size, 0, none⟩) 1 1]).run Tryz.prog (w1.alloc (.cells #[x] 33)) = .ok v' w2 ∧ Lists w2 base v' (zss ++ [z]) ∧ Turn (fun _ => False) w0 w2 := by
  subst hb
  obtain ⟨i0, hi, hz0, hz1, hz2⟩ := info_parts info_sl
  obtain ⟨vs, h1, h2, h3, h4⟩ := h
  have TA := (Turn.refl (fun _ => False) w1).alloc (.cells #[x] 33)
  have hs : Src 1 (w1.alloc (.cells #[x] 33)) (.slice (some ⟨w1.heap.size, 0, none⟩) 1 1) 1 [x] := ⟨rfl, .inr ⟨_, _, rfl, by omega, one_new w1 33 x⟩⟩
  obtain ⟨ax, cx, hxv⟩ := hx.form
  obtain ⟨v', w2, r1, r2, r3, r4⟩ := append_src (P := Tryz.prog) (ty := 29) Tryz.underlying29 hi hz0 hz1 hz2 rfl (by omega) (h1.turn TA (fun _ _ h => h)) hs (fun u hu => by simp at hu; subst hu; rw [hxv]; rfl) (by unfold maxLen; omega) (by omega)
  have keep : ∀ (u : Value) (y : List Int), OwnSl w1 5 1 u y.length (y.map (Value.int .u8)) → OwnSl w2 5 1 u y.length (y.map (Value.int .u8)) := fun u y hu => by
    have hA := hu.turn TA (fun _ _ h => h)
    refine hA.turn r3 (fun k hk he => ?_)
    obtain ⟨cur, hc⟩ := (h1.turn TA (fun _ _ h => h)).lt k he
    obtain ⟨cur', hc'⟩ := hA.lt k hk
    rw [hc] at hc'
    simp at hc'
  refine ⟨v', w2, r1, ⟨vs ++ [x], by simpa using r2, fun j hj => ?_, by simp [h3], fun i u y hu hy => ?_⟩, (T.then TA).trans r3 (fun j hj => .inr (h2 j hj))⟩
  · rcases r4 j hj with h | h
    · exact h2 j h
    · exact Nat.le_trans (T.then TA).size h
  · by_cases hlt : i < vs.length
    · rw [List.getElem?_append_left hlt] at hu
      rw [List.getElem?_append_left (by omega)] at hy
      have := h4 i u y hu hy
      exact ⟨keep u y this.1, this.2⟩
    · rw [List.getElem?_append_right (by omega)] at hu
      rw [List.getElem?_append_right (by omega)] at hy
      have hi0 : i - vs.length = 0 := by
        rcases Nat.eq_zero_or_pos (i - vs.length) with h | h
        · exact h
        · rw [List.getElem?_eq_none (by simp; omega)] at hu; cases hu
      rw [hi0] at hu
      rw [show i - zss.length = 0 by omega] at hy
      simp at hu hy
      subst hu hy
      exact ⟨keep _ _ hx, hf⟩

theorem from_u8 {w : World} {B : Nat → Prop} {x : Value} {zs : List Int} (h : Row .u8 B w x zs) (n : Nat) (hn : n ≤ zs.length) :
    ∃ x', (∀ u : World, (Instr.slice 33 x (some (.int .i64 (n : Int))) none none).run Tryz.prog u = .ok x' u) ∧ Row .u8 B w x' (zs.drop n) := by
  obtain ⟨i0, hi, hz0, hz1, hz2⟩ := info_parts info_u8
  exact cut_from Tryz.underlying33 hi hz1 h n hn

set_option maxHeartbeats 400000 in
theorem fault_walk (x : Int) (w : World) : Calls Tryz.prog 108 #[.int .i64 x] w fun e w' => e = .returned (.int .i64 (if x = 6 ∨ x = 9 then 0 else x)) ∧ w' = w := by
  by_cases h6 : x = 6
  · subst h6
    rw [if_pos (.inl rfl)]
    go_enter Tryz.func108, Tryz.ntmps108
    go_wp2
    go_ret
    exact ⟨rfl, rfl⟩
  by_cases h9 : x = 9
  · subst h9
    rw [if_pos (.inr rfl)]
    go_enter Tryz.func108, Tryz.ntmps108
    go_wp2
    go_ret
    exact ⟨rfl, rfl⟩
  rw [if_neg (by omega)]
  have n6 : (x == 6) = false := by simpa using h6
  have n9 : (x == 9) = false := by simpa using h9
  clear h6 h9
  go_enter Tryz.func108, Tryz.ntmps108
  go_wp2
  go_ret
  exact ⟨rfl, rfl⟩

theorem scan_stop {b : List Int} (h0 : (takeT b).2.2 ≠ 0) : scanT b = ([], 0, if (takeT b).2.2 = 6 ∨ (takeT b).2.2 = 9 then 0 else (takeT b).2.2) := by
  by_cases h : (takeT b).2.2 = 6 ∨ (takeT b).2.2 = 9
  · rw [if_pos h, scan_end h]
  · rw [if_neg h, scan_bad h0 (by omega) (by omega)]
/-- what is told so far, and what is left -/
def SoFar (zs : List Int) (D : List (List Int)) (n : Nat) : Prop := n ≤ zs.length ∧ 10 * D.length ≤ n ∧ scanT zs = (D ++ (scanT (zs.drop n)).1, n + (scanT (zs.drop n)).2.1, (scanT (zs.drop n)).2.2)
theorem soFar_none (zs : List Int) : SoFar zs [] 0 := ⟨by omega, by simp, by simp⟩
theorem SoFar.more {zs : List Int} {D : List (List Int)} {n : Nat} (h : SoFar zs D n) (h0 : (takeT (zs.drop n)).2.2 = 0) : SoFar zs (D ++ [(takeT (zs.drop n)).1]) (n + (takeT (zs.drop n)).2.1) ∧ 10 ≤ (takeT (zs.drop n)).2.1 := by
  obtain ⟨h1, h2, h3⟩ := h
  have ht : takeT (zs.drop n) = ((takeT (zs.drop n)).1, (takeT (zs.drop n)).2.1, 0) := by rw [← h0]
  have hb := take_bounds ht
  rw [List.length_drop] at hb
  refine ⟨⟨by omega, by simp; omega, ?_⟩, hb.1⟩
  rw [h3, scan_ok ht, List.drop_drop]
  simp [Nat.add_assoc]
theorem SoFar.stop {zs : List Int} {D : List (List Int)} {n : Nat} (h : SoFar zs D n) (h0 : (takeT (zs.drop n)).2.2 ≠ 0) : scanT zs = (D, n, if (takeT (zs.drop n)).2.2 = 6 ∨ (takeT (zs.drop n)).2.2 = 9 then 0 else (takeT (zs.drop n)).2.2) := by
  rw [h.2.2, scan_stop h0]; simp

set_option maxHeartbeats 2000000 in
theorem Scan_walk (B : Nat → Prop) (v : Value) (zs : List Int) (w : World) (hb : Bytes zs) (hz : zs.length ≤ 1099511627776) (hr : Row .u8 B w v zs) :
    Calls Tryz.prog 85 #[v] w fun e w' => ∃ x, e = .returned (.tuple #[x, .int .i64 (((scanT zs).2.1 : Nat) : Int), .int .i64 (scanT zs).2.2]) ∧ Lists w' w.heap.size x (scanT zs).1 ∧ Turn (fun _ => False) w w' := by
  obtain ⟨a, c, rfl⟩ := hr.slice
  have Hb := hide hb
  clear hb
  go_enter Tryz.func85, Tryz.ntmps85
  go_wp2_with fail
  go_loopw [5, 6] (fun s i wr => ∃ (n : Nat) (D : List (List Int)), i = .int .i64 (n : Int) ∧ Lists wr w.heap.size s D ∧ Turn (fun _ => False) w wr ∧ Hid (SoFar zs D n) ∧ n ≤ zs.length) (fun _ i _ => zs.length - (intOf i).toNat)
  case atStart => exact ⟨0, [], rfl, lists_none _ _, Turn.refl _ _, hide (soFar_none zs), Nat.zero_le _⟩
  case round =>
    obtain ⟨n, D, rfl, hL, hT, hS, hn⟩ := hrel
    obtain ⟨x', hx', hrow⟩ := from_u8 (hr.turn hT (fun _ _ h => h)) n hn
    obtain ⟨ad, cd, rfl⟩ := hL.slice
    go_wp2_with fail
    refine (Take_walk B x' (zs.drop n) _ ((unhide Hb).drop n) hrow).mono ?_
    rintro e w1 ⟨x, rfl, ho, hf, T1⟩
    have hL1 := hL.turn T1 (fun _ _ h => h)
    have hT1 := hT.then T1
    have hf1 : ∀ j, x.ownBlock = some j → w.heap.size ≤ j := fun j hj => Nat.le_trans hT.size (hf j hj)
    obtain ⟨ax, cx, rfl⟩ := ho.form
    by_cases h0 : (takeT (zs.drop n)).2.2 = 0
    · obtain ⟨hS2, h10⟩ := (unhide hS).more h0
      have hDl : D.length ≤ 1099511627776 := by have := (unhide hS).2.1; omega
      rw [h0]
      obtain ⟨v2, w2, hrun, hL2, hT2⟩ := Lists.push hT1 rfl hL1 ho hf1 hDl
      have hn2 := hS2.1
      have HS2 := hide hS2
      clear hS hS2 h0 ho hf hf1 hL hL1 hT hT1 T1 hx' hrow
      generalize (takeT (zs.drop n)).1 = Y at *
      generalize (takeT (zs.drop n)).2.1 = M at *
      go_wp2_with (at_builtin; refine list_append_run rfl _ _ 29 rfl _ _ _ _ rfl rfl hrun ?_)
      exact ⟨⟨n + M, D ++ [Y], by go_num, hL2, hT2, HS2, hn2⟩, by simp [intOf]; omega⟩
    · have hst := (unhide hS).stop h0
      have Hst := hide hst
      have hne : ((takeT (zs.drop n)).2.2 != 0) = true := by simpa using h0
      have hfw := fault_walk (takeT (zs.drop n)).2.2 w1
      clear hst h0 ho hf hf1 hL hS hx' hrow
      generalize (takeT (zs.drop n)).2.2 = E at *
      generalize (if E = 6 ∨ E = 9 then 0 else E) = E2 at *
      go_wp2_with fail
      refine hfw.mono ?_
      rintro e w2 ⟨rfl, rfl⟩
      go_wp2
      go_ret3
      rw [unhide Hst]
      exact ⟨_, rfl, hL1, hT1⟩
end Go.Proofs.YthikiahhochjmaaGreatDoor
