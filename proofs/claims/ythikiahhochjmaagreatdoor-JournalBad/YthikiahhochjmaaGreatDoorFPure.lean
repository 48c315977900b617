/- Plain facts of frames: what a frame is, what bytes are as a frame, and as frames one behind the other; what is torn. -/
import Derived.Test.YthikiahhochjmaaGreatDoorPack1
namespace Go.Proofs.YthikiahhochjmaaGreatDoor
set_option linter.unusedVariables false
set_option linter.unusedSimpArgs false

/-- a number in four bytes -/
def num4 (v : Nat) : List Int := [((v % 256 : Nat) : Int), ((v / 256 % 256 : Nat) : Int), ((v / 65536 % 256 : Nat) : Int), ((v / 16777216 % 256 : Nat) : Int)]
def of4 (l : List Int) : Nat := (l.getD 0 0).toNat + 256 * (l.getD 1 0).toNat + 65536 * (l.getD 2 0).toNat + 16777216 * (l.getD 3 0).toNat
/-- the sum of a length's bytes and of what is carried -/
def sum2 (n4 b : List Int) : Nat := sumAdd (sumAdd 0 (n4.map Int.toNat)) (b.map Int.toNat)
def packB (b : List Int) : List Int := 165 :: (num4 b.length ++ num4 (sum2 (num4 b.length) b) ++ b ++ [90])
def packC (b : List Int) : Int := if 1048576 < b.length then 4 else 0
def packD (b : List Int) : List Int := if 1048576 < b.length then [] else packB b
def takeT (b : List Int) : List Int × Nat × Int :=
  if b.length = 0 then ([], 0, 6) else if b.getD 0 0 ≠ 165 ∧ b.getD 0 0 ≠ 0 then ([], 0, 10) else if b.getD 0 0 = 0 ∨ b.length < 10 then ([], 0, 9) else
  if 1048576 < of4 (b.drop 1) then ([], 0, 10) else if b.length < 10 + of4 (b.drop 1) ∨ b.getD (9 + of4 (b.drop 1)) 0 = 0 then ([], 0, 9) else
  if b.getD (9 + of4 (b.drop 1)) 0 ≠ 90 then ([], 0, 10) else
  if of4 (b.drop 5) ≠ sum2 ((b.drop 1).take 4) ((b.drop 9).take (of4 (b.drop 1))) then ([], 0, 11) else ((b.drop 9).take (of4 (b.drop 1)), 10 + of4 (b.drop 1), 0)

theorem num4_len (v : Nat) : (num4 v).length = 4 := rfl
theorem num4_bytes (v : Nat) : Bytes (num4 v) := by
  intro x hx
  simp only [num4, List.mem_cons, List.not_mem_nil, or_false] at hx
  rcases hx with rfl | rfl | rfl | rfl <;> omega
theorem of4_num4 (v : Nat) (h : v < 4294967296) (r : List Int) : of4 (num4 v ++ r) = v := by
  simp [of4, num4]
  omega
theorem packB_len (b : List Int) : (packB b).length = b.length + 10 := by simp [packB, num4]
theorem sum2_lt (n4 b : List Int) : sum2 n4 b < 4294967296 := sumAdd_lt _ _
theorem packB_bytes {b : List Int} (h : Bytes b) : Bytes (packB b) := by
  intro x hx
  simp only [packB, List.mem_cons, List.mem_append, List.not_mem_nil, or_false] at hx
  rcases hx with rfl | ((hx | hx) | hx) | rfl
  · omega
  · exact num4_bytes _ x hx
  · exact num4_bytes _ x hx
  · exact h x hx
  · omega
theorem take_bounds {b x : List Int} {n : Nat} (h : takeT b = (x, n, 0)) : 10 ≤ n ∧ n ≤ b.length ∧ x = (b.drop 9).take (n - 10) ∧ n - 10 ≤ 1048576 := by
  unfold takeT at h
  repeat' split at h
  all_goals first
    | (simp at h; done)
    | (simp only [Prod.mk.injEq] at h
       obtain ⟨h1, h2, _⟩ := h
       subst h2
       refine ⟨by omega, by omega, by rw [← h1, Nat.add_sub_cancel_left], by omega⟩)
/-- what was packed is taken, with whatever is behind it -/
theorem take_pack (b : List Int) (more : List Int) (hl : b.length ≤ 1048576) : takeT (packB b ++ more) = (b, b.length + 10, 0) := by
  have e0 : packB b ++ more = 165 :: (num4 b.length ++ (num4 (sum2 (num4 b.length) b) ++ (b ++ 90 :: more))) := by simp [packB]
  rw [e0]
  have d1 : (165 :: (num4 b.length ++ (num4 (sum2 (num4 b.length) b) ++ (b ++ 90 :: more)))).drop 1 = num4 b.length ++ (num4 (sum2 (num4 b.length) b) ++ (b ++ 90 :: more)) := rfl
  have d5 : (165 :: (num4 b.length ++ (num4 (sum2 (num4 b.length) b) ++ (b ++ 90 :: more)))).drop 5 = num4 (sum2 (num4 b.length) b) ++ (b ++ 90 :: more) := rfl
  have d9 : (165 :: (num4 b.length ++ (num4 (sum2 (num4 b.length) b) ++ (b ++ 90 :: more)))).drop 9 = b ++ 90 :: more := rfl
  have o1 : of4 (num4 b.length ++ (num4 (sum2 (num4 b.length) b) ++ (b ++ 90 :: more))) = b.length := of4_num4 _ (by omega) _
  have o5 : of4 (num4 (sum2 (num4 b.length) b) ++ (b ++ 90 :: more)) = sum2 (num4 b.length) b := of4_num4 _ (sum2_lt _ _) _
  have t1 : (num4 b.length ++ (num4 (sum2 (num4 b.length) b) ++ (b ++ 90 :: more))).take 4 = num4 b.length := List.take_left' (num4_len _)
  have hlen : (165 :: (num4 b.length ++ (num4 (sum2 (num4 b.length) b) ++ (b ++ 90 :: more)))).length = b.length + 10 + more.length := by simp [num4]; omega
  have g9 : (165 :: (num4 b.length ++ (num4 (sum2 (num4 b.length) b) ++ (b ++ 90 :: more)))).getD (9 + b.length) 0 = 90 := by
    have : (165 :: (num4 b.length ++ (num4 (sum2 (num4 b.length) b) ++ (b ++ 90 :: more)))).getD (9 + b.length) 0 = (b ++ 90 :: more).getD b.length 0 := by
      conv => rhs; rw [← d9]
      simp only [List.getD_eq_getElem?_getD, List.getElem?_drop]
    rw [this, List.getD_eq_getElem?_getD, List.getElem?_append_right (Nat.le_refl _)]; simp
  have g0 : (165 :: (num4 b.length ++ (num4 (sum2 (num4 b.length) b) ++ (b ++ 90 :: more)))).getD 0 0 = 165 := rfl
  generalize 165 :: (num4 b.length ++ (num4 (sum2 (num4 b.length) b) ++ (b ++ 90 :: more))) = L at *
  unfold takeT
  rw [hlen, g0, d1, o1, g9, d5, o5, t1, d9]
  rw [List.take_left' rfl]
  rw [if_neg (by omega), if_neg (by simp), if_neg (by omega), if_neg (by omega), if_neg (by omega), if_neg (by simp), if_neg (by simp)]
  rw [Nat.add_comm]

/-- frames, one behind the other: so many at most -/
def scanF : Nat → List Int → List (List Int) × Nat × Int
  | 0, _ => ([], 0, 0)
  | f + 1, b => if (takeT b).2.2 = 0 then ((takeT b).1 :: (scanF f (b.drop (takeT b).2.1)).1, (takeT b).2.1 + (scanF f (b.drop (takeT b).2.1)).2.1, (scanF f (b.drop (takeT b).2.1)).2.2)
    else if (takeT b).2.2 = 6 ∨ (takeT b).2.2 = 9 then ([], 0, 0) else ([], 0, (takeT b).2.2)
theorem scanF_more : ∀ (f g : Nat) (b : List Int), b.length < f → b.length < g → scanF f b = scanF g b
  | 0, _, _, h, _ => by omega
  | _ + 1, 0, _, _, h => by omega
  | f + 1, g + 1, b, h, k => by
    unfold scanF
    split
    · rename_i h0
      have hb := take_bounds (b := b) (x := (takeT b).1) (n := (takeT b).2.1) (by rw [← h0])
      rw [scanF_more f g (b.drop (takeT b).2.1) (by rw [List.length_drop]; omega) (by rw [List.length_drop]; omega)]
    · rfl
def scanT (b : List Int) : List (List Int) × Nat × Int := scanF (b.length + 1) b
theorem scan_ok {b x : List Int} {n : Nat} (h : takeT b = (x, n, 0)) : scanT b = (x :: (scanT (b.drop n)).1, n + (scanT (b.drop n)).2.1, (scanT (b.drop n)).2.2) := by
  have hb := take_bounds h
  have e : scanT b = (x :: (scanF b.length (b.drop n)).1, n + (scanF b.length (b.drop n)).2.1, (scanF b.length (b.drop n)).2.2) := by
    unfold scanT; rw [scanF, if_pos (by rw [h])]; rw [h]
  rw [e, scanF_more b.length ((b.drop n).length + 1) (b.drop n) (by rw [List.length_drop]; omega) (by omega)]; rfl
theorem scan_end {b : List Int} (h : (takeT b).2.2 = 6 ∨ (takeT b).2.2 = 9) : scanT b = ([], 0, 0) := by
  unfold scanT; rw [scanF, if_neg (by omega), if_pos h]
theorem scan_bad {b : List Int} (h0 : (takeT b).2.2 ≠ 0) (h6 : (takeT b).2.2 ≠ 6) (h9 : (takeT b).2.2 ≠ 9) : scanT b = ([], 0, (takeT b).2.2) := by
  unfold scanT; rw [scanF, if_neg h0, if_neg (by omega)]
theorem scan_bounds : ∀ (n : Nat) (b : List Int), b.length ≤ n → (scanT b).2.1 ≤ b.length ∧ 10 * (scanT b).1.length ≤ b.length
  | 0, b, h => by
    have : b = [] := List.eq_nil_of_length_eq_zero (by omega)
    subst this
    rw [scan_end (by left; rfl)]; simp
  | n + 1, b, h => by
    by_cases h0 : (takeT b).2.2 = 0
    · obtain ⟨x, m, e, ht⟩ : ∃ x m e, takeT b = (x, m, e) := ⟨_, _, _, rfl⟩
      rw [ht] at h0
      simp only at h0
      subst h0
      have hb := take_bounds ht
      have ih := scan_bounds n (b.drop m) (by rw [List.length_drop]; omega)
      rw [scan_ok ht]
      rw [List.length_drop] at ih
      simp only [List.length_cons]
      omega
    · by_cases h6 : (takeT b).2.2 = 6 ∨ (takeT b).2.2 = 9
      · rw [scan_end h6]; simp
      · rw [scan_bad h0 (by omega) (by omega)]; simp
def frames (l : List (List Int)) : List Int := l.flatMap packB
theorem frames_cons (b : List Int) (l : List (List Int)) : frames (b :: l) = packB b ++ frames l := by simp [frames]
theorem frames_append (a b : List (List Int)) : frames (a ++ b) = frames a ++ frames b := by simp [frames]
/-- whole frames ahead are all told -/
theorem scan_frames : ∀ (l : List (List Int)) (t : List Int), (∀ b ∈ l, b.length ≤ 1048576) → scanT (frames l ++ t) = (l ++ (scanT t).1, (frames l).length + (scanT t).2.1, (scanT t).2.2)
  | [], t, _ => by simp [frames]
  | b :: l, t, h => by
    have ht := take_pack b (frames l ++ t) (h b (by simp))
    rw [frames_cons, List.append_assoc, scan_ok ht]
    have hd : (packB b ++ (frames l ++ t)).drop (b.length + 10) = frames l ++ t := List.drop_left' (packB_len b)
    rw [hd, scan_frames l t (fun x hx => h x (by simp [hx]))]
    simp only [List.cons_append, List.length_append, packB_len, Nat.add_assoc]

theorem getD_zero (p : List Int) (k j : Nat) (h : p.length ≤ j) : (p ++ List.replicate k 0).getD j 0 = 0 := by
  rw [List.getD_eq_getElem?_getD, List.getElem?_append_right h, List.getElem?_replicate]
  split <;> rfl
/-- of a frame a beginning, and noughts behind: it is too short, or nothing -/
theorem take_torn (b : List Int) (m k : Nat) (hb : b.length ≤ 1048576) (hm : m < (packB b).length) : (takeT ((packB b).take m ++ List.replicate k 0)).2.2 = 6 ∨ (takeT ((packB b).take m ++ List.replicate k 0)).2.2 = 9 := by
  have hpl := packB_len b
  obtain ⟨t, ht⟩ : ∃ t, t = (packB b).take m ++ List.replicate k 0 := ⟨_, rfl⟩
  rw [← ht]
  have hlt : ((packB b).take m).length = m := by rw [List.length_take]; omega
  have hg : ∀ j, j < m → t.getD j 0 = (packB b).getD j 0 := fun j hj => by
    rw [ht, List.getD_eq_getElem?_getD, List.getElem?_append_left (by omega), List.getElem?_take, if_pos hj, List.getD_eq_getElem?_getD]
  have hz : ∀ j, m ≤ j → t.getD j 0 = 0 := fun j hj => by rw [ht]; exact getD_zero _ _ _ (by omega)
  have hle : ∀ j, (t.getD j 0 = (packB b).getD j 0 ∨ t.getD j 0 = 0) := fun j => by
    by_cases hj : j < m
    · exact .inl (hg j hj)
    · exact .inr (hz j (by omega))
  have hd : ∀ j i : Nat, (t.drop j).getD i 0 = t.getD (j + i) 0 := fun j i => by simp only [List.getD_eq_getElem?_getD, List.getElem?_drop]
  have hp1 : (packB b).getD 1 0 = ((b.length % 256 : Nat) : Int) := rfl
  have hp2 : (packB b).getD 2 0 = ((b.length / 256 % 256 : Nat) : Int) := rfl
  have hp3 : (packB b).getD 3 0 = ((b.length / 65536 % 256 : Nat) : Int) := rfl
  have hp4 : (packB b).getD 4 0 = ((b.length / 16777216 % 256 : Nat) : Int) := rfl
  have ho : of4 (t.drop 1) = (t.getD 1 0).toNat + 256 * (t.getD 2 0).toNat + 65536 * (t.getD 3 0).toNat + 16777216 * (t.getD 4 0).toNat := by
    unfold of4; rw [hd, hd, hd, hd]
  have hon : of4 (t.drop 1) ≤ b.length := by
    rw [ho]
    have a1 := hle 1
    have a2 := hle 2
    have a3 := hle 3
    have a4 := hle 4
    rw [hp1] at a1
    rw [hp2] at a2
    rw [hp3] at a3
    rw [hp4] at a4
    have := Nat.div_add_mod b.length 256
    omega
  have hof : 5 ≤ m → of4 (t.drop 1) = b.length := fun h5 => by
    rw [ho, hg 1 (by omega), hg 2 (by omega), hg 3 (by omega), hg 4 (by omega), hp1, hp2, hp3, hp4]
    omega
  unfold takeT
  by_cases h0 : t.length = 0
  · rw [if_pos h0]; exact .inl rfl
  rw [if_neg h0]
  have hfirst : t.getD 0 0 = 165 ∨ t.getD 0 0 = 0 := by
    rcases hle 0 with h | h
    · exact .inl (by rw [h]; rfl)
    · exact .inr h
  rw [if_neg (by omega)]
  by_cases h1 : t.getD 0 0 = 0 ∨ t.length < 10
  · rw [if_pos h1]; exact .inr rfl
  rw [if_neg h1, if_neg (by omega)]
  rw [if_pos]
  · exact .inr rfl
  · by_cases h2 : t.length < 10 + of4 (t.drop 1)
    · exact .inl h2
    · right
      by_cases h3 : 9 + of4 (t.drop 1) < m
      · have := hof (by omega)
        omega
      · exact hz _ (by omega)
theorem scan_torn (l : List (List Int)) (b : List Int) (m k : Nat) (hl : ∀ b ∈ l, b.length ≤ 1048576) (hb : b.length ≤ 1048576) (hm : m < (packB b).length) : scanT (frames l ++ ((packB b).take m ++ List.replicate k 0)) = (l, (frames l).length, 0) := by
  rw [scan_frames l _ hl, scan_end (take_torn b m k hb hm)]; simp

/-! ### Bits that are turned -/
def nats (zs : List Int) : List Nat := zs.map Int.toNat
theorem nats_lt {zs : List Int} (h : Bytes zs) : ∀ x ∈ nats zs, x < 256 := by
  intro x hx
  obtain ⟨z, hz, rfl⟩ := List.mem_map.1 hx
  have := h z hz
  omega
theorem num_append (u v : List Nat) : num (u ++ v) = num u ^^^ 2 ^ (8 * u.length) * num v := by
  induction u with
  | nil => simp [num]
  | cons x r ih =>
    show x ^^^ 256 * num (r ++ v) = (x ^^^ 256 * num r) ^^^ 2 ^ (8 * (r.length + 1)) * num v
    rw [ih, show (256 : Nat) = 2 ^ 8 by decide, mul_xor, ← Nat.mul_assoc, ← Nat.pow_add, show 8 + 8 * r.length = 8 * (r.length + 1) by omega, Nat.xor_assoc]
/-- what any bytes between the marks are, by the sum that they say -/
theorem take_form (n4 s4 b more : List Int) (hn : n4 = num4 b.length) (hs : s4.length = 4) (hl : b.length ≤ 1048576) :
    takeT (165 :: (n4 ++ (s4 ++ (b ++ 90 :: more)))) = if of4 s4 = sum2 n4 b then (b, b.length + 10, 0) else ([], 0, 11) := by
  have hn4 : n4.length = 4 := by rw [hn]; rfl
  obtain ⟨a0, a1, a2, a3, rfl⟩ : ∃ a0 a1 a2 a3, n4 = [a0, a1, a2, a3] := by match n4, hn4 with | [a0, a1, a2, a3], _ => exact ⟨a0, a1, a2, a3, rfl⟩
  obtain ⟨c0, c1, c2, c3, rfl⟩ : ∃ c0 c1 c2 c3, s4 = [c0, c1, c2, c3] := by match s4, hs with | [c0, c1, c2, c3], _ => exact ⟨c0, c1, c2, c3, rfl⟩
  have o1 : of4 ([a0, a1, a2, a3] ++ ([c0, c1, c2, c3] ++ (b ++ 90 :: more))) = b.length := by rw [hn]; exact of4_num4 _ (by omega) _
  have o5 : of4 ([c0, c1, c2, c3] ++ (b ++ 90 :: more)) = of4 [c0, c1, c2, c3] := rfl
  have d1 : (165 :: ([a0, a1, a2, a3] ++ ([c0, c1, c2, c3] ++ (b ++ 90 :: more)))).drop 1 = [a0, a1, a2, a3] ++ ([c0, c1, c2, c3] ++ (b ++ 90 :: more)) := rfl
  have d5 : (165 :: ([a0, a1, a2, a3] ++ ([c0, c1, c2, c3] ++ (b ++ 90 :: more)))).drop 5 = [c0, c1, c2, c3] ++ (b ++ 90 :: more) := rfl
  have d9 : (165 :: ([a0, a1, a2, a3] ++ ([c0, c1, c2, c3] ++ (b ++ 90 :: more)))).drop 9 = b ++ 90 :: more := rfl
  have t1 : ([a0, a1, a2, a3] ++ ([c0, c1, c2, c3] ++ (b ++ 90 :: more))).take 4 = [a0, a1, a2, a3] := rfl
  have hlen : (165 :: ([a0, a1, a2, a3] ++ ([c0, c1, c2, c3] ++ (b ++ 90 :: more)))).length = b.length + 10 + more.length := by simp; omega
  have g9 : (165 :: ([a0, a1, a2, a3] ++ ([c0, c1, c2, c3] ++ (b ++ 90 :: more)))).getD (9 + b.length) 0 = 90 := by
    have : (165 :: ([a0, a1, a2, a3] ++ ([c0, c1, c2, c3] ++ (b ++ 90 :: more)))).getD (9 + b.length) 0 = (b ++ 90 :: more).getD b.length 0 := by
      conv => rhs; rw [← d9]
      simp only [List.getD_eq_getElem?_getD, List.getElem?_drop]
    rw [this, List.getD_eq_getElem?_getD, List.getElem?_append_right (Nat.le_refl _)]; simp
  have g0 : (165 :: ([a0, a1, a2, a3] ++ ([c0, c1, c2, c3] ++ (b ++ 90 :: more)))).getD 0 0 = 165 := rfl
  generalize 165 :: ([a0, a1, a2, a3] ++ ([c0, c1, c2, c3] ++ (b ++ 90 :: more))) = L at *
  unfold takeT
  rw [hlen, g0, d1, o1, g9, d5, o5, t1, d9]
  rw [List.take_left' rfl]
  rw [if_neg (by omega), if_neg (by simp), if_neg (by omega), if_neg (by omega), if_neg (by omega), if_neg (by simp)]
  by_cases h : of4 [c0, c1, c2, c3] = sum2 [a0, a1, a2, a3] b
  · rw [if_neg (by simpa using h), if_pos h, Nat.add_comm]
  · rw [if_pos h, if_neg h]
/-- some neighbouring bits of what is carried are turned: the sum is another one -/
theorem sum2_turned (n4 b b' : List Int) (hn : Bytes n4) (hb : Bytes b) (hb' : Bytes b') (hl : b'.length = b.length) (k p : Nat) (hk : k ≤ 8 * b.length) (hp : p < 4294967296) (h : num (nats b') = num (nats b) ^^^ 2 ^ k * p) : sum2 n4 b' = sum2 n4 b ↔ p = 0 := by
  unfold sum2
  show sumAdd (sumAdd 0 (nats n4)) (nats b') = sumAdd (sumAdd 0 (nats n4)) (nats b) ↔ p = 0
  rw [← sumAdd_append 0 (nats n4) (nats b') (nats_lt hn), ← sumAdd_append 0 (nats n4) (nats b) (nats_lt hn)]
  have hlt : ∀ {z : List Int}, Bytes z → ∀ x ∈ nats n4 ++ nats z, x < 256 := fun hz x hx => by
    rcases List.mem_append.1 hx with hx | hx
    · exact nats_lt hn x hx
    · exact nats_lt hz x hx
  refine sum_burst _ _ (by simp [nats, hl]) (hlt hb) (hlt hb') (8 * (nats n4).length + k) p (by simp [nats]; omega) hp ?_
  rw [num_append, num_append, h, mul_xor, ← Nat.mul_assoc, ← Nat.pow_add, Nat.xor_assoc]
theorem of4_num (s4 : List Int) (h : s4.length = 4) (hb : Bytes s4) : of4 s4 = num (nats s4) := by
  obtain ⟨c0, c1, c2, c3, rfl⟩ : ∃ c0 c1 c2 c3, s4 = [c0, c1, c2, c3] := by match s4, h with | [c0, c1, c2, c3], _ => exact ⟨c0, c1, c2, c3, rfl⟩
  have h0 := hb c0 (by simp)
  have h1 := hb c1 (by simp)
  have h2 := hb c2 (by simp)
  have h3 := hb c3 (by simp)
  have key : ∀ (x y : Nat), x < 256 → x ^^^ 256 * y = x + 256 * y := fun x y hx => by
    have h1 : x ^^^ 256 * y = 256 * y ^^^ x := Nat.xor_comm _ _
    have h2 : 2 ^ 8 * y + x = 2 ^ 8 * y ^^^ x := by
      rw [Nat.two_pow_add_eq_or_of_lt (by omega : x < 2 ^ 8)]
      apply Nat.eq_of_testBit_eq
      intro i
      rw [Nat.testBit_or, Nat.testBit_xor, Nat.testBit_two_pow_mul]
      by_cases hi : 8 ≤ i
      · have : x.testBit i = false := Nat.testBit_lt_two_pow (Nat.lt_of_lt_of_le hx (by rw [show (256 : Nat) = 2 ^ 8 by decide]; exact Nat.pow_le_pow_right (by omega) hi))
        simp [this]
      · simp [hi]
    rw [h1, show (256 : Nat) = 2 ^ 8 by decide, ← h2]; omega
  simp only [of4, nats, List.map_cons, List.map_nil, num, List.getD_cons_zero, List.getD_cons_succ, Nat.mul_zero, Nat.xor_zero]
  rw [key c2.toNat _ (by omega), key c1.toNat _ (by omega), key c0.toNat _ (by omega)]
  omega
end Go.Proofs.YthikiahhochjmaaGreatDoor
