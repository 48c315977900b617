/- awake. What the program's sums are. A frame made: a number in four bytes, the sum of a length and of what is carried, Pack; the program is awake. What bytes are as a frame: Take. Frames, one behind the other: Scan. A journal in memory: its segments, their records; beside its disk. -/
import Derived.Test.YthikiahhochjmaaGreatDoorPack4
import Derived.Lib.SlBytesConst
import Derived.Laws.BytesArg
namespace Go.Proofs.YthikiahhochjmaaGreatDoor
open Go.RowKit Go.Maps
set_option linter.unusedVariables false

theorem row_marked (w : World) (zs : List Int) (e : TypeId) (fr : Nat × Nat) (hm : zs.length ≤ maxLen) : Row .u8 any (w.alloc (.cells ((zs.map (Value.int .u8)).toArray) e fr)) (.slice (some ⟨w.heap.size, 0, none⟩) zs.length zs.length) zs := by
  refine .inr ⟨w.heap.size, 0, zs.length, rfl, Nat.le_refl _, hm, trivial, fun i hi => ?_⟩
  rw [World.cell?_alloc_mark, Nat.zero_add]
  simp [hi]

theorem wf_i64 {a : Int} (h : (Lit.int .i64 a).wf = true) : -9223372036854775808 ≤ a ∧ a ≤ 9223372036854775807 := by
  simp [Lit.wf, IntKind.min, IntKind.max, IntKind.signed, IntKind.bits] at h
  omega
theorem DAt.base {w w' : World} {B b : Nat} {S : Dk} (h : DAt w' B (NF w (fun j => b ≤ j)) S) (hb : b ≤ w.heap.size) : DAt w' B (fun j => b ≤ j) S :=
  h.mono (fun j hj _ => by rcases hj with hj | hj; exact hj; exact Nat.le_trans hb hj)
theorem Turn.fresh {w w' : World} {b : Nat} (h : Turn (fun j => b ≤ j) w w') (hb : w.heap.size ≤ b) : Turn (fun _ => False) w w' :=
  ⟨h.os, h.tape, h.output, h.size, fun k hk _ => h.block k hk (by omega)⟩

def nA : ByteArray := ⟨#[97]⟩
theorem nA_len : (⟨#[97]⟩ : ByteArray).size ≤ maxLen := by decide

end Go.Proofs.YthikiahhochjmaaGreatDoor


namespace Go.Proofs.YthikiahhochjmaaGreatDoor
open Go.RowKit
set_option linter.unusedVariables false

theorem and_one (s : Nat) (h : s < 4294967296) : bits .and .u32 (s : Int) 1 = ((s % 2 : Nat) : Int) := by
  rw [show (1 : Int) = ((1 : Nat) : Int) from rfl, u32_and_nat _ _ h (by omega), Nat.and_one_is_mod]
theorem and_all (o : Nat) (h : o < 2) : bits .and .u32 3988292384 (-(o : Int) % 4294967296) = ((o * 3988292384 : Nat) : Int) := by
  match o, h with
  | 0, _ => decide +kernel
  | 1, _ => decide +kernel
theorem step_bits (r : Nat) (h : r < 4294967296) : bits .xor .u32 ((r : Int) / 2) (bits .and .u32 3988292384 (-((r : Int) % 2) % 4294967296)) = ((st r : Nat) : Int) := by
  have e1 : (r : Int) % 2 = ((r % 2 : Nat) : Int) := by omega
  have e2 : (r : Int) / 2 = ((r / 2 : Nat) : Int) := by omega
  rw [e1, e2, and_all _ (by omega), u32_xor_nat _ _ (by omega) (by omega)]
  rfl

set_option maxHeartbeats 1000000 in
theorem shift_walk (s : Nat) (w : World) (h : s < 4294967296) :
    Calls Tryz.prog 86 #[.int .u32 (s : Int)] w fun e w' => e = .returned (.int .u32 ((it 8 s : Nat) : Int)) ∧ w' = w := by
  go_enter Tryz.func86, Tryz.ntmps86
  go_wp2_with fail
  go_loop [0, 4] (fun a i => ∃ k r : Nat, k ≤ 8 ∧ r < 4294967296 ∧ a = .int .u32 (r : Int) ∧ i = .int .i64 (k : Int) ∧ Hid (it 8 s = it (8 - k) r)) (fun _ i => 8 - (intOf i).toNat)
  case atStart => exact ⟨0, s, by omega, h, rfl, rfl, hide rfl⟩
  case round =>
    obtain ⟨k, r, hk, hr, rfl, rfl, hq⟩ := hrel
    by_cases hlt : k < 8
    · have h1 := and_one r hr
      have h2 := step_bits r hr
      have hq2 : Hid (it 8 s = it (8 - (k + 1)) (st r)) := by
        refine hide ?_
        rw [unhide hq, show 8 - k = 8 - (k + 1) + 1 by omega]; rfl
      have hst := st_lt hr
      go_wp2
      exact ⟨⟨k + 1, st r, by omega, hst, rfl, by go_num, hq2⟩, by simp [intOf]; omega⟩
    · have hk8 : k = 8 := by omega
      subst hk8
      go_wp2
      go_ret
      refine ⟨ret_int ?_, rfl⟩
      rw [unhide hq]; rfl

/-- bytes as plain numbers -/
def nat (zs : List Int) : List Nat := zs.map Int.toNat
theorem nat_byte {zs : List Int} (h : Bytes zs) : ∀ x ∈ nat zs, x < 256 := by
  intro x hx
  obtain ⟨z, hz, rfl⟩ := List.mem_map.1 hx
  have := h z hz
  omega

theorem turn_bits (s : Nat) (h : s < 4294967296) : bits .xor .u32 IntKind.u32.max (s : Int) = ((tn s : Nat) : Int) := by
  rw [show IntKind.u32.max = ((4294967295 : Nat) : Int) from rfl, u32_xor_nat _ _ (by omega) h, tn_xor h, Nat.xor_comm]
theorem mix_bits (s : Nat) (x : Int) (h : s < 4294967296) (h0 : 0 ≤ x) (h1 : x < 256) : bits .xor .u32 (s : Int) x = ((s ^^^ x.toNat : Nat) : Int) := by
  obtain ⟨n, rfl⟩ := Int.eq_ofNat_of_zero_le h0
  rw [u32_xor_nat _ _ h (by omega)]; rfl
theorem nat_drop (zs : List Int) (k : Nat) (h : k < zs.length) : nat (zs.drop k) = (zs.getD k 0).toNat :: nat (zs.drop (k + 1)) := by
  rw [drop_cons zs k h]; rfl

set_option maxHeartbeats 1000000 in
theorem add_some (b off c : Nat) (zs : List Int) (s : Nat) (w : World) (hs : s < 4294967296) (hb : Bytes zs) (hm : zs.length ≤ maxLen) (hc : Cells .u8 w b off zs) :
    Calls Tryz.prog 73 #[.int .u32 (s : Int), .slice (some ⟨b, off, none⟩) zs.length c] w fun e w' => e = .returned (.int .u32 ((sumAdd s (nat zs) : Nat) : Int)) ∧ w' = w := by
  unfold maxLen at hm
  have ht := turn_bits s hs
  go_enter Tryz.func73, Tryz.ntmps73
  go_wp2_with (fail)
  go_loop [5, 12] (fun a i => ∃ k r : Nat, k ≤ zs.length ∧ r < 4294967296 ∧ a = .int .u32 (r : Int) ∧ i = .int .i64 (k : Int) ∧ Hid (run (tn s) (nat zs) = run r (nat (zs.drop k)))) (fun _ i => zs.length - (intOf i).toNat)
  case atStart => exact ⟨0, tn s, by omega, tn_lt s, rfl, rfl, hide rfl⟩
  case round =>
    obtain ⟨k, r, hk, hr, rfl, rfl, hq⟩ := hrel
    by_cases hlt : k < zs.length
    · have hx := getD_byte hb hlt
      have hcell := hc k hlt
      have hq1 : Hid (run (tn s) (nat zs) = run (it 8 (r ^^^ (zs.getD k 0).toNat)) (nat (zs.drop (k + 1)))) := by
        refine hide ?_
        rw [unhide hq, nat_drop zs k hlt]; rfl
      generalize zs.getD k 0 = x at *
      have h1 := mix_bits r x hr hx.1 hx.2
      have hlt2 : r ^^^ x.toNat < 4294967296 := xor_lt hr (by omega)
      generalize r ^^^ x.toNat = r2 at *
      have hit := it_lt 8 hlt2
      go_wp2_with (fail)
      refine (shift_walk r2 _ hlt2).mono ?_
      rintro e w1 ⟨rfl, rfl⟩
      go_wp2
      exact ⟨⟨k + 1, it 8 r2, by omega, hit, rfl, by go_num, hq1⟩, by simp [intOf]; omega⟩
    · have hk8 : k = zs.length := by omega
      subst hk8
      have h1 := turn_bits r hr
      go_wp2
      go_ret
      refine ⟨ret_int ?_, rfl⟩
      unfold sumAdd
      rw [unhide hq]; simp [nat, run]

set_option maxHeartbeats 400000 in
theorem add_none (a : Option Addr) (c : Nat) (s : Nat) (w : World) (hs : s < 4294967296) :
    Calls Tryz.prog 73 #[.int .u32 (s : Int), .slice a 0 c] w fun e w' => e = .returned (.int .u32 ((sumAdd s (nat []) : Nat) : Int)) ∧ w' = w := by
  have ht := turn_bits s hs
  have ht2 := turn_bits (tn s) (tn_lt s)
  go_enter Tryz.func73, Tryz.ntmps73
  go_wp2_with (fail)
  refine wp_loop_rounds 1 ?_; rw [rounds_succ]
  go_wp2
  go_ret
  exact ⟨rfl, rfl⟩
theorem add_walk (B : Nat → Prop) (v : Value) (zs : List Int) (s : Nat) (w : World) (hs : s < 4294967296) (hb : Bytes zs) (hr : Row .u8 B w v zs) :
    Calls Tryz.prog 73 #[.int .u32 (s : Int), v] w fun e w' => e = .returned (.int .u32 ((sumAdd s (nat zs) : Nat) : Int)) ∧ w' = w := by
  rcases hr with ⟨a, c, rfl, _, _, rfl⟩ | ⟨b, off, c, rfl, h1, h2, _, h4⟩
  · exact add_none a c s w hs
  · exact add_some b off c zs s w hs hb (by omega) h4
set_option maxHeartbeats 400000 in
theorem sum_walk (B : Nat → Prop) (v : Value) (zs : List Int) (w : World) (hb : Bytes zs) (hr : Row .u8 B w v zs) :
    Calls Tryz.prog 74 #[v] w fun e w' => e = .returned (.int .u32 ((sumAdd 0 (nat zs) : Nat) : Int)) ∧ w' = w := by
  go_enter Tryz.func74, Tryz.ntmps74
  go_wp2_with (fail)
  refine (add_walk B v zs 0 _ (by omega) hb hr).mono ?_
  rintro e w1 ⟨rfl, rfl⟩
  go_wp2
  go_ret
  exact ⟨rfl, rfl⟩

end Go.Proofs.YthikiahhochjmaaGreatDoor


namespace Go.Proofs.YthikiahhochjmaaGreatDoor
open Go.RowKit Go.Maps
set_option linter.unusedVariables false
set_option linter.unusedSimpArgs false

theorem num4_at (v j : Nat) (h : j < 4) : (num4 v)[j]? = some (((v / 2 ^ (8 * j) % 256 : Nat) : Int)) := by
  match j, h with
  | 0, _ => simp [num4]
  | 1, _ => simp [num4]
  | 2, _ => simp [num4]
  | 3, _ => simp [num4]
theorem cast_byte (v k : Nat) : (v : Int) / 2 ^ k % 256 = ((v / 2 ^ k % 256 : Nat) : Int) := by
  have e : (v : Int) / 2 ^ k = ((v / 2 ^ k : Nat) : Int) := by push_cast; rfl
  rw [e]; omega
theorem num4_of (v : Nat) (ys : List Value) (hl : ys.length = 4) (h : ∀ j, j < 4 → ys[j]? = some (.int .u8 ((v / 2 ^ (8 * j) % 256 : Nat) : Int))) : ys = (num4 v).map (Value.int .u8) := by
  apply List.ext_getElem?
  intro j
  by_cases hj : j < 4
  · rw [h j hj, List.getElem?_map, num4_at v j hj]; rfl
  · rw [List.getElem?_eq_none (by omega), List.getElem?_eq_none (by simp [num4]; omega)]

theorem make_bytes (M : Nat) (hM : M ≤ 1048600) (u : World) : (Instr.makeSlice 33 (.int .i64 (M : Int)) (.int .i64 (M : Int))).run Tryz.prog u = .ok (.slice (some ⟨u.heap.size, 0, none⟩) M M) (u.alloc (.cells (List.replicate M (Value.int .u8 0)).toArray 5)) := by
  obtain ⟨i0, hi, hz0, hz1, hz2⟩ := info_parts info_u8
  have := run_make (P := Tryz.prog) u 33 5 i0 _ Tryz.underlying33 hi hz0 .i64 .i64 (M : Int) (M : Int) (by omega) (by omega) (by rw [hz2]; omega) (by omega)
  rw [hz1] at this
  rw [show (Value.int .u8 0).cells = #[Value.int .u8 0] from rfl] at this
  rw [← toList_madeCells_one]
  simpa using this
set_option maxHeartbeats 1000000 in
theorem word_walk (v : Nat) (w : World) (hv : v < 4294967296) :
    Calls Tryz.prog 57 #[.int .u32 (v : Int)] w fun e w' => ∃ x, e = .returned x ∧ OwnSl w' 5 1 x (num4 v).length ((num4 v).map (Value.int .u8)) ∧ (∀ j, x.ownBlock = some j → w.heap.size ≤ j) ∧ Turn (fun _ => False) w w' := by
  have hmk : ∀ u : World, (Instr.makeSlice 33 (.int .i64 4) (.int .i64 4)).run Tryz.prog u = .ok (.slice (some ⟨u.heap.size, 0, none⟩) 4 4) (u.alloc (.cells (List.replicate 4 (Value.int .u8 0)).toArray 5)) := fun u => make_bytes 4 (by omega) u
  have tA : Turn (fun _ => False) w (w.alloc (.cells (List.replicate 4 (Value.int .u8 0)).toArray 5)) := (Turn.refl _ w).alloc _
  have hO : OwnSl (w.alloc (.cells (List.replicate 4 (Value.int .u8 0)).toArray 5)) 5 1 (.slice (some ⟨w.heap.size, 0, none⟩) 4 4) 4 (List.replicate 4 (Value.int .u8 0)) :=
    ⟨by simp, .inr ⟨w.heap.size, 0, 4, _, rfl, heap_alloc_new w _, by omega, by unfold maxLen; omega, by simp, by simp⟩⟩
  generalize (List.replicate 4 (Value.int .u8 0)) = Z at *
  go_enter Tryz.func57, Tryz.ntmps57
  go_wp2_with fail
  generalize (w.alloc (.cells Z.toArray 5)) = wA at *
  clear hmk
  go_loopw [8] (fun i wr => ∃ k : Nat, k ≤ 4 ∧ i = .int .i64 (k : Int) ∧ ∃ ys : List Value, OwnSl wr 5 1 (.slice (some ⟨w.heap.size, 0, none⟩) 4 4) 4 ys ∧ Turn (fun _ => False) w wr ∧ Hid (∀ j, j < k → ys[j]? = some (.int .u8 ((v / 2 ^ (8 * j) % 256 : Nat) : Int)))) (fun i _ => 4 - (intOf i).toNat)
  case atStart => exact ⟨0, by omega, rfl, _, hO, tA, hide (fun j hj => by omega)⟩
  case round =>
    obtain ⟨k, hk, rfl, ys, hown, hT, hys⟩ := hrel
    by_cases hlt : k < 4
    · have hyl : ys.length = 4 := by have := hown.1; omega
      have hcl : wr.cell? ⟨w.heap.size, k, none⟩ = some (ys[k]'(by omega)) := by have := hown.cells k (ys[k]'(by omega)) (by simp); rwa [Nat.zero_add] at this
      have hst := hown.set k (by omega) (.int .u8 ((v / 2 ^ (8 * k) % 256 : Nat) : Int))
      rw [Nat.zero_add] at hst
      obtain ⟨hst, hfr⟩ := hst
      have hnew : Hid (∀ j, j < k + 1 → (ys.set k (.int .u8 ((v / 2 ^ (8 * k) % 256 : Nat) : Int)))[j]? = some (.int .u8 ((v / 2 ^ (8 * j) % 256 : Nat) : Int))) := by
        refine hide fun j hj => ?_
        by_cases e : j = k
        · subst e; rw [List.getElem?_set_self (by omega)]
        · rw [List.getElem?_set_ne (by omega)]; exact unhide hys j (by omega)
      have hT2 := hT.setCell (p := ⟨w.heap.size, k, none⟩) (.inr (Nat.le_refl _)) (.int .u8 ((v / 2 ^ (8 * k) % 256 : Nat) : Int))
      have Hst := hide hst
      clear hst
      generalize ys[k]'(by omega) = old at *
      clear hys hown
      go_wp2
      rw [cast_byte v (8 * k)]
      exact ⟨⟨k + 1, by omega, by go_num, _, unhide Hst, hT2, hnew⟩, by simp [intOf]; omega⟩
    · have hk4 : k = 4 := by omega
      subst hk4
      have he := num4_of v ys (by have := hown.1; omega) (unhide hys)
      subst he
      go_wp2
      go_ret
      exact ⟨_, rfl, hown, fun j hj => by simp [Value.ownBlock] at hj; omega, hT⟩

set_option maxHeartbeats 400000 in
theorem sumOf_walk (B B' : Nat → Prop) (v v' : Value) (n4 zs : List Int) (w : World) (hn : Bytes n4) (hb : Bytes zs) (hr : Row .u8 B w v n4) (hr' : Row .u8 B' w v' zs) :
    Calls Tryz.prog 58 #[v, v'] w fun e w' => e = .returned (.int .u32 ((sum2 n4 zs : Nat) : Int)) ∧ w' = w := by
  have hlt : sumAdd 0 (nat n4) < 4294967296 := sumAdd_lt _ _
  go_enter Tryz.func58, Tryz.ntmps58
  go_wp2_with fail
  refine (sum_walk B v n4 _ hn hr).mono ?_
  rintro e w1 ⟨rfl, rfl⟩
  go_wp2_with fail
  refine (add_walk B' v' zs _ _ hlt hb hr').mono ?_
  rintro e w1 ⟨rfl, rfl⟩
  go_wp2
  go_ret
  exact ⟨rfl, rfl⟩

/-- more bytes behind a row of one's own that is new -/
theorem push {w0 w1 : World} {v x : Value} {xs zs : List Int} (T : Turn (fun _ => False) w0 w1) (ho : OwnSl w1 5 1 v xs.length (xs.map (Value.int .u8))) (hf : ∀ j, v.ownBlock = some j → w0.heap.size ≤ j) (hx : Src 1 w1 x zs.length (zs.map (Value.int .u8))) (hm : xs.length + zs.length ≤ 140737488355328) :
    ∃ v' w2, (Builtin.append_ #[33, 33] 33 #[v, x]).run Tryz.prog w1 = .ok v' w2 ∧ OwnSl w2 5 1 v' (xs ++ zs).length ((xs ++ zs).map (Value.int .u8)) ∧ (∀ j, v'.ownBlock = some j → w0.heap.size ≤ j) ∧ Turn (fun _ => False) w0 w2 := by
  obtain ⟨i0, hi, hz0, hz1, hz2⟩ := info_parts info_u8
  obtain ⟨v', w2, h1, h2, h3, h4⟩ := append_src (P := Tryz.prog) (ty := 33) Tryz.underlying33 hi hz0 hz1 hz2 rfl (by omega) ho hx (ints_oneCell _ _) (by unfold maxLen; omega) (by omega)
  refine ⟨v', w2, h1, by rw [List.length_append, List.map_append]; exact h2, fun j hj => ?_, T.trans h3 (fun j hj => .inr (hf j hj))⟩
  rcases h4 j hj with h | h
  · exact hf j h
  · exact Nat.le_trans T.size h
theorem src_one (w : World) (x : Int) : Src 1 (w.alloc (.cells #[.int .u8 x] 5)) (.slice (some ⟨w.heap.size, 0, none⟩) 1 1) [x].length ([x].map (Value.int .u8)) :=
  ⟨rfl, .inr ⟨_, _, rfl, by simp, one_new w 5 (.int .u8 x)⟩⟩
theorem make_room (M : Nat) (hM : M ≤ 1048600) (u : World) : (Instr.makeSlice 33 (.int .i64 0) (.int .i64 (M : Int))).run Tryz.prog u = .ok (.slice (some ⟨u.heap.size, 0, none⟩) 0 M) (u.alloc (.cells (List.replicate M (Value.int .u8 0)).toArray 5)) := by
  obtain ⟨i0, hi, hz0, hz1, hz2⟩ := info_parts info_u8
  have := run_make (P := Tryz.prog) u 33 5 i0 _ Tryz.underlying33 hi hz0 .i64 .i64 0 (M : Int) (by omega) (by omega) (by rw [hz2]; omega) (by omega)
  rw [hz1] at this
  rw [show (Value.int .u8 0).cells = #[Value.int .u8 0] from rfl] at this
  rw [← toList_madeCells_one]
  simpa using this
theorem own_room (M : Nat) (hM : M ≤ 1048600) (u : World) (cur : List Value) (hc : cur.length = M) : OwnSl (u.alloc (.cells cur.toArray 5)) 5 1 (.slice (some ⟨u.heap.size, 0, none⟩) 0 M) ([] : List Int).length (([] : List Int).map (Value.int .u8)) :=
  ⟨by simp, .inr ⟨u.heap.size, 0, M, _, rfl, heap_alloc_new u _, Nat.zero_le _, by unfold maxLen; omega, by simp [hc], by simp⟩⟩

set_option maxRecDepth 20000 in
set_option maxHeartbeats 2000000 in
theorem Pack_walk (B : Nat → Prop) (v : Value) (zs : List Int) (w : World) (hb : Bytes zs) (hr : Row .u8 B w v zs) :
    Calls Tryz.prog 37 #[v] w fun e w' => ∃ x, e = .returned (.tuple #[x, .int .i64 (packC zs)]) ∧ OwnSl w' 5 1 x (packD zs).length ((packD zs).map (Value.int .u8)) ∧ (∀ j, x.ownBlock = some j → w.heap.size ≤ j) ∧ Turn (fun _ => False) w w' := by
  have hm := hr.len
  unfold maxLen at hm
  obtain ⟨a, c, rfl⟩ := hr.slice
  by_cases hbig : 1048576 < zs.length
  · have hC : packC zs = 4 := by unfold packC; rw [if_pos hbig]
    have hD : packD zs = [] := by unfold packD; rw [if_pos hbig]
    rw [hC, hD]
    clear hC hD hr
    generalize zs.length = n at *
    go_enter Tryz.func37, Tryz.ntmps37
    go_wp2
    go_ret2
    exact ⟨_, rfl, ⟨rfl, .inl ⟨rfl, rfl⟩⟩, fun j hj => by simp [Value.ownBlock] at hj, Turn.refl _ _⟩
  · have hC : packC zs = 0 := by unfold packC; rw [if_neg hbig]
    have hD : packD zs = packB zs := by unfold packD; rw [if_neg hbig]
    rw [hC, hD]
    clear hC hD
    have HB := hide hb
    go_enter Tryz.func37, Tryz.ntmps37
    go_wp2_with fail
    refine (word_walk zs.length _ (by omega)).mono ?_
    rintro e w1 ⟨x1, rfl, ho1, hf1, T1⟩
    have hr1 := hr.turn T1 (fun _ _ h => h)
    have hrow1 := row_of_sl ho1
    obtain ⟨a1, c1, rfl⟩ := hrow1.slice
    have h4 := num4_bytes zs.length
    have hlt := sum2_lt (num4 zs.length) zs
    go_wp2_with fail
    refine (sumOf_walk _ _ _ _ (num4 zs.length) zs _ h4 hb hrow1 hr1).mono ?_
    rintro e w2 ⟨rfl, rfl⟩
    go_wp2_with fail
    refine (word_walk (sum2 (num4 zs.length) zs) _ hlt).mono ?_
    rintro e w3 ⟨x3, rfl, ho3, hf3, T3⟩
    have hr3 := hr1.turn T3 (fun _ _ h => h)
    have ho13 := ho1.turn T3 (fun _ _ h => h)
    have T13 := T1.then T3
    obtain ⟨a3, c3, rfl⟩ := (row_of_sl ho3).slice
    have hmk : ∀ u : World, (Instr.makeSlice 33 (.int .i64 0) (.int .i64 (10 + (zs.length : Int)))).run Tryz.prog u = .ok (.slice (some ⟨u.heap.size, 0, none⟩) 0 (zs.length + 10)) (u.alloc (.cells (List.replicate (zs.length + 10) (Value.int .u8 0)).toArray 5)) := fun u => by
      have := make_room (zs.length + 10) (by omega) u
      rwa [show ((zs.length + 10 : Nat) : Int) = 10 + (zs.length : Int) by omega] at this
    have hO4 := own_room (zs.length + 10) (by omega) w3 (List.replicate (zs.length + 10) (Value.int .u8 0)) (by simp)
    generalize (List.replicate (zs.length + 10) (Value.int .u8 0)) = Z at *
    have T4 : Turn (fun _ => False) w3 (w3.alloc (.cells Z.toArray 5)) := (Turn.refl _ w3).alloc _
    have T5 := T4.alloc (.cells #[.int .u8 165] 5)
    have hf4 : ∀ j, (Value.slice (some ⟨w3.heap.size, 0, none⟩) 0 (zs.length + 10)).ownBlock = some j → w3.heap.size ≤ j := fun j hj => by simp [Value.ownBlock] at hj; omega
    have hO5 := hO4.turn ((Turn.refl (fun _ => False) _).alloc (.cells #[.int .u8 165] 5)) (fun _ _ h => h)
    have hs5 := src_one (w3.alloc (.cells Z.toArray 5)) 165
    obtain ⟨v6, w6, hrun6, hO6, hf6, T6⟩ := push T5 hO5 hf4 hs5 (by simp)
    rw [World.size_alloc] at hrun6
    obtain ⟨v7, w7, hrun7, hO7, hf7, T7⟩ := push T6 hO6 hf6 ((src_row (row_of_sl ho13)).turn T6 (fun _ _ h => h)) (by simp [num4])
    obtain ⟨v8, w8, hrun8, hO8, hf8, T8⟩ := push T7 hO7 hf7 ((src_row (row_of_sl ho3)).turn T7 (fun _ _ h => h)) (by simp [num4])
    obtain ⟨v9, w9, hrun9, hO9, hf9, T9⟩ := push T8 hO8 hf8 ((src_row hr3).turn T8 (fun _ _ h => h)) (by simp [num4]; omega)
    have T10 := T9.alloc (.cells #[.int .u8 90] 5)
    have hO10 := hO9.turn ((Turn.refl (fun _ => False) _).alloc (.cells #[.int .u8 90] 5)) (fun _ _ h => h)
    obtain ⟨v11, w11, hrun11, hO11, hf11, T11⟩ := push T10 hO10 hf9 (src_one w9 90) (by simp [num4]; omega)
    have hpk : [] ++ [165] ++ num4 zs.length ++ num4 (sum2 (num4 zs.length) zs) ++ zs ++ [90] = packB zs := by simp [packB]
    rw [hpk] at hO11
    have Tend := T13.then T11
    have hfe : ∀ j, v11.ownBlock = some j → w.heap.size ≤ j := fun j hj => Nat.le_trans T13.size (hf11 j hj)
    have HO11 := hide hO11
    clear hO4 hO5 hO6 hO7 hO8 hO9 hO10 hO11 hf4 hf6 hf7 hf8 hf9 hf11 T4 T5 T6 T7 T8 T9 T10 T11 hs5 hpk ho13 ho1 ho3 hf1 hf3 T1 T3 T13 hr hr1 hr3 hb h4
    go_wp2_with (first | (at_builtin; refine list_append_run rfl (.tmp 22) (.tmp 23) 33 rfl _ _ _ _ rfl rfl hrun6 ?_) | (at_builtin; refine list_append_run rfl (.tmp 25) (.tmp 26) 33 rfl _ _ _ _ rfl rfl hrun7 ?_) | (at_builtin; refine list_append_run rfl (.tmp 28) (.tmp 29) 33 rfl _ _ _ _ rfl rfl hrun8 ?_) | (at_builtin; refine list_append_run rfl (.tmp 31) (.tmp 32) 33 rfl _ _ _ _ rfl rfl hrun9 ?_) | (at_builtin; refine list_append_run rfl (.tmp 34) (.tmp 35) 33 rfl _ _ _ _ rfl rfl hrun11 ?_))
    go_ret2
    exact ⟨v11, rfl, unhide HO11, hfe, Tend⟩

end Go.Proofs.YthikiahhochjmaaGreatDoor


namespace Go.Proofs.YthikiahhochjmaaGreatDoor
open Go.RowKit Go.Maps
set_option linter.unusedVariables false
set_option linter.unusedSimpArgs false

theorem row_at {k : IntKind} {B : Nat → Prop} {w : World} {v : Value} {zs : List Int} (h : Row k B w v zs) (h0 : 0 < zs.length) : ∃ b off c, v = .slice (some ⟨b, off, none⟩) zs.length c ∧ zs.length ≤ c ∧ c ≤ maxLen ∧ ∀ i, i < zs.length → w.cell? ⟨b, off + i, none⟩ = some (.int k (zs.getD i 0)) := by
  rcases h with ⟨a, c, rfl, _, _, rfl⟩ | ⟨b, off, c, rfl, h1, h2, h3, h4⟩
  · simp at h0
  · exact ⟨b, off, c, rfl, h1, h2, h4⟩
def begC (zs : List Int) : Int := if zs.length = 0 then 6 else if zs.getD 0 0 ≠ 165 ∧ zs.getD 0 0 ≠ 0 then 10 else if zs.getD 0 0 = 0 ∨ zs.length < 10 then 9 else 0
def endC (zs : List Int) (n : Nat) : Int := if zs.length ≤ n ∨ zs.getD n 0 = 0 then 9 else if zs.getD n 0 ≠ 90 then 10 else 0

set_option maxHeartbeats 1000000 in
theorem begin_walk (B : Nat → Prop) (v : Value) (zs : List Int) (w : World) (hr : Row .u8 B w v zs) :
    Calls Tryz.prog 129 #[v] w fun e w' => e = .returned (.int .i64 (begC zs)) ∧ w' = w := by
  have hm := hr.len
  unfold maxLen at hm
  by_cases h0 : zs.length = 0
  · have e : begC zs = 6 := by unfold begC; rw [if_pos h0]
    rw [e]
    obtain ⟨a, c, rfl⟩ := hr.slice
    rw [h0]
    clear e hr hm h0
    go_enter Tryz.func129, Tryz.ntmps129
    go_wp2
    go_ret
    exact ⟨rfl, rfl⟩
  · obtain ⟨b, off, c, rfl, hc, _, hcell⟩ := row_at hr (by omega)
    have c0 := hcell 0 (by omega)
    rw [Nat.add_zero] at c0
    have e : begC zs = if zs.getD 0 0 ≠ 165 ∧ zs.getD 0 0 ≠ 0 then 10 else if zs.getD 0 0 = 0 ∨ zs.length < 10 then 9 else 0 := by unfold begC; rw [if_neg h0]
    rw [e]
    clear e hr hcell
    generalize zs.getD 0 0 = x at *
    generalize zs.length = n at *
    by_cases h1 : x = 165
    · subst h1
      by_cases h2 : n < 10
      · rw [if_neg (by simp), if_pos (.inr h2)]
        go_enter Tryz.func129, Tryz.ntmps129
        go_wp2
        go_ret
        exact ⟨rfl, rfl⟩
      · rw [if_neg (by simp), if_neg (by omega)]
        go_enter Tryz.func129, Tryz.ntmps129
        go_wp2
        go_ret
        exact ⟨rfl, rfl⟩
    · by_cases h2 : x = 0
      · subst h2
        rw [if_neg (by simp), if_pos (.inl rfl)]
        go_enter Tryz.func129, Tryz.ntmps129
        go_wp2
        go_ret
        exact ⟨rfl, rfl⟩
      · rw [if_pos ⟨h1, h2⟩]
        have n1 : (x != 165) = true := by simpa using h1
        have n2 : (x != 0) = true := by simpa using h2
        clear h1 h2
        go_enter Tryz.func129, Tryz.ntmps129
        go_wp2
        go_ret
        exact ⟨rfl, rfl⟩

set_option maxHeartbeats 1000000 in
theorem end_walk (B : Nat → Prop) (v : Value) (zs : List Int) (n : Nat) (w : World) (hr : Row .u8 B w v zs) :
    Calls Tryz.prog 131 #[v, .int .i64 (n : Int)] w fun e w' => e = .returned (.int .i64 (endC zs n)) ∧ w' = w := by
  have hm := hr.len
  unfold maxLen at hm
  by_cases h0 : zs.length ≤ n
  · have e : endC zs n = 9 := by unfold endC; rw [if_pos (.inl h0)]
    rw [e]
    obtain ⟨a, c, rfl⟩ := hr.slice
    clear e hr
    generalize zs.length = m at *
    go_enter Tryz.func131, Tryz.ntmps131
    go_wp2
    go_ret
    exact ⟨rfl, rfl⟩
  · obtain ⟨b, off, c, rfl, hc, _, hcell⟩ := row_at hr (by omega)
    have c0 := hcell n (by omega)
    have e : endC zs n = if zs.getD n 0 = 0 then 9 else if zs.getD n 0 ≠ 90 then 10 else 0 := by
      unfold endC
      by_cases h : zs.getD n 0 = 0
      · rw [if_pos (.inr h), if_pos h]
      · rw [if_neg (by omega), if_neg h]
    rw [e]
    clear e hr hcell
    generalize zs.getD n 0 = x at *
    generalize zs.length = m at *
    by_cases h1 : x = 0
    · subst h1
      rw [if_pos rfl]
      go_enter Tryz.func131, Tryz.ntmps131
      go_wp2
      go_ret
      exact ⟨rfl, rfl⟩
    · by_cases h2 : x = 90
      · subst h2
        rw [if_neg (by simp), if_neg (by simp)]
        go_enter Tryz.func131, Tryz.ntmps131
        go_wp2
        go_ret
        exact ⟨rfl, rfl⟩
      · rw [if_neg h1, if_pos h2]
        have n1 : (x == 0) = false := by simpa using h1
        have n2 : (x != 90) = true := by simpa using h2
        clear h1 h2
        go_enter Tryz.func131, Tryz.ntmps131
        go_wp2
        go_ret
        exact ⟨rfl, rfl⟩

theorem or_step (x y k : Nat) (hx : x < 2 ^ k) (hy : y * 2 ^ k + x < 4294967296) : bits .or .u32 (x : Int) ((y : Int) % 4294967296 * 2 ^ k % 4294967296) = ((x + y * 2 ^ k : Nat) : Int) := by
  have hy1 : y ≤ y * 2 ^ k := Nat.le_mul_of_pos_right _ (Nat.two_pow_pos k)
  have e : (y : Int) % 4294967296 * 2 ^ k % 4294967296 = ((y * 2 ^ k : Nat) : Int) := by
    have e1 : (y : Int) % 4294967296 = (y : Int) := by omega
    have e2 : (y : Int) * 2 ^ k = ((y * 2 ^ k : Nat) : Int) := by push_cast; rfl
    rw [e1, e2]; omega
  rw [e, u32_or_nat _ _ (by omega) (by omega), Nat.or_comm, Nat.mul_comm, ← Nat.two_pow_add_eq_or_of_lt hx, Nat.add_comm]
theorem of4_part (zs : List Int) (hl : zs.length = 4) (hb : Bytes zs) (k : Nat) (hk : k < 4) : of4 (zs.take k) < 2 ^ (8 * k) ∧ of4 (zs.take (k + 1)) = of4 (zs.take k) + (zs.getD k 0).toNat * 2 ^ (8 * k) ∧ of4 (zs.take (k + 1)) < 4294967296 := by
  obtain ⟨c0, c1, c2, c3, rfl⟩ : ∃ c0 c1 c2 c3, zs = [c0, c1, c2, c3] := by match zs, hl with | [c0, c1, c2, c3], _ => exact ⟨c0, c1, c2, c3, rfl⟩
  have h0 := hb c0 (by simp)
  have h1 := hb c1 (by simp)
  have h2 := hb c2 (by simp)
  have h3 := hb c3 (by simp)
  match k, hk with
  | 0, _ => simp [of4]; omega
  | 1, _ => simp [of4]; omega
  | 2, _ => simp [of4]; omega
  | 3, _ => simp [of4]; omega
theorem of4_or (zs : List Int) (hl : zs.length = 4) (hb : Bytes zs) (k : Nat) (hk : k < 4) : bits .or .u32 ((of4 (zs.take k) : Nat) : Int) (zs.getD k 0 % 4294967296 * 2 ^ (8 * k) % 4294967296) = ((of4 (zs.take (k + 1)) : Nat) : Int) := by
  obtain ⟨h1, h2, h3⟩ := of4_part zs hl hb k hk
  have hx := getD_byte hb (show k < zs.length by omega)
  obtain ⟨y, hy⟩ := Int.eq_ofNat_of_zero_le hx.1
  rw [hy] at h2 ⊢
  rw [Int.toNat_natCast] at h2
  rw [or_step _ y (8 * k) h1 (by omega), h2]

set_option maxHeartbeats 1000000 in
theorem number_walk (B : Nat → Prop) (v : Value) (zs : List Int) (w : World) (hl : zs.length = 4) (hb : Bytes zs) (hr : Row .u8 B w v zs) :
    Calls Tryz.prog 130 #[v] w fun e w' => e = .returned (.int .u32 ((of4 zs : Nat) : Int)) ∧ w' = w := by
  obtain ⟨b, off, c, rfl, hc, _, hcell⟩ := row_at hr (by omega)
  rw [hl]
  have Hcell := hide hcell
  have Hb := hide hb
  have Hl := hide hl
  clear hcell hr hb hc
  go_enter Tryz.func130, Tryz.ntmps130
  go_wp2_with fail
  go_loop [3, 8] (fun a i => ∃ k r : Nat, k ≤ 4 ∧ a = .int .u32 (r : Int) ∧ i = .int .i64 (k : Int) ∧ Hid (of4 (zs.take k) = r)) (fun _ i => 4 - (intOf i).toNat)
  case atStart => exact ⟨0, 0, by omega, rfl, rfl, hide (by simp [of4])⟩
  case round =>
    obtain ⟨k, r, hk, rfl, rfl, hq⟩ := hrel
    by_cases hlt : k < 4
    · have hcl := unhide Hcell k (by rw [unhide Hl]; exact hlt)
      have hor := of4_or zs (unhide Hl) (unhide Hb) k hlt
      rw [unhide hq] at hor
      generalize zs.getD k 0 = x at *
      obtain ⟨r2, hr2⟩ : ∃ r2, of4 (zs.take (k + 1)) = r2 := ⟨_, rfl⟩
      have Hr2 := hide hr2
      rw [hr2] at hor
      clear hr2 hl
      go_wp2
      exact ⟨⟨k + 1, r2, by omega, rfl, by go_num, Hr2⟩, by simp [intOf]; omega⟩
    · have hk4 : k = 4 := by omega
      subst hk4
      go_wp2
      go_ret
      refine ⟨ret_int ?_, rfl⟩
      rw [← unhide hq, List.take_of_length_le (by omega)]

/-! ### Take -/
theorem mid_u8 {w : World} {B : Nat → Prop} {x : Value} {zs : List Int} (h : Row .u8 B w x zs) (m n : Nat) (hn : m + n ≤ zs.length) :
    ∃ x', (∀ u : World, (Instr.slice 33 x (some (.int .i64 (m : Int))) (some (.int .i64 ((m + n : Nat) : Int))) none).run Tryz.prog u = .ok x' u) ∧ Row .u8 B w x' ((zs.drop m).take n) := by
  obtain ⟨i0, hi, hz0, hz1, hz2⟩ := info_parts info_u8
  exact cut_mid Tryz.underlying33 hi hz1 h m n hn
theorem of4_take (l : List Int) : of4 (l.take 4) = of4 l := by
  unfold of4
  simp [List.getD_eq_getElem?_getD, List.getElem?_take]
theorem of4_lt (l : List Int) (h : Bytes l) : of4 l < 4294967296 := by
  have key : ∀ i, 0 ≤ l.getD i 0 ∧ l.getD i 0 < 256 := fun i => by
    by_cases hi : i < l.length
    · exact getD_byte h hi
    · rw [List.getD_eq_getElem?_getD, List.getElem?_eq_none (by omega)]; simp
  have h0 := key 0
  have h1 := key 1
  have h2 := key 2
  have h3 := key 3
  unfold of4
  omega

set_option maxHeartbeats 2000000 in
theorem Take_walk (B : Nat → Prop) (v : Value) (zs : List Int) (w : World) (hb : Bytes zs) (hr : Row .u8 B w v zs) :
    Calls Tryz.prog 107 #[v] w fun e w' => ∃ x, e = .returned (.tuple #[x, .int .i64 (((takeT zs).2.1 : Nat) : Int), .int .i64 (takeT zs).2.2]) ∧ OwnSl w' 5 1 x (takeT zs).1.length ((takeT zs).1.map (Value.int .u8)) ∧ (∀ j, x.ownBlock = some j → w.heap.size ≤ j) ∧ Turn (fun _ => False) w w' := by
  have hm := hr.len
  unfold maxLen at hm
  have none_ok : ∀ (w : World), OwnSl w 5 1 (.slice none 0 0) ([] : List Int).length (([] : List Int).map (Value.int .u8)) := fun w => ⟨rfl, .inl ⟨rfl, rfl⟩⟩
  have none_new : ∀ j, (Value.slice none 0 0).ownBlock = some j → w.heap.size ≤ j := fun j hj => by simp [Value.ownBlock] at hj
  obtain ⟨a, c, rfl⟩ := hr.slice
  by_cases hbeg : begC zs = 0
  · have hlen : 10 ≤ zs.length ∧ zs.getD 0 0 = 165 := by
      unfold begC at hbeg
      repeat' split at hbeg
      all_goals first | omega | (simp at hbeg; done)
    have hT : takeT zs = if 1048576 < of4 (zs.drop 1) then ([], 0, 10) else if zs.length < 10 + of4 (zs.drop 1) ∨ zs.getD (9 + of4 (zs.drop 1)) 0 = 0 then ([], 0, 9) else
        if zs.getD (9 + of4 (zs.drop 1)) 0 ≠ 90 then ([], 0, 10) else
        if of4 (zs.drop 5) ≠ sum2 ((zs.drop 1).take 4) ((zs.drop 9).take (of4 (zs.drop 1))) then ([], 0, 11) else ((zs.drop 9).take (of4 (zs.drop 1)), 10 + of4 (zs.drop 1), 0) := by
      unfold takeT
      rw [if_neg (by omega), if_neg (by rw [hlen.2]; simp), if_neg (by omega)]
    obtain ⟨x1, hx1, hrow1⟩ := mid_u8 hr 1 4 (by omega)
    obtain ⟨x5, hx5, hrow5⟩ := mid_u8 hr 5 4 (by omega)
    have hx1' : ∀ u : World, (Instr.slice 33 (.slice a zs.length c) (some (.int .i64 1)) (some (.int .i64 5)) none).run Tryz.prog u = .ok x1 u := hx1
    have hx5' : ∀ u : World, (Instr.slice 33 (.slice a zs.length c) (some (.int .i64 5)) (some (.int .i64 9)) none).run Tryz.prog u = .ok x5 u := hx5
    have hL1 : ((zs.drop 1).take 4).length = 4 := by simp; omega
    have hL5 : ((zs.drop 5).take 4).length = 4 := by simp; omega
    have hB1 : Bytes ((zs.drop 1).take 4) := (hb.drop 1).take 4
    have hB5 : Bytes ((zs.drop 5).take 4) := (hb.drop 5).take 4
    have hn1 := number_walk B x1 _ w hL1 hB1 hrow1
    have hn5 : ∀ w' : World, (∃ n, w' = w.drewN n) → Calls Tryz.prog 130 #[x5] w' fun e w'' => e = .returned (.int .u32 ((of4 (zs.drop 5) : Nat) : Int)) ∧ w'' = w' := by
      rintro w' ⟨n, rfl⟩
      have := number_walk B x5 _ (w.drewN n) hL5 hB5 (hrow5.turn ((Turn.refl (fun _ => False) w).drewN n) (fun _ _ h => h))
      rwa [of4_take] at this
    rw [of4_take] at hn1
    rw [hT]
    clear hT hx1 hx5
    have hlt := of4_lt _ (hb.drop 1)
    have hbg := begin_walk B _ zs w hr
    rw [hbeg] at hbg
    generalize hN : of4 (zs.drop 1) = N at *
    by_cases hbig : 1048576 < N
    · rw [if_pos hbig]
      clear hn5 hrow1 hrow5 hL1 hL5 hB1 hB5 hN hlen
      go_enter Tryz.func107, Tryz.ntmps107
      go_wp2_with fail
      refine hbg.mono ?_
      rintro e w1 ⟨rfl, rfl⟩
      go_wp2_with fail
      refine hn1.mono ?_
      rintro e w1 ⟨rfl, rfl⟩
      go_wp2
      go_ret3
      exact ⟨_, rfl, none_ok _, none_new, Turn.refl _ _⟩
    · rw [if_neg hbig]
      have hen := end_walk B _ zs (9 + N) w hr
      by_cases hE : endC zs (9 + N) = 0
      · have hE' : 9 + N < zs.length ∧ zs.getD (9 + N) 0 = 90 := by
          unfold endC at hE
          repeat' split at hE
          all_goals first | omega | (simp at hE; done)
        rw [if_neg (by omega), if_neg (by omega)]
        rw [hE] at hen
        obtain ⟨x9, hx9, hrow9⟩ := mid_u8 hr 9 N (by omega)
        have hB9 : Bytes ((zs.drop 9).take N) := (hb.drop 9).take N
        have hsm : ∀ w' : World, (∃ n, w' = w.drewN n) → Calls Tryz.prog 58 #[x1, x9] w' fun e w'' => e = .returned (.int .u32 ((sum2 ((zs.drop 1).take 4) ((zs.drop 9).take N) : Nat) : Int)) ∧ w'' = w' := by
          rintro w' ⟨n, rfl⟩
          exact sumOf_walk B B x1 x9 _ _ _ hB1 hB9 (hrow1.turn ((Turn.refl (fun _ => False) w).drewN n) (fun _ _ h => h)) (hrow9.turn ((Turn.refl (fun _ => False) w).drewN n) (fun _ _ h => h))
        have hx9' : ∀ u : World, (Instr.slice 33 (.slice a zs.length c) (some (.int .i64 9)) (some (.int .i64 (9 + (N : Int)))) none).run Tryz.prog u = .ok x9 u := fun u => by have := hx9 u; rwa [show ((9 + N : Nat) : Int) = 9 + (N : Int) by omega] at this
        have hen' : Calls Tryz.prog 131 #[.slice a zs.length c, .int .i64 (9 + (N : Int))] w fun e w' => e = .returned (.int .i64 0) ∧ w' = w := by rwa [show ((9 + N : Nat) : Int) = 9 + (N : Int) by omega] at hen
        have hl9 : ((zs.drop 9).take N).length = N := by simp; omega
        clear hx9 hen hL1 hL5 hB1 hB5 hB9 hrow5 hrow1 hN hE hbeg
        generalize (zs.drop 9).take N = Y at *
        generalize sum2 ((zs.drop 1).take 4) Y = s2 at *
        generalize of4 (zs.drop 5) = s1 at *
        by_cases hs : s1 = s2
        · subst hs
          rw [if_neg (by simp)]
          have HL := hide hl9
          clear hl9
          go_enter Tryz.func107, Tryz.ntmps107
          go_wp2_with fail
          refine hbg.mono ?_
          rintro e w1 ⟨rfl, rfl⟩
          go_wp2_with fail
          refine hn1.mono ?_
          rintro e w1 ⟨rfl, rfl⟩
          go_wp2_with fail
          refine hen'.mono ?_
          rintro e w1 ⟨rfl, rfl⟩
          go_wp2_with fail
          go_quiet ((first | (go_at_call 58; exact Calls.quiet_of_same (hsm _ ⟨_, rfl⟩)) | (go_at_call 130; exact Calls.quiet_of_same (hn5 _ ⟨_, rfl⟩))))
          have TN := (Turn.refl (fun _ => False) w1).drewN nq
          have hrowN := hrow9.turn TN (fun _ _ h => h)
          go_wp2_with fail
          refine (clone_walk B x9 Y _ hrowN (by rw [unhide HL]; omega)).mono ?_
          rintro e w2 ⟨x, rfl, ho, hf, T⟩
          have hf' : ∀ j, x.ownBlock = some j → w1.heap.size ≤ j := fun j hj => Nat.le_trans TN.size (hf j hj)
          go_wp2
          go_ret3
          refine ⟨x, ?_, ho, hf', TN.then T⟩
          rw [show ((10 + N : Nat) : Int) = 9 + (N : Int) + 1 by omega]; rfl
        · rw [if_pos hs]
          have hne : ((s2 : Int) != (s1 : Int)) = true := by rw [bne_iff_ne]; omega
          clear hs
          go_enter Tryz.func107, Tryz.ntmps107
          go_wp2_with fail
          refine hbg.mono ?_
          rintro e w1 ⟨rfl, rfl⟩
          go_wp2_with fail
          refine hn1.mono ?_
          rintro e w1 ⟨rfl, rfl⟩
          go_wp2_with fail
          refine hen'.mono ?_
          rintro e w1 ⟨rfl, rfl⟩
          go_wp2_with fail
          go_quiet ((first | (go_at_call 58; exact Calls.quiet_of_same (hsm _ ⟨_, rfl⟩)) | (go_at_call 130; exact Calls.quiet_of_same (hn5 _ ⟨_, rfl⟩))))
          have TN := (Turn.refl (fun _ => False) w1).drewN nq
          go_wp2
          go_ret3
          exact ⟨_, rfl, none_ok _, none_new, TN⟩
      · have hT : (if zs.length < 10 + N ∨ zs.getD (9 + N) 0 = 0 then ([], 0, 9) else if zs.getD (9 + N) 0 ≠ 90 then ([], 0, 10) else if of4 (zs.drop 5) ≠ sum2 ((zs.drop 1).take 4) ((zs.drop 9).take N) then ([], 0, 11) else ((zs.drop 9).take N, 10 + N, 0) : List Int × Nat × Int) = ([], 0, endC zs (9 + N)) := by
          unfold endC at *
          by_cases h1 : zs.length ≤ 9 + N ∨ zs.getD (9 + N) 0 = 0
          · rw [if_pos (by omega), if_pos h1]
          · rw [if_neg (by omega), if_neg h1]
            by_cases h2 : zs.getD (9 + N) 0 ≠ 90
            · rw [if_pos h2, if_pos h2]
            · rw [if_neg h1, if_neg h2] at hE; exact absurd rfl hE
        rw [hT]
        have hen' : Calls Tryz.prog 131 #[.slice a zs.length c, .int .i64 (9 + (N : Int))] w fun e w' => e = .returned (.int .i64 (endC zs (9 + N))) ∧ w' = w := by rwa [show ((9 + N : Nat) : Int) = 9 + (N : Int) by omega] at hen
        have hne : (endC zs (9 + N) != 0) = true := by simpa using hE
        clear hT hE hen hn5 hrow1 hrow5 hL1 hL5 hB1 hB5 hN hlen hbeg
        generalize endC zs (9 + N) = x at *
        go_enter Tryz.func107, Tryz.ntmps107
        go_wp2_with fail
        refine hbg.mono ?_
        rintro e w1 ⟨rfl, rfl⟩
        go_wp2_with fail
        refine hn1.mono ?_
        rintro e w1 ⟨rfl, rfl⟩
        go_wp2_with fail
        refine hen'.mono ?_
        rintro e w1 ⟨rfl, rfl⟩
        go_wp2
        go_ret3
        exact ⟨_, rfl, none_ok _, none_new, Turn.refl _ _⟩
  · have hT : takeT zs = ([], 0, begC zs) := by
      unfold takeT begC at *
      repeat' split
      all_goals first | rfl | simp_all
    rw [hT]
    have hbg := begin_walk B _ zs w hr
    have hne : (begC zs != 0) = true := by simpa using hbeg
    clear hT hbeg
    generalize begC zs = x at *
    go_enter Tryz.func107, Tryz.ntmps107
    go_wp2_with fail
    refine hbg.mono ?_
    rintro e w1 ⟨rfl, rfl⟩
    go_wp2
    go_ret3
    exact ⟨_, rfl, none_ok _, none_new, Turn.refl _ _⟩
end Go.Proofs.YthikiahhochjmaaGreatDoor


namespace Go.Proofs.YthikiahhochjmaaGreatDoor
open Go.RowKit Go.Maps
set_option linter.unusedVariables false
set_option linter.unusedSimpArgs false

/-- a list of byte lists, all in memory that is new since so many blocks -/
def Lists (w : World) (base : Nat) (v : Value) (zss : List (List Int)) : Prop :=
  ∃ vs : List Value, OwnSl w 33 1 v vs.length vs ∧ (∀ j, v.ownBlock = some j → base ≤ j) ∧ vs.length = zss.length ∧
    ∀ (i : Nat) (u : Value) (z : List Int), vs[i]? = some u → zss[i]? = some z → OwnSl w 5 1 u z.length (z.map (Value.int .u8)) ∧ ∀ j, u.ownBlock = some j → base ≤ j

theorem Lists.turn {F : Nat → Prop} {w w' : World} {base : Nat} {v : Value} {zss : List (List Int)} (h : Lists w base v zss) (T : Turn F w w') (hF : ∀ j, base ≤ j → ¬ F j) : Lists w' base v zss := by
  obtain ⟨vs, h1, h2, h3, h4⟩ := h
  exact ⟨vs, h1.turn T (fun k hk => hF k (h2 k hk)), h2, h3, fun i u z hu hz => ⟨(h4 i u z hu hz).1.turn T (fun k hk => hF k ((h4 i u z hu hz).2 k hk)), (h4 i u z hu hz).2⟩⟩
theorem Lists.mono {w : World} {base base' : Nat} {v : Value} {zss : List (List Int)} (h : Lists w base v zss) (hb : base' ≤ base) : Lists w base' v zss := by
  obtain ⟨vs, h1, h2, h3, h4⟩ := h
  exact ⟨vs, h1, fun j hj => Nat.le_trans hb (h2 j hj), h3, fun i u z hu hz => ⟨(h4 i u z hu hz).1, fun j hj => Nat.le_trans hb ((h4 i u z hu hz).2 j hj)⟩⟩
theorem lists_none (w : World) (base : Nat) : Lists w base (.slice none 0 0) [] := ⟨[], ⟨rfl, .inl ⟨rfl, rfl⟩⟩, fun j hj => by simp [Value.ownBlock] at hj, rfl, fun i u z hu => by simp at hu⟩
theorem Lists.slice {w : World} {base : Nat} {v : Value} {zss : List (List Int)} (h : Lists w base v zss) : ∃ a c, v = .slice a zss.length c := by
  obtain ⟨vs, h1, h2, h3, h4⟩ := h
  rcases h1.2 with ⟨rfl, h0⟩ | ⟨g, off, cap, cur, rfl, _⟩
  · exact ⟨_, _, by rw [← h3, h0]⟩
  · exact ⟨_, _, by rw [h3]⟩
/-- the list at a place -/
theorem Lists.at {w : World} {base : Nat} {v : Value} {zss : List (List Int)} (h : Lists w base v zss) (i : Nat) (hi : i < zss.length) :
    ∃ g off cap u, v = .slice (some ⟨g, off, none⟩) zss.length cap ∧ w.cell? ⟨g, off + i, none⟩ = some u ∧ OwnSl w 5 1 u (zss[i]).length ((zss[i]).map (Value.int .u8)) ∧ ∀ j, u.ownBlock = some j → base ≤ j := by
  obtain ⟨vs, h1, h2, h3, h4⟩ := h
  have hu : vs[i]? = some (vs[i]'(by omega)) := by simp
  have := h4 i (vs[i]'(by omega)) (zss[i]) hu (by simp [hi])
  have h1' := h1
  rcases h1.2 with ⟨rfl, h0⟩ | ⟨g, off, cap, cur, rfl, _⟩
  · omega
  · exact ⟨g, off, cap, _, by rw [h3], h1'.cells i _ hu, this.1, this.2⟩

theorem info_sl : (Tryz.prog.info? 33).map (fun i => (i.zero, i.size, i.bytes)) = some (some (.slice none 0 0), 1, 24) := by kernel_rfl
/-- one list more behind -/
theorem Lists.push {w0 w1 : World} {base : Nat} {v x : Value} {zss : List (List Int)} {z : List Int} (T : Turn (fun _ => False) w0 w1) (hb : base = w0.heap.size) (h : Lists w1 base v zss) (hx : OwnSl w1 5 1 x z.length (z.map (Value.int .u8))) (hf : ∀ j, x.ownBlock = some j → base ≤ j) (hm : zss.length ≤ 1099511627776) :
    ∃ v' w2, (Builtin.append_ #[29, 29] 29 #[v, .slice (some ⟨w1.heap.size, 0, none⟩) 1 1]).run Tryz.prog (w1.alloc (.cells #[x] 33)) = .ok v' w2 ∧ Lists w2 base v' (zss ++ [z]) ∧ Turn (fun _ => False) w0 w2 := by
  subst hb
  obtain ⟨i0, hi, hz0, hz1, hz2⟩ := info_parts info_sl
  obtain ⟨vs, h1, h2, h3, h4⟩ := h
  have TA := (Turn.refl (fun _ => False) w1).alloc (.cells #[x] 33)
  have hs : Src 1 (w1.alloc (.cells #[x] 33)) (.slice (some ⟨w1.heap.size, 0, none⟩) 1 1) 1 [x] := ⟨rfl, .inr ⟨_, _, rfl, by omega, one_new w1 33 x⟩⟩
  obtain ⟨ax, cx, hxv⟩ := hx.form
  obtain ⟨v', w2, r1, r2, r3, r4⟩ := append_src (P := Tryz.prog) (ty := 29) Tryz.underlying29 hi hz0 hz1 hz2 rfl (by omega) (h1.turn TA (fun _ _ h => h)) hs (fun u hu => by simp at hu; subst hu; rw [hxv]; rfl) (by unfold maxLen; omega) (by omega)
  have keep : ∀ (u : Value) (y : List Int), OwnSl w1 5 1 u y.length (y.map (Value.int .u8)) → OwnSl w2 5 1 u y.length (y.map (Value.int .u8)) := fun u y hu => by
    have hA := hu.turn TA (fun _ _ h => h)
    refine hA.turn r3 (fun k hk he => ?_)
    obtain ⟨cur, hc⟩ := (h1.turn TA (fun _ _ h => h)).lt k he
    obtain ⟨cur', hc'⟩ := hA.lt k hk
    rw [hc] at hc'
    simp at hc'
  refine ⟨v', w2, r1, ⟨vs ++ [x], by simpa using r2, fun j hj => ?_, by simp [h3], fun i u y hu hy => ?_⟩, (T.then TA).trans r3 (fun j hj => .inr (h2 j hj))⟩
  · rcases r4 j hj with h | h
    · exact h2 j h
    · exact Nat.le_trans (T.then TA).size h
  · by_cases hlt : i < vs.length
    · rw [List.getElem?_append_left hlt] at hu
      rw [List.getElem?_append_left (by omega)] at hy
      have := h4 i u y hu hy
      exact ⟨keep u y this.1, this.2⟩
    · rw [List.getElem?_append_right (by omega)] at hu
      rw [List.getElem?_append_right (by omega)] at hy
      have hi0 : i - vs.length = 0 := by
        rcases Nat.eq_zero_or_pos (i - vs.length) with h | h
        · exact h
        · rw [List.getElem?_eq_none (by simp; omega)] at hu; cases hu
      rw [hi0] at hu
      rw [show i - zss.length = 0 by omega] at hy
      simp at hu hy
      subst hu hy
      exact ⟨keep _ _ hx, hf⟩

theorem from_u8 {w : World} {B : Nat → Prop} {x : Value} {zs : List Int} (h : Row .u8 B w x zs) (n : Nat) (hn : n ≤ zs.length) :
    ∃ x', (∀ u : World, (Instr.slice 33 x (some (.int .i64 (n : Int))) none none).run Tryz.prog u = .ok x' u) ∧ Row .u8 B w x' (zs.drop n) := by
  obtain ⟨i0, hi, hz0, hz1, hz2⟩ := info_parts info_u8
  exact cut_from Tryz.underlying33 hi hz1 h n hn

set_option maxHeartbeats 400000 in
theorem fault_walk (x : Int) (w : World) : Calls Tryz.prog 108 #[.int .i64 x] w fun e w' => e = .returned (.int .i64 (if x = 6 ∨ x = 9 then 0 else x)) ∧ w' = w := by
  by_cases h6 : x = 6
  · subst h6
    rw [if_pos (.inl rfl)]
    go_enter Tryz.func108, Tryz.ntmps108
    go_wp2
    go_ret
    exact ⟨rfl, rfl⟩
  by_cases h9 : x = 9
  · subst h9
    rw [if_pos (.inr rfl)]
    go_enter Tryz.func108, Tryz.ntmps108
    go_wp2
    go_ret
    exact ⟨rfl, rfl⟩
  rw [if_neg (by omega)]
  have n6 : (x == 6) = false := by simpa using h6
  have n9 : (x == 9) = false := by simpa using h9
  clear h6 h9
  go_enter Tryz.func108, Tryz.ntmps108
  go_wp2
  go_ret
  exact ⟨rfl, rfl⟩

theorem scan_stop {b : List Int} (h0 : (takeT b).2.2 ≠ 0) : scanT b = ([], 0, if (takeT b).2.2 = 6 ∨ (takeT b).2.2 = 9 then 0 else (takeT b).2.2) := by
  by_cases h : (takeT b).2.2 = 6 ∨ (takeT b).2.2 = 9
  · rw [if_pos h, scan_end h]
  · rw [if_neg h, scan_bad h0 (by omega) (by omega)]
/-- what is told so far, and what is left -/
def SoFar (zs : List Int) (D : List (List Int)) (n : Nat) : Prop := n ≤ zs.length ∧ 10 * D.length ≤ n ∧ scanT zs = (D ++ (scanT (zs.drop n)).1, n + (scanT (zs.drop n)).2.1, (scanT (zs.drop n)).2.2)
theorem soFar_none (zs : List Int) : SoFar zs [] 0 := ⟨by omega, by simp, by simp⟩
theorem SoFar.more {zs : List Int} {D : List (List Int)} {n : Nat} (h : SoFar zs D n) (h0 : (takeT (zs.drop n)).2.2 = 0) : SoFar zs (D ++ [(takeT (zs.drop n)).1]) (n + (takeT (zs.drop n)).2.1) ∧ 10 ≤ (takeT (zs.drop n)).2.1 := by
  obtain ⟨h1, h2, h3⟩ := h
  have ht : takeT (zs.drop n) = ((takeT (zs.drop n)).1, (takeT (zs.drop n)).2.1, 0) := by rw [← h0]
  have hb := take_bounds ht
  rw [List.length_drop] at hb
  refine ⟨⟨by omega, by simp; omega, ?_⟩, hb.1⟩
  rw [h3, scan_ok ht, List.drop_drop]
  simp [Nat.add_assoc]
theorem SoFar.stop {zs : List Int} {D : List (List Int)} {n : Nat} (h : SoFar zs D n) (h0 : (takeT (zs.drop n)).2.2 ≠ 0) : scanT zs = (D, n, if (takeT (zs.drop n)).2.2 = 6 ∨ (takeT (zs.drop n)).2.2 = 9 then 0 else (takeT (zs.drop n)).2.2) := by
  rw [h.2.2, scan_stop h0]; simp

set_option maxHeartbeats 2000000 in
theorem Scan_walk (B : Nat → Prop) (v : Value) (zs : List Int) (w : World) (hb : Bytes zs) (hz : zs.length ≤ 1099511627776) (hr : Row .u8 B w v zs) :
    Calls Tryz.prog 85 #[v] w fun e w' => ∃ x, e = .returned (.tuple #[x, .int .i64 (((scanT zs).2.1 : Nat) : Int), .int .i64 (scanT zs).2.2]) ∧ Lists w' w.heap.size x (scanT zs).1 ∧ Turn (fun _ => False) w w' := by
  obtain ⟨a, c, rfl⟩ := hr.slice
  have Hb := hide hb
  clear hb
  go_enter Tryz.func85, Tryz.ntmps85
  go_wp2_with fail
  go_loopw [5, 6] (fun s i wr => ∃ (n : Nat) (D : List (List Int)), i = .int .i64 (n : Int) ∧ Lists wr w.heap.size s D ∧ Turn (fun _ => False) w wr ∧ Hid (SoFar zs D n) ∧ n ≤ zs.length) (fun _ i _ => zs.length - (intOf i).toNat)
  case atStart => exact ⟨0, [], rfl, lists_none _ _, Turn.refl _ _, hide (soFar_none zs), Nat.zero_le _⟩
  case round =>
    obtain ⟨n, D, rfl, hL, hT, hS, hn⟩ := hrel
    obtain ⟨x', hx', hrow⟩ := from_u8 (hr.turn hT (fun _ _ h => h)) n hn
    obtain ⟨ad, cd, rfl⟩ := hL.slice
    go_wp2_with fail
    refine (Take_walk B x' (zs.drop n) _ ((unhide Hb).drop n) hrow).mono ?_
    rintro e w1 ⟨x, rfl, ho, hf, T1⟩
    have hL1 := hL.turn T1 (fun _ _ h => h)
    have hT1 := hT.then T1
    have hf1 : ∀ j, x.ownBlock = some j → w.heap.size ≤ j := fun j hj => Nat.le_trans hT.size (hf j hj)
    obtain ⟨ax, cx, rfl⟩ := ho.form
    by_cases h0 : (takeT (zs.drop n)).2.2 = 0
    · obtain ⟨hS2, h10⟩ := (unhide hS).more h0
      have hDl : D.length ≤ 1099511627776 := by have := (unhide hS).2.1; omega
      rw [h0]
      obtain ⟨v2, w2, hrun, hL2, hT2⟩ := Lists.push hT1 rfl hL1 ho hf1 hDl
      have hn2 := hS2.1
      have HS2 := hide hS2
      clear hS hS2 h0 ho hf hf1 hL hL1 hT hT1 T1 hx' hrow
      generalize (takeT (zs.drop n)).1 = Y at *
      generalize (takeT (zs.drop n)).2.1 = M at *
      go_wp2_with (at_builtin; refine list_append_run rfl _ _ 29 rfl _ _ _ _ rfl rfl hrun ?_)
      exact ⟨⟨n + M, D ++ [Y], by go_num, hL2, hT2, HS2, hn2⟩, by simp [intOf]; omega⟩
    · have hst := (unhide hS).stop h0
      have Hst := hide hst
      have hne : ((takeT (zs.drop n)).2.2 != 0) = true := by simpa using h0
      have hfw := fault_walk (takeT (zs.drop n)).2.2 w1
      clear hst h0 ho hf hf1 hL hS hx' hrow
      generalize (takeT (zs.drop n)).2.2 = E at *
      generalize (if E = 6 ∨ E = 9 then 0 else E) = E2 at *
      go_wp2_with fail
      refine hfw.mono ?_
      rintro e w2 ⟨rfl, rfl⟩
      go_wp2
      go_ret3
      rw [unhide Hst]
      exact ⟨_, rfl, hL1, hT1⟩
end Go.Proofs.YthikiahhochjmaaGreatDoor


namespace Go.Proofs.YthikiahhochjmaaGreatDoor
open Go.RowKit Go.Maps
set_option linter.unusedVariables false
set_option linter.unusedSimpArgs false

/-- a list of byte lists in blocks of G -/
def Recs (w : World) (G : Nat → Prop) (v : Value) (zss : List (List Int)) : Prop :=
  ∃ vs : List Value, OwnSl w 33 1 v vs.length vs ∧ (∀ j, v.ownBlock = some j → G j) ∧ vs.length = zss.length ∧
    ∀ (i : Nat) (u : Value) (z : List Int), vs[i]? = some u → zss[i]? = some z → OwnSl w 5 1 u z.length (z.map (Value.int .u8)) ∧ ∀ j, u.ownBlock = some j → G j
theorem Recs.turn {F G : Nat → Prop} {w w' : World} {v : Value} {zss : List (List Int)} (h : Recs w G v zss) (T : Turn F w w') (hF : ∀ j, G j → ¬ F j) : Recs w' G v zss := by
  obtain ⟨vs, h1, h2, h3, h4⟩ := h
  exact ⟨vs, h1.turn T (fun k hk => hF k (h2 k hk)), h2, h3, fun i u z hu hz => ⟨(h4 i u z hu hz).1.turn T (fun k hk => hF k ((h4 i u z hu hz).2 k hk)), (h4 i u z hu hz).2⟩⟩
theorem Recs.mono {G G' : Nat → Prop} {w : World} {v : Value} {zss : List (List Int)} (h : Recs w G v zss) (hG : ∀ j, G j → j < w.heap.size → G' j) : Recs w G' v zss := by
  obtain ⟨vs, h1, h2, h3, h4⟩ := h
  have lt : ∀ {e : TypeId} {s n : Nat} {u : Value} {xs : List Value}, OwnSl w e s u n xs → ∀ j, u.ownBlock = some j → j < w.heap.size := fun h j hj => by
    obtain ⟨cur, hc⟩ := h.lt j hj; exact (Array.getElem?_eq_some_iff.1 hc).1
  exact ⟨vs, h1, fun j hj => hG j (h2 j hj) (lt h1 j hj), h3, fun i u z hu hz => ⟨(h4 i u z hu hz).1, fun j hj => hG j ((h4 i u z hu hz).2 j hj) (lt (h4 i u z hu hz).1 j hj)⟩⟩
theorem recs_of_lists {w : World} {base : Nat} {v : Value} {zss : List (List Int)} (h : Lists w base v zss) : Recs w (fun j => base ≤ j) v zss := h
theorem Recs.slice {w : World} {G : Nat → Prop} {v : Value} {zss : List (List Int)} (h : Recs w G v zss) : ∃ a c, v = .slice a zss.length c := by
  obtain ⟨vs, h1, h2, h3, h4⟩ := h
  rcases h1.2 with ⟨rfl, h0⟩ | ⟨g, off, cap, cur, rfl, _⟩
  · exact ⟨_, _, by rw [← h3, h0]⟩
  · exact ⟨_, _, by rw [h3]⟩
theorem Recs.blk {w : World} {G : Nat → Prop} {v : Value} {zss : List (List Int)} (h : Recs w G v zss) : ∀ j, v.ownBlock = some j → G j ∧ ∃ cur, w.heap[j]? = some (.cells cur 33 (0, 0)) := by
  obtain ⟨vs, h1, h2, h3, h4⟩ := h
  exact fun j hj => ⟨h2 j hj, h1.lt j hj⟩
theorem recs_none (w : World) (G : Nat → Prop) : Recs w G (.slice none 0 0) [] := ⟨[], ⟨rfl, .inl ⟨rfl, rfl⟩⟩, fun j hj => by simp [Value.ownBlock] at hj, rfl, fun i u z hu => by simp at hu⟩

/-- a segment: its first number, the slice of its records, these -/
structure Seg where
  first : Nat
  v : Value
  recs : List (List Int)
def Seg.sg (e : Seg) : Sg := ⟨e.first, e.recs⟩
def Seg.cells (e : Seg) : List Value := [.int .u64 (e.first : Int), e.v]
def cellsS (E : List Seg) : List Value := E.flatMap Seg.cells
theorem cellsS_len (E : List Seg) : (cellsS E).length = E.length * 2 := by
  induction E with
  | nil => rfl
  | cons e r ih => simp only [cellsS, List.flatMap_cons, List.length_append, List.length_cons] at *; simp only [Seg.cells, List.length_cons, List.length_nil]; omega
theorem cellsS_append (a b : List Seg) : cellsS (a ++ b) = cellsS a ++ cellsS b := by simp [cellsS]
theorem cellsS_at {E : List Seg} : ∀ {i : Nat} {e : Seg}, E[i]? = some e → (cellsS E)[i * 2]? = some (.int .u64 (e.first : Int)) ∧ (cellsS E)[i * 2 + 1]? = some e.v := by
  induction E with
  | nil => intro i e h; simp at h
  | cons x r ih =>
    intro i e h
    cases i with
    | zero => simp at h; subst h; exact ⟨rfl, rfl⟩
    | succ i =>
      simp only [List.getElem?_cons_succ] at h
      have := ih h
      have hc : cellsS (x :: r) = .int .u64 (x.first : Int) :: x.v :: cellsS r := rfl
      rw [hc, show (i + 1) * 2 = i * 2 + 1 + 1 by omega, show i * 2 + 1 + 1 + 1 = i * 2 + 1 + 1 + 1 from rfl]
      simp only [List.getElem?_cons_succ]
      exact this
theorem cellsS_take (E : List Seg) (k : Nat) : (cellsS E).take (k * 2) = cellsS (E.take k) := by
  induction E generalizing k with
  | nil => simp [cellsS]
  | cons x r ih =>
    cases k with
    | zero => simp [cellsS]
    | succ k =>
      have hc : cellsS (x :: r) = .int .u64 (x.first : Int) :: x.v :: cellsS r := rfl
      rw [hc, show (k + 1) * 2 = k * 2 + 1 + 1 by omega, List.take_succ_cons, List.take_succ_cons, ih k]; rfl
theorem cellsS_drop (E : List Seg) (k : Nat) : (cellsS E).drop (k * 2) = cellsS (E.drop k) := by
  induction E generalizing k with
  | nil => simp [cellsS]
  | cons x r ih =>
    cases k with
    | zero => simp
    | succ k =>
      have hc : cellsS (x :: r) = .int .u64 (x.first : Int) :: x.v :: cellsS r := rfl
      rw [hc, show (k + 1) * 2 = k * 2 + 1 + 1 by omega, List.drop_succ_cons, List.drop_succ_cons, ih k]; rfl

/-- segments in memory -/
structure SegM (w : World) (G : Nat → Prop) (sv : Value) (E : List Seg) : Prop where
  own : OwnSl w 82 2 sv E.length (cellsS E)
  blk : ∀ j, sv.ownBlock = some j → G j
  recs : ∀ e ∈ E, Recs w G e.v e.recs
  apart : E.Pairwise (fun x y => ∀ j, x.v.ownBlock = some j → y.v.ownBlock ≠ some j)
theorem SegM.turn {F G : Nat → Prop} {w w' : World} {sv : Value} {E : List Seg} (h : SegM w G sv E) (T : Turn F w w') (hF : ∀ j, G j → ¬ F j) : SegM w' G sv E :=
  ⟨h.own.turn T (fun k hk => hF k (h.blk k hk)), h.blk, fun e he => (h.recs e he).turn T hF, h.apart⟩
theorem SegM.mono {G G' : Nat → Prop} {w : World} {sv : Value} {E : List Seg} (h : SegM w G sv E) (hG : ∀ j, G j → j < w.heap.size → G' j) : SegM w G' sv E :=
  ⟨h.own, fun j hj => hG j (h.blk j hj) (by obtain ⟨cur, hc⟩ := h.own.lt j hj; exact (Array.getElem?_eq_some_iff.1 hc).1), fun e he => (h.recs e he).mono hG, h.apart⟩
theorem segM_none (w : World) (G : Nat → Prop) : SegM w G (.slice none 0 0) [] := ⟨⟨rfl, .inl ⟨rfl, rfl⟩⟩, fun j hj => by simp [Value.ownBlock] at hj, fun e he => (by cases he), List.Pairwise.nil⟩
theorem SegM.slice {w : World} {G : Nat → Prop} {sv : Value} {E : List Seg} (h : SegM w G sv E) : ∃ a c, sv = .slice a E.length c := by
  rcases h.own.2 with ⟨rfl, h0⟩ | ⟨g, off, cap, cur, rfl, _⟩
  · exact ⟨_, _, by rw [h0]⟩
  · exact ⟨_, _, rfl⟩
/-- where the segment at a place lies -/
theorem SegM.at {w : World} {G : Nat → Prop} {sv : Value} {E : List Seg} (h : SegM w G sv E) (i : Nat) (e : Seg) (he : E[i]? = some e) :
    ∃ g off cap, sv = .slice (some ⟨g, off, none⟩) E.length cap ∧ E.length ≤ cap ∧ G g ∧ w.cell? ⟨g, off + i * 2, none⟩ = some (.int .u64 (e.first : Int)) ∧ w.cell? ⟨g, off + i * 2 + 1, none⟩ = some e.v ∧ w.frozen? ⟨g, off + i * 2 + 1, none⟩ = false := by
  have hi : i < E.length := (List.getElem?_eq_some_iff.1 he).1
  have ho := h.own
  rcases h.own.2 with ⟨rfl, h0⟩ | ⟨g, off, cap, cur, rfl, hg, hn, _, hs, _⟩
  · omega
  · obtain ⟨c0, c1⟩ := cellsS_at he
    refine ⟨g, off, cap, rfl, hn, h.blk g rfl, ho.cells _ _ c0, by rw [Nat.add_assoc]; exact ho.cells _ _ c1, frozen_obj hg _⟩

/-- a journal in memory: at block J, over the disk at block D -/
structure JMem (w : World) (G : Nat → Prop) (J D : Nat) (sv : Value) (E : List Seg) (X : Jn) : Prop where
  obj : w.heap[J]? = some (.cells #[.pointer (some ⟨D, 0, none⟩), .int .i64 (X.most : Int), sv, .int .i64 (X.settled : Int), .bool X.down] 79 (0, 0))
  home : G J
  seg : SegM w G sv E
  segs : X.segs = E.map Seg.sg
theorem JMem.turn {F G : Nat → Prop} {w w' : World} {J D : Nat} {sv : Value} {E : List Seg} {X : Jn} (h : JMem w G J D sv E X) (T : Turn F w w') (hF : ∀ j, G j → ¬ F j) : JMem w' G J D sv E X :=
  ⟨T.same h.obj (hF J h.home), h.home, h.seg.turn T hF, h.segs⟩
theorem JMem.mono {G G' : Nat → Prop} {w : World} {J D : Nat} {sv : Value} {E : List Seg} {X : Jn} (h : JMem w G J D sv E X) (hG : ∀ j, G j → j < w.heap.size → G' j) : JMem w G' J D sv E X :=
  ⟨h.obj, hG J h.home (Array.getElem?_eq_some_iff.1 h.obj).1, h.seg.mono hG, h.segs⟩
/-- the journal and its disk, in blocks of H -/
def JAt (w : World) (H : Nat → Prop) (J D : Nat) (X : Jn) (S : Dk) : Prop :=
  ∃ F G sv E, DAt w D F S ∧ JMem w G J D sv E X ∧ (∀ j, F j → ¬ G j) ∧ (∀ j, F j → H j ∧ j < w.heap.size) ∧ (∀ j, G j → H j ∧ j < w.heap.size)
theorem JAt.turn {A H : Nat → Prop} {w w' : World} {J D : Nat} {X : Jn} {S : Dk} (h : JAt w H J D X S) (T : Turn A w w') (hA : ∀ j, H j → ¬ A j) : JAt w' H J D X S := by
  obtain ⟨F, G, sv, E, d, m, hn, hF, hG⟩ := h
  have hs := T.size
  exact ⟨F, G, sv, E, d.turn T (fun j hj _ => hA j (hF j hj).1), m.turn T (fun j hj => hA j (hG j hj).1), hn, fun j hj => ⟨(hF j hj).1, by have := (hF j hj).2; omega⟩, fun j hj => ⟨(hG j hj).1, by have := (hG j hj).2; omega⟩⟩
theorem JAt.mono {H H' : Nat → Prop} {w : World} {J D : Nat} {X : Jn} {S : Dk} (h : JAt w H J D X S) (hH : ∀ j, H j → j < w.heap.size → H' j) : JAt w H' J D X S := by
  obtain ⟨F, G, sv, E, d, m, hn, hF, hG⟩ := h
  exact ⟨F, G, sv, E, d, m, hn, fun j hj => ⟨hH j (hF j hj).1 (hF j hj).2, (hF j hj).2⟩, fun j hj => ⟨hH j (hG j hj).1 (hG j hj).2, (hG j hj).2⟩⟩
theorem JAt.nf {H : Nat → Prop} {w w1 w2 : World} {J D : Nat} {X : Jn} {S : Dk} (h : JAt w2 (NF w1 (NF w H)) J D X S) (hs : w.heap.size ≤ w1.heap.size) : JAt w2 (NF w H) J D X S :=
  h.mono (fun j hj _ => by rcases hj with hj | hj; exact hj; exact .inr (by omega))
theorem JAt.well {H : Nat → Prop} {w : World} {J D : Nat} {X : Jn} {S : Dk} (h : JAt w H J D X S) : Well S := by
  obtain ⟨F, G, sv, E, d, m, _⟩ := h; exact d.well
/-- a disk's call done, beside a journal -/
theorem disk_done {H F G : Nat → Prop} {w w' : World} {J D : Nat} {sv : Value} {E : List Seg} {X : Jn} {S' : Dk} (T : Turn F w w') (d : DAt w' D (NF w F) S') (m : JMem w G J D sv E X) (hn : ∀ j, F j → ¬ G j) (hF : ∀ j, F j → H j ∧ j < w.heap.size) (hG : ∀ j, G j → H j ∧ j < w.heap.size) :
    JAt w' (NF w H) J D X S' := by
  have hs := T.size
  refine ⟨fun j => NF w F j ∧ j < w'.heap.size, G, sv, E, d.mono (fun j hj hl => ⟨hj, hl⟩), m.turn T (fun j hg hf => hn j hf hg), ?_, ?_, ?_⟩
  · rintro j ⟨hj | hj, _⟩ hg
    · exact hn j hj hg
    · have := (hG j hg).2; omega
  · rintro j ⟨hj | hj, hl⟩
    · exact ⟨.inl (hF j hj).1, hl⟩
    · exact ⟨.inr hj, hl⟩
  · intro j hj
    exact ⟨.inl (hG j hj).1, by have := (hG j hj).2; omega⟩

/-- what every walk asks of a journal's numbers -/
structure Fit (X : Jn) : Prop where
  first : ∀ s ∈ X.segs, s.first < 100 ∧ s.recs.length ≤ 1000000
  segs : X.segs.length ≤ 1000000
  settled : X.settled ≤ X.segs.length
  most : X.most ≤ 1000
end Go.Proofs.YthikiahhochjmaaGreatDoor
