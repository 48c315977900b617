/- Numbers as bytes, and a reader that takes one: code's calls that slots lean on. -/
import Derived.Test.YtmmlannnpndkcaaSBase
namespace Go.Proofs.Ytmmlannnpndkcaa
open Go.RowKit
set_option linter.unusedVariables false

set_option maxRecDepth 100000 in
theorem byte_high (u : Nat) (h : 128 ≤ u) : bits .or .u8 ((u : Int) % 256) 128 = ((u % 128 + 128 : Nat) : Int) := by
  have e : (u : Int) % 256 = ((u % 256 : Nat) : Int) := by omega
  have h2 : u % 256 < 256 := Nat.mod_lt _ (by omega)
  rw [e, show (128 : Int) = ((128 : Nat) : Int) from rfl, u8_or_nat _ _ h2 (by omega)]
  have key : ∀ n : Fin 256, (n.val ||| 128) = n.val % 128 + 128 := by decide
  have := key ⟨u % 256, h2⟩
  simp only at this
  rw [this]
  omega
theorem byte_low (u : Nat) (h : u < 128) : (u : Int) % 256 = (u : Int) := by omega

set_option maxRecDepth 100000 in
set_option maxHeartbeats 1000000 in
theorem num_walk (v : Nat) (w : World) (hv : v < 18446744073709551616) :
    Calls Try.prog 59 #[.int .u64 (v : Int)] w fun e w' => ∃ x, e = .returned x ∧ w'.ownsRow w.heap.size 5 1 x (numB v).length ((numB v).map (Value.int .u8)) ∧ Below w.heap.size w w' := by
  obtain ⟨i0, hi, hz0, hz1, hz2⟩ := info_parts info_u8
  have H10 := hide (numB_ten v hv)
  go_enter Try.func59, Try.ntmps59
  go_wp2_with (at_make; refine wpList_make_own _ rfl _ _ 22 rfl w.heap.size 5 i0 (.int .u8 0) 1 Try.underlying22 hi hz0 hz1 .i64 .i64 _ 10 rfl rfl (by omega) (by rw [hz2]; omega) (by unfold maxLen; omega) (Nat.le_refl _) ?_; intro w1 hown1 hgrow1)
  have hb1 : Below w.heap.size w w1 := below_grown hgrow1 (Nat.le_refl _) (fun k h => by cases h)
  clear hgrow1
  go_loopw [0, 3] (fun a s wr => ∃ (u : Nat) (ys : List Int), a = .int .u64 (u : Int) ∧ u < 18446744073709551616 ∧ wr.ownsRow w.heap.size 5 1 s ys.length (ys.map (Value.int .u8)) ∧ Below w.heap.size w wr ∧ Hid (numB v = ys ++ numB u)) (fun a _ _ => (intOf a).toNat)
  case atStart => exact ⟨v, [], rfl, hv, hown1, hb1, hide (by simp)⟩
  case round =>
    obtain ⟨u, ys, rfl, hu, hown, hbel, hq⟩ := hrel
    have hyl : ys.length + 1 ≤ 10 := by
      have h1 := unhide H10
      rw [unhide hq, List.length_append] at h1
      have := numB_pos u
      omega
    by_cases h128 : 128 ≤ u
    · have hbyte := byte_high u h128
      have hq2 : Hid (numB v = (ys ++ [((u % 128 + 128 : Nat) : Int)]) ++ numB (u / 128)) := by
        refine hide ?_
        rw [unhide hq, numB_high h128]; simp
      generalize hB : u % 128 + 128 = B at *
      clear hB
      have hone := one_new wr 5 (.int .u8 (B : Int))
      go_wp2_with (at_builtin; refine wpList_append_own _ rfl _ _ 22 rfl w.heap.size 5 i0 (.int .u8 0) 1 1 Try.underlying22 hi hz0 hz1 hz2 rfl (by decide) _ _ _ rfl (hown.alloc _) ⟨wr.heap.size, 0, none⟩ 1 1 [.int .u8 (B : Int)] rfl rfl hone (fun u hu => by simp at hu; subst hu; rfl) (by unfold maxLen; omega) (by omega) (by have := hbel.size; simp; omega) ?_)
      intro s' w2 hown2 hgrow2 _
      have hbel2 : Below w.heap.size w w2 := (hbel.alloc hbel.size _).grown hgrow2 (by have := hbel.size; simp; omega) (own_base hown)
      have hown3 : w2.ownsRow w.heap.size 5 1 s' (ys ++ [(B : Int)]).length ((ys ++ [(B : Int)]).map (Value.int .u8)) := by rw [List.map_append, List.length_append]; exact hown2
      clear hown2 hgrow2 hown hone hq
      go_wp2
      exact ⟨⟨u / 128, ys ++ [(B : Int)], by go_num, by omega, hown3, hbel2, hq2⟩, by simp [intOf]; omega⟩
    · have hbyte := byte_low u (by omega)
      have hq2 : Hid (numB v = ys ++ [(u : Int)]) := by
        refine hide ?_
        rw [unhide hq, numB_low (by omega)]
      have hone := one_new wr 5 (.int .u8 (u : Int))
      go_wp2_with (at_builtin; refine wpList_append_own _ rfl _ _ 22 rfl w.heap.size 5 i0 (.int .u8 0) 1 1 Try.underlying22 hi hz0 hz1 hz2 rfl (by decide) _ _ _ rfl (hown.alloc _) ⟨wr.heap.size, 0, none⟩ 1 1 [.int .u8 (u : Int)] rfl rfl hone (fun u hu => by simp at hu; subst hu; rfl) (by unfold maxLen; omega) (by omega) (by have := hbel.size; simp; omega) ?_)
      intro s' w2 hown2 hgrow2 _
      have hbel2 : Below w.heap.size w w2 := (hbel.alloc hbel.size _).grown hgrow2 (by have := hbel.size; simp; omega) (own_base hown)
      have hown3 : w2.ownsRow w.heap.size 5 1 s' (numB v).length ((numB v).map (Value.int .u8)) := by rw [unhide hq2, List.map_append, List.length_append]; exact hown2
      clear hown2 hgrow2 hown hone hq hq2
      go_wp2
      go_ret
      exact ⟨s', rfl, hown3, hbel2⟩
theorem pow128 (k : Nat) : (2 : Int) ^ (7 * k) = ((128 ^ k : Nat) : Int) := by
  rw [Int.pow_mul]; push_cast; rfl

set_option maxRecDepth 100000 in
theorem seven (x : Int) (h0 : 0 ≤ x) (h1 : x < 256) : bits .andNot .u8 x 128 = ((x.toNat % 128 : Nat) : Int) := by
  obtain ⟨n, rfl⟩ := Int.eq_ofNat_of_zero_le h0
  rw [show (128 : Int) = ((128 : Nat) : Int) from rfl, u8_andNot_nat _ _ (by omega) (by omega)]
  have key : ∀ n : Fin 256, (n.val &&& (255 - 128)) = n.val % 128 := by decide
  have := key ⟨n, by omega⟩
  simp only at this
  rw [this]; simp

theorem or_more (v d k : Nat) (hk : k ≤ 9) (hv : v < 128 ^ k) (hd : d * 128 ^ k < 18446744073709551616) (hd7 : d < 128) :
    bits .or .u64 (v : Int) (IntKind.u64.wrap (IntKind.u64.wrap (d : Int) * 2 ^ (7 * k))) = ((v + d * 128 ^ k : Nat) : Int) := by
  have hp := pow_le9 hk
  have e : (d : Int) * 2 ^ (7 * k) = ((d * 128 ^ k : Nat) : Int) := by rw [pow128]; push_cast; rfl
  rw [show IntKind.u64.wrap (d : Int) = (d : Int) by rw [IntKind.wrap_u64]; omega, e, IntKind.wrap_u64, show (((d * 128 ^ k : Nat) : Int) % 18446744073709551616) = ((d * 128 ^ k : Nat) : Int) by omega, u64_or_nat _ _ (by omega) hd, Nat.or_comm]
  have hj := nat_join (7 * k) (d * 128 ^ k) v (by rw [show (128 : Nat) ^ k = 2 ^ (7 * k) by rw [Nat.pow_mul]]; exact Nat.mul_mod_left _ _) (by rw [Nat.pow_mul]; exact hv)
  rw [hj]; push_cast; omega

theorem more_lt (v d k : Nat) (hv : v < 128 ^ k) (hd : d < 128) : v + d * 128 ^ k < 128 ^ (k + 1) := by
  rw [Nat.pow_succ, Nat.mul_comm (128 ^ k) 128]
  have : d * 128 ^ k + 128 ^ k ≤ 128 * 128 ^ k := by
    rw [← Nat.succ_mul]; exact Nat.mul_le_mul_right _ (by omega)
  omega

theorem dec_step (k v : Nat) (x : Int) (r : List Int) (h9 : ¬ (k = 9 ∧ 1 < x)) (hx : 128 ≤ x) : dec k v (x :: r) = dec (k + 1) (v + x.toNat % 128 * 128 ^ k) r := by
  show (if _ then _ else _) = _
  rw [if_neg h9, if_pos hx]
theorem dec_big (k v : Nat) (x : Int) (r : List Int) (h9 : k = 9 ∧ 1 < x) : dec k v (x :: r) = (0, 0, 10) := by
  show (if _ then _ else _) = _
  rw [if_pos h9]
theorem dec_twice (k v : Nat) (x : Int) (r : List Int) (hx : x = 0) (hk : 0 < k) : dec k v (x :: r) = (0, 0, 10) := by
  show (if _ then _ else _) = _
  rw [if_neg (by omega), if_neg (by omega), if_pos ⟨hx, hk⟩]
theorem dec_last (k v : Nat) (x : Int) (r : List Int) (h9 : ¬ (k = 9 ∧ 1 < x)) (hx : x < 128) (h0 : ¬ (x = 0 ∧ 0 < k)) (hx0 : 0 ≤ x) : dec k v (x :: r) = (v + x.toNat % 128 * 128 ^ k, k + 1, 0) := by
  show (if _ then _ else _) = _
  rw [if_neg h9, if_neg (by omega), if_neg h0, show x.toNat % 128 = x.toNat by omega]

theorem digit_fits (k : Nat) (x : Int) (hk : k ≤ 9) (h9 : ¬ (k = 9 ∧ 1 < x)) (h0 : 0 ≤ x) (h1 : x < 256) : x.toNat % 128 * 128 ^ k < 18446744073709551616 := by
  rcases Nat.lt_or_ge k 9 with h | h
  · exact Nat.lt_of_le_of_lt (Nat.mul_le_mul (show x.toNat % 128 ≤ 127 by omega) (pow_le8 (show k ≤ 8 by omega))) (by decide)
  · obtain rfl : k = 9 := by omega
    rw [pow9]; omega

theorem ret3 {a b c a' b' c' : Int} (h : a = a') (h' : b = b') (h'' : c = c') : Ending.returned (.tuple #[.int .u64 a, .int .i64 b, .int .i64 c]) = .returned (.tuple #[.int .u64 a', .int .i64 b', .int .i64 c']) := by rw [h, h', h'']

set_option maxRecDepth 100000 in
set_option maxHeartbeats 1000000 in
theorem number_some (b off c : Nat) (zs : List Int) (w : World) (hb : Bytes zs) (hm : zs.length ≤ maxLen) (hc : Cells .u8 w b off zs) :
    Calls Try.prog 64 #[.slice (some ⟨b, off, none⟩) zs.length c] w fun e w' => e = .returned (.tuple #[.int .u64 ((dec 0 0 zs).1 : Nat), .int .i64 ((dec 0 0 zs).2.1 : Nat), .int .i64 (dec 0 0 zs).2.2]) ∧ w' = w := by
  unfold maxLen at hm
  go_enter Try.func64, Try.ntmps64
  go_wp2_with fail
  go_loop [5, 10] (fun a i => ∃ (k v : Nat), a = .int .u64 (v : Int) ∧ i = .int .i64 (k : Int) ∧ k ≤ 9 ∧ k ≤ zs.length ∧ Hid (v < 128 ^ k ∧ dec 0 0 zs = dec k v (zs.drop k))) (fun _ i => zs.length - (intOf i).toNat)
  case atStart => exact ⟨0, 0, rfl, rfl, by omega, by omega, hide ⟨by simp, by simp⟩⟩
  case round =>
    obtain ⟨k, v, rfl, rfl, hk9, hkl, hq⟩ := hrel
    by_cases hlt : k < zs.length
    · have hcell := hc k hlt
      have hx := getD_byte hb hlt
      have hdr := drop_cons zs k hlt
      have hq2 := unhide hq
      rw [hdr] at hq2
      have Hq := hide hq2
      clear hq hdr hq2
      generalize zs.getD k 0 = x at *
      obtain ⟨hx0, hx1⟩ := hx
      by_cases h9 : k = 9 ∧ 1 < x
      · have Hd : Hid (dec 0 0 zs = (0, 0, 10)) := hide ((unhide Hq).2.trans (dec_big k v x _ h9))
        obtain ⟨rfl, h9x⟩ := h9
        clear Hq
        go_wp2
        go_ret3
        rw [unhide Hd]
        exact ⟨rfl, rfl⟩
      · have hs := seven x hx0 hx1
        have ho := or_more v (x.toNat % 128) k hk9 (unhide Hq).1 (digit_fits k x hk9 h9 hx0 hx1) (Nat.mod_lt _ (by omega))
        have Hml := hide (more_lt v (x.toNat % 128) k (unhide Hq).1 (Nat.mod_lt _ (by omega)))
        have Hst : Hid (128 ≤ x → dec 0 0 zs = dec (k + 1) (v + x.toNat % 128 * 128 ^ k) (zs.drop (k + 1))) := hide (fun h => (unhide Hq).2.trans (dec_step k v x _ h9 h))
        have Hla : Hid (x < 128 → ¬ (x = 0 ∧ 0 < k) → dec 0 0 zs = (v + x.toNat % 128 * 128 ^ k, k + 1, 0)) := hide (fun h h' => (unhide Hq).2.trans (dec_last k v x _ h9 h h' hx0))
        have Htw : Hid (x = 0 → 0 < k → dec 0 0 zs = (0, 0, 10)) := hide (fun h h' => (unhide Hq).2.trans (dec_twice k v x _ h h'))
        have h99 : k = 9 → x ≤ 1 := by omega
        clear Hq h9
        generalize v + x.toNat % 128 * 128 ^ k = V at *
        generalize x.toNat % 128 = d at *
        have ho9 : k = 9 → bits .or .u64 (v : Int) (IntKind.u64.wrap (IntKind.u64.wrap (d : Int) * 9223372036854775808)) = (V : Int) := by
          rintro rfl; exact ho
        by_cases hk : k = 9
        · subst hk
          have hx2 := h99 rfl
          have ho9' := ho9 rfl
          clear h99 ho9 ho
          by_cases h0 : x = 0
          · have Hd := hide (unhide Htw h0 (by omega))
            clear Htw Hla Hst
            subst h0
            go_wp2
            go_ret3
            rw [unhide Hd]
            exact ⟨rfl, rfl⟩
          · have Hd := hide (unhide Hla (by omega) (by omega))
            clear Htw Hla Hst
            obtain rfl : x = 1 := by omega
            go_wp2
            go_ret3
            rw [unhide Hd]
            exact ⟨ret3 rfl rfl rfl, rfl⟩
        · have hk8 : k < 9 := by omega
          clear h99 ho9
          by_cases h128 : 128 ≤ x
          · have Hd := hide (unhide Hst h128)
            clear Htw Hla Hst
            go_wp2
            exact ⟨⟨k + 1, V, rfl, by go_num, by omega, by omega, hide ⟨unhide Hml, unhide Hd⟩⟩, by simp [intOf]; omega⟩
          · by_cases h0 : x = 0
            · by_cases hk0 : 0 < k
              · have Hd := hide (unhide Htw h0 hk0)
                clear Htw Hla Hst
                subst h0
                go_wp2
                go_ret3
                rw [unhide Hd]
                exact ⟨rfl, rfl⟩
              · have Hd := hide (unhide Hla (by omega) (by omega))
                clear Htw Hla Hst
                obtain rfl : k = 0 := by omega
                subst h0
                rw [Nat.add_zero] at hcell
                simp only [Nat.mul_zero, Int.pow_zero, Int.mul_one] at ho
                go_wp2
                go_ret3
                rw [unhide Hd]
                exact ⟨ret3 rfl rfl rfl, rfl⟩
            · have Hd := hide (unhide Hla (by omega) (by omega))
              clear Htw Hla Hst
              go_wp2
              go_ret3
              rw [unhide Hd]
              exact ⟨ret3 rfl (show (k : Int) + 1 = ((k + 1 : Nat) : Int) by omega) rfl, rfl⟩
    · have Hd : Hid (dec 0 0 zs = (0, 0, 9)) := by
        refine hide ?_
        rw [(unhide hq).2, List.drop_of_length_le (by omega)]; rfl
      clear hq
      go_wp2
      go_ret3
      rw [unhide Hd]
      exact ⟨rfl, rfl⟩
set_option maxRecDepth 100000 in
set_option maxHeartbeats 400000 in
theorem number_none (a : Option Addr) (c : Nat) (w : World) :
    Calls Try.prog 64 #[.slice a 0 c] w fun e w' => e = .returned (.tuple #[.int .u64 ((dec 0 0 []).1 : Nat), .int .i64 ((dec 0 0 []).2.1 : Nat), .int .i64 (dec 0 0 []).2.2]) ∧ w' = w := by
  go_enter Try.func64, Try.ntmps64
  go_wp2_with fail
  refine wp_loop_rounds 1 ?_; rw [rounds_succ]
  go_wp2
  go_ret3
  exact ⟨rfl, rfl⟩
theorem number_any (B : Nat → Prop) (v : Value) (zs : List Int) (w : World) (hb : Bytes zs) (hr : Row .u8 B w v zs) :
    Calls Try.prog 64 #[v] w fun e w' => e = .returned (.tuple #[.int .u64 ((dec 0 0 zs).1 : Nat), .int .i64 ((dec 0 0 zs).2.1 : Nat), .int .i64 (dec 0 0 zs).2.2]) ∧ w' = w := by
  rcases hr with ⟨a, c, rfl, hn, _, rfl⟩ | ⟨b, off, c, rfl, h1, h2, h3, h4⟩
  · exact number_none a c w
  · exact number_some b off c zs w hb (by omega) h4

/-- a reader in block p that has these bytes behind its place, in a row in a block of B, and this fault -/
def RD (B : Nat → Prop) (w : World) (p : Nat) (zs : List Int) (e : Int) : Prop :=
  ∃ x, w.heap[p]? = some (.cells #[x, .int .i64 e] 87 (0, 0)) ∧ Row .u8 B w x zs ∧ ¬ B p
def only (p : Nat) : Nat → Prop := fun k => k = p

theorem RD.turn {B F : Nat → Prop} {w w' : World} {p : Nat} {zs : List Int} {e : Int} (h : RD B w p zs e) (ht : Turn F w w') (hp : ¬ F p) (hB : ∀ b, B b → ¬ F b) : RD B w' p zs e := by
  obtain ⟨x, h1, h2, h3⟩ := h
  exact ⟨x, (ht.block p (Array.getElem?_eq_some_iff.1 h1).1 hp).trans h1, h2.turn ht hB, h3⟩

theorem turn_set (w : World) (p j : Nat) (u : Value) : Turn (only p) w (w.setCell ⟨p, j, none⟩ u) := Turn.setCell (F := only p) (Turn.refl _ w) (p := ⟨p, j, none⟩) (.inl rfl) u
theorem RD.rest {B : Nat → Prop} {w : World} {p : Nat} {x : Value} {zs' : List Int} {e : Int} (h : w.heap[p]? = some (.cells #[x, .int .i64 e] 87 (0, 0))) (hp : ¬ B p) {x' : Value} (hr : Row .u8 B w x' zs') : RD B (w.setCell ⟨p, 0, none⟩ x') p zs' e :=
  ⟨x', heap_setCell_obj h x', hr.turn (turn_set w p 0 x') (fun b hb e => hp (by cases e; exact hb)), hp⟩
theorem RD.fault {B : Nat → Prop} {w : World} {p : Nat} {x : Value} {zs : List Int} {e : Int} (h : w.heap[p]? = some (.cells #[x, .int .i64 e] 87 (0, 0))) (hp : ¬ B p) (hr : Row .u8 B w x zs) (e' : Int) : RD B (w.setCell ⟨p, 1, none⟩ (.int .i64 e')) p zs e' :=
  ⟨x, heap_setCell_obj h _, hr.turn (turn_set w p 1 _) (fun b hb e => hp (by cases e; exact hb)), hp⟩

theorem dec_fault0 {zs : List Int} (h : (dec 0 0 zs).2.2 ≠ 0) : dec 0 0 zs = (0, 0, (dec 0 0 zs).2.2) := dec_fault zs 0 0 h

theorem smallT_e {m : Nat} {r : List Int} {e : Int} (h : e ≠ 0) : smallT m r e = (0, r, e) := by unfold smallT; rw [if_pos h]
theorem smallT_f {m : Nat} {r : List Int} {f : Int} (hd : dec 0 0 r = (0, 0, f)) (h : f ≠ 0) : smallT m r 0 = (0, r, f) := by
  unfold smallT; rw [if_neg (by simp), hd, if_pos h]
theorem smallT_m {m : Nat} {r : List Int} {v n : Nat} (hd : dec 0 0 r = (v, n, 0)) (h : m < v) : smallT m r 0 = (0, r, 10) := by
  unfold smallT; rw [if_neg (by simp), hd, if_neg (by simp), if_pos h]
theorem smallT_k {m : Nat} {r : List Int} {v n : Nat} (hd : dec 0 0 r = (v, n, 0)) (h : v ≤ m) : smallT m r 0 = (v, r.drop n, 0) := by
  unfold smallT; rw [if_neg (by simp), hd, if_neg (by simp), if_neg (show ¬ m < v by omega)]

set_option maxRecDepth 100000 in
set_option maxHeartbeats 1000000 in
theorem rtake_walk (B : Nat → Prop) (p : Nat) (zs : List Int) (e : Int) (m : Nat) (w : World) (hr : RD B w p zs e) (hb : Bytes zs) (hm : m < 18446744073709551616) :
    Calls Try.prog 61 #[.pointer (some ⟨p, 0, none⟩), .int .u64 (m : Int)] w fun en w' => en = .returned (.int .u64 ((smallT m zs e).1 : Nat)) ∧ RD B w' p (smallT m zs e).2.1 (smallT m zs e).2.2 ∧ Turn (only p) w w' := by
  obtain ⟨x, hx, hrow, hp⟩ := hr
  have hc0 : w.cell? ⟨p, 0, none⟩ = some x := cell_obj hx 0
  have hc1 : w.cell? ⟨p, 1, none⟩ = some (.int .i64 e) := cell_obj hx 1
  have hf0 := frozen_obj hx 0
  have hf1 := frozen_obj hx 1
  obtain ⟨i0, hi, hz0, hz1, hz2⟩ := info_parts info_u8
  by_cases he : e = 0
  · subst he
    obtain ⟨a, c, rfl⟩ := hrow.slice
    have hnum := number_any B _ zs w hb hrow
    generalize hd : dec 0 0 zs = D at hnum
    obtain ⟨v, n, f⟩ := D
    by_cases hf : f = 0
    · subst hf
      obtain ⟨h1, h2, h3, h4, h5⟩ := dec_ok hb hd
      have Hd := hide hd
      clear h1 hd
      by_cases hv : m < v
      · rw [smallT_m (unhide Hd) hv]
        go_enter Try.func61, Try.ntmps61
        go_wp2_with fail
        refine hnum.mono ?_
        rintro en w' ⟨rfl, hw⟩
        subst hw
        clear hnum
        go_wp2
        go_ret
        exact ⟨rfl, RD.fault hx hp hrow 10, turn_set _ _ _ _⟩
      · rw [smallT_k (unhide Hd) (show v ≤ m by omega)]
        obtain ⟨x', hrun, hrow'⟩ := cut_from (P := Try.prog) (ki := .i64) Try.underlying22 hi hz1 hrow n h3
        go_enter Try.func61, Try.ntmps61
        go_wp2_with fail
        refine hnum.mono ?_
        rintro en w' ⟨rfl, hw⟩
        subst hw
        clear hnum
        obtain ⟨a', c', rfl⟩ := hrow'.slice
        rw [List.length_drop] at hrow'
        go_wp2
        go_ret
        exact ⟨rfl, RD.rest hx hp hrow', turn_set _ _ _ _⟩
    · have hd2 := dec_fault0 (zs := zs) (by rw [hd]; exact hf)
      rw [hd] at hd2
      simp only [Prod.mk.injEq, and_true] at hd2
      obtain ⟨rfl, rfl⟩ := hd2
      rw [smallT_f hd hf]
      have Hd := hide hd
      clear hd
      go_enter Try.func61, Try.ntmps61
      go_wp2_with fail
      refine hnum.mono ?_
      rintro en w' ⟨rfl, hw⟩
      subst hw
      clear hnum
      go_wp2
      go_ret
      exact ⟨rfl, RD.fault hx hp hrow f, turn_set _ _ _ _⟩
  · rw [smallT_e he]
    go_enter Try.func61, Try.ntmps61
    go_wp2
    go_ret
    exact ⟨rfl, ⟨x, hx, hrow, hp⟩, Turn.refl _ _⟩
def wide : Nat := 18446744073709551615
theorem smallT_le (m : Nat) (zs : List Int) (e : Int) : (smallT m zs e).1 ≤ m := by
  unfold smallT
  generalize dec 0 0 zs = D
  obtain ⟨v, n, f⟩ := D
  by_cases h1 : e ≠ 0
  · rw [if_pos h1]; exact Nat.zero_le _
  rw [if_neg h1]
  by_cases h2 : f ≠ 0
  · rw [if_pos h2]; exact Nat.zero_le _
  rw [if_neg h2]
  by_cases h3 : m < v
  · rw [if_pos h3]; exact Nat.zero_le _
  rw [if_neg h3]
  exact Nat.le_of_not_lt h3


set_option maxRecDepth 100000 in
set_option maxHeartbeats 400000 in
theorem rleft_walk (B : Nat → Prop) (p : Nat) (zs : List Int) (e : Int) (w : World) (hr : RD B w p zs e) :
    Calls Try.prog 39 #[.pointer (some ⟨p, 0, none⟩)] w fun en w' => en = .returned (.int .i64 (zs.length : Nat)) ∧ w' = w := by
  obtain ⟨x, hx, hrow, hp⟩ := hr
  have hc0 : w.cell? ⟨p, 0, none⟩ = some x := cell_obj hx 0
  obtain ⟨a, c, rfl⟩ := hrow.slice
  go_enter Try.func39, Try.ntmps39
  go_wp2
  go_ret
  exact ⟨rfl, rfl⟩
def from_ (n : Nat) : Nat → Prop := fun b => n ≤ b
set_option maxRecDepth 100000 in
set_option maxHeartbeats 1000000 in
theorem clone_any (B : Nat → Prop) (v : Value) (zs : List Int) (w : World) (hr : Row .u8 B w v zs) (hl : zs.length ≤ 140737488355328) :
    Calls Try.prog 54 #[v] w fun e w' => ∃ x, e = .returned x ∧ Row .u8 (fun b => from_ w.heap.size b ∧ Free w' b) w' x zs ∧ Below w.heap.size w w' := by
  obtain ⟨i0, hi, hz0, hz1, hz2⟩ := info_parts info_u8
  have q : ∀ (w : World) (a : Option Addr) (n c n' c' : Nat), (binOp .eql 22 (.slice a n c) (.slice none n' c')).run Try.prog w = .ok (.bool a.isNone) w := fun w a n c n' c' => by cases a <;> rfl
  obtain ⟨a, c, rfl⟩ := hr.slice
  cases a with
  | none =>
    have h0 : zs = [] := by
      rcases hr with ⟨a, c, h, _, _, rfl⟩ | ⟨b, off, c, h, _⟩
      · rfl
      · simp at h
    subst h0
    go_enter Try.func54, Try.ntmps54
    go_wp2
    go_ret
    exact ⟨_, rfl, row_none _ _ _, Below.refl _ _⟩
  | some a =>
    have hown0 : (w.alloc (.cells #[] 5)).ownsRow w.heap.size 5 1 (.slice (some ⟨w.heap.size, 0, none⟩) 0 0) ([] : List Int).length (([] : List Int).map (Value.int .u8)) :=
      World.ownsRow_lit w #[] 0 (Nat.le_refl _) (Nat.zero_le _) rfl
    have hb0 : Below w.heap.size w (w.alloc (.cells #[] 5)) := (Below.refl _ _).alloc (Nat.le_refl _) _
    obtain ⟨x2, w2, hrun, hx2, hb2⟩ := append_row (P := Try.prog) (ty := 22) Try.underlying22 hi hz0 hz1 hz2 rfl hown0 (hr.below hb0) (by unfold maxLen; simp; omega) (by simp; omega) hb0.size
    go_enter Try.func54, Try.ntmps54
    go_wp2_with (at_builtin; refine list_append_run rfl _ _ 22 rfl _ _ _ _ rfl rfl hrun ?_)
    go_ret
    exact ⟨x2, rfl, row_of_owns_free hx2, hb0.trans hb2⟩

set_option maxRecDepth 100000 in
set_option maxHeartbeats 1000000 in
theorem new_walk (B : Nat → Prop) (v : Value) (zs : List Int) (w : World) (hr : Row .u8 B w v zs) (hl : zs.length ≤ 140737488355328) :
    Calls Try.prog 34 #[v] w fun e w' => ∃ p, e = .returned (.pointer (some ⟨p, 0, none⟩)) ∧ w.heap.size ≤ p ∧ p < w'.heap.size ∧ RD (fun b => w.heap.size ≤ b ∧ b < p) w' p zs 0 ∧ Below w.heap.size w w' := by
  go_enter Try.func34, Try.ntmps34
  go_wp2_with fail
  refine (clone_any B v zs _ hr hl).mono ?_
  rintro e w1 ⟨x, rfl, hx, hb⟩
  replace hx := hx.mono (B' := from_ w.heap.size) (fun b h => h.1)
  have hs := hb.size
  have hx2 := (hx.lt.below ((Below.refl _ w1).alloc (Nat.le_refl _) (.cells #[x, .int .i64 0] 87)))
  obtain ⟨a, c, rfl⟩ := hx.slice
  go_wp2
  go_ret
  exact ⟨w1.heap.size, rfl, hs, by simp, ⟨_, heap_alloc_new w1 _, hx2, fun h => by omega⟩, hb.alloc hs _⟩

end Go.Proofs.Ytmmlannnpndkcaa
