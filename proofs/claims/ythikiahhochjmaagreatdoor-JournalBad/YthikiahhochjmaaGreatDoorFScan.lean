/- Frames, one behind the other: Scan. -/
import Derived.Test.YthikiahhochjmaaGreatDoorFTake
namespace Go.Proofs.YthikiahhochjmaaGreatDoor
open Go.RowKit Go.Maps
set_option linter.unusedVariables false
set_option linter.unusedSimpArgs false

/-- a list of byte lists, all in memory that is new since so many blocks -/
def Lists (w : World) (base : Nat) (v : Value) (zss : List (List Int)) : Prop :=
  ∃ vs : List Value, OwnSl w 33 1 v vs.length vs ∧ (∀ j, v.ownBlock = some j → base ≤ j) ∧ vs.length = zss.length ∧
    ∀ (i : Nat) (u : Value) (z : List Int), vs[i]? = some u → zss[i]? = some z → OwnSl w 5 1 u z.length (z.map (Value.int .u8)) ∧ ∀ j, u.ownBlock = some j → base ≤ j

theorem Lists.turn {F : Nat → Prop} {w w' : World} {base : Nat} {v : Value} {zss : List (List Int)} (h : Lists w base v zss) (T : Turn F w w') (hF : ∀ j, base ≤ j → ¬ F j) : Lists w' base v zss := by
  obtain ⟨vs, h1, h2, h3, h4⟩ := h
  exact ⟨vs, h1.turn T (fun k hk => hF k (h2 k hk)), h2, h3, fun i u z hu hz => ⟨(h4 i u z hu hz).1.turn T (fun k hk => hF k ((h4 i u z hu hz).2 k hk)), (h4 i u z hu hz).2⟩⟩
theorem Lists.mono {w : World} {base base' : Nat} {v : Value} {zss : List (List Int)} (h : Lists w base v zss) (hb : base' ≤ base) : Lists w base' v zss := by
  obtain ⟨vs, h1, h2, h3, h4⟩ := h
  exact ⟨vs, h1, fun j hj => Nat.le_trans hb (h2 j hj), h3, fun i u z hu hz => ⟨(h4 i u z hu hz).1, fun j hj => Nat.le_trans hb ((h4 i u z hu hz).2 j hj)⟩⟩
theorem lists_none (w : World) (base : Nat) : Lists w base (.slice none 0 0) [] := ⟨[], ⟨rfl, .inl ⟨rfl, rfl⟩⟩, fun j hj => by simp [Value.ownBlock] at hj, rfl, fun i u z hu => by simp at hu⟩
theorem Lists.slice {w : World} {base : Nat} {v : Value} {zss : List (List Int)} (h : Lists w base v zss) : ∃ a c, v = .slice a zss.length c := by
  obtain ⟨vs, h1, h2, h3, h4⟩ := h
  rcases h1.2 with ⟨rfl, h0⟩ | ⟨g, off, cap, cur, rfl, _⟩
  · exact ⟨_, _, by rw [← h3, h0]⟩
  · exact ⟨_, _, by rw [h3]⟩
theorem OwnSl.form {w : World} {e : TypeId} {s : Nat} {v : Value} {n : Nat} {xs : List Value} (h : OwnSl w e s v n xs) : ∃ a c, v = .slice a n c := by
  rcases h.2 with ⟨rfl, rfl⟩ | ⟨g, off, cap, cur, rfl, _⟩
  · exact ⟨_, _, rfl⟩
  · exact ⟨_, _, rfl⟩
/-- the list at a place -/
theorem Lists.at {w : World} {base : Nat} {v : Value} {zss : List (List Int)} (h : Lists w base v zss) (i : Nat) (hi : i < zss.length) :
    ∃ g off cap u, v = .slice (some ⟨g, off, none⟩) zss.length cap ∧ w.cell? ⟨g, off + i, none⟩ = some u ∧ OwnSl w 5 1 u (zss[i]).length ((zss[i]).map (Value.int .u8)) ∧ ∀ j, u.ownBlock = some j → base ≤ j := by
  obtain ⟨vs, h1, h2, h3, h4⟩ := h
  have hu : vs[i]? = some (vs[i]'(by omega)) := by simp
  have := h4 i (vs[i]'(by omega)) (zss[i]) hu (by simp [hi])
  have h1' := h1
  rcases h1.2 with ⟨rfl, h0⟩ | ⟨g, off, cap, cur, rfl, _⟩
  · omega
  · exact ⟨g, off, cap, _, by rw [h3], h1'.cells i _ hu, this.1, this.2⟩

theorem info_sl : (Tryz.prog.info? 33).map (fun i => (i.zero, i.size, i.bytes)) = some (some (.slice none 0 0), 1, 24) := by kernel_rfl
/-- one list more behind -/
theorem Lists.push {w0 w1 : World} {base : Nat} {v x : Value} {zss : List (List Int)} {z : List Int} (T : Turn (fun _ => False) w0 w1) (hb : base = w0.heap.size) (h : Lists w1 base v zss) (hx : OwnSl w1 5 1 x z.length (z.map (Value.int .u8))) (hf : ∀ j, x.ownBlock = some j → base ≤ j) (hm : zss.length ≤ 1099511627776) :
    ∃ v' w2, (Builtin.append_ #[29, 29] 29 #[v, .slice (some ⟨w1.heap.size, 0, none⟩) 1 1]).run Tryz.prog (w1.alloc (.cells #[x] 33)) = .ok v' w2 ∧ Lists w2 base v' (zss ++ [z]) ∧ Turn (fun _ => False) w0 w2 := by
  subst hb
  obtain ⟨i0, hi, hz0, hz1, hz2⟩ := info_parts info_sl
  obtain ⟨vs, h1, h2, h3, h4⟩ := h
  have TA := (Turn.refl (fun _ => False) w1).alloc (.cells #[x] 33)
  have hs : Src 1 (w1.alloc (.cells #[x] 33)) (.slice (some ⟨w1.heap.size, 0, none⟩) 1 1) 1 [x] := ⟨rfl, .inr ⟨_, _, rfl, by omega, one_new w1 33 x⟩⟩
  obtain ⟨ax, cx, hxv⟩ := hx.form
  obtain ⟨v', w2, r1, r2, r3, r4⟩ := append_src (P := Tryz.prog) (ty := 29) Tryz.underlying29 hi hz0 hz1 hz2 rfl (by omega) (h1.turn TA (fun _ _ h => h)) hs (fun u hu => by simp at hu; subst hu; rw [hxv]; rfl) (by unfold maxLen; omega) (by omega)
  have keep : ∀ (u : Value) (y : List Int), OwnSl w1 5 1 u y.length (y.map (Value.int .u8)) → OwnSl w2 5 1 u y.length (y.map (Value.int .u8)) := fun u y hu => by
    have hA := hu.turn TA (fun _ _ h => h)
    refine hA.turn r3 (fun k hk he => ?_)
    obtain ⟨cur, hc⟩ := (h1.turn TA (fun _ _ h => h)).lt k he
    obtain ⟨cur', hc'⟩ := hA.lt k hk
    rw [hc] at hc'
    simp at hc'
  refine ⟨v', w2, r1, ⟨vs ++ [x], by simpa using r2, fun j hj => ?_, by simp [h3], fun i u y hu hy => ?_⟩, (T.then TA).trans r3 (fun j hj => .inr (h2 j hj))⟩
  · rcases r4 j hj with h | h
    · exact h2 j h
    · exact Nat.le_trans (T.then TA).size h
  · by_cases hlt : i < vs.length
    · rw [List.getElem?_append_left hlt] at hu
      rw [List.getElem?_append_left (by omega)] at hy
      have := h4 i u y hu hy
      exact ⟨keep u y this.1, this.2⟩
    · rw [List.getElem?_append_right (by omega)] at hu
      rw [List.getElem?_append_right (by omega)] at hy
      have hi0 : i - vs.length = 0 := by
        rcases Nat.eq_zero_or_pos (i - vs.length) with h | h
        · exact h
        · rw [List.getElem?_eq_none (by simp; omega)] at hu; cases hu
      rw [hi0] at hu
      rw [show i - zss.length = 0 by omega] at hy
      simp at hu hy
      subst hu hy
      exact ⟨keep _ _ hx, hf⟩

theorem from_u8 {w : World} {B : Nat → Prop} {x : Value} {zs : List Int} (h : Row .u8 B w x zs) (n : Nat) (hn : n ≤ zs.length) :
    ∃ x', (∀ u : World, (Instr.slice 33 x (some (.int .i64 (n : Int))) none none).run Tryz.prog u = .ok x' u) ∧ Row .u8 B w x' (zs.drop n) := by
  obtain ⟨i0, hi, hz0, hz1, hz2⟩ := info_parts info_u8
  exact cut_from Tryz.underlying33 hi hz1 h n hn

set_option maxHeartbeats 400000 in
theorem fault_walk (x : Int) (w : World) : Calls Tryz.prog 108 #[.int .i64 x] w fun e w' => e = .returned (.int .i64 (if x = 6 ∨ x = 9 then 0 else x)) ∧ w' = w := by
  by_cases h6 : x = 6
  · subst h6
    rw [if_pos (.inl rfl)]
    go_enter Tryz.func108, Tryz.ntmps108
    go_wp2
    go_ret
    exact ⟨rfl, rfl⟩
  by_cases h9 : x = 9
  · subst h9
    rw [if_pos (.inr rfl)]
    go_enter Tryz.func108, Tryz.ntmps108
    go_wp2
    go_ret
    exact ⟨rfl, rfl⟩
  rw [if_neg (by omega)]
  have n6 : (x == 6) = false := by simpa using h6
  have n9 : (x == 9) = false := by simpa using h9
  clear h6 h9
  go_enter Tryz.func108, Tryz.ntmps108
  go_wp2
  go_ret
  exact ⟨rfl, rfl⟩

theorem scan_stop {b : List Int} (h0 : (takeT b).2.2 ≠ 0) : scanT b = ([], 0, if (takeT b).2.2 = 6 ∨ (takeT b).2.2 = 9 then 0 else (takeT b).2.2) := by
  by_cases h : (takeT b).2.2 = 6 ∨ (takeT b).2.2 = 9
  · rw [if_pos h, scan_end h]
  · rw [if_neg h, scan_bad h0 (by omega) (by omega)]
/-- what is told so far, and what is left -/
def SoFar (zs : List Int) (D : List (List Int)) (n : Nat) : Prop := n ≤ zs.length ∧ 10 * D.length ≤ n ∧ scanT zs = (D ++ (scanT (zs.drop n)).1, n + (scanT (zs.drop n)).2.1, (scanT (zs.drop n)).2.2)
theorem soFar_none (zs : List Int) : SoFar zs [] 0 := ⟨by omega, by simp, by simp⟩
theorem SoFar.more {zs : List Int} {D : List (List Int)} {n : Nat} (h : SoFar zs D n) (h0 : (takeT (zs.drop n)).2.2 = 0) : SoFar zs (D ++ [(takeT (zs.drop n)).1]) (n + (takeT (zs.drop n)).2.1) ∧ 10 ≤ (takeT (zs.drop n)).2.1 := by
  obtain ⟨h1, h2, h3⟩ := h
  have ht : takeT (zs.drop n) = ((takeT (zs.drop n)).1, (takeT (zs.drop n)).2.1, 0) := by rw [← h0]
  have hb := take_bounds ht
  rw [List.length_drop] at hb
  refine ⟨⟨by omega, by simp; omega, ?_⟩, hb.1⟩
  rw [h3, scan_ok ht, List.drop_drop]
  simp [Nat.add_assoc]
theorem SoFar.stop {zs : List Int} {D : List (List Int)} {n : Nat} (h : SoFar zs D n) (h0 : (takeT (zs.drop n)).2.2 ≠ 0) : scanT zs = (D, n, if (takeT (zs.drop n)).2.2 = 6 ∨ (takeT (zs.drop n)).2.2 = 9 then 0 else (takeT (zs.drop n)).2.2) := by
  rw [h.2.2, scan_stop h0]; simp

set_option maxHeartbeats 2000000 in
theorem Scan_walk (B : Nat → Prop) (v : Value) (zs : List Int) (w : World) (hb : Bytes zs) (hz : zs.length ≤ 1099511627776) (hr : Row .u8 B w v zs) :
    Calls Tryz.prog 85 #[v] w fun e w' => ∃ x, e = .returned (.tuple #[x, .int .i64 (((scanT zs).2.1 : Nat) : Int), .int .i64 (scanT zs).2.2]) ∧ Lists w' w.heap.size x (scanT zs).1 ∧ Turn (fun _ => False) w w' := by
  obtain ⟨a, c, rfl⟩ := hr.slice
  have Hb := hide hb
  clear hb
  go_enter Tryz.func85, Tryz.ntmps85
  go_wp2_with fail
  go_loopw [5, 6] (fun s i wr => ∃ (n : Nat) (D : List (List Int)), i = .int .i64 (n : Int) ∧ Lists wr w.heap.size s D ∧ Turn (fun _ => False) w wr ∧ Hid (SoFar zs D n) ∧ n ≤ zs.length) (fun _ i _ => zs.length - (intOf i).toNat)
  case atStart => exact ⟨0, [], rfl, lists_none _ _, Turn.refl _ _, hide (soFar_none zs), Nat.zero_le _⟩
  case round =>
    obtain ⟨n, D, rfl, hL, hT, hS, hn⟩ := hrel
    obtain ⟨x', hx', hrow⟩ := from_u8 (hr.turn hT (fun _ _ h => h)) n hn
    obtain ⟨ad, cd, rfl⟩ := hL.slice
    go_wp2_with fail
    refine (Take_walk B x' (zs.drop n) _ ((unhide Hb).drop n) hrow).mono ?_
    rintro e w1 ⟨x, rfl, ho, hf, T1⟩
    have hL1 := hL.turn T1 (fun _ _ h => h)
    have hT1 := hT.then T1
    have hf1 : ∀ j, x.ownBlock = some j → w.heap.size ≤ j := fun j hj => Nat.le_trans hT.size (hf j hj)
    obtain ⟨ax, cx, rfl⟩ := ho.form
    by_cases h0 : (takeT (zs.drop n)).2.2 = 0
    · obtain ⟨hS2, h10⟩ := (unhide hS).more h0
      have hDl : D.length ≤ 1099511627776 := by have := (unhide hS).2.1; omega
      rw [h0]
      obtain ⟨v2, w2, hrun, hL2, hT2⟩ := Lists.push hT1 rfl hL1 ho hf1 hDl
      have hn2 := hS2.1
      have HS2 := hide hS2
      clear hS hS2 h0 ho hf hf1 hL hL1 hT hT1 T1 hx' hrow
      generalize (takeT (zs.drop n)).1 = Y at *
      generalize (takeT (zs.drop n)).2.1 = M at *
      go_wp2_with (at_builtin; refine list_append_run rfl _ _ 29 rfl _ _ _ _ rfl rfl hrun ?_)
      exact ⟨⟨n + M, D ++ [Y], by go_num, hL2, hT2, HS2, hn2⟩, by simp [intOf]; omega⟩
    · have hst := (unhide hS).stop h0
      have Hst := hide hst
      have hne : ((takeT (zs.drop n)).2.2 != 0) = true := by simpa using h0
      have hfw := fault_walk (takeT (zs.drop n)).2.2 w1
      clear hst h0 ho hf hf1 hL hS hx' hrow
      generalize (takeT (zs.drop n)).2.2 = E at *
      generalize (if E = 6 ∨ E = 9 then 0 else E) = E2 at *
      go_wp2_with fail
      refine hfw.mono ?_
      rintro e w2 ⟨rfl, rfl⟩
      go_wp2
      go_ret3
      rw [unhide Hst]
      exact ⟨_, rfl, hL1, hT1⟩
end Go.Proofs.YthikiahhochjmaaGreatDoor
