/- Open of slots. -/
import Derived.Test.YtodnnblnchjeiaaVRead
namespace Go.Proofs.Ytodnnblnchjeiaa
open Go.RowKit Go.Maps
set_option linter.unusedVariables false
set_option linter.unusedSimpArgs false

/-- the last one of the first k files -/
def pkV (S : Dk) : Nat → Nat × List Int
  | 0 => (0, [])
  | k + 1 => pickV (pkV S k) (readV S k).2
theorem openV_of (S : Dk) : openV S = if (readV S 0).1 ≠ 0 then ((readV S 0).1, 0, []) else if (readV S 1).1 ≠ 0 then ((readV S 1).1, 0, []) else (0, pkV S 2) := rfl

theorem SlMem.set {w : World} {G : Nat → Prop} {X D : Nat} {v : Value} {x : Sl} (h : SlMem w G X D v x) (N : Nat) (L : List Int) (u : Value) (ho : OwnSl w 5 1 u L.length (L.map (Value.int .u8))) (hG : ∀ j, u.ownBlock = some j → G j) :
    SlMem ((w.setCell ⟨X, 1, none⟩ (.int .u64 (N : Int))).setCell ⟨X, 2, none⟩ u) G X D u ⟨N, L, x.down⟩ ∧ Turn (fun j => j = X) w ((w.setCell ⟨X, 1, none⟩ (.int .u64 (N : Int))).setCell ⟨X, 2, none⟩ u) := by
  have t : Turn (fun j => j = X) w ((w.setCell ⟨X, 1, none⟩ (.int .u64 (N : Int))).setCell ⟨X, 2, none⟩ u) := ((Turn.refl (fun j => j = X) w).setCell (p := ⟨X, 1, none⟩) (.inl rfl) _).setCell (p := ⟨X, 2, none⟩) (.inl rfl) _
  have h1 := heap_setCell_obj (j := 2) (heap_setCell_obj (j := 1) h.obj (.int .u64 (N : Int))) u
  exact ⟨⟨by rw [h1]; rfl, h.home, ho.turn t (fun j hj => ho.neObj h.obj (by decide) j hj), hG⟩, t⟩
theorem SlMem.drewN {w : World} {G : Nat → Prop} {X D : Nat} {v : Value} {x : Sl} (h : SlMem w G X D v x) (n : Nat) : SlMem (w.drewN n) G X D v x :=
  h.turn (F := fun _ => False) ((Turn.refl _ w).drewN n) (fun _ _ h => h)

set_option maxRecDepth 100000 in
set_option maxHeartbeats 2000000 in
theorem openV_w (w : World) (F : Nat → Prop) (D : Nat) (S : Dk) (d : DAt w D F S) (hby : ∀ f ∈ S.fs, Bytes f.d) :
    Calls Try.prog 5 #[.pointer (some ⟨D, 0, none⟩)] w fun e w' => ∃ p, e = .returned (.tuple #[.pointer p, .int .i64 (openV S).1]) ∧ Turn (fun _ => False) w w' ∧
      (((openV S).1 = 0 ∧ ∃ X, p = some ⟨X, 0, none⟩ ∧ w.heap.size ≤ X ∧ VAt w' (NF w F) X D ⟨(openV S).2.1, (openV S).2.2, false⟩ S) ∨ ((openV S).1 ≠ 0 ∧ p = none)) := by
  have tA : Turn (fun _ => False) w (w.alloc (.cells #[.pointer (some ⟨D, 0, none⟩), .int .u64 0, .slice none 0 0, .bool false] 56)) := (Turn.refl _ w).alloc _
  have kA := heap_alloc_new w (.cells #[.pointer (some ⟨D, 0, none⟩), .int .u64 0, .slice none 0 0, .bool false] 56)
  have m0 : SlMem (w.alloc (.cells #[.pointer (some ⟨D, 0, none⟩), .int .u64 0, .slice none 0 0, .bool false] 56)) (fun j => w.heap.size ≤ j) w.heap.size D (.slice none 0 0) ⟨(pkV S 0).1, (pkV S 0).2, false⟩ :=
    ⟨kA, Nat.le_refl _, ⟨rfl, .inl ⟨rfl, rfl⟩⟩, fun j hj => by simp [Value.ownBlock] at hj⟩
  have d0 := (d.mono (G := fun j => F j ∧ j < w.heap.size) (fun j hj hl => ⟨hj, hl⟩))
  clear kA
  go_enter Try.func5, Try.ntmps5
  go_wp2_with fail
  go_loopw [11] (fun i wr => ∃ k : Nat, i = .int .u64 (k : Int) ∧ k ≤ 2 ∧ (∃ v, SlMem wr (fun j => w.heap.size ≤ j) w.heap.size D v ⟨(pkV S k).1, (pkV S k).2, false⟩) ∧ Turn (fun _ => False) w wr ∧ Hid (∀ r, r < k → (readV S r).1 = 0)) (fun i _ => 2 - (intOf i).toNat)
  case atStart => exact ⟨0, rfl, by omega, ⟨_, m0⟩, tA, hide (fun r h => by omega)⟩
  case round =>
    obtain ⟨k, rfl, hk, ⟨v, m⟩, T, hz⟩ := hrel
    by_cases hlt : k < 2
    · have hrd := readV_w wr _ D S k (d0.turn T (fun _ _ _ h => h)) hby hlt
      clear m0 tA
      go_wp2_with fail
      refine hrd.mono ?_
      rintro y w1 ⟨dv, rfl, ho, hf, t1⟩
      obtain ⟨da, dc, rfl⟩ := ho.form
      have tB : Turn (fun _ => False) w1 (w1.alloc (.cells #[.int .u64 (((readV S k).2.1 : Nat) : Int), .slice da (readV S k).2.2.length dc] 54)) := (Turn.refl _ w1).alloc _
      have kB := heap_alloc_new w1 (.cells #[.int .u64 (((readV S k).2.1 : Nat) : Int), .slice da (readV S k).2.2.length dc] 54)
      have t1B := t1.then tB
      have mB := m.turn t1B (fun _ _ h => h)
      have oB := ho.turn tB (fun _ _ h => h)
      have TB := T.then t1B
      have s1 := t1.size
      have s0 := T.size
      have c1 := cell_obj mB.obj 1
      have c2 := cell_obj mB.obj 2
      have f1 := frozen_obj mB.obj 1
      have f2 := frozen_obj mB.obj 2
      have b0 := cell_obj kB 0
      have b1 := cell_obj kB 1
      have HM := hide (And.intro mB (And.intro oB TB))
      by_cases hc : (readV S k).1 = 0
      · have hz2 : Hid (∀ r, r < k + 1 → (readV S r).1 = 0) := hide (fun r hr => by
          by_cases e : r = k
          · subst e; exact hc
          · exact unhide hz r (by omega))
        rw [hc]
        have hpk : pkV S (k + 1) = if (pkV S k).1 < (readV S k).2.1 then (readV S k).2 else pkV S k := rfl
        have Hpk := hide hpk
        clear hc hz hpk m T mB oB TB kB tB t1 t1B hrd ho
        by_cases hgt : (pkV S k).1 < (readV S k).2.1
        · have e1 : (((pkV S k).1 : Nat) : Int) < (((readV S k).2.1 : Nat) : Int) := by omega
          have Hp := hide ((unhide Hpk).trans (if_pos hgt))
          clear Hpk hgt
          generalize hN : (readV S k).2.1 = N at *
          generalize hL : (readV S k).2.2.length = L at *
          have HN := hide hN
          have HL := hide hL
          clear hN hL
          go_wp2
          go_quiet (fail)
          go_wp2
          obtain ⟨mB, oB, TB⟩ := unhide HM
          have oB' : OwnSl (w1.alloc (.cells #[.int .u64 (N : Int), .slice da L dc] 54)) 5 1 (.slice da L dc) (readV S k).2.2.length ((readV S k).2.2.map (Value.int .u8)) := by
            rw [show (readV S k).2.2.length = L from unhide HL]; exact oB
          have tD : Turn (fun _ => False) (w1.alloc (.cells #[.int .u64 (N : Int), .slice da L dc] 54)) ((w1.alloc (.cells #[.int .u64 (N : Int), .slice da L dc] 54)).drewN nq) := Turn.drewN (Turn.refl _ (w1.alloc (.cells #[.int .u64 (N : Int), .slice da L dc] 54))) nq
          have ms := (mB.drewN nq).set N (readV S k).2.2 (.slice da L dc) (oB'.turn tD (fun _ _ h => h)) (fun j hj => by have := hf j hj; omega)
          refine ⟨⟨k + 1, by go_num, by omega, ⟨.slice da L dc, ?_⟩, fresh_turn ms.2 (TB.then tD) (Nat.le_refl _), hz2⟩, by simp [intOf]; omega⟩
          rw [unhide Hp, show (readV S k).2 = (N, (readV S k).2.2) from Prod.ext (unhide HN) rfl]
          exact ms.1
        · have e1 : ¬ (((readV S k).2.1 : Nat) : Int) > (((pkV S k).1 : Nat) : Int) := by omega
          have Hp := hide ((unhide Hpk).trans (if_neg hgt))
          clear Hpk hgt
          generalize hN : (readV S k).2.1 = N at *
          generalize hL : (readV S k).2.2.length = L at *
          clear hN hL
          go_wp2
          go_quiet (fail)
          go_wp2
          obtain ⟨mB, oB, TB⟩ := unhide HM
          refine ⟨⟨k + 1, by go_num, by omega, ⟨v, ?_⟩, TB.drewN nq, hz2⟩, by simp [intOf]; omega⟩
          rw [unhide Hp]
          exact mB.drewN nq
      · have e1 : ((readV S k).1 == 0) = false := by rw [beq_eq_false_iff_ne]; exact hc
        have ho : openV S = ((readV S k).1, 0, []) := by
          rw [openV_of]
          by_cases hk0 : k = 0
          · subst hk0; rw [if_pos hc]
          · have hk1 : k = 1 := by omega
            subst hk1
            rw [if_neg (by rw [unhide hz 0 (by omega)]; simp), if_pos hc]
        have HO := hide (And.intro ho hc)
        clear hc ho hz m T mB oB TB kB tB t1 t1B hrd
        generalize (readV S k).2.1 = N at *
        generalize (readV S k).2.2.length = L at *
        generalize (readV S k).1 = rc at *
        go_wp2
        go_ret2
        rw [(unhide HO).1]
        exact ⟨none, rfl, (unhide HM).2.2, .inr ⟨(unhide HO).2, rfl⟩⟩
    · have hk2 : k = 2 := by omega
      subst hk2
      have ho : openV S = (0, pkV S 2) := by rw [openV_of, if_neg (by rw [unhide hz 0 (by omega)]; simp), if_neg (by rw [unhide hz 1 (by omega)]; simp)]
      have d1 := d0.turn T (fun _ _ _ h => h)
      have s0 := T.size
      have HE := hide (And.intro ho (And.intro m (And.intro T d1)))
      clear ho m T d1 d0 hz m0 tA
      go_wp2
      go_ret2
      obtain ⟨ho, m, T, d1⟩ := unhide HE
      rw [ho]
      refine ⟨_, rfl, T, .inl ⟨rfl, w.heap.size, rfl, Nat.le_refl _, ⟨_, _, v, d1, m.mono (G' := fun j => w.heap.size ≤ j ∧ j < wr.heap.size) (fun j hj hl => ⟨hj, hl⟩), fun j hj hg => by have := hj.2; have := hg.1; omega, fun j hj => ⟨.inl hj.1, by have := hj.2; omega⟩, fun j hj => ⟨.inr hj.1, hj.2⟩⟩⟩⟩
end Go.Proofs.Ytodnnblnchjeiaa
