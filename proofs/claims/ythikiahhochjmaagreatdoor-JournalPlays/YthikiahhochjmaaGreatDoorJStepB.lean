/- JournalPlays: Append's step, where it is told in the law's list. -/
import Derived.Test.YthikiahhochjmaaGreatDoorJStepA
import Derived.Test.YthikiahhochjmaaGreatDoorPack7
import Derived.Test.YthikiahhochjmaaGreatDoorBOwn
import Derived.Test.YthikiahhochjmaaGreatDoorVSpoil
import Derived.Deep.CutBlock
import Derived.Deep.RegionLaw
namespace Go.Proofs.YthikiahhochjmaaGreatDoor
open Go.RowKit Go.Maps
set_option linter.unusedVariables false
set_option linter.unusedSimpArgs false

theorem Tr.push {w4 w5 w6 wF : World} {T D J : Nat} {H M : Nat → Prop} {av av' : Value} {X : Jn} {S : Dk} {A : List (List Int)} {z : List Int} {most first might safe : Nat} {more dn fell more' dn' : Bool} (h : Tr w4 T D J H M av X S A most first might safe more dn fell) (t5 : Turn (fun _ => False) w4 w5) (t6 : Turn (fun j => av.ownBlock = some j) w5 w6) (tF : Turn (fun j => j = T) w6 wF)
    (all6 : AllM w6 (fun j => (M j ∨ (w4.heap.size ≤ j ∧ j < w5.heap.size)) ∨ (w5.heap.size ≤ j ∧ j < w6.heap.size)) av' (A ++ [z])) (hz : Bytes z)
    (o : wF.heap[T]? = some (.cells #[.pointer (some ⟨D, 0, none⟩), .pointer (some ⟨J, 0, none⟩), .int .i64 (most : Int), av', .int .u64 (first : Int), .int .u64 (might : Int), .int .i64 (safe : Int), .bool more', .bool dn', .bool fell] 32 (0, 0))) :
    Tr wF T D J H (fun j => M j ∨ (w4.heap.size ≤ j ∧ j < wF.heap.size)) av' X S (A ++ [z]) most first might safe more' dn' fell ∧ Turn (fun j => j = T ∨ M j) w4 wF := by
  have hT := (Array.getElem?_eq_some_iff.1 h.obj).1
  have hv : ∀ j, av.ownBlock = some j → M j := h.all.choose_spec.2.1
  have s5 := t5.size
  have s6 := t6.size
  have sF := tF.size
  have TT : Turn (fun j => j = T ∨ M j) w4 wF := ((t5.mono (fun _ q => q.elim)).then (t6.mono (fun j q => .inr (hv j q)))).then (tF.mono (fun j q => .inl q))
  refine ⟨⟨o, ?_, ?_, h.nH, ?_, ?_, fun j hj => by have := h.hH j hj; omega, ?_, ?_⟩, TT⟩
  · exact h.j.turn TT (fun j hj q => by
      rcases q with q | q
      · exact h.nH (q ▸ hj)
      · exact h.apart j hj q)
  · refine (all6.turn tF (fun j hj q => ?_)).mono (fun j hj => ?_)
    · subst q
      rcases hj with (q | q) | q
      · exact h.nM q
      · omega
      · omega
    · rcases hj with (q | q) | q
      · exact .inl q
      · exact .inr ⟨q.1, by omega⟩
      · exact .inr ⟨by omega, by omega⟩
  · rintro (q | q)
    · exact h.nM q
    · omega
  · rintro j hj (q | q)
    · exact h.apart j hj q
    · have := h.hH j hj; omega
  · rintro j (q | q)
    · have := h.hM j q; omega
    · exact q.2
  · intro y hy
    rcases List.mem_append.1 hy with q | q
    · exact h.bytes y q
    · simp at q; subst q; exact hz

set_option maxRecDepth 100000 in
theorem step_copy_run {ops : Array Oper} {o : Oper} {a : Act} {w : World} {K : Act → World → Prop} {Q : Exit → Act → World → Prop} {E : Prop}
    (hg : o.guard = none) (x : Operand) (t : TypeId) (hop : o.op = Op.call { callee := Callee.value (Operand.func 34), args := #[x], argTypes := #[t] }) (v : Value) (hx : a.eval x = v) {R : Value → World → Prop}
    (hc : Calls Tryz.prog 34 #[v] w (fun e w' => ∃ y, e = .returned y ∧ R y w')) (hK : ∀ y w', R y w' → K (a.put o.dst y) w') :
    if Region.wanted o (yielded ops a.tmps) = true then Oper.wp Tryz.prog o a w K Q else E := by
  have hw : Region.wanted o (yielded ops a.tmps) = true := by simp [Region.wanted, hg]
  rw [if_pos hw]
  unfold Oper.wp
  simp [execOp, hop, go_sem]
  have hx' := hx
  simp [Act.eval] at hx'
  rw [hx']
  refine hc.mono ?_
  rintro e w' ⟨y, rfl, hr⟩
  have := hK y w' hr
  unfold Act.put at this
  exact this
set_option maxRecDepth 100000 in
set_option maxHeartbeats 8000000 in
theorem app_ok (w : World) (T D J : Nat) (H M : Nat → Prop) (av : Value) (X : Jn) (S : Dk) (A : List (List Int)) (most first might safe : Nat) (more fell : Bool) (h : Tr w T D J H M av X S A most first might safe more false fell) (fit : Fit X) (hnx : nextOf X.segs < 100) (hA : A.length ≤ 1000)
    (kd N : Int) (bv kv : Value) (Z : List Int) (hZ : Bytes Z) (hrow : Row .u8 (fun b => b < w.heap.size ∧ ¬ H b ∧ b ≠ T) w bv Z) (hZl : Z.length ≤ 140737488351232) (n1 : (kd == 1) = false) (n2 : (kd == 2) = false) (n3 : (kd == 3) = false) (n4 : (kd == 4) = false) (n5 : (kd == 5) = false)
    (e : Int) (he : (appendJ X S (Z.take 300)).1 = e) (hc : e = 0) :
    Calls Tryz.prog 11 #[.pointer (some ⟨T, 0, none⟩), .agg #[.int .i64 kd, .int .i64 N, bv, kv]] w fun e' w' => e' = .returned (.bool true) ∧
      Turn (fun j => j = T ∨ H j ∨ M j) w w' ∧ ∃ H' M' av', (∀ j, H' j → H j ∨ w.heap.size ≤ j) ∧ (∀ j, M' j → M j ∨ w.heap.size ≤ j) ∧ Tr w' T D J H' M' av' (appendJ X S (Z.take 300)).2.1 (appendJ X S (Z.take 300)).2.2 (A ++ [Z.take 300]) most first might safe more false fell := by
  have ta := (Turn.refl (fun _ => False) w).alloc (.cells #[.int .i64 kd, .int .i64 N, bv, kv] 36)
  have ko : (w.alloc (.cells #[.int .i64 kd, .int .i64 N, bv, kv] 36)).heap[w.heap.size]? = some (.cells #[.int .i64 kd, .int .i64 N, bv, kv] 36 (0, 0)) := heap_alloc_new w _
  have g := h.calm ta
  have hT0 := (Array.getElem?_eq_some_iff.1 h.obj).1
  have hHl := h.hH
  have hMl := h.hM
  have hrW := hrow.turn ta (fun _ _ q => q)
  obtain ⟨z, hz⟩ : ∃ z, Z.take 300 = z := ⟨_, rfl⟩
  have hzl : z.length ≤ 300 := by rw [← hz, List.length_take]; omega
  have hzb : Bytes z := by rw [← hz]; exact fun x hx => hZ x (List.mem_of_mem_take hx)
  rw [hz] at he  ⊢
  have Hz := hide hz
  obtain ⟨bx, bc, rfl⟩ := hrow.slice
  clear h hrow hz
  go_enter Tryz.func11, Tryz.ntmps11
  have q0 : (w.alloc (.cells #[.int .i64 kd, .int .i64 N, .slice bx Z.length bc, kv] 36)).cell? ⟨w.heap.size, 0, none⟩ = some (.int .i64 kd) := cell_obj ko 0
  have q2 : (w.alloc (.cells #[.int .i64 kd, .int .i64 N, .slice bx Z.length bc, kv] 36)).cell? ⟨w.heap.size, 2, none⟩ = some (.slice bx Z.length bc) := cell_obj ko 2
  go_upto_region 31 with fail
  clear q0 q2 n1 n2 n3 n4 n5
  generalize hW : w.alloc (.cells #[.int .i64 kd, .int .i64 N, .slice bx Z.length bc, kv] 36) = W at *
  clear hW
  have hs0 := ta.size
  generalize hs0e : w.heap.size = s0 at *
  have Hs0 := hide hs0e
  clear hs0e
  obtain ⟨i0, hi, hz0, hz1, hz2⟩ := info_parts info_u8
  have z1 : Row .u8 (fun b => b < s0 ∧ ¬ H b ∧ b ≠ T) W (.slice bx Z.length bc) Z := hrW
  go_upto_if 183 with fail
  go_cut [7] from 184 to 185 (fun s7 wx => Hid (Row .u8 (fun b => b < s0 ∧ ¬ H b ∧ b ≠ T) W s7 z) ∧ wx = W)
  case first =>
    by_cases hlong : 300 < Z.length
    · obtain ⟨x', hx', hr'⟩ := cut_to (P := Tryz.prog) (ki := .i64) Tryz.underlying33 hi hz1 z1 300 (by omega)
      rw [unhide Hz] at hr'
      have HR := hide hr'
      have hx2 : ∀ u : World, (Instr.slice 33 (.slice bx Z.length bc) none (some (.int .i64 300)) none).run Tryz.prog u = .ok x' u := hx'
      have hlt : (300 : Int) < (Z.length : Int) := by omega
      clear hx' hr' z1 hrW
      go_wp2_with fail
      go_meet
      exact ⟨HR, rfl⟩
    · have hZz : Z = z := by rw [← unhide Hz, List.take_of_length_le (by omega)]
      have HR := hide z1
      rw [hZz] at HR
      have hlt : ¬ (300 : Int) < (Z.length : Int) := by omega
      have HZz := hide hZz
      clear z1 hrW hZz
      go_wp2_with fail
      go_meet
      exact ⟨by rw [unhide HZz]; exact HR, rfl⟩
  case rest =>
    obtain ⟨hR, hwx⟩ := hcut
    subst hwx
    clear z1 hrW
    have hRz := unhide hR
    obtain ⟨ya, yc, hy⟩ := hRz.slice
    subst hy
    have hown := own_any_u8 (.slice ya z.length yc) z 71 wc (by omega) (hRz.mono (fun _ _ => trivial))
    have gHb : ¬ H wc.heap.size := fun q => by have := hHl _ q; omega
    have gMb : ¬ M wc.heap.size := fun q => by have := hMl _ q; omega
    have gTb : wc.heap.size ≠ T := by omega
    have G := hide g
    clear g hRz ko
    go_wp2_with fail
    refine hown.mono ?_
    rintro e1 w1 ⟨rfl, hcl, bel, hfree⟩
    have t1 := Turn.of_below (F := fun _ => False) bel
    have g1 := (unhide G).calm t1
    have hin1 : Row .u8 any w1 (.slice (some ⟨wc.heap.size, 0, none⟩) z.length (z.length + 3)) z := row_of_cells hcl rfl (by omega) (by unfold maxLen; omega)
    have happ := append_j w1 H any J D X S _ z g1.j fit hzb hin1 hnx
    rw [he] at happ
    have c1 : w1.cell? ⟨T, 1, none⟩ = some (.pointer (some ⟨J, 0, none⟩)) := cell_obj g1.obj 1
    have G1 := hide g1
    clear hown g1 hin1 bel
    go_wp2_with fail
    refine happ.mono ?_
    rintro e2 w2 ⟨rfl, t2, j2⟩
    have g2 := (unhide G1).call t2 j2
    have hcl2 := hcl.turn t2 gHb
    have bx2 : Row .u8 (fun b => b < s0 ∧ ¬ H b ∧ b ≠ T) w2 (.slice ya z.length yc) z := ((unhide hR).turn t1 (fun _ _ q => q)).turn t2 (fun b hb => hb.2.1)
    have fr2 : Free w2 wc.heap.size := hfree.turn t2 gHb
    have hin2 : Row .u8 any w2 (.slice (some ⟨wc.heap.size, 0, none⟩) z.length (z.length + 3)) z := row_of_cells hcl2 rfl (by omega) (by unfold maxLen; omega)
    have hkp := kept_any_u8 wc.heap.size (.slice ya z.length yc) z 71 w2 (by omega) hcl2 (bx2.mono (fun _ _ => trivial))
    have T2 : Turn (fun j => j = T ∨ H j ∨ M j) w w2 := ((ta.then t1).mono (fun _ q => q.elim)).then (t2.mono (fun j hj => .inr (.inl hj)))
    have hs2 := T2.size
    have s12 : wc.heap.size < w1.heap.size := by obtain ⟨cur, Ty, hc⟩ := hfree; exact (Array.getElem?_eq_some_iff.1 hc).1
    have s22 := t2.size
    have H2 := hide (And.intro g2 (And.intro bx2 (And.intro fr2 (And.intro hin2 T2))))
    clear hcl2 hcl happ t1 t2 j2 c1 g2 bx2 fr2 hin2 hfree G1 G hR ta T2
    go_wp2_with fail
    refine hkp.mono ?_
    rintro e3 w3 ⟨rfl, nk, rfl⟩
    obtain ⟨g2, bx2, fr2, hin2, T2⟩ := unhide H2
    have tD : Turn (fun _ => False) w2 (w2.drewN nk) := Turn.drewN (Turn.refl _ w2) nk
    have g3 := g2.calm tD
    have bx3 := bx2.turn tD (fun _ _ q => q)
    have hsp := spoil_any (fun j => j = wc.heap.size) _ z (w2.drewN nk) (row_free (hin2.turn tD (fun _ _ q => q)) (fr2.turn tD (fun q => q)))
    have T3 := T2.then (tD.mono (fun _ q => q.elim))
    have H3 := hide (And.intro g3 (And.intro bx3 T3))
    clear hkp g2 bx2 fr2 hin2 T2 tD g3 bx3 T3 H2
    go_wp2_with fail
    refine hsp.mono ?_
    rintro e4 w4 ⟨⟨vr, rfl⟩, t4⟩
    obtain ⟨g3, bx3, T3⟩ := unhide H3
    have g4 := g3.away t4 (fun q => gTb q.symm) (fun j hj q => by
      subst q
      rcases hj.1 with q | q
      · exact gHb q
      · omega) (fun j hj q => gMb (q ▸ hj))
    have bx4 := bx3.turn t4 (fun b hb q => by have := hb.1; omega)
    have HB : Hid (∀ j, (NF w1 H j ∧ j < w2.heap.size) → H j ∨ w.heap.size ≤ j) := hide (fun j hj => by
      rcases hj.1 with q | q
      · exact .inl q
      · exact .inr (by have := unhide Hs0; omega))
    have T4 := T3.trans t4 (fun j hj => .inr (by have := unhide Hs0; omega))
    have c8 : w4.cell? ⟨T, 8, none⟩ = some (.bool false) := cell_obj g4.obj 8
    clear H3 g3 bx3 T3 hsp t4
    subst hc
    have tD4 : Turn (fun _ => False) w4 w4.drew := (Turn.refl _ w4).drew
    have c3 : w4.drew.cell? ⟨T, 3, none⟩ = some av := cell_obj g4.obj 3
    have hcp := copy_walk _ (.slice ya z.length yc) z w4.drew (bx4.turn tD4 (fun _ _ q => q)) (by omega)
    have g5 := g4.calm tD4
    have G5 := hide g5
    clear bx4 g4 g5 tD4
    go_upto_region 42 with fail
    go_cut [217] from 209 to 219 (fun _ wx => ∃ (w5 w6 : World) (av' : Value), Turn (fun _ => False) w4.drew w5 ∧ Turn (fun j => av.ownBlock = some j) w5 w6 ∧ AllM w6 (fun j => (M j ∨ (w4.drew.heap.size ≤ j ∧ j < w5.heap.size)) ∨ (w5.heap.size ≤ j ∧ j < w6.heap.size)) av' (A ++ [z]) ∧ wx = w6.setCell ⟨T, 3, none⟩ av')
    case first =>
      go_region_law
        (first
        | (refine step_append_run rfl _ _ 29 rfl _ _ _ _ rfl rfl (unhide Hrun) ?_)
        | (refine step_copy_run rfl _ _ rfl _ rfl hcp ?_; rintro cv w5 ⟨o5, f5, t5⟩; obtain ⟨ca, cc, hcv⟩ := o5.form; subst hcv; have c35 := t5.cell c3 (fun q => q); have g55 := (unhide G5).calm t5; have hTl := (Array.getElem?_eq_some_iff.1 g55.obj).1; have hs5 := t5.size; have hvM : ∀ j, av.ownBlock = some j → M j := g55.all.choose_spec.2.1; have nT : ¬ av.ownBlock = some T := (fun q => g55.nM (hvM T q)); have hM5 := (unhide G5).hM; have hx : Row .u8 (fun b => any b ∧ (M b ∨ (w4.drew.heap.size ≤ b ∧ b < w5.heap.size)) ∧ av.ownBlock ≠ some b) w5 (.slice ca z.length cc) z := ((row_of_sl o5).mono (fun b hb => ⟨trivial, .inr ⟨f5 b hb, by obtain ⟨cur, hc⟩ := o5.lt b hb; exact (Array.getElem?_eq_some_iff.1 hc).1⟩, fun q => by have h1 := f5 b hb; have h2 := hM5 b (hvM b q); omega⟩)); obtain ⟨av', w6, hrun, all6, t6⟩ := (g55.all.mono (M' := fun j => M j ∨ (w4.drew.heap.size ≤ j ∧ j < w5.heap.size)) (fun j hj => .inl hj)).push (fun j hj => by rcases hj with q | q; exact g55.hM j q; exact q.2) hx (by omega); obtain ⟨pa, pn, pc, hpv⟩ : ∃ a n c, av' = .slice a n c := (by obtain ⟨us, q1, _⟩ := all6; obtain ⟨x1, x2, q2⟩ := q1.form; exact ⟨x1, us.length, x2, q2⟩); subst hpv; have c35a : (w5.alloc (.cells #[.slice ca z.length cc] 33)).cell? ⟨T, 3, none⟩ = some av := ((Turn.refl (fun _ => False) w5).alloc (.cells #[.slice ca z.length cc] 33)).cell c35 (fun q => q); have o6 := t6.same g55.obj nT; have c36 : w6.cell? ⟨T, 3, none⟩ = some av := cell_obj o6 3; have z36 : w6.frozen? ⟨T, 3, none⟩ = false := frozen_obj o6 3; have c3f : (w6.setCell ⟨T, 3, none⟩ (.slice pa pn pc)).cell? ⟨T, 3, none⟩ = some (.slice pa pn pc) := (by rw [cell_obj (heap_setCell_obj o6 (.slice pa pn pc)) 3]; rfl); have Hrun := hide hrun; clear hrun; have All6 := hide (And.intro t5 (And.intro t6 all6)); clear hvM hM5 hx nT f5 o5 hTl hs5 g55 all6 t6 t5))
      all_goals (go_wp2_with fail)
      all_goals go_meet
      all_goals
        obtain ⟨r5, r6, rall⟩ := unhide All6
        exact ⟨w5, w6, _, r5, r6, rall, rfl⟩
    case rest =>
      obtain ⟨w5, w6, av', t5, t6, all6, hwx⟩ := hcut
      have g5 := unhide G5
      have hvM : ∀ j, av.ownBlock = some j → M j := g5.all.choose_spec.2.1
      have o6 := t6.same (t5.same g5.obj (fun q => q)) (fun q => g5.nM (hvM T q))
      have oF := heap_setCell_obj (j := 3) o6 av'
      have tF : Turn (fun j => j = T) w6 (w6.setCell ⟨T, 3, none⟩ av') := (Turn.refl (fun j => j = T) w6).setCell (p := ⟨T, 3, none⟩) (.inl rfl) _
      rw [← hwx] at oF tF
      obtain ⟨gF, TF⟩ := Tr.push (more' := more) (dn' := false) g5 t5 t6 tF all6 hzb oF
      have TE := (T4.drew).then (TF.mono (G := fun j => j = T ∨ H j ∨ M j) (fun j hj => by
        rcases hj with q | q
        · exact .inl q
        · exact .inr (.inr q)))
      have MB : Hid (∀ (x : Nat) (j : Nat), (M j ∨ (w4.drew.heap.size ≤ j ∧ j < x)) → M j ∨ w.heap.size ≤ j) := hide (fun x j hj => by
        rcases hj with q | q
        · exact .inl q
        · exact .inr (Nat.le_trans T4.size q.1))
      have GF := hide gF
      clear gF TF tF oF o6 hvM g5 t5 t6 all6 hwx G5 c3 hcp T4
      go_wp2_with fail
      go_ret
      exact ⟨rfl, TE, _, _, _, unhide HB, unhide MB _, unhide GF⟩
end Go.Proofs.YthikiahhochjmaaGreatDoor
