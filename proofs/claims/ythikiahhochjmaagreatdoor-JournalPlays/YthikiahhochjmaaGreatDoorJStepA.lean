/- JournalPlays: Append's step. -/
import Derived.Test.YthikiahhochjmaaGreatDoorJStep
import Derived.Test.YthikiahhochjmaaGreatDoorBOwn
import Derived.Test.YthikiahhochjmaaGreatDoorVSpoil
import Derived.Deep.CutBlock
namespace Go.Proofs.YthikiahhochjmaaGreatDoor
open Go.RowKit Go.Maps
set_option linter.unusedVariables false
set_option linter.unusedSimpArgs false

theorem Tr.away {F : Nat → Prop} {w w' : World} {T D J : Nat} {H M : Nat → Prop} {av : Value} {X : Jn} {S : Dk} {A : List (List Int)} {most first might safe : Nat} {more dn fell : Bool} (h : Tr w T D J H M av X S A most first might safe more dn fell) (t : Turn F w w') (hT : ¬ F T) (hH : ∀ j, H j → ¬ F j) (hM : ∀ j, M j → ¬ F j) : Tr w' T D J H M av X S A most first might safe more dn fell := by
  have s := t.size
  exact ⟨t.same h.obj hT, h.j.turn t hH, h.all.turn t hM, h.nH, h.nM, h.apart, fun j hj => by have := h.hH j hj; omega, fun j hj => by have := h.hM j hj; omega, h.bytes⟩
theorem row_block {k : IntKind} {w : World} {g n c : Nat} {zs : List Int} (h : Row k any w (.slice (some ⟨g, 0, none⟩) n c) zs) : Row k (fun b => b = g) w (.slice (some ⟨g, 0, none⟩) n c) zs := by
  rcases h with h | ⟨b, off, c', hv, h1, h2, h3, h4⟩
  · exact .inl h
  · refine .inr ⟨b, off, c', hv, h1, h2, ?_, h4⟩
    simp at hv
    exact hv.1.1.symm
theorem row_free {k : IntKind} {w : World} {g n c : Nat} {zs : List Int} (h : Row k any w (.slice (some ⟨g, 0, none⟩) n c) zs) (hf : Free w g) : Row k (fun b => b = g ∧ Free w b) w (.slice (some ⟨g, 0, none⟩) n c) zs := by
  rcases row_block h with ⟨a, c', e, h1, h2, rfl⟩ | ⟨b, off, c', e, h1, h2, h3, h4⟩
  · exact .inl ⟨a, c', e, h1, h2, rfl⟩
  · exact .inr ⟨b, off, c', e, h1, h2, ⟨h3, by rw [h3]; exact hf⟩, h4⟩

set_option maxRecDepth 100000 in
set_option maxHeartbeats 8000000 in
theorem app_dn (w : World) (T D J : Nat) (H M : Nat → Prop) (av : Value) (X : Jn) (S : Dk) (A : List (List Int)) (most first might safe : Nat) (more fell : Bool) (h : Tr w T D J H M av X S A most first might safe more true fell) (fit : Fit X) (hnx : nextOf X.segs < 100) (hA : A.length ≤ 1000)
    (kd N : Int) (bv kv : Value) (Z : List Int) (hZ : Bytes Z) (hrow : Row .u8 (fun b => b < w.heap.size ∧ ¬ H b ∧ b ≠ T) w bv Z) (hZl : Z.length ≤ 140737488351232) (n1 : (kd == 1) = false) (n2 : (kd == 2) = false) (n3 : (kd == 3) = false) (n4 : (kd == 4) = false) (n5 : (kd == 5) = false)
    (e : Int) (he : (appendJ X S (Z.take 300)).1 = e) (hc : e = 3) :
    Calls Tryz.prog 11 #[.pointer (some ⟨T, 0, none⟩), .agg #[.int .i64 kd, .int .i64 N, bv, kv]] w fun e' w' => e' = .returned (.bool true) ∧
      Turn (fun j => j = T ∨ H j ∨ M j) w w' ∧ ∃ H', (∀ j, H' j → H j ∨ w.heap.size ≤ j) ∧ Tr w' T D J H' M av (appendJ X S (Z.take 300)).2.1 (appendJ X S (Z.take 300)).2.2 A most first might safe more true fell := by
  have ta := (Turn.refl (fun _ => False) w).alloc (.cells #[.int .i64 kd, .int .i64 N, bv, kv] 36)
  have ko : (w.alloc (.cells #[.int .i64 kd, .int .i64 N, bv, kv] 36)).heap[w.heap.size]? = some (.cells #[.int .i64 kd, .int .i64 N, bv, kv] 36 (0, 0)) := heap_alloc_new w _
  have g := h.calm ta
  have hT0 := (Array.getElem?_eq_some_iff.1 h.obj).1
  have hHl := h.hH
  have hMl := h.hM
  have hrW := hrow.turn ta (fun _ _ q => q)
  obtain ⟨z, hz⟩ : ∃ z, Z.take 300 = z := ⟨_, rfl⟩
  have hzl : z.length ≤ 300 := by rw [← hz, List.length_take]; omega
  have hzb : Bytes z := by rw [← hz]; exact fun x hx => hZ x (List.mem_of_mem_take hx)
  rw [hz] at he  ⊢
  have Hz := hide hz
  obtain ⟨bx, bc, rfl⟩ := hrow.slice
  clear h hrow hz
  go_enter Tryz.func11, Tryz.ntmps11
  have q0 : (w.alloc (.cells #[.int .i64 kd, .int .i64 N, .slice bx Z.length bc, kv] 36)).cell? ⟨w.heap.size, 0, none⟩ = some (.int .i64 kd) := cell_obj ko 0
  have q2 : (w.alloc (.cells #[.int .i64 kd, .int .i64 N, .slice bx Z.length bc, kv] 36)).cell? ⟨w.heap.size, 2, none⟩ = some (.slice bx Z.length bc) := cell_obj ko 2
  go_upto_region 31 with fail
  clear q0 q2 n1 n2 n3 n4 n5
  generalize hW : w.alloc (.cells #[.int .i64 kd, .int .i64 N, .slice bx Z.length bc, kv] 36) = W at *
  clear hW
  have hs0 := ta.size
  generalize hs0e : w.heap.size = s0 at *
  have Hs0 := hide hs0e
  clear hs0e
  obtain ⟨i0, hi, hz0, hz1, hz2⟩ := info_parts info_u8
  have z1 : Row .u8 (fun b => b < s0 ∧ ¬ H b ∧ b ≠ T) W (.slice bx Z.length bc) Z := hrW
  go_upto_if 183 with fail
  go_cut [7] from 184 to 185 (fun s7 wx => Hid (Row .u8 (fun b => b < s0 ∧ ¬ H b ∧ b ≠ T) W s7 z) ∧ wx = W)
  case first =>
    by_cases hlong : 300 < Z.length
    · obtain ⟨x', hx', hr'⟩ := cut_to (P := Tryz.prog) (ki := .i64) Tryz.underlying33 hi hz1 z1 300 (by omega)
      rw [unhide Hz] at hr'
      have HR := hide hr'
      have hx2 : ∀ u : World, (Instr.slice 33 (.slice bx Z.length bc) none (some (.int .i64 300)) none).run Tryz.prog u = .ok x' u := hx'
      have hlt : (300 : Int) < (Z.length : Int) := by omega
      clear hx' hr' z1 hrW
      go_wp2_with fail
      go_meet
      exact ⟨HR, rfl⟩
    · have hZz : Z = z := by rw [← unhide Hz, List.take_of_length_le (by omega)]
      have HR := hide z1
      rw [hZz] at HR
      have hlt : ¬ (300 : Int) < (Z.length : Int) := by omega
      have HZz := hide hZz
      clear z1 hrW hZz
      go_wp2_with fail
      go_meet
      exact ⟨by rw [unhide HZz]; exact HR, rfl⟩
  case rest =>
    obtain ⟨hR, hwx⟩ := hcut
    subst hwx
    clear z1 hrW
    have hRz := unhide hR
    obtain ⟨ya, yc, hy⟩ := hRz.slice
    subst hy
    have hown := own_any_u8 (.slice ya z.length yc) z 71 wc (by omega) (hRz.mono (fun _ _ => trivial))
    have gHb : ¬ H wc.heap.size := fun q => by have := hHl _ q; omega
    have gMb : ¬ M wc.heap.size := fun q => by have := hMl _ q; omega
    have gTb : wc.heap.size ≠ T := by omega
    have G := hide g
    clear g hRz ko
    go_wp2_with fail
    refine hown.mono ?_
    rintro e1 w1 ⟨rfl, hcl, bel, hfree⟩
    have t1 := Turn.of_below (F := fun _ => False) bel
    have g1 := (unhide G).calm t1
    have hin1 : Row .u8 any w1 (.slice (some ⟨wc.heap.size, 0, none⟩) z.length (z.length + 3)) z := row_of_cells hcl rfl (by omega) (by unfold maxLen; omega)
    have happ := append_j w1 H any J D X S _ z g1.j fit hzb hin1 hnx
    rw [he] at happ
    have c1 : w1.cell? ⟨T, 1, none⟩ = some (.pointer (some ⟨J, 0, none⟩)) := cell_obj g1.obj 1
    have G1 := hide g1
    clear hown g1 hin1 bel
    go_wp2_with fail
    refine happ.mono ?_
    rintro e2 w2 ⟨rfl, t2, j2⟩
    have g2 := (unhide G1).call t2 j2
    have hcl2 := hcl.turn t2 gHb
    have bx2 : Row .u8 (fun b => b < s0 ∧ ¬ H b ∧ b ≠ T) w2 (.slice ya z.length yc) z := ((unhide hR).turn t1 (fun _ _ q => q)).turn t2 (fun b hb => hb.2.1)
    have fr2 : Free w2 wc.heap.size := hfree.turn t2 gHb
    have hin2 : Row .u8 any w2 (.slice (some ⟨wc.heap.size, 0, none⟩) z.length (z.length + 3)) z := row_of_cells hcl2 rfl (by omega) (by unfold maxLen; omega)
    have hkp := kept_any_u8 wc.heap.size (.slice ya z.length yc) z 71 w2 (by omega) hcl2 (bx2.mono (fun _ _ => trivial))
    have T2 : Turn (fun j => j = T ∨ H j ∨ M j) w w2 := ((ta.then t1).mono (fun _ q => q.elim)).then (t2.mono (fun j hj => .inr (.inl hj)))
    have hs2 := T2.size
    have s12 : wc.heap.size < w1.heap.size := by obtain ⟨cur, Ty, hc⟩ := hfree; exact (Array.getElem?_eq_some_iff.1 hc).1
    have s22 := t2.size
    have H2 := hide (And.intro g2 (And.intro bx2 (And.intro fr2 (And.intro hin2 T2))))
    clear hcl2 hcl happ t1 t2 j2 c1 g2 bx2 fr2 hin2 hfree G1 G hR ta T2
    go_wp2_with fail
    refine hkp.mono ?_
    rintro e3 w3 ⟨rfl, nk, rfl⟩
    obtain ⟨g2, bx2, fr2, hin2, T2⟩ := unhide H2
    have tD : Turn (fun _ => False) w2 (w2.drewN nk) := Turn.drewN (Turn.refl _ w2) nk
    have g3 := g2.calm tD
    have bx3 := bx2.turn tD (fun _ _ q => q)
    have hsp := spoil_any (fun j => j = wc.heap.size) _ z (w2.drewN nk) (row_free (hin2.turn tD (fun _ _ q => q)) (fr2.turn tD (fun q => q)))
    have T3 := T2.then (tD.mono (fun _ q => q.elim))
    have H3 := hide (And.intro g3 (And.intro bx3 T3))
    clear hkp g2 bx2 fr2 hin2 T2 tD g3 bx3 T3 H2
    go_wp2_with fail
    refine hsp.mono ?_
    rintro e4 w4 ⟨⟨vr, rfl⟩, t4⟩
    obtain ⟨g3, bx3, T3⟩ := unhide H3
    have g4 := g3.away t4 (fun q => gTb q.symm) (fun j hj q => by
      subst q
      rcases hj.1 with q | q
      · exact gHb q
      · omega) (fun j hj q => gMb (q ▸ hj))
    have bx4 := bx3.turn t4 (fun b hb q => by have := hb.1; omega)
    have HB : Hid (∀ j, (NF w1 H j ∧ j < w2.heap.size) → H j ∨ w.heap.size ≤ j) := hide (fun j hj => by
      rcases hj.1 with q | q
      · exact .inl q
      · exact .inr (by have := unhide Hs0; omega))
    have T4 := T3.trans t4 (fun j hj => .inr (by have := unhide Hs0; omega))
    have c8 : w4.cell? ⟨T, 8, none⟩ = some (.bool true) := cell_obj g4.obj 8
    clear H3 g3 bx3 T3 hsp t4
    subst hc
    go_wp2_with fail
    go_ret
    exact ⟨rfl, T4, _, unhide HB, g4⟩

set_option maxRecDepth 100000 in
set_option maxHeartbeats 8000000 in
theorem app_full (w : World) (T D J : Nat) (H M : Nat → Prop) (av : Value) (X : Jn) (S : Dk) (A : List (List Int)) (most first might safe : Nat) (more fell : Bool) (h : Tr w T D J H M av X S A most first might safe more false fell) (fit : Fit X) (hnx : nextOf X.segs < 100) (hA : A.length ≤ 1000)
    (kd N : Int) (bv kv : Value) (Z : List Int) (hZ : Bytes Z) (hrow : Row .u8 (fun b => b < w.heap.size ∧ ¬ H b ∧ b ≠ T) w bv Z) (hZl : Z.length ≤ 140737488351232) (n1 : (kd == 1) = false) (n2 : (kd == 2) = false) (n3 : (kd == 3) = false) (n4 : (kd == 4) = false) (n5 : (kd == 5) = false)
    (e : Int) (he : (appendJ X S (Z.take 300)).1 = e) (hc : e = 4) :
    Calls Tryz.prog 11 #[.pointer (some ⟨T, 0, none⟩), .agg #[.int .i64 kd, .int .i64 N, bv, kv]] w fun e' w' => e' = .returned (.bool true) ∧
      Turn (fun j => j = T ∨ H j ∨ M j) w w' ∧ ∃ H', (∀ j, H' j → H j ∨ w.heap.size ≤ j) ∧ Tr w' T D J H' M av (appendJ X S (Z.take 300)).2.1 (appendJ X S (Z.take 300)).2.2 A most first might safe more false fell := by
  have ta := (Turn.refl (fun _ => False) w).alloc (.cells #[.int .i64 kd, .int .i64 N, bv, kv] 36)
  have ko : (w.alloc (.cells #[.int .i64 kd, .int .i64 N, bv, kv] 36)).heap[w.heap.size]? = some (.cells #[.int .i64 kd, .int .i64 N, bv, kv] 36 (0, 0)) := heap_alloc_new w _
  have g := h.calm ta
  have hT0 := (Array.getElem?_eq_some_iff.1 h.obj).1
  have hHl := h.hH
  have hMl := h.hM
  have hrW := hrow.turn ta (fun _ _ q => q)
  obtain ⟨z, hz⟩ : ∃ z, Z.take 300 = z := ⟨_, rfl⟩
  have hzl : z.length ≤ 300 := by rw [← hz, List.length_take]; omega
  have hzb : Bytes z := by rw [← hz]; exact fun x hx => hZ x (List.mem_of_mem_take hx)
  rw [hz] at he  ⊢
  have Hz := hide hz
  obtain ⟨bx, bc, rfl⟩ := hrow.slice
  clear h hrow hz
  go_enter Tryz.func11, Tryz.ntmps11
  have q0 : (w.alloc (.cells #[.int .i64 kd, .int .i64 N, .slice bx Z.length bc, kv] 36)).cell? ⟨w.heap.size, 0, none⟩ = some (.int .i64 kd) := cell_obj ko 0
  have q2 : (w.alloc (.cells #[.int .i64 kd, .int .i64 N, .slice bx Z.length bc, kv] 36)).cell? ⟨w.heap.size, 2, none⟩ = some (.slice bx Z.length bc) := cell_obj ko 2
  go_upto_region 31 with fail
  clear q0 q2 n1 n2 n3 n4 n5
  generalize hW : w.alloc (.cells #[.int .i64 kd, .int .i64 N, .slice bx Z.length bc, kv] 36) = W at *
  clear hW
  have hs0 := ta.size
  generalize hs0e : w.heap.size = s0 at *
  have Hs0 := hide hs0e
  clear hs0e
  obtain ⟨i0, hi, hz0, hz1, hz2⟩ := info_parts info_u8
  have z1 : Row .u8 (fun b => b < s0 ∧ ¬ H b ∧ b ≠ T) W (.slice bx Z.length bc) Z := hrW
  go_upto_if 183 with fail
  go_cut [7] from 184 to 185 (fun s7 wx => Hid (Row .u8 (fun b => b < s0 ∧ ¬ H b ∧ b ≠ T) W s7 z) ∧ wx = W)
  case first =>
    by_cases hlong : 300 < Z.length
    · obtain ⟨x', hx', hr'⟩ := cut_to (P := Tryz.prog) (ki := .i64) Tryz.underlying33 hi hz1 z1 300 (by omega)
      rw [unhide Hz] at hr'
      have HR := hide hr'
      have hx2 : ∀ u : World, (Instr.slice 33 (.slice bx Z.length bc) none (some (.int .i64 300)) none).run Tryz.prog u = .ok x' u := hx'
      have hlt : (300 : Int) < (Z.length : Int) := by omega
      clear hx' hr' z1 hrW
      go_wp2_with fail
      go_meet
      exact ⟨HR, rfl⟩
    · have hZz : Z = z := by rw [← unhide Hz, List.take_of_length_le (by omega)]
      have HR := hide z1
      rw [hZz] at HR
      have hlt : ¬ (300 : Int) < (Z.length : Int) := by omega
      have HZz := hide hZz
      clear z1 hrW hZz
      go_wp2_with fail
      go_meet
      exact ⟨by rw [unhide HZz]; exact HR, rfl⟩
  case rest =>
    obtain ⟨hR, hwx⟩ := hcut
    subst hwx
    clear z1 hrW
    have hRz := unhide hR
    obtain ⟨ya, yc, hy⟩ := hRz.slice
    subst hy
    have hown := own_any_u8 (.slice ya z.length yc) z 71 wc (by omega) (hRz.mono (fun _ _ => trivial))
    have gHb : ¬ H wc.heap.size := fun q => by have := hHl _ q; omega
    have gMb : ¬ M wc.heap.size := fun q => by have := hMl _ q; omega
    have gTb : wc.heap.size ≠ T := by omega
    have G := hide g
    clear g hRz ko
    go_wp2_with fail
    refine hown.mono ?_
    rintro e1 w1 ⟨rfl, hcl, bel, hfree⟩
    have t1 := Turn.of_below (F := fun _ => False) bel
    have g1 := (unhide G).calm t1
    have hin1 : Row .u8 any w1 (.slice (some ⟨wc.heap.size, 0, none⟩) z.length (z.length + 3)) z := row_of_cells hcl rfl (by omega) (by unfold maxLen; omega)
    have happ := append_j w1 H any J D X S _ z g1.j fit hzb hin1 hnx
    rw [he] at happ
    have c1 : w1.cell? ⟨T, 1, none⟩ = some (.pointer (some ⟨J, 0, none⟩)) := cell_obj g1.obj 1
    have G1 := hide g1
    clear hown g1 hin1 bel
    go_wp2_with fail
    refine happ.mono ?_
    rintro e2 w2 ⟨rfl, t2, j2⟩
    have g2 := (unhide G1).call t2 j2
    have hcl2 := hcl.turn t2 gHb
    have bx2 : Row .u8 (fun b => b < s0 ∧ ¬ H b ∧ b ≠ T) w2 (.slice ya z.length yc) z := ((unhide hR).turn t1 (fun _ _ q => q)).turn t2 (fun b hb => hb.2.1)
    have fr2 : Free w2 wc.heap.size := hfree.turn t2 gHb
    have hin2 : Row .u8 any w2 (.slice (some ⟨wc.heap.size, 0, none⟩) z.length (z.length + 3)) z := row_of_cells hcl2 rfl (by omega) (by unfold maxLen; omega)
    have hkp := kept_any_u8 wc.heap.size (.slice ya z.length yc) z 71 w2 (by omega) hcl2 (bx2.mono (fun _ _ => trivial))
    have T2 : Turn (fun j => j = T ∨ H j ∨ M j) w w2 := ((ta.then t1).mono (fun _ q => q.elim)).then (t2.mono (fun j hj => .inr (.inl hj)))
    have hs2 := T2.size
    have s12 : wc.heap.size < w1.heap.size := by obtain ⟨cur, Ty, hc⟩ := hfree; exact (Array.getElem?_eq_some_iff.1 hc).1
    have s22 := t2.size
    have H2 := hide (And.intro g2 (And.intro bx2 (And.intro fr2 (And.intro hin2 T2))))
    clear hcl2 hcl happ t1 t2 j2 c1 g2 bx2 fr2 hin2 hfree G1 G hR ta T2
    go_wp2_with fail
    refine hkp.mono ?_
    rintro e3 w3 ⟨rfl, nk, rfl⟩
    obtain ⟨g2, bx2, fr2, hin2, T2⟩ := unhide H2
    have tD : Turn (fun _ => False) w2 (w2.drewN nk) := Turn.drewN (Turn.refl _ w2) nk
    have g3 := g2.calm tD
    have bx3 := bx2.turn tD (fun _ _ q => q)
    have hsp := spoil_any (fun j => j = wc.heap.size) _ z (w2.drewN nk) (row_free (hin2.turn tD (fun _ _ q => q)) (fr2.turn tD (fun q => q)))
    have T3 := T2.then (tD.mono (fun _ q => q.elim))
    have H3 := hide (And.intro g3 (And.intro bx3 T3))
    clear hkp g2 bx2 fr2 hin2 T2 tD g3 bx3 T3 H2
    go_wp2_with fail
    refine hsp.mono ?_
    rintro e4 w4 ⟨⟨vr, rfl⟩, t4⟩
    obtain ⟨g3, bx3, T3⟩ := unhide H3
    have g4 := g3.away t4 (fun q => gTb q.symm) (fun j hj q => by
      subst q
      rcases hj.1 with q | q
      · exact gHb q
      · omega) (fun j hj q => gMb (q ▸ hj))
    have bx4 := bx3.turn t4 (fun b hb q => by have := hb.1; omega)
    have HB : Hid (∀ j, (NF w1 H j ∧ j < w2.heap.size) → H j ∨ w.heap.size ≤ j) := hide (fun j hj => by
      rcases hj.1 with q | q
      · exact .inl q
      · exact .inr (by have := unhide Hs0; omega))
    have T4 := T3.trans t4 (fun j hj => .inr (by have := unhide Hs0; omega))
    have c8 : w4.cell? ⟨T, 8, none⟩ = some (.bool false) := cell_obj g4.obj 8
    clear H3 g3 bx3 T3 hsp t4
    subst hc
    go_wp2_with fail
    go_ret
    exact ⟨rfl, T4, _, unhide HB, g4⟩
end Go.Proofs.YthikiahhochjmaaGreatDoor
