/- A network that is read. -/
import Derived.Test.YtmmlannnpndkcaaGSort
import Derived.Test.YtmmlannnpndkcaaGCode
namespace Go.Proofs.Ytmmlannnpndkcaa
open Go.RowKit Go.Maps
set_option linter.unusedVariables false
set_option linter.unusedSimpArgs false
set_option maxRecDepth 100000

theorem small_bytes {m : Nat} {r : List Int} {e : Int} (h : Bytes r) : Bytes (smallT m r e).2.1 := by
  unfold smallT
  split
  · exact h
  split
  · exact h
  split
  · exact h
  · exact h.drop _
theorem small_zero {m : Nat} {r : List Int} {e : Int} (h : e ≠ 0) : (smallT m r e).1 = 0 := by rw [small_fault h]
theorem small_len {m : Nat} {r : List Int} {e : Int} : (smallT m r e).2.1.length ≤ r.length := by
  unfold smallT
  split
  · exact Nat.le_refl _
  split
  · exact Nat.le_refl _
  split
  · exact Nat.le_refl _
  · rw [List.length_drop]; omega
theorem small_e {m : Nat} {r : List Int} {e : Int} {S : Nat × List Int × Int} (h : smallT m r e = S) (he : S.2.2 = 0) : e = 0 := by
  rcases Decidable.em (e = 0) with h1 | h1
  · exact h1
  · rw [small_fault h1] at h; subst h; exact he
/-- so far read -/
def ReadSo (c : Nat) (r0 : List Int) (e0 : Int) (L : List Ar) (k : Nat) (r : List Int) (e : Int) : Prop := arcsT c r0 e0 = (L ++ (arcsT k r e).1, (arcsT k r e).2)
theorem ReadSo.more {c : Nat} {r0 r r' : List Int} {e0 : Int} {L : List Ar} {k : Nat} {a : Ar} (h : ReadSo c r0 e0 L (k + 1) r 0) (ha : arcT r 0 = (a, r', 0)) : ReadSo c r0 e0 (L ++ [a]) k r' 0 := by
  unfold ReadSo at *
  rw [h]
  conv => lhs; unfold arcsT
  rw [ha]
  simp
theorem ReadSo.stop {c : Nat} {r0 r r' : List Int} {e0 e' : Int} {L : List Ar} {k : Nat} {a : Ar} (h : ReadSo c r0 e0 L (k + 1) r 0) (ha : arcT r 0 = (a, r', e')) (he : e' ≠ 0) : arcsT c r0 e0 = (L, r', e') := by
  unfold ReadSo at *
  rw [h]
  unfold arcsT
  rw [ha]
  simp [he]
theorem ReadSo.done {c : Nat} {r0 r : List Int} {e0 e : Int} {L : List Ar} (h : ReadSo c r0 e0 L 0 r e) : arcsT c r0 e0 = (L, r, e) := by
  unfold ReadSo at h
  rw [h]; simp [arcsT]
theorem RD.lt {B : Nat → Prop} {w : World} {p : Nat} {zs : List Int} {e : Int} (h : RD B w p zs e) : p < w.heap.size := by
  obtain ⟨x, h1, _⟩ := h
  exact (Array.getElem?_eq_some_iff.1 h1).1
theorem oa_make {w : World} {base g n : Nat} (h : w.ownsRow base 37 3 (.slice (some ⟨g, 0, none⟩) 0 n) 0 []) : OA w (.slice (some ⟨g, 0, none⟩) 0 n) [] := OwnSl.of_owns h

set_option maxHeartbeats 8000000 in
theorem read_walk (B : Nat → Prop) (w : World) (p : Nat) (zs : List Int) (hr : RD B w p zs 0) (hb : Bytes zs) (hB : ∀ b, B b → b < w.heap.size) (hl : zs.length ≤ 1000000) :
    Calls Try.prog 35 #[.pointer (some ⟨p, 0, none⟩)] w fun e w' => ∃ x, e = .returned (.agg #[.int .i64 (netT zs).1, x]) ∧ OA w' x (netT zs).2.1 ∧ RD B w' p (netT zs).2.2.1 (netT zs).2.2.2 ∧ Turn (only p) w w' ∧ (∀ j, x.ownBlock = some j → w.heap.size ≤ j) := by
  obtain ⟨i0, hi, hz0, hz1, hz2⟩ := info_parts info_arc
  have hp0 := hr.lt
  have hBB := hide hB
  clear hB
  have T1 := (Turn.refl (fun _ => False) w).alloc (.cells #[.int .i64 0, .slice none 0 0] 26)
  have hrb := heap_alloc_new w (.cells #[.int .i64 0, .slice none 0 0] 26)
  have Hs1 := rsmall_walk B p zs 0 4194304 _ (hr.turn T1 (fun h => h) (fun _ _ h => h)) hb (by omega) (by omega)
  rw [show (4194304 : Int).toNat = 4194304 from rfl] at Hs1
  have hN : netT zs = (((smallT 4194304 zs 0).1 : Int), arcsT (smallT 4194304 (smallT 4194304 zs 0).2.1 (smallT 4194304 zs 0).2.2).1 (smallT 4194304 (smallT 4194304 zs 0).2.1 (smallT 4194304 zs 0).2.2).2.1 (smallT 4194304 (smallT 4194304 zs 0).2.1 (smallT 4194304 zs 0).2.2).2.2) := rfl
  have hb1 : Bytes (smallT 4194304 zs 0).2.1 := small_bytes hb
  have hl1 := @small_len 4194304 zs 0
  generalize smallT 4194304 zs 0 = S1 at *
  obtain ⟨v1, r1, e1⟩ := S1
  simp only at Hs1 hN hb1 hl1
  have hb2 : Bytes (smallT 4194304 r1 e1).2.1 := small_bytes hb1
  have hl2 := @small_len 4194304 r1 e1
  have hv2 := smallT_le 4194304 r1 e1
  have hz2e : (smallT 4194304 r1 e1).2.2 = 0 ∨ (smallT 4194304 r1 e1).1 = 0 := by
    by_cases h : e1 = 0
    · subst h
      unfold smallT
      rw [if_neg (by simp)]
      split
      · exact .inr rfl
      split
      · exact .inr rfl
      · exact .inl rfl
    · exact .inr (small_zero h)
  have Hsm2 := fun u h => rsmall_walk B p r1 e1 4194304 u h hb1 (by omega) (by omega)
  rw [show (4194304 : Int).toNat = 4194304 from rfl] at Hsm2
  generalize smallT 4194304 r1 e1 = S2 at *
  obtain ⟨cnt, r2, e2⟩ := S2
  simp only at hN hb2 hl2 hv2 hz2e Hsm2
  rw [hN]
  simp only
  have HN := hide hN
  clear hN hr
  go_enter Try.func35, Try.ntmps35
  go_wp2_with fail
  generalize w.alloc (.cells #[.int .i64 0, .slice none 0 0] 26) = W1 at *
  generalize hrbe : w.heap.size = rb at *
  have Hrb := hide hrbe
  refine Hs1.mono ?_
  rintro en w2 ⟨rfl, D2, t2⟩
  have hrb2 := t2.same hrb (by unfold only; omega)
  have T2 : Turn (only p) w w2 := (T1.mono (fun _ h => h.elim)).then t2
  have T2' := T2.alloc (.cells #[.int .i64 (v1 : Int), .slice none 0 0] 26)
  have tA := (Turn.refl (fun _ => False) w2).alloc (.cells #[.int .i64 (v1 : Int), .slice none 0 0] 26)
  have hnb := heap_alloc_new w2 (.cells #[.int .i64 (v1 : Int), .slice none 0 0] 26)
  have hrb3 := tA.same hrb2 (fun h => h)
  have hnbr : rb < w2.heap.size := (Array.getElem?_eq_some_iff.1 hrb2).1
  have Hs2 := Hsm2 _ (D2.turn tA (fun h => h) (fun _ _ h => h))
  clear Hs1 Hsm2 T2 t2 hrb2 T1 hrb tA D2 hrbe
  go_wp2_with fail
  generalize w2.alloc (.cells #[.int .i64 (v1 : Int), .slice none 0 0] 26) = W3 at *
  generalize w2.heap.size = nb at *
  refine Hs2.mono ?_
  rintro en w4 ⟨rfl, D4, t4⟩
  have hrb4 := t4.same hrb3 (by unfold only; omega)
  have hnb4 := t4.same hnb (by unfold only; omega)
  have T4 := T2'.then t4
  clear Hs2 T2' t4 hrb3 hnb
  go_wp2_with fail
  refine (rleft_walk B p r2 e2 w4 D4).mono ?_
  rintro en w5 ⟨rfl, rfl⟩
  obtain ⟨M, hM⟩ : ∃ M : Nat, M = min cnt (r2.length / 3) := ⟨_, rfl⟩
  have hq : (r2.length : Int) / 3 = ((r2.length / 3 : Nat) : Int) := by omega
  generalize hq3 : r2.length / 3 = q3 at *
  have hm1 : (if (q3 : Int) < (cnt : Int) then (q3 : Int) else (cnt : Int)) = (M : Int) := by split <;> omega
  have hm2 : (if q3 < cnt then (q3 : Int) else (cnt : Int)) = (M : Int) := by split <;> omega
  have hm3 : (if q3 < cnt then Value.int .i64 (q3 : Int) else Value.int .i64 (cnt : Int)) = Value.int .i64 (M : Int) := by rw [← hm2]; split <;> rfl
  have hM6 : M ≤ 1000000 := by omega
  have f1 : w5.cell? ⟨nb, 1, none⟩ = some (.slice none 0 0) := cell_obj hnb4 1
  have hs5 := T4.size
  clear hM
  go_wp2_with (at_make; refine wpList_make_own _ rfl _ _ 24 rfl w5.heap.size 37 i0 (.agg #[.int .i64 0, .int .i64 0, .int .i64 0]) 3 Try.underlying24 hi hz0 hz1 .i64 .i64 _ M rfl rfl (by omega) (by rw [hz2]; omega) (by unfold maxLen; omega) (Nat.le_refl _) ?_; intro w6 hown6 hgrow6; have t6 : Turn (fun _ => False) w5 w6 := Turn.grown hgrow6 (fun k h => by cases h); have nb6 := t6.same hnb4 (fun h => h); have f6 : w6.cell? ⟨nb, 1, none⟩ = some (.slice none 0 0) := cell_obj nb6 1; have z6 : w6.frozen? ⟨nb, 1, none⟩ = false := frozen_obj nb6 1)
  have O6 := oa_make hown6
  have rb6 := t6.same hrb4 (fun h => h)
  have D6 := D4.turn t6 (fun h => h) (fun _ _ h => h)
  have T6 : Turn (only p) w w6 := T4.then (t6.mono (fun _ h => h.elim))
  have nb7 := heap_setCell_obj (j := 1) nb6 (.slice (some ⟨w5.heap.size, 0, none⟩) 0 M)
  have t7 : Turn (fun j => j = nb) w6 (w6.setCell ⟨nb, 1, none⟩ (.slice (some ⟨w5.heap.size, 0, none⟩) 0 M)) := (Turn.refl (fun j => j = nb) w6).setCell (p := ⟨nb, 1, none⟩) (.inl rfl) _
  have rb7 := t7.same rb6 (by omega)
  have O7 := O6.turn t7 (fun j hj => by have := OwnSl.neObj O6 nb6 (by decide) j hj; exact this)
  have D7 := D6.turn t7 (by omega) (fun b hb => by have := unhide hBB b hb; have := unhide Hrb; omega)
  have T7 := T6.trans t7 (fun j hj => .inr (by have := unhide Hrb; omega))
  have own7 : Hid (∀ j, (Value.slice (some ⟨w5.heap.size, 0, none⟩) 0 M).ownBlock = some j → rb ≤ j) := hide (fun j hj => by
    simp [Value.ownBlock] at hj
    have := unhide Hrb
    omega)
  clear f6 z6 f1 t6 t7 O6 nb6 rb6 D6 T6 hown6 hgrow6 D4 hrb4 hnb4 T4 hs5 hm1 hm2 hm3 hz0 hz1 hz2 hi
  generalize w6.setCell ⟨nb, 1, none⟩ (.slice (some ⟨w5.heap.size, 0, none⟩) 0 M) = w7 at *
  generalize Value.slice (some ⟨w5.heap.size, 0, none⟩) 0 M = x7 at *
  have HB2 := hide hb2
  clear hb2 hb1 hb
  go_loopw [19] (fun i wr => ∃ (k : Nat) (L : List Ar) (r : List Int) (e : Int) (xv : Value), i = .int .i64 (k : Int) ∧ k ≤ cnt ∧ OA wr xv L ∧ wr.heap[nb]? = some (.cells #[.int .i64 (v1 : Int), xv] 26 (0, 0)) ∧ wr.heap[rb]? = some (.cells #[.int .i64 0, .slice none 0 0] 26 (0, 0)) ∧ RD B wr p r e ∧ Hid (Bytes r) ∧ Hid (ReadSo cnt r2 e2 L (cnt - k) r e) ∧ Hid (e = 0 ∨ cnt = 0) ∧ Hid (∀ j, xv.ownBlock = some j → rb ≤ j) ∧ Turn (only p) w wr ∧ Hid (L.length ≤ k)) (fun i _ => cnt - (intOf i).toNat)
  case atStart => exact ⟨0, [], r2, e2, x7, rfl, Nat.zero_le _, O7, nb7, rb7, D7, HB2, hide (by simp [ReadSo]), hide hz2e, own7, T7, hide (Nat.le_refl _)⟩
  case round =>
    obtain ⟨k, L, r, e, xv, rfl, hk, hO, hnb, hrb, hD, hBr, hso, hez, hown, tr, hLk⟩ := hrel
    clear O7 nb7 rb7 D7 own7 T7 hz2e
    obtain ⟨xa, xc, rfl⟩ := hO.form
    by_cases hlt : k < cnt
    · obtain rfl : e = 0 := by have := unhide hez; omega
      have hpO : Hid (∀ j, (Value.slice xa L.length xc).ownBlock = some j → ¬ only p j) := hide (fun j hj e => by have := unhide hown j hj; unfold only at e; omega)
      have hArc : arcT r 0 = ((((smallT 4194304 r 0).1 : Int), ((smallT 4194304 (smallT 4194304 r 0).2.1 (smallT 4194304 r 0).2.2).1 : Int),
        ((smallT 1048576 (smallT 4194304 (smallT 4194304 r 0).2.1 (smallT 4194304 r 0).2.2).2.1 (smallT 4194304 (smallT 4194304 r 0).2.1 (smallT 4194304 r 0).2.2).2.2).1 : Int)),
        (smallT 1048576 (smallT 4194304 (smallT 4194304 r 0).2.1 (smallT 4194304 r 0).2.2).2.1 (smallT 4194304 (smallT 4194304 r 0).2.1 (smallT 4194304 r 0).2.2).2.2).2) := rfl
      have HsA := rsmall_walk B p r 0 4194304 wr hD (unhide hBr) (by omega) (by omega)
      rw [show (4194304 : Int).toNat = 4194304 from rfl] at HsA
      have hbA : Bytes (smallT 4194304 r 0).2.1 := small_bytes (unhide hBr)
      generalize smallT 4194304 r 0 = SA at *
      obtain ⟨vA, rA, eA⟩ := SA
      simp only at HsA hArc hbA
      have HsB := fun u h => rsmall_walk B p rA eA 4194304 u h hbA (by omega) (by omega)
      rw [show (4194304 : Int).toNat = 4194304 from rfl] at HsB
      have hbB : Bytes (smallT 4194304 rA eA).2.1 := small_bytes hbA
      generalize smallT 4194304 rA eA = SB at *
      obtain ⟨vB, rB, eB⟩ := SB
      simp only at HsB hArc hbB
      have HsC := fun u h => rsmall_walk B p rB eB 1048576 u h hbB (by omega) (by omega)
      rw [show (1048576 : Int).toNat = 1048576 from rfl] at HsC
      have hbC : Bytes (smallT 1048576 rB eB).2.1 := small_bytes hbB
      generalize smallT 1048576 rB eB = SC at *
      obtain ⟨vC, rC, eC⟩ := SC
      simp only at HsC hArc hbC
      have HArc := hide hArc
      have HbC := hide hbC
      clear hArc hbA hbB hbC hD hez hBr
      go_wp2_with fail
      refine HsA.mono ?_
      rintro en wA ⟨rfl, DA, tA⟩
      have HB' := HsB _ DA
      clear HsA HsB
      go_wp2_with fail
      refine HB'.mono ?_
      rintro en wB ⟨rfl, DB, tB⟩
      have HC' := HsC _ DB
      clear HB' HsC DA
      go_wp2_with fail
      refine HC'.mono ?_
      rintro en wC ⟨rfl, DC, tC⟩
      have tABC : Turn (only p) wr wC := (tA.then tB).then tC
      have tX := (Turn.refl (fun _ => False) wC).alloc (.cells #[.int .i64 (vA : Int), .int .i64 (vB : Int), .int .i64 (vC : Int)] 37)
      have nbC := tX.same (tABC.same hnb (by unfold only; omega)) (fun h => h)
      have rbC := tX.same (tABC.same hrb (by unfold only; omega)) (fun h => h)
      have OC := (hO.turn tABC (unhide hpO)).turn tX (fun _ _ h => h)
      have DC' := DC.turn tX (fun h => h) (fun _ _ h => h)
      have TC := (tr.then tABC).then (tX.mono (fun _ h => h.elim))
      have kX := heap_alloc_new wC (.cells #[.int .i64 (vA : Int), .int .i64 (vB : Int), .int .i64 (vC : Int)] 37)
      clear HC' DB DC tA tB tC tABC hnb hrb hO tr tX hpO
      go_wp2_with fail
      generalize wC.alloc (.cells #[.int .i64 (vA : Int), .int .i64 (vB : Int), .int .i64 (vC : Int)] 37) = wr at *
      generalize wC.heap.size = bx at *
      have hbxp : p ≠ bx := by
        rintro rfl
        obtain ⟨x, h1, _⟩ := DC'
        rw [kX] at h1
        cases h1
      refine (rerr_walk B p rC eC wr DC').mono ?_
      rintro en w' ⟨rfl, rfl⟩
      have ho1 : k + 1 ≤ cnt := hlt
      have hck : cnt - k = (cnt - (k + 1)) + 1 := by omega
      rw [hck] at hso
      by_cases he : eC = 0
      · subst he
        have hso2 := hide ((unhide hso).more (unhide HArc))
        have b0 : w'.cell? ⟨bx, 0, none⟩ = some (.int .i64 (vA : Int)) := cell_obj kX 0
        have b1 : w'.cell? ⟨bx, 1, none⟩ = some (.int .i64 (vB : Int)) := cell_obj kX 1
        have b2 : w'.cell? ⟨bx, 2, none⟩ = some (.int .i64 (vC : Int)) := cell_obj kX 2
        have c1 : w'.cell? ⟨nb, 1, none⟩ = some (.slice xa L.length xc) := cell_obj nbC 1
        obtain ⟨x8, w8, hrun, O8, t8, own8⟩ := append_arc OC ((vA : Int), (vB : Int), (vC : Int)) (by have := unhide hLk; omega)
        simp only at hrun O8
        have ne1 : ∀ j, (Value.slice xa L.length xc).ownBlock = some j → j ≠ nb := fun j hj => OwnSl.neObj OC nbC (by decide) j hj
        have ne2 : ∀ j, (Value.slice xa L.length xc).ownBlock = some j → j ≠ rb := fun j hj => OwnSl.neObj OC rbC (by decide) j hj
        have nb8 := t8.same nbC (fun h => ne1 nb h rfl)
        have rb8 := t8.same rbC (fun h => ne2 rb h rfl)
        have D8 := DC'.turn t8 (fun h => by have := unhide hown p h; omega) (fun b hb h => by have := unhide hown b h; have := unhide hBB b hb; have := unhide Hrb; omega)
        have T8 := TC.trans t8 (fun j hj => .inr (by have := unhide hown j hj; have := unhide Hrb; omega))
        have own9 : Hid (∀ j, x8.ownBlock = some j → rb ≤ j) := hide (fun j hj => by
          rcases own8 j hj with h | h
          · exact unhide hown j h
          · have := (Array.getElem?_eq_some_iff.1 nbC).1; omega)
        have f8 : w8.cell? ⟨nb, 1, none⟩ = some (.slice xa L.length xc) := cell_obj nb8 1
        have z8 : w8.frozen? ⟨nb, 1, none⟩ = false := frozen_obj nb8 1
        obtain ⟨ya, yc, rfl⟩ := O8.form
        have nb9 := heap_setCell_obj (j := 1) nb8 (.slice ya (L ++ [((vA : Int), (vB : Int), (vC : Int))]).length yc)
        have t9 : Turn (fun j => j = nb) w8 (w8.setCell ⟨nb, 1, none⟩ (.slice ya (L ++ [((vA : Int), (vB : Int), (vC : Int))]).length yc)) := (Turn.refl (fun j => j = nb) w8).setCell (p := ⟨nb, 1, none⟩) (.inl rfl) _
        have rb9 := t9.same rb8 (by omega)
        have O9 := O8.turn t9 (fun j hj => OwnSl.neObj O8 nb8 (by decide) j hj)
        have D9 := D8.turn t9 (by omega) (fun b hb => by have := unhide hBB b hb; have := unhide Hrb; omega)
        have T9 := T8.trans t9 (fun j hj => .inr (by have := unhide Hrb; omega))
        have hL9 : Hid ((L ++ [((vA : Int), (vB : Int), (vC : Int))]).length ≤ k + 1) := hide (by have := unhide hLk; simp; omega)
        generalize hL' : (L ++ [((vA : Int), (vB : Int), (vC : Int))]) = L' at *
        clear own8 t8 nb8 rb8 O8 D8 T8 t9 ne1 ne2 OC nbC rbC DC' TC hown hso kX hck hL'
        go_wp2_with (at_builtin; refine list_append_run rfl _ _ 24 rfl _ _ _ _ rfl rfl hrun ?_)
        exact ⟨⟨k + 1, L', rC, 0, _, by go_num, ho1, O9, nb9, rb9, D9, HbC, hso2, hide (.inl rfl), own9, T9, hL9⟩, by simp [intOf]; omega⟩
      · have hst := (unhide hso).stop (unhide HArc) he
        have Hst := hide hst
        have hnb := nbC
        have hrb := rbC
        have hO := OC
        have hD := DC'
        have tr := TC
        clear nbC rbC OC DC' TC hso hst HArc HbC kX hck
        have hnbr3 := hnb
        have c0 : w'.cell? ⟨nb, 0, none⟩ = some (.int .i64 (v1 : Int)) := cell_obj hnb 0
        have c1 : w'.cell? ⟨nb, 1, none⟩ = some (.slice xa L.length xc) := cell_obj hnb 1
        have d0 : w'.cell? ⟨rb, 0, none⟩ = some (.int .i64 0) := cell_obj hrb 0
        have d1 : w'.cell? ⟨rb, 1, none⟩ = some (.slice none 0 0) := cell_obj hrb 1
        have y0 : w'.frozen? ⟨rb, 0, none⟩ = false := frozen_obj hrb 0
        have y1 : w'.frozen? ⟨rb, 1, none⟩ = false := frozen_obj hrb 1
        have r1 := heap_setCell_obj (j := 0) hrb (.int .i64 (v1 : Int))
        have r2' := heap_setCell_obj (j := 1) r1 (.slice xa L.length xc)
        have e0 : ((w'.setCell ⟨rb, 0, none⟩ (.int .i64 (v1 : Int))).setCell ⟨rb, 1, none⟩ (.slice xa L.length xc)).cell? ⟨rb, 0, none⟩ = some (.int .i64 (v1 : Int)) := by rw [cell_obj r2' 0]; rfl
        have e1 : ((w'.setCell ⟨rb, 0, none⟩ (.int .i64 (v1 : Int))).setCell ⟨rb, 1, none⟩ (.slice xa L.length xc)).cell? ⟨rb, 1, none⟩ = some (.slice xa L.length xc) := by rw [cell_obj r2' 1]; rfl
        have tf : Turn (fun j => j = rb) w' ((w'.setCell ⟨rb, 0, none⟩ (.int .i64 (v1 : Int))).setCell ⟨rb, 1, none⟩ (.slice xa L.length xc)) := ((Turn.refl (fun j => j = rb) w').setCell (p := ⟨rb, 0, none⟩) (.inl rfl) _).setCell (p := ⟨rb, 1, none⟩) (.inl rfl) _
        have OF := hO.turn tf (fun j hj => hO.neObj hrb (by decide) j hj)
        have DF := hD.turn tf (by omega) (fun b hb => by have := unhide hBB b hb; have := unhide Hrb; omega)
        have TF := tr.trans tf (fun j hj => .inr (by have := unhide Hrb; omega))
        clear r1 r2' tf tr hO hD
        go_wp2
        exact bodyPost_ret (v := .agg #[.int .i64 (v1 : Int), .slice xa L.length xc]) (by simp [results, Try.results35, go_sem, e0, e1]) rfl ⟨_, rfl, by rw [unhide Hst]; exact OF, by rw [unhide Hst]; exact DF, TF, fun j hj => by have := unhide hown j hj; have := unhide Hrb; omega⟩
    · obtain rfl : k = cnt := by omega
      rw [Nat.sub_self] at hso
      have hst := (unhide hso).done
      have Hst := hide hst
      clear hso hst hez hBr
      have hnbr3 := hnb
      have c0 : wr.cell? ⟨nb, 0, none⟩ = some (.int .i64 (v1 : Int)) := cell_obj hnb 0
      have c1 : wr.cell? ⟨nb, 1, none⟩ = some (.slice xa L.length xc) := cell_obj hnb 1
      have d0 : wr.cell? ⟨rb, 0, none⟩ = some (.int .i64 0) := cell_obj hrb 0
      have d1 : wr.cell? ⟨rb, 1, none⟩ = some (.slice none 0 0) := cell_obj hrb 1
      have y0 : wr.frozen? ⟨rb, 0, none⟩ = false := frozen_obj hrb 0
      have y1 : wr.frozen? ⟨rb, 1, none⟩ = false := frozen_obj hrb 1
      have r1 := heap_setCell_obj (j := 0) hrb (.int .i64 (v1 : Int))
      have r2' := heap_setCell_obj (j := 1) r1 (.slice xa L.length xc)
      have e0 : ((wr.setCell ⟨rb, 0, none⟩ (.int .i64 (v1 : Int))).setCell ⟨rb, 1, none⟩ (.slice xa L.length xc)).cell? ⟨rb, 0, none⟩ = some (.int .i64 (v1 : Int)) := by rw [cell_obj r2' 0]; rfl
      have e1 : ((wr.setCell ⟨rb, 0, none⟩ (.int .i64 (v1 : Int))).setCell ⟨rb, 1, none⟩ (.slice xa L.length xc)).cell? ⟨rb, 1, none⟩ = some (.slice xa L.length xc) := by rw [cell_obj r2' 1]; rfl
      have tf : Turn (fun j => j = rb) wr ((wr.setCell ⟨rb, 0, none⟩ (.int .i64 (v1 : Int))).setCell ⟨rb, 1, none⟩ (.slice xa L.length xc)) := ((Turn.refl (fun j => j = rb) wr).setCell (p := ⟨rb, 0, none⟩) (.inl rfl) _).setCell (p := ⟨rb, 1, none⟩) (.inl rfl) _
      have OF := hO.turn tf (fun j hj => hO.neObj hrb (by decide) j hj)
      have DF := hD.turn tf (by omega) (fun b hb => by have := unhide hBB b hb; have := unhide Hrb; omega)
      have TF := tr.trans tf (fun j hj => .inr (by have := unhide Hrb; omega))
      clear r1 r2' tf tr hO hD
      go_wp2
      exact bodyPost_ret (v := .agg #[.int .i64 (v1 : Int), .slice xa L.length xc]) (by simp [results, Try.results35, go_sem, e0, e1]) rfl ⟨_, rfl, by rw [unhide Hst]; exact OF, by rw [unhide Hst]; exact DF, TF, fun j hj => by have := unhide hown j hj; have := unhide Hrb; omega⟩
end Go.Proofs.Ytmmlannnpndkcaa
