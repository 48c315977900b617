/- The reference: which network bytes are. -/
import Derived.Test.YtmmlannnpndkcaaGDecode
import Derived.Test.YtmmlannnpndkcaaGMay
namespace Go.Proofs.Ytmmlannnpndkcaa
open Go.RowKit Go.Maps
set_option linter.unusedVariables false
set_option linter.unusedSimpArgs false
set_option maxRecDepth 100000

theorem small_short {m : Nat} {r : List Int} {v : Nat} {r' : List Int} (hb : Bytes r) (h : smallT m r 0 = (v, r', 0)) : r'.length + 1 ≤ r.length := by
  obtain ⟨h1, _, _⟩ := small_ok hb h
  have := numB_pos v
  rw [h1, List.length_append]
  omega
theorem set_size (w : World) (p : Addr) (v : Value) : (w.setCell p v).heap.size = w.heap.size := by simp [World.setCell]
theorem arcT_parts (r : List Int) (e : Int) (vA vB vC : Nat) (rA rB rC : List Int) (eA eB eC : Int) (h1 : smallT 4194304 r e = (vA, rA, eA)) (h2 : smallT 4194304 rA eA = (vB, rB, eB)) (h3 : smallT 1048576 rB eB = (vC, rC, eC)) : arcT r e = (((vA : Int), (vB : Int), (vC : Int)), rC, eC) := by
  unfold arcT
  rw [h1]
  simp only
  rw [h2]
  simp only
  rw [h3]

set_option maxHeartbeats 16000000 in
theorem rdecode_walk (B0 : Nat → Prop) (w : World) (v : Value) (zs : List Int) (hr : Row .u8 B0 w v zs) (hb : Bytes zs) (hl : zs.length ≤ 1000000) :
    Calls Try.prog 11 #[v] w fun e w' => ∃ n x k, e = .returned (.tuple #[.agg #[.int .i64 n, x], .int .i64 k]) ∧ DecAns zs w' n x k ∧ Turn (fun _ => False) w w' := by
  have T1 := (Turn.refl (fun _ => False) w).alloc (.cells #[.int .i64 0, .slice none 0 0] 26)
  have hrb := heap_alloc_new w (.cells #[.int .i64 0, .slice none 0 0] 26)
  have R1 := (hr.lt).turn T1 (fun _ _ h => h)
  match zs, hl, hb, hr, R1 with
  | [], _, _, hr, _ =>
    obtain ⟨a, c, rfl⟩ := hr.slice
    clear hr
    go_enter Try.func11, Try.ntmps11
    go_wp2
    exact bodyPost_ret (v := .tuple #[.agg #[.int .i64 0, .slice none 0 0], .int .i64 9]) (by simp [results, Try.results11, go_sem]) rfl ⟨0, _, 9, rfl, ⟨[], ar_none _ _, rfl⟩, (Turn.refl _ _).alloc _⟩
  | z :: r, hl, hb, hr, R1 =>
    obtain ⟨g, off, c, hv, h0⟩ : ∃ g off c, v = .slice (some ⟨g, off, none⟩) (z :: r).length c ∧ w.cell? ⟨g, off, none⟩ = some (.int .u8 z) := by
      rcases hr with ⟨_, _, _, _, _, h⟩ | ⟨g, off, c, rfl, _, _, _, hc⟩
      · simp at h
      · exact ⟨g, off, c, rfl, by have := hc 0 (by simp); simpa using this⟩
    subst hv
    have h0' : (w.alloc (.cells #[.int .i64 0, .slice none 0 0] 26)).cell? ⟨g, off, none⟩ = some (.int .u8 z) := T1.cell h0 (fun h => h)
    have hln : (z :: r).length = r.length + 1 := rfl
    have hl' : r.length ≤ 1000000 := by simp at hl; omega
    by_cases h7 : z = 7
    · subst h7
      have hbr : Bytes r := fun x hx => hb x (by simp [hx])
      have Hd : Hid (decodeT (7 :: r) = if (netT r).2.2.2 ≠ 0 then (0, [], (netT r).2.2.2) else if BoundedN (netT r).1 (netT r).2.1 ∧ (netT r).2.1.Pairwise ltA ∧ (netT r).2.2.1 = [] then ((netT r).1, (netT r).2.1, 0) else (0, [], 10)) := hide (by unfold decodeT; simp)
      have hN : netT r = (((smallT 4194304 r 0).1 : Int), arcsT (smallT 4194304 (smallT 4194304 r 0).2.1 (smallT 4194304 r 0).2.2).1 (smallT 4194304 (smallT 4194304 r 0).2.1 (smallT 4194304 r 0).2.2).2.1 (smallT 4194304 (smallT 4194304 r 0).2.1 (smallT 4194304 r 0).2.2).2.2) := rfl
      have tB := (Turn.refl (fun _ => False) (w.alloc (.cells #[.int .i64 0, .slice none 0 0] 26))).alloc (.cells #[.slice (some ⟨g, off, none⟩) (r.length + 1) c, .int .i64 1, .int .i64 0] 68)
      have hq := heap_alloc_new (w.alloc (.cells #[.int .i64 0, .slice none 0 0] 26)) (.cells #[.slice (some ⟨g, off, none⟩) (r.length + 1) c, .int .i64 1, .int .i64 0] 68)
      rw [alloc_size] at hq
      have hrb2 := tB.same hrb (fun h => h)
      have R2 := R1.turn tB (fun _ _ h => h)
      rw [hln] at R2
      have D2 : RR (fun b => B0 b ∧ b < w.heap.size) _ (w.heap.size + 1) (7 :: r) r 0 := ⟨_, 1, hq, R2, (fun h => by have := h.2; omega), by simp, by simp⟩
      have T2 := T1.then tB
      rw [hln]
      clear hr R1 R2 h0 tB hrb T1
      go_enter Try.func11, Try.ntmps11
      go_wp2_with fail
      generalize ((w.alloc (.cells #[.int .i64 0, .slice none 0 0] 26)).alloc (.cells #[.slice (some ⟨g, off, none⟩) (r.length + 1) c, .int .i64 1, .int .i64 0] 68)) = W2 at *
      obtain ⟨q, hqe⟩ : ∃ q, q = w.heap.size + 1 := ⟨_, rfl⟩
      have hqb : q ≠ w.heap.size := by omega
      rw [← hqe] at D2 ⊢
      generalize hrbe : w.heap.size = rb at *
      have Hrb := hide hrbe
      have Hqe := hide hqe
      obtain ⟨B, hBd⟩ : ∃ B : Nat → Prop, B = fun b => B0 b ∧ b < rb := ⟨_, rfl⟩
      rw [← hBd] at D2
      have HB : Hid (∀ b, B b → b < rb) := hide (fun b h => by rw [hBd] at h; exact h.2)
      clear hBd
      have hb1' : Bytes (smallT 4194304 r 0).2.1 := small_bytes hbr
      have hl1 := @small_len 4194304 r 0
      have Hs1 := refrsmall_walk B q (7 :: r) r 0 4194304 W2 D2 hb (by omega) (by omega)
      rw [show (4194304 : Int).toNat = 4194304 from rfl] at Hs1
      generalize smallT 4194304 r 0 = S1 at *
      obtain ⟨v1, r1, e1⟩ := S1
      simp only at hN hb1' hl1 Hs1
      have Hsm2 := fun u h => refrsmall_walk B q (7 :: r) r1 e1 4194304 u h hb (by omega) (by omega)
      rw [show (4194304 : Int).toNat = 4194304 from rfl] at Hsm2
      have hb2' : Bytes (smallT 4194304 r1 e1).2.1 := small_bytes hb1'
      have hl2 := @small_len 4194304 r1 e1
      have hv2 := smallT_le 4194304 r1 e1
      have hz2e : (smallT 4194304 r1 e1).2.2 = 0 ∨ (smallT 4194304 r1 e1).1 = 0 := by
        by_cases h : e1 = 0
        · subst h
          unfold smallT
          rw [if_neg (by simp)]
          split
          · exact .inr rfl
          split
          · exact .inr rfl
          · exact .inl rfl
        · exact .inr (small_zero h)
      generalize smallT 4194304 r1 e1 = S2 at *
      obtain ⟨cnt, r2, e2⟩ := S2
      simp only at hN hb2' hl2 hv2 hz2e Hsm2
      have HN := hide hN
      have Hbz := hide hb
      have HB2 := hide hb2'
      have Hl2 := hide (show r2.length ≤ 1000000 by omega)
      clear hN hb hb1' hb2' hbr D2 h0' hrbe hqe hq hl1 hl2
      refine Hs1.mono ?_
      rintro en w3 ⟨rfl, D3, t3⟩
      have rb3 := t3.same hrb2 (by unfold only; omega)
      have T3 := T2.trans t3 (fun j hj => .inr (by unfold only at hj; have := unhide Hqe; have := unhide Hrb; omega))
      have tX := (Turn.refl (fun _ => False) w3).alloc (.cells #[.int .i64 (v1 : Int), .slice none 0 0] 26)
      have nb4 := heap_alloc_new w3 (.cells #[.int .i64 (v1 : Int), .slice none 0 0] 26)
      have rb4 := tX.same rb3 (fun h => h)
      have T4 := T3.then tX
      have hqw : q < w3.heap.size := by obtain ⟨_, _, h, _⟩ := D3; exact (Array.getElem?_eq_some_iff.1 h).1
      have Hs2 := Hsm2 _ (D3.turn tX (fun h => h) (fun _ _ h => h))
      clear Hs1 Hsm2 hrb2 T2 t3 rb3 T3 tX D3
      go_wp2_with fail
      generalize w3.alloc (.cells #[.int .i64 (v1 : Int), .slice none 0 0] 26) = W4 at *
      generalize w3.heap.size = nb at *
      refine Hs2.mono ?_
      rintro en w5 ⟨rfl, D5, t5⟩
      have rb5 := t5.same rb4 (by unfold only; omega)
      have nb5 := t5.same nb4 (by unfold only; omega)
      have T5 := T4.trans t5 (fun j hj => .inr (by unfold only at hj; have := unhide Hqe; have := unhide Hrb; omega))
      have hrq : rb < q := by have := unhide Hqe; omega
      clear Hs2 rb4 nb4 T4 t5 hqb
      go_wp2_with fail
      go_loopw [7] (fun i wr => ∃ (k : Nat) (L : List Ar) (r' : List Int) (e : Int) (xv : Value), i = .int .i64 (k : Int) ∧ k ≤ cnt ∧ OA wr xv L ∧ wr.heap[nb]? = some (.cells #[.int .i64 (v1 : Int), xv] 26 (0, 0)) ∧ wr.heap[rb]? = some (.cells #[.int .i64 0, .slice none 0 0] 26 (0, 0)) ∧ RR B wr q (7 :: r) r' e ∧ Hid (Bytes r') ∧ Hid ((e = 0 ∧ ReadSo cnt r2 e2 L (cnt - k) r' 0) ∨ (e ≠ 0 ∧ arcsT cnt r2 e2 = (L, r', e))) ∧ Hid (∀ j, xv.ownBlock = some j → q < j) ∧ Turn (fun _ => False) w wr ∧ Hid (L.length + r'.length ≤ r2.length)) (fun i _ => cnt - (intOf i).toNat)
      case atStart =>
        refine ⟨0, [], r2, e2, .slice none 0 0, rfl, Nat.zero_le _, oa_none _, nb5, rb5, D5, HB2, hide ?_, hide (fun j hj => by simp [Value.ownBlock] at hj), T5, hide (by simp)⟩
        by_cases h : e2 = 0
        · subst h; exact .inl ⟨rfl, by simp [ReadSo]⟩
        · obtain rfl : cnt = 0 := by omega
          exact .inr ⟨h, rfl⟩
      case round =>
        obtain ⟨k, L, r', e, xv, rfl, hk, hO, hnb, hrb, hD, hBr, hso, hown, tr, hLk⟩ := hrel
        clear nb5 rb5 D5 T5 hz2e
        obtain ⟨xa, xc, rfl⟩ := hO.form
        obtain ⟨rx, ra, hqc, _, _, _, _⟩ := hD
        have g2 : wr.cell? ⟨q, 2, none⟩ = some (.int .i64 e) := cell_obj hqc 2
        have hD : RR B wr q (7 :: r) r' e := ⟨rx, ra, hqc, by assumption, by assumption, by assumption, by assumption⟩
        by_cases hlt : k < cnt ∧ e = 0
        · obtain ⟨hlt, rfl⟩ := hlt
          have hso0 : Hid (ReadSo cnt r2 e2 L (cnt - k) r' 0) := hide (by rcases unhide hso with h | h; exact h.2; exact absurd rfl h.1)
          clear hso
          have hqO : Hid (∀ j, (Value.slice xa L.length xc).ownBlock = some j → ¬ only q j) := hide (fun j hj e => by have := unhide hown j hj; unfold only at e; omega)
          have HsA := refrsmall_walk B q (7 :: r) r' 0 4194304 wr hD (unhide Hbz) (by omega) (by omega)
          rw [show (4194304 : Int).toNat = 4194304 from rfl] at HsA
          have hbA : Bytes (smallT 4194304 r' 0).2.1 := small_bytes (unhide hBr)
          have hsA := @small_len 4194304 r' 0
          generalize hSA : smallT 4194304 r' 0 = SA at *
          obtain ⟨vA, rA, eA⟩ := SA
          simp only at HsA hbA hsA
          have HsB := fun u h => refrsmall_walk B q (7 :: r) rA eA 4194304 u h (unhide Hbz) (by omega) (by omega)
          rw [show (4194304 : Int).toNat = 4194304 from rfl] at HsB
          have hbB : Bytes (smallT 4194304 rA eA).2.1 := small_bytes hbA
          have hsB := @small_len 4194304 rA eA
          generalize hSB : smallT 4194304 rA eA = SB at *
          obtain ⟨vB, rB, eB⟩ := SB
          simp only at HsB hbB hsB
          have HsC := fun u h => refrsmall_walk B q (7 :: r) rB eB 1048576 u h (unhide Hbz) (by omega) (by omega)
          rw [show (1048576 : Int).toNat = 1048576 from rfl] at HsC
          have hbC : Bytes (smallT 1048576 rB eB).2.1 := small_bytes hbB
          have hsC := @small_len 1048576 rB eB
          generalize hSC : smallT 1048576 rB eB = SC at *
          obtain ⟨vC, rC, eC⟩ := SC
          simp only at HsC hbC hsC
          have HArc := hide (arcT_parts r' 0 vA vB vC rA rB rC eA eB eC hSA hSB hSC)
          have HLC := hide (show rC.length ≤ r'.length by omega)
          have HLS : Hid (eC = 0 → rC.length + 1 ≤ r'.length) := hide (fun h => by
            subst h
            have h2 := small_e hSC rfl
            subst h2
            have := small_short hbB hSC
            omega)
          have HbC := hide hbC
          clear hbA hbB hbC hD hBr hSA hSB hSC hsA hsB hsC hqc
          go_wp2_with fail
          refine HsA.mono ?_
          rintro en wA ⟨rfl, DA, tA⟩
          have tX := (Turn.refl (fun _ => False) wA).alloc (.cells #[.int .i64 (vA : Int), .int .i64 0, .int .i64 0] 37)
          have kX := heap_alloc_new wA (.cells #[.int .i64 (vA : Int), .int .i64 0, .int .i64 0] 37)
          have HB' := HsB _ (DA.turn tX (fun h => h) (fun _ _ h => h))
          have nbA := tX.same (tA.same hnb (by unfold only; omega)) (fun h => h)
          have rbA := tX.same (tA.same hrb (by unfold only; omega)) (fun h => h)
          have OA' := (hO.turn tA (unhide hqO)).turn tX (fun _ _ h => h)
          have TA := (tr.trans tA (fun j hj => .inr (by unfold only at hj; have := unhide Hqe; have := unhide Hrb; omega))).then tX
          have hqA : q < wA.heap.size := by obtain ⟨_, _, h, _⟩ := DA; exact (Array.getElem?_eq_some_iff.1 h).1
          have hOx : Hid (∀ j, (Value.slice xa L.length xc).ownBlock = some j → j ≠ wA.heap.size) := hide (fun j hj => by have := OA.lt (hO.turn tA (unhide hqO)) j hj; omega)
          clear HsA HsB DA tA tX hnb hrb hO tr
          go_wp2_with fail
          generalize wA.alloc (.cells #[.int .i64 (vA : Int), .int .i64 0, .int .i64 0] 37) = WA at *
          have hnx : nb ≠ wA.heap.size := by rintro rfl; rw [kX] at nbA; cases nbA
          have hrx : rb ≠ wA.heap.size := by rintro rfl; rw [kX] at rbA; cases rbA
          have hbxW := (Array.getElem?_eq_some_iff.1 kX).1
          have hbxr : rb < wA.heap.size := by omega
          generalize wA.heap.size = bx at *
          refine HB'.mono ?_
          rintro en wB ⟨rfl, DB, tB⟩
          have hqbx : q ≠ bx := by omega
          have kB := tB.same kX (by unfold only; omega)
          have x1 : wB.cell? ⟨bx, 1, none⟩ = some (.int .i64 0) := cell_obj kB 1
          have z1 : wB.frozen? ⟨bx, 1, none⟩ = false := frozen_obj kB 1
          have kB2 : (wB.setCell ⟨bx, 1, none⟩ (.int .i64 (vB : Int))).heap[bx]? = some (.cells #[.int .i64 (vA : Int), .int .i64 (vB : Int), .int .i64 0] 37 (0, 0)) := (heap_setCell_obj (j := 1) kB (.int .i64 (vB : Int))).trans (by rfl)
          have tS : Turn (fun j => j = bx) wB (wB.setCell ⟨bx, 1, none⟩ (.int .i64 (vB : Int))) := (Turn.refl (fun j => j = bx) wB).setCell (p := ⟨bx, 1, none⟩) (.inl rfl) _
          have HC' := HsC _ (DB.turn tS hqbx (fun b hb => by have := unhide HB b hb; omega))
          have nbB := tS.same (tB.same nbA (by unfold only; omega)) hnx
          have rbB := tS.same (tB.same rbA (by unfold only; omega)) hrx
          have OB' := (OA'.turn tB (unhide hqO)).turn tS (fun j hj => unhide hOx j hj)
          have TB := (TA.trans tB (fun j hj => .inr (by unfold only at hj; have := unhide Hqe; have := unhide Hrb; omega))).trans tS (fun j hj => .inr (by have := unhide Hrb; omega))
          clear HB' HsC DB tB tS nbA rbA OA' TA kX kB
          go_wp2_with fail
          generalize wB.setCell ⟨bx, 1, none⟩ (.int .i64 (vB : Int)) = WB at *
          clear x1 z1
          refine HC'.mono ?_
          rintro en wC ⟨rfl, DC, tC⟩
          have kC := tC.same kB2 (by unfold only; omega)
          have x2 : wC.cell? ⟨bx, 2, none⟩ = some (.int .i64 0) := cell_obj kC 2
          have z2 : wC.frozen? ⟨bx, 2, none⟩ = false := frozen_obj kC 2
          have kC2 : (wC.setCell ⟨bx, 2, none⟩ (.int .i64 (vC : Int))).heap[bx]? = some (.cells #[.int .i64 (vA : Int), .int .i64 (vB : Int), .int .i64 (vC : Int)] 37 (0, 0)) := (heap_setCell_obj (j := 2) kC (.int .i64 (vC : Int))).trans (by rfl)
          have tS : Turn (fun j => j = bx) wC (wC.setCell ⟨bx, 2, none⟩ (.int .i64 (vC : Int))) := (Turn.refl (fun j => j = bx) wC).setCell (p := ⟨bx, 2, none⟩) (.inl rfl) _
          have DW := DC.turn tS hqbx (fun b hb => by have := unhide HB b hb; omega)
          have nbW := tS.same (tC.same nbB (by unfold only; omega)) hnx
          have rbW := tS.same (tC.same rbB (by unfold only; omega)) hrx
          have OW := (OB'.turn tC (unhide hqO)).turn tS (fun j hj => unhide hOx j hj)
          have TW := (TB.trans tC (fun j hj => .inr (by unfold only at hj; have := unhide Hqe; have := unhide Hrb; omega))).trans tS (fun j hj => .inr (by have := unhide Hrb; omega))
          obtain ⟨rx2, ra2, hqc2, d1, d2, d3, d4⟩ := DW
          have g2 : (wC.setCell ⟨bx, 2, none⟩ (.int .i64 (vC : Int))).cell? ⟨q, 2, none⟩ = some (.int .i64 eC) := cell_obj hqc2 2
          have DW : RR B (wC.setCell ⟨bx, 2, none⟩ (.int .i64 (vC : Int))) q (7 :: r) rC eC := ⟨rx2, ra2, hqc2, d1, d2, d3, d4⟩
          have b0 : (wC.setCell ⟨bx, 2, none⟩ (.int .i64 (vC : Int))).cell? ⟨bx, 0, none⟩ = some (.int .i64 (vA : Int)) := cell_obj kC2 0
          have b1 : (wC.setCell ⟨bx, 2, none⟩ (.int .i64 (vC : Int))).cell? ⟨bx, 1, none⟩ = some (.int .i64 (vB : Int)) := cell_obj kC2 1
          have b2 : (wC.setCell ⟨bx, 2, none⟩ (.int .i64 (vC : Int))).cell? ⟨bx, 2, none⟩ = some (.int .i64 (vC : Int)) := cell_obj kC2 2
          have c1 : (wC.setCell ⟨bx, 2, none⟩ (.int .i64 (vC : Int))).cell? ⟨nb, 1, none⟩ = some (.slice xa L.length xc) := cell_obj nbW 1
          have ho1 : k + 1 ≤ cnt := hlt
          have hck : cnt - k = (cnt - (k + 1)) + 1 := by omega
          rw [hck] at hso0
          clear hck HC' DC tC tS nbB rbB OB' TB kB2 kC hqc2 d1 d2 d3 d4
          by_cases he : eC = 0
          · subst he
            have hso2 := hide ((unhide hso0).more (unhide HArc))
            have hL9 : Hid ((L ++ [((vA : Int), (vB : Int), (vC : Int))]).length + rC.length ≤ r2.length) := hide (by have := unhide hLk; have := unhide HLS rfl; simp; omega)
            obtain ⟨x8, w8, hrun, O8, t8, own8⟩ := append_arc OW ((vA : Int), (vB : Int), (vC : Int)) (by have := unhide hLk; have := unhide Hl2; omega)
            simp only at hrun O8
            rw [set_size] at hrun
            have ne1 : ∀ j, (Value.slice xa L.length xc).ownBlock = some j → j ≠ nb := fun j hj => OwnSl.neObj OW nbW (by decide) j hj
            have ne2 : ∀ j, (Value.slice xa L.length xc).ownBlock = some j → j ≠ rb := fun j hj => OwnSl.neObj OW rbW (by decide) j hj
            have nb8 := t8.same nbW (fun h => ne1 nb h rfl)
            have rb8 := t8.same rbW (fun h => ne2 rb h rfl)
            have D8 := DW.turn t8 (fun h => by have := unhide hown q h; omega) (fun b hb h => by have := unhide hown b h; have := unhide HB b hb; omega)
            have T8 := TW.trans t8 (fun j hj => .inr (by have := unhide hown j hj; have := unhide Hrb; omega))
            have own9 : Hid (∀ j, x8.ownBlock = some j → q < j) := hide (fun j hj => by
              rcases own8 j hj with h | h
              · exact unhide hown j h
              · have := (Array.getElem?_eq_some_iff.1 nbW).1; omega)
            have f8 : w8.cell? ⟨nb, 1, none⟩ = some (.slice xa L.length xc) := cell_obj nb8 1
            have z8 : w8.frozen? ⟨nb, 1, none⟩ = false := frozen_obj nb8 1
            obtain ⟨ya, yc, rfl⟩ := O8.form
            have nb9 := heap_setCell_obj (j := 1) nb8 (.slice ya (L ++ [((vA : Int), (vB : Int), (vC : Int))]).length yc)
            have t9 : Turn (fun j => j = nb) w8 (w8.setCell ⟨nb, 1, none⟩ (.slice ya (L ++ [((vA : Int), (vB : Int), (vC : Int))]).length yc)) := (Turn.refl (fun j => j = nb) w8).setCell (p := ⟨nb, 1, none⟩) (.inl rfl) _
            have rb9 := t9.same rb8 (by omega)
            have O9 := O8.turn t9 (fun j hj => OwnSl.neObj O8 nb8 (by decide) j hj)
            have D9 := D8.turn t9 (by omega) (fun b hb => by have := unhide HB b hb; omega)
            have T9 := T8.trans t9 (fun j hj => .inr (by have := unhide Hrb; omega))
            generalize hL' : (L ++ [((vA : Int), (vB : Int), (vC : Int))]) = L' at *
            clear own8 t8 nb8 rb8 O8 D8 T8 t9 ne1 ne2 OW nbW rbW DW TW hown hso0 kC2 hL' HArc HLS HLC
            go_wp2_with (at_builtin; refine list_append_run rfl _ _ 24 rfl _ _ _ _ rfl rfl hrun ?_)
            exact ⟨⟨k + 1, L', rC, 0, _, by go_num, ho1, O9, nb9, rb9, D9, HbC, hide (.inl ⟨rfl, unhide hso2⟩), own9, T9, hL9⟩, by simp [intOf]; omega⟩
          · have hbe : (eC == 0) = false := by rw [beq_eq_false_iff_ne]; exact he
            have hst := hide (Or.inr (a := (eC = 0 ∧ ReadSo cnt r2 e2 L (cnt - (k + 1)) rC 0)) (And.intro he ((unhide hso0).stop (unhide HArc) he)))
            have hL9 : Hid (L.length + rC.length ≤ r2.length) := hide (by have := unhide hLk; have := unhide HLC; omega)
            clear hso0 HArc kC2 he HLS HLC b0 b1 b2 c1
            go_wp2
            exact ⟨⟨k + 1, L, rC, eC, _, by go_num, ho1, OW, nbW, rbW, DW, HbC, hst, hown, TW, hL9⟩, by simp [intOf]; omega⟩
        · have hfin : Hid (netT r = ((v1 : Int), L, r', e)) := hide (by
            rw [unhide HN]
            rcases unhide hso with ⟨rfl, h⟩ | ⟨_, h⟩
            · have hkc : k = cnt := by
                rcases Nat.lt_or_ge k cnt with h1 | h1
                · exact absurd ⟨h1, rfl⟩ hlt
                · omega
              rw [hkc, Nat.sub_self] at h
              rw [h.done]
            · rw [h])
          have hLb : Hid (L.length ≤ 1000000) := hide (by have := unhide hLk; have := unhide Hl2; omega)
          clear hso hBr hLk HN HB2 Hl2
          have Hd2 := unhide Hd
          rw [unhide hfin] at Hd2
          simp only at Hd2
          have Hd3 := hide Hd2
          clear Hd2 Hd hfin
          by_cases he : e = 0
          · subst he
            have hkc : ¬ k < cnt := fun h => hlt ⟨h, rfl⟩
            clear hlt
            have Hm := may_walk any wr (v1 : Int) _ L (hO.ar.mono (fun _ _ => trivial)) (unhide hLb)
            have n0 : wr.cell? ⟨nb, 0, none⟩ = some (.int .i64 (v1 : Int)) := cell_obj hnb 0
            have n1 : wr.cell? ⟨nb, 1, none⟩ = some (.slice xa L.length xc) := cell_obj hnb 1
            by_cases m1 : MayA (v1 : Int) L
            · rw [decide_eq_true m1] at Hm
              go_wp2_with fail
              refine Hm.mono ?_
              rintro en w6 ⟨rfl, t6⟩
              have nb6 := t6.same hnb (fun h => h)
              have rb6 := t6.same hrb (fun h => h)
              have O6 := hO.turn t6 (fun _ _ h => h)
              have D6 := hD.turn t6 (fun h => h) (fun _ _ h => h)
              have T6 := tr.then t6
              have f1 : w6.cell? ⟨nb, 1, none⟩ = some (.slice xa L.length xc) := cell_obj nb6 1
              have Ho := ordered_walk any w6 _ L (O6.ar.mono (fun _ _ => trivial))
              clear Hm n0 n1 hnb hrb hO hD hqc g2
              by_cases m2 : L.Pairwise ltA
              · rw [decide_eq_true m2] at Ho
                go_wp2_with fail
                refine Ho.mono ?_
                rintro en w7 ⟨rfl, t7⟩
                have nb7 := t7.same nb6 (fun h => h)
                have rb7 := t7.same rb6 (fun h => h)
                have O7 := O6.turn t7 (fun _ _ h => h)
                have T7 := T6.then t7
                obtain ⟨rx7, ra7, hq7, _, _, hra, hrr⟩ := D6.turn t7 (fun h => h) (fun _ _ h => h)
                have g1 : w7.cell? ⟨q, 1, none⟩ = some (.int .i64 (ra7 : Int)) := cell_obj hq7 1
                have hrl : r'.length = r.length + 1 - ra7 := by rw [hrr, List.length_drop, List.length_cons]
                rw [List.length_cons] at hra
                clear Ho f1 nb6 rb6 O6 D6 T6 t6 t7 hq7 hrr
                by_cases m3 : r' = []
                · have hD : Hid (decodeT (7 :: r) = ((v1 : Int), L, 0)) := hide (by rw [unhide Hd3]; rw [if_neg (by simp), if_pos (by exact ⟨m1.1, m2, m3⟩)])
                  have hat : ¬ (ra7 : Int) < (r.length : Int) + 1 := by rw [m3] at hrl; simp at hrl; omega
                  have f0 : w7.cell? ⟨nb, 0, none⟩ = some (.int .i64 (v1 : Int)) := cell_obj nb7 0
                  have f1 : w7.cell? ⟨nb, 1, none⟩ = some (.slice xa L.length xc) := cell_obj nb7 1
                  have d0 : w7.cell? ⟨rb, 0, none⟩ = some (.int .i64 0) := cell_obj rb7 0
                  have d1 : w7.cell? ⟨rb, 1, none⟩ = some (.slice none 0 0) := cell_obj rb7 1
                  have y0 : w7.frozen? ⟨rb, 0, none⟩ = false := frozen_obj rb7 0
                  have y1 : w7.frozen? ⟨rb, 1, none⟩ = false := frozen_obj rb7 1
                  have q1 := heap_setCell_obj (j := 0) rb7 (.int .i64 (v1 : Int))
                  have q2 := heap_setCell_obj (j := 1) q1 (.slice xa L.length xc)
                  have e0 : ((w7.setCell ⟨rb, 0, none⟩ (.int .i64 (v1 : Int))).setCell ⟨rb, 1, none⟩ (.slice xa L.length xc)).cell? ⟨rb, 0, none⟩ = some (.int .i64 (v1 : Int)) := by rw [cell_obj q2 0]; rfl
                  have e1 : ((w7.setCell ⟨rb, 0, none⟩ (.int .i64 (v1 : Int))).setCell ⟨rb, 1, none⟩ (.slice xa L.length xc)).cell? ⟨rb, 1, none⟩ = some (.slice xa L.length xc) := by rw [cell_obj q2 1]; rfl
                  have tf : Turn (fun j => j = rb) w7 ((w7.setCell ⟨rb, 0, none⟩ (.int .i64 (v1 : Int))).setCell ⟨rb, 1, none⟩ (.slice xa L.length xc)) := ((Turn.refl (fun j => j = rb) w7).setCell (p := ⟨rb, 0, none⟩) (.inl rfl) _).setCell (p := ⟨rb, 1, none⟩) (.inl rfl) _
                  have AF : AR any _ _ L := ((O7.turn tf (fun j hj => OwnSl.neObj O7 rb7 (by decide) j hj)).ar).mono (fun _ _ => trivial)
                  have TF := T7.trans tf (fun j hj => .inr (by have := unhide Hrb; omega))
                  clear q1 q2 tf T7 O7 m1 m2 m3 hrl
                  go_wp2
                  exact bodyPost_ret (v := .tuple #[.agg #[.int .i64 (v1 : Int), .slice xa L.length xc], .int .i64 0]) (by simp [results, Try.results11, go_sem, e0, e1]) rfl ⟨_, _, 0, rfl, ⟨L, AF, unhide hD⟩, TF⟩
                · have hD : Hid (decodeT (7 :: r) = (0, [], 10)) := hide (by rw [unhide Hd3]; rw [if_neg (by simp), if_neg (by rintro ⟨_, _, h⟩; exact m3 h)])
                  have hat : (ra7 : Int) < (r.length : Int) + 1 := by
                    have : r'.length ≠ 0 := fun h => m3 (List.eq_nil_of_length_eq_zero h)
                    omega
                  clear m1 m2 m3 hrl
                  have d0 : w7.cell? ⟨rb, 0, none⟩ = some (.int .i64 0) := cell_obj rb7 0
                  have d1 : w7.cell? ⟨rb, 1, none⟩ = some (.slice none 0 0) := cell_obj rb7 1
                  have y0 : w7.frozen? ⟨rb, 0, none⟩ = false := frozen_obj rb7 0
                  have y1 : w7.frozen? ⟨rb, 1, none⟩ = false := frozen_obj rb7 1
                  have q1 := heap_setCell_obj (j := 0) rb7 (.int .i64 0)
                  have q2 := heap_setCell_obj (j := 1) q1 (.slice none 0 0)
                  have e0 : ((w7.setCell ⟨rb, 0, none⟩ (.int .i64 0)).setCell ⟨rb, 1, none⟩ (.slice none 0 0)).cell? ⟨rb, 0, none⟩ = some (.int .i64 0) := (cell_obj q2 0).trans (by rfl)
                  have e1 : ((w7.setCell ⟨rb, 0, none⟩ (.int .i64 0)).setCell ⟨rb, 1, none⟩ (.slice none 0 0)).cell? ⟨rb, 1, none⟩ = some (.slice none 0 0) := (cell_obj q2 1).trans (by rfl)
                  have tf : Turn (fun j => j = rb) w7 ((w7.setCell ⟨rb, 0, none⟩ (.int .i64 0)).setCell ⟨rb, 1, none⟩ (.slice none 0 0)) := (((Turn.refl (fun j => j = rb) w7).setCell (p := ⟨rb, 0, none⟩) (.inl rfl) _).setCell (p := ⟨rb, 1, none⟩) (.inl rfl) _)
                  have TF := T7.trans tf (fun j hj => .inr (by have := unhide Hrb; omega))
                  clear q1 q2 tf
                  go_wp2
                  exact bodyPost_ret (v := .tuple #[.agg #[.int .i64 0, .slice none 0 0], .int .i64 10]) (by simp [results, Try.results11, go_sem, e0, e1]) rfl ⟨0, _, 10, rfl, ⟨[], ar_none _ _, unhide hD⟩, TF⟩
              · rw [decide_eq_false m2] at Ho
                have hD : Hid (decodeT (7 :: r) = (0, [], 10)) := hide (by rw [unhide Hd3]; rw [if_neg (by simp), if_neg (by rintro ⟨_, h, _⟩; exact m2 h)])
                clear m1 m2
                go_wp2_with fail
                refine Ho.mono ?_
                rintro en w7 ⟨rfl, t7⟩
                have rb7 := t7.same rb6 (fun h => h)
                have T7 := T6.then t7
                have d0 : w7.cell? ⟨rb, 0, none⟩ = some (.int .i64 0) := cell_obj rb7 0
                have d1 : w7.cell? ⟨rb, 1, none⟩ = some (.slice none 0 0) := cell_obj rb7 1
                have y0 : w7.frozen? ⟨rb, 0, none⟩ = false := frozen_obj rb7 0
                have y1 : w7.frozen? ⟨rb, 1, none⟩ = false := frozen_obj rb7 1
                have q1 := heap_setCell_obj (j := 0) rb7 (.int .i64 0)
                have q2 := heap_setCell_obj (j := 1) q1 (.slice none 0 0)
                have e0 : ((w7.setCell ⟨rb, 0, none⟩ (.int .i64 0)).setCell ⟨rb, 1, none⟩ (.slice none 0 0)).cell? ⟨rb, 0, none⟩ = some (.int .i64 0) := (cell_obj q2 0).trans (by rfl)
                have e1 : ((w7.setCell ⟨rb, 0, none⟩ (.int .i64 0)).setCell ⟨rb, 1, none⟩ (.slice none 0 0)).cell? ⟨rb, 1, none⟩ = some (.slice none 0 0) := (cell_obj q2 1).trans (by rfl)
                have tf : Turn (fun j => j = rb) w7 ((w7.setCell ⟨rb, 0, none⟩ (.int .i64 0)).setCell ⟨rb, 1, none⟩ (.slice none 0 0)) := (((Turn.refl (fun j => j = rb) w7).setCell (p := ⟨rb, 0, none⟩) (.inl rfl) _).setCell (p := ⟨rb, 1, none⟩) (.inl rfl) _)
                have TF := T7.trans tf (fun j hj => .inr (by have := unhide Hrb; omega))
                clear q1 q2 tf
                go_wp2
                exact bodyPost_ret (v := .tuple #[.agg #[.int .i64 0, .slice none 0 0], .int .i64 10]) (by simp [results, Try.results11, go_sem, e0, e1]) rfl ⟨0, _, 10, rfl, ⟨[], ar_none _ _, unhide hD⟩, TF⟩
            · rw [decide_eq_false m1] at Hm
              have hD : Hid (decodeT (7 :: r) = (0, [], 10)) := hide (by rw [unhide Hd3]; rw [if_neg (by simp), if_neg (by rintro ⟨h, h2, _⟩; exact m1 ⟨h, lt_dist h2⟩)])
              clear m1
              go_wp2_with fail
              refine Hm.mono ?_
              rintro en w6 ⟨rfl, t6⟩
              have rb6 := t6.same hrb (fun h => h)
              have T6 := tr.then t6
              have d0 : w6.cell? ⟨rb, 0, none⟩ = some (.int .i64 0) := cell_obj rb6 0
              have d1 : w6.cell? ⟨rb, 1, none⟩ = some (.slice none 0 0) := cell_obj rb6 1
              have y0 : w6.frozen? ⟨rb, 0, none⟩ = false := frozen_obj rb6 0
              have y1 : w6.frozen? ⟨rb, 1, none⟩ = false := frozen_obj rb6 1
              have q1 := heap_setCell_obj (j := 0) rb6 (.int .i64 0)
              have q2 := heap_setCell_obj (j := 1) q1 (.slice none 0 0)
              have e0 : ((w6.setCell ⟨rb, 0, none⟩ (.int .i64 0)).setCell ⟨rb, 1, none⟩ (.slice none 0 0)).cell? ⟨rb, 0, none⟩ = some (.int .i64 0) := (cell_obj q2 0).trans (by rfl)
              have e1 : ((w6.setCell ⟨rb, 0, none⟩ (.int .i64 0)).setCell ⟨rb, 1, none⟩ (.slice none 0 0)).cell? ⟨rb, 1, none⟩ = some (.slice none 0 0) := (cell_obj q2 1).trans (by rfl)
              have tf : Turn (fun j => j = rb) w6 ((w6.setCell ⟨rb, 0, none⟩ (.int .i64 0)).setCell ⟨rb, 1, none⟩ (.slice none 0 0)) := (((Turn.refl (fun j => j = rb) w6).setCell (p := ⟨rb, 0, none⟩) (.inl rfl) _).setCell (p := ⟨rb, 1, none⟩) (.inl rfl) _)
              have TF := T6.trans tf (fun j hj => .inr (by have := unhide Hrb; omega))
              clear q1 q2 tf
              go_wp2
              exact bodyPost_ret (v := .tuple #[.agg #[.int .i64 0, .slice none 0 0], .int .i64 10]) (by simp [results, Try.results11, go_sem, e0, e1]) rfl ⟨0, _, 10, rfl, ⟨[], ar_none _ _, unhide hD⟩, TF⟩
          · have hD : Hid (decodeT (7 :: r) = (0, [], e)) := hide (by rw [unhide Hd3]; rw [if_pos (by exact he)])
            have hbe : (e == 0) = false := by rw [beq_eq_false_iff_ne]; exact he
            have hbn : (e != 0) = true := by rw [bne_iff_ne]; exact he
            clear hlt he Hd3
            rcases Nat.lt_or_ge k cnt with hlt | hlt
            · skip
              have d0 : wr.cell? ⟨rb, 0, none⟩ = some (.int .i64 0) := cell_obj hrb 0
              have d1 : wr.cell? ⟨rb, 1, none⟩ = some (.slice none 0 0) := cell_obj hrb 1
              have y0 : wr.frozen? ⟨rb, 0, none⟩ = false := frozen_obj hrb 0
              have y1 : wr.frozen? ⟨rb, 1, none⟩ = false := frozen_obj hrb 1
              have q1 := heap_setCell_obj (j := 0) hrb (.int .i64 0)
              have q2 := heap_setCell_obj (j := 1) q1 (.slice none 0 0)
              have e0 : ((wr.setCell ⟨rb, 0, none⟩ (.int .i64 0)).setCell ⟨rb, 1, none⟩ (.slice none 0 0)).drew.cell? ⟨rb, 0, none⟩ = some (.int .i64 0) := (cell_obj q2 0).trans (by rfl)
              have e1 : ((wr.setCell ⟨rb, 0, none⟩ (.int .i64 0)).setCell ⟨rb, 1, none⟩ (.slice none 0 0)).drew.cell? ⟨rb, 1, none⟩ = some (.slice none 0 0) := (cell_obj q2 1).trans (by rfl)
              have tf : Turn (fun j => j = rb) wr ((wr.setCell ⟨rb, 0, none⟩ (.int .i64 0)).setCell ⟨rb, 1, none⟩ (.slice none 0 0)).drew := (((Turn.refl (fun j => j = rb) wr).setCell (p := ⟨rb, 0, none⟩) (.inl rfl) _).setCell (p := ⟨rb, 1, none⟩) (.inl rfl) _).drew
              have TF := tr.trans tf (fun j hj => .inr (by have := unhide Hrb; omega))
              clear q1 q2 tf
              go_wp2_with fail
              go_region
              go_wp2
              exact bodyPost_ret (v := .tuple #[.agg #[.int .i64 0, .slice none 0 0], .int .i64 e]) (by simp [results, Try.results11, go_sem, e0, e1]) rfl ⟨0, _, e, rfl, ⟨[], ar_none _ _, unhide hD⟩, TF⟩
            · skip
              have d0 : wr.cell? ⟨rb, 0, none⟩ = some (.int .i64 0) := cell_obj hrb 0
              have d1 : wr.cell? ⟨rb, 1, none⟩ = some (.slice none 0 0) := cell_obj hrb 1
              have y0 : wr.frozen? ⟨rb, 0, none⟩ = false := frozen_obj hrb 0
              have y1 : wr.frozen? ⟨rb, 1, none⟩ = false := frozen_obj hrb 1
              have q1 := heap_setCell_obj (j := 0) hrb (.int .i64 0)
              have q2 := heap_setCell_obj (j := 1) q1 (.slice none 0 0)
              have e0 : ((wr.setCell ⟨rb, 0, none⟩ (.int .i64 0)).setCell ⟨rb, 1, none⟩ (.slice none 0 0)).drew.cell? ⟨rb, 0, none⟩ = some (.int .i64 0) := (cell_obj q2 0).trans (by rfl)
              have e1 : ((wr.setCell ⟨rb, 0, none⟩ (.int .i64 0)).setCell ⟨rb, 1, none⟩ (.slice none 0 0)).drew.cell? ⟨rb, 1, none⟩ = some (.slice none 0 0) := (cell_obj q2 1).trans (by rfl)
              have tf : Turn (fun j => j = rb) wr ((wr.setCell ⟨rb, 0, none⟩ (.int .i64 0)).setCell ⟨rb, 1, none⟩ (.slice none 0 0)).drew := (((Turn.refl (fun j => j = rb) wr).setCell (p := ⟨rb, 0, none⟩) (.inl rfl) _).setCell (p := ⟨rb, 1, none⟩) (.inl rfl) _).drew
              have TF := tr.trans tf (fun j hj => .inr (by have := unhide Hrb; omega))
              clear q1 q2 tf
              go_wp2_with fail
              go_region
              go_wp2
              exact bodyPost_ret (v := .tuple #[.agg #[.int .i64 0, .slice none 0 0], .int .i64 e]) (by simp [results, Try.results11, go_sem, e0, e1]) rfl ⟨0, _, e, rfl, ⟨[], ar_none _ _, unhide hD⟩, TF⟩
    · have hD : Hid (decodeT (z :: r) = (0, [], 10)) := hide (by unfold decodeT; simp [h7])
      have hbe : (z != 7) = true := by rw [bne_iff_ne]; exact h7
      rw [hln]
      clear hr R1 hb h7 hln
      go_enter Try.func11, Try.ntmps11
      go_wp2
      exact bodyPost_ret (v := .tuple #[.agg #[.int .i64 0, .slice none 0 0], .int .i64 10]) (by simp [results, Try.results11, go_sem]) rfl ⟨0, _, 10, rfl, ⟨[], ar_none _ _, unhide hD⟩, (Turn.refl _ _).alloc _⟩
end Go.Proofs.Ytmmlannnpndkcaa
