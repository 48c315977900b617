/- What is read out of any bytes, in whatever order of forms, where it stands, and why it stops. -/
import Derived.Test.YtmkaamlacfdhlaaLawWrites
import Derived.Deep.RegionWith
namespace Go.Proofs.Ytmkaamlacfdhlaa
open Go.RowKit
set_option linter.unusedVariables false

theorem RR.bytes {B : Nat → Prop} {w : World} {q : Nat} {zs r : List Int} {e : Int} (h : RR B w q zs r e) (hb : Bytes zs) : Bytes r ∧ r.length ≤ zs.length := by
  obtain ⟨x, a, _, _, _, _, rfl⟩ := h
  exact ⟨hb.drop a, by rw [List.length_drop]; omega⟩
theorem textT_bytes {m : Nat} {r : List Int} {e : Int} (h : Bytes r) : Bytes (textT m r e).1 := by
  have hs := smallT_bytes (m := m) (e := e) h
  generalize hS : smallT m r e = S at hs
  obtain ⟨v, r', f⟩ := S
  by_cases hf : f = 0
  · subst hf
    by_cases hv : r'.length < v
    · rw [textT_s hS hv]; exact fun x hx => by cases hx
    · rw [textT_k hS (show v ≤ r'.length by omega)]; exact Bytes.take hs v
  · rw [textT_e hS hf]; exact fun x hx => by cases hx

/-- operations that came in: their kinds, their bounds -/
def OR (w : World) (v : Value) (n : Nat) (K M : Nat → Int) : Prop :=
  ∃ a c, v = .slice a n c ∧ n ≤ maxLen ∧ ∀ j, j < n → ∃ b off, a = some ⟨b, off, none⟩ ∧ w.cell? ⟨b, off + j * 2, none⟩ = some (.int .i64 (K j)) ∧ w.cell? ⟨b, off + j * 2 + 1, none⟩ = some (.int .i64 (M j)) ∧ (Lit.int .i64 (M j)).wf = true

set_option maxRecDepth 100000 in
set_option maxHeartbeats 8000000 in
theorem CodeReads_law (w : World) (bv : Value) (zs : List Int) (hr : Row .u8 any w bv zs) (hwf : ∀ n ∈ zs, (Lit.int .u8 n).wf = true) (hz : zs.length * 1 ≤ 140737488351232) (lv : Value) (n : Nat) (K M : Nat → Int) (hl : OR w lv n K M) :
    Calls Try.prog 4 #[bv, lv] w fun e w' => e = .returned (.bool true) ∧ Below w.heap.size w w' := by
  have hb := bytes_wf hwf
  have hl1 : zs.length ≤ 140737488351232 := by omega
  obtain ⟨la, lc, rfl, hnm, hop⟩ := hl
  unfold maxLen at hnm
  have Hop := hide hop
  clear hop hwf
  obtain ⟨T, hT⟩ : ∃ T, T = min n 100 := ⟨_, rfl⟩
  have hr0 : Row .u8 (fun b => b < w.heap.size) w bv zs := hr.lt.mono (fun b h => h.2)
  obtain ⟨ba, bc, rfl⟩ := hr.slice
  go_enter Try.func4, Try.ntmps4
  go_wp2_with fail
  refine (own_any_u8 _ zs 71 _ hl1 hr).mono ?_
  rintro e w1 ⟨rfl, hc1, b1, hfr1⟩
  have hlt1 : w.heap.size < w1.heap.size := by obtain ⟨cur, T, h⟩ := hfr1; exact (Array.getElem?_eq_some_iff.1 h).1
  have hin : Row .u8 (only w.heap.size) w1 (.slice (some ⟨w.heap.size, 0, none⟩) zs.length (zs.length + 3)) zs := by
    rcases row_of_cells hc1 rfl (show zs.length ≤ zs.length + 3 by omega) (by unfold maxLen; omega) with h | ⟨b, off, c, h, h1, h2, _, h3⟩
    · exact .inl h
    · refine .inr ⟨b, off, c, h, h1, h2, ?_, h3⟩
      simp at h
      exact h.1.1.symm
  go_wp2_with fail
  refine (new_walk _ _ zs _ hin (by omega)).mono ?_
  rintro e w2 ⟨p, rfl, hp, hp1, hrd, k2⟩
  have b2 := below_then b1 k2
  obtain ⟨B1, hB1⟩ : ∃ B1 : Nat → Prop, B1 = fun b => w1.heap.size ≤ b ∧ b < p := ⟨_, rfl⟩
  rw [← hB1] at hrd
  have hB : ∀ b, B1 b → w1.heap.size ≤ b ∧ b < p := fun b h => by rw [hB1] at h; exact h
  have HB := hide hB
  clear hB hB1
  obtain ⟨w3, hw3⟩ : ∃ w3, w3 = w2.alloc (.cells #[.slice ba zs.length bc, .int .i64 0, .int .i64 0] 38) := ⟨_, rfl⟩
  have k3 : Below w2.heap.size w2 w3 := by rw [hw3]; exact (Below.refl _ _).alloc (Nat.le_refl _) _
  have hrr : RR (fun b => b < w.heap.size) w3 w2.heap.size zs zs 0 := ⟨.slice ba zs.length bc, 0, by rw [hw3]; exact heap_alloc_new w2 _, hr0.below (below_then b2 k3), by have := b2.size; omega, Nat.zero_le _, rfl⟩
  have hrd3 := hrd.turn (F := fun _ => False) (Turn.of_below k3) (fun h => h) (fun _ _ h => h)
  have b3 := below_then b2 k3
  have K3 := below_then k2 k3
  obtain ⟨q, hq⟩ : ∃ q, q = w2.heap.size := ⟨_, rfl⟩
  rw [← hq] at hrr
  have hpq : p < q := by omega
  have hp0 : w.heap.size ≤ p := by omega
  have hs1 := b1.size
  have hs2 := k2.size
  have Hw3 := hide hw3
  have Hq := hide hq
  clear hrd b2 k2 k3 hw3
  go_wp2_with fail
  rw [← unhide Hw3, ← unhide Hq]
  refine (awake_walk _).mono ?_
  rintro e w4 ⟨rfl, k4⟩
  have hrr4 := hrr.turn (F := fun _ => False) (Turn.of_below k4) (fun h => h) (fun _ _ h => h)
  have hrd4 := hrd3.turn (F := fun _ => False) (Turn.of_below k4) (fun h => h) (fun _ _ h => h)
  have b4 := below_then b3 k4
  have K4 := below_then K3 k4
  have hc4 := hc1.turn (F := fun _ => False) (Turn.of_below K4) (fun h => h)
  clear hrr hrd3 b3 K3 k4 hq
  go_wp2_with fail
  refine (kept_any_u8 w.heap.size _ zs 71 _ hl1 hc4 (hr.below b4)).mono ?_
  rintro e w5 ⟨rfl, n5, hw5⟩
  have k5 : Below w4.heap.size w4 w5 := by rw [hw5]; exact drewN_below _ _
  have hrr5 := hrr4.turn (F := fun _ => False) (Turn.of_below k5) (fun h => h) (fun _ _ h => h)
  have hrd5 := hrd4.turn (F := fun _ => False) (Turn.of_below k5) (fun h => h) (fun _ _ h => h)
  have b5 := below_then b4 k5
  have K5 := below_then K4 k5
  have hin5 : Row .u8 (fun b => only w.heap.size b ∧ Free w5 b) w5 (.slice (some ⟨w.heap.size, 0, none⟩) zs.length (zs.length + 3)) zs := by
    have h1 := hin.turn (F := fun _ => False) (Turn.of_below K5) (fun _ _ h => h)
    exact h1.mono (fun b h => ⟨h, by cases h; exact hfr1.turn (F := fun _ => False) (Turn.of_below K5) (fun h => h)⟩)
  clear hrr4 hrd4 b4 K4 k5 hw5 hc4 hin hfr1 hc1
  go_wp2_with fail
  refine (spoil_any (only w.heap.size) _ zs _ hin5).mono ?_
  rintro e w6 ⟨⟨v6, rfl⟩, t6⟩
  have hrr6 := hrr5.turn t6 (fun h => by have h' : q = w.heap.size := h; omega) (fun b hb h => by have h' : b = w.heap.size := h; omega)
  have hrd6 := hrd5.turn t6 (fun h => by have h' : p = w.heap.size := h; omega) (fun b hb h => by have h' : b = w.heap.size := h; have := unhide HB b hb; omega)
  have b6 : Below w.heap.size w w6 := b5.trans (t6.below (fun k h => by have h' : k = w.heap.size := h; omega) b5.size)
  clear hrr5 hrd5 b5 K5 hin5 t6 hr hr0
  go_wp2_with fail
  go_loopw [8] (fun i wr => ∃ k : Nat, k ≤ T ∧ i = .int .i64 (k : Int) ∧ ∃ r e, RD B1 wr p r e ∧ RR (fun b => b < w.heap.size) wr q zs r e ∧ Below w.heap.size w wr) (fun i _ => T - (intOf i).toNat)
  case atStart => exact ⟨0, Nat.zero_le _, rfl, zs, 0, hrd6, hrr6, b6⟩
  case round =>
    obtain ⟨k, hk, rfl, r, e, hrd, hrr, hbel⟩ := hrel
    by_cases hlt : k < T
    · have h1 : k < n := by omega
      have h2 : k < 100 := by omega
      obtain ⟨b, off, rfl, hk0, hm0, hmw⟩ := unhide Hop k h1
      have hm1 := wf_i64 hmw
      have hblt : b < w.heap.size := World.block_lt_of_cell? _ _ hk0
      have hck : wr.cell? ⟨b, off + k * 2, none⟩ = some (.int .i64 (K k)) := by
        rw [hbel.cell (p := ⟨b, off + k * 2, none⟩) hblt]; exact hk0
      have hcm : wr.cell? ⟨b, off + k * 2 + 1, none⟩ = some (.int .i64 (M k)) := by
        rw [hbel.cell (p := ⟨b, off + k * 2 + 1, none⟩) hblt]; exact hm0
      obtain ⟨hbr, hlr⟩ := hrr.bytes hb
      have Hbp : Hid (¬ only p b) := hide (fun h => by have h' : b = p := h; omega)
      have Hbq : Hid (¬ only q b) := hide (fun h => by have h' : b = q := h; omega)
      have HPQ : Hid (¬ only p q) := hide (fun h => by have h' : q = p := h; omega)
      have HQP : Hid (¬ only q p) := hide (fun h => by have h' : p = q := h; omega)
      have HBp : Hid (∀ b, b < w.heap.size → ¬ only p b) := hide (fun b hb h => by have h' : b = p := h; omega)
      have HBq : Hid (∀ b, B1 b → ¬ only q b) := hide (fun b hb h => by have h' : b = q := h; have := unhide HB b hb; omega)
      have HGp : Hid (∀ k, only p k → w.heap.size ≤ k) := hide (fun k h => by have h' : k = p := h; omega)
      have HGq : Hid (∀ k, only q k → w.heap.size ≤ k) := hide (fun k h => by have h' : k = q := h; omega)
      clear hk0 hm0 hmw
      generalize K k = kind at *
      generalize M k = most at *
      by_cases hk1 : kind = 1
      · subst hk1
        obtain ⟨v9, r9, e9, hS⟩ : ∃ v r' e', smallT wide r e = (v, r', e') := ⟨_, _, _, rfl⟩
        go_wp2_with fail
        refine (rint_walk _ p r e _ hrd hbr).mono ?_
        rw [hS]
        rintro en w8 ⟨rfl, hrd8, t8⟩
        have hrr8 := hrr.turn t8 (unhide HPQ) (unhide HBp)
        have b8 : Below w.heap.size w w8 := hbel.trans (t8.below (unhide HGp) hbel.size)
        go_wp2_with fail
        refine (refrint_walk _ q zs r e _ hrr8 hb).mono ?_
        rw [hS]
        rintro en w9 ⟨rfl, hrr9, t9⟩
        have hrd9 := hrd8.turn t9 (unhide HQP) (unhide HBq)
        have b9 : Below w.heap.size w w9 := b8.trans (t9.below (unhide HGq) b8.size)
        clear hrd8 hrr8 b8 t8 t9 hrd hrr hbel hS
        generalize unzig v9 = u9 at *
        replace hrr9 : RR (fun b => b < w.heap.size) w9 q zs r9 e9 := hrr9
        replace hrd9 : RD B1 w9 p r9 e9 := hrd9
        obtain ⟨x9, a9, hx9, hrow9, hq9, ha9, hr9⟩ := hrr9
        have hc1 : w9.cell? ⟨q, 1, none⟩ = some (.int .i64 (a9 : Int)) := cell_obj hx9
        have hc2 : w9.cell? ⟨q, 2, none⟩ = some (.int .i64 e9) := cell_obj hx9
        have hrl : r9.length = zs.length - a9 := by rw [hr9, List.length_drop]
        have hwr : IntKind.i64.wrap ((zs.length : Int) - (a9 : Int)) = (r9.length : Int) := by rw [IntKind.wrap_i64]; omega
        have hN : ∀ n, RD B1 (w9.drewN n) p r9 e9 := fun n => hrd9.turn (F := fun _ => False) (Turn.of_below (drewN_below w9 n)) (fun h => h) (fun _ _ h => h)
        have hNN : ∀ n, RR (fun b => b < w.heap.size) (w9.drewN n) q zs r9 e9 := fun n => RR.turn (F := fun _ => False) ⟨x9, a9, hx9, hrow9, hq9, ha9, hr9⟩ (Turn.of_below (drewN_below w9 n)) (fun h => h) (fun _ _ h => h)
        have hE : ∀ n, Calls Try.prog 32 #[.pointer (some ⟨q, 0, none⟩)] (w9.drewN n) fun en w'' => en = .returned (.int .i64 (endT r9 e9)) ∧ ∃ m, w'' = w9.drewN m := fun n => (refrend_walk _ q zs r9 e9 _ (hNN n)).mono fun en w'' ⟨he, m, hm⟩ => ⟨he, n + m, by rw [hm]; exact World.drewN_drewN ..⟩
        clear hx9 hrow9 hr9 hrd9 hrl
        go_wp2_with fail
        go_quiet ((first
          | (go_at_call 29; exact Calls.quiet_of_same (rleft_walk _ p r9 e9 _ (hN _)))
          | (go_at_call 30; exact Calls.quiet_of_same (rerr_walk _ p r9 e9 _ (hN _)))
          | (go_at_call 31; exact Calls.quiet_of_same (rend_walk _ p r9 e9 _ (hN _)))
          | (go_at_call 32; exact hE _)))
        have bN := below_then b9 (drewN_below w9 nq)
        have hNa := hN nq
        have hNb := hNN nq
        clear hN hNN hE hc1 hc2 b9
        go_wp2
        exact ⟨⟨k + 1, by omega, by go_num, r9, e9, hNa, hNb, bN⟩, by simp [intOf]; omega⟩
      by_cases hk2 : kind = 2
      · subst hk2
        obtain ⟨v9, r9, e9, hS⟩ : ∃ v r' e', smallT most.toNat r e = (v, r', e') := ⟨_, _, _, rfl⟩
        have hrdD : RD B1 wr.drew p r e := hrd
        have hrrD : RR (fun b => b < w.heap.size) wr.drew q zs r e := hrr
        have hbelD : Below w.heap.size w wr.drew := hbel.drew
        have hcmD : wr.drew.cell? ⟨b, off + k * 2 + 1, none⟩ = some (.int .i64 most) := hcm
        go_wp2_with fail
        go_region_with (first
          | (go_at_call 23; refine (rsmall_walk _ p r e most _ hrdD hbr hm1.1 hm1.2).mono ?_; rw [hS]; rintro en w8 ⟨rfl, hrd8, t8⟩; have hrr8 := hrrD.turn t8 (unhide HPQ) (unhide HBp); have b8 : Below w.heap.size w w8 := hbelD.trans (t8.below (unhide HGp) hbelD.size); have hcm8 : w8.cell? ⟨b, off + k * 2 + 1, none⟩ = some (.int .i64 most) := t8.cell hcmD (unhide Hbp))
          | (go_at_call 24; refine (refrsmall_walk _ q zs r e most _ hrr8 hb hm1.1 hm1.2).mono ?_; rw [hS]; rintro en w9 ⟨rfl, hrr9, t9⟩; have hrd9 := hrd8.turn t9 (unhide HQP) (unhide HBq); have b9 : Below w.heap.size w w9 := b8.trans (t9.below (unhide HGq) b8.size)))
        all_goals
          clear hrd8 hrr8 b8 t8 t9 hrd hrr hbel hS hrdD hrrD hbelD hcmD hcm8
          replace hrr9 : RR (fun b => b < w.heap.size) w9 q zs r9 e9 := hrr9
          replace hrd9 : RD B1 w9 p r9 e9 := hrd9
          obtain ⟨x9, a9, hx9, hrow9, hq9, ha9, hr9⟩ := hrr9
          have hc1 : w9.cell? ⟨q, 1, none⟩ = some (.int .i64 (a9 : Int)) := cell_obj hx9
          have hc2 : w9.cell? ⟨q, 2, none⟩ = some (.int .i64 e9) := cell_obj hx9
          have hrl : r9.length = zs.length - a9 := by rw [hr9, List.length_drop]
          have hwr : IntKind.i64.wrap ((zs.length : Int) - (a9 : Int)) = (r9.length : Int) := by rw [IntKind.wrap_i64]; omega
          have hN : ∀ n, RD B1 (w9.drewN n) p r9 e9 := fun n => hrd9.turn (F := fun _ => False) (Turn.of_below (drewN_below w9 n)) (fun h => h) (fun _ _ h => h)
          have hNN : ∀ n, RR (fun b => b < w.heap.size) (w9.drewN n) q zs r9 e9 := fun n => RR.turn (F := fun _ => False) ⟨x9, a9, hx9, hrow9, hq9, ha9, hr9⟩ (Turn.of_below (drewN_below w9 n)) (fun h => h) (fun _ _ h => h)
          have hE : ∀ n, Calls Try.prog 32 #[.pointer (some ⟨q, 0, none⟩)] (w9.drewN n) fun en w'' => en = .returned (.int .i64 (endT r9 e9)) ∧ ∃ m, w'' = w9.drewN m := fun n => (refrend_walk _ q zs r9 e9 _ (hNN n)).mono fun en w'' ⟨he, m, hm⟩ => ⟨he, n + m, by rw [hm]; exact World.drewN_drewN ..⟩
          clear hx9 hrow9 hr9 hrd9 hrl
          go_wp2_with fail
          go_quiet ((first
            | (go_at_call 29; exact Calls.quiet_of_same (rleft_walk _ p r9 e9 _ (hN _)))
            | (go_at_call 30; exact Calls.quiet_of_same (rerr_walk _ p r9 e9 _ (hN _)))
            | (go_at_call 31; exact Calls.quiet_of_same (rend_walk _ p r9 e9 _ (hN _)))
            | (go_at_call 32; exact hE _)))
          have bN := below_then b9 (drewN_below w9 nq)
          have hNa := hN nq
          have hNb := hNN nq
          clear hN hNN hE hc1 hc2 b9
          go_wp2
          exact ⟨⟨k + 1, by omega, by go_num, r9, e9, hNa, hNb, bN⟩, by simp [intOf]; omega⟩
      by_cases hk3 : kind = 3
      · subst hk3
        obtain ⟨v9, r9, e9, hS⟩ : ∃ v r' e', textT most.toNat r e = (v, r', e') := ⟨_, _, _, rfl⟩
        have hvb : Bytes v9 := by have h := textT_bytes (m := most.toNat) (e := e) hbr; rw [hS] at h; exact h
        have hpw : p < wr.heap.size := by obtain ⟨x, hx, _⟩ := hrd; exact (Array.getElem?_eq_some_iff.1 hx).1
        have hqw : q < wr.heap.size := by obtain ⟨x, a, hx, _⟩ := hrr; exact (Array.getElem?_eq_some_iff.1 hx).1
        go_wp2_with fail
        refine (rtext_walk _ p r e most _ hrd hbr hm1.1 hm1.2 (by omega) (fun b hb => by have := unhide HB b hb; omega)).mono ?_
        rw [hS]
        rintro en w8 ⟨x8, rfl, hx8, hrd8, t8⟩
        have hrr8 := hrr.turn t8 (unhide HPQ) (unhide HBp)
        have b8 : Below w.heap.size w w8 := hbel.trans (t8.below (unhide HGp) hbel.size)
        have hcm8 : w8.cell? ⟨b, off + k * 2 + 1, none⟩ = some (.int .i64 most) := t8.cell hcm (unhide Hbp)
        have hs8 := t8.size
        go_wp2_with fail
        refine (refrtext_walk _ q zs r e most _ hrr8 hb hm1.1 hm1.2 hl1).mono ?_
        rw [hS]
        rintro en w10 ⟨y10, rfl, hy10, hrr10, t10⟩
        have hrd10 := hrd8.turn t10 (unhide HQP) (unhide HBq)
        have b10 : Below w.heap.size w w10 := b8.trans (t10.below (unhide HGq) b8.size)
        have hx10 := hx8.free t10 (fun b hb h => by have h' : b = q := h; have h2 : wr.heap.size ≤ b := hb; omega)
        clear hx8 hrd8 hrr8 b8 t8 t10 hrd hrr hbel hS
        go_wp2_with fail
        refine (bytes_same _ _ _ _ _ _ hx10 hy10 hvb).mono ?_
        rintro en w11 ⟨rfl, hw⟩
        subst hw
        go_wp2_with fail
        refine (spoil_any (from_ wr.heap.size) _ v9 _ hx10).mono ?_
        rintro en w9 ⟨⟨u9, rfl⟩, t9⟩
        have hrr9 := hrr10.turn t9 (fun h => by have h' : wr.heap.size ≤ q := h; omega) (fun b hb h => by have h' : wr.heap.size ≤ b := h; omega)
        have hrd9 := hrd10.turn t9 (fun h => by have h' : wr.heap.size ≤ p := h; omega) (fun b hb h => by have h' : wr.heap.size ≤ b := h; have := unhide HB b hb; omega)
        have b9 : Below w.heap.size w w9 := b10.trans (t9.below (fun k h => by have h' : wr.heap.size ≤ k := h; omega) b10.size)
        clear hx10 hy10 hrr10 hrd10 b10 t9
        replace hrr9 : RR (fun b => b < w.heap.size) w9 q zs r9 e9 := hrr9
        replace hrd9 : RD B1 w9 p r9 e9 := hrd9
        obtain ⟨x9, a9, hx9, hrow9, hq9, ha9, hr9⟩ := hrr9
        have hc1 : w9.cell? ⟨q, 1, none⟩ = some (.int .i64 (a9 : Int)) := cell_obj hx9
        have hc2 : w9.cell? ⟨q, 2, none⟩ = some (.int .i64 e9) := cell_obj hx9
        have hrl : r9.length = zs.length - a9 := by rw [hr9, List.length_drop]
        have hwr : IntKind.i64.wrap ((zs.length : Int) - (a9 : Int)) = (r9.length : Int) := by rw [IntKind.wrap_i64]; omega
        have hN : ∀ n, RD B1 (w9.drewN n) p r9 e9 := fun n => hrd9.turn (F := fun _ => False) (Turn.of_below (drewN_below w9 n)) (fun h => h) (fun _ _ h => h)
        have hNN : ∀ n, RR (fun b => b < w.heap.size) (w9.drewN n) q zs r9 e9 := fun n => RR.turn (F := fun _ => False) ⟨x9, a9, hx9, hrow9, hq9, ha9, hr9⟩ (Turn.of_below (drewN_below w9 n)) (fun h => h) (fun _ _ h => h)
        have hE : ∀ n, Calls Try.prog 32 #[.pointer (some ⟨q, 0, none⟩)] (w9.drewN n) fun en w'' => en = .returned (.int .i64 (endT r9 e9)) ∧ ∃ m, w'' = w9.drewN m := fun n => (refrend_walk _ q zs r9 e9 _ (hNN n)).mono fun en w'' ⟨he, m, hm⟩ => ⟨he, n + m, by rw [hm]; exact World.drewN_drewN ..⟩
        clear hx9 hrow9 hr9 hrd9 hrl
        go_wp2_with fail
        go_quiet ((first
          | (go_at_call 29; exact Calls.quiet_of_same (rleft_walk _ p r9 e9 _ (hN _)))
          | (go_at_call 30; exact Calls.quiet_of_same (rerr_walk _ p r9 e9 _ (hN _)))
          | (go_at_call 31; exact Calls.quiet_of_same (rend_walk _ p r9 e9 _ (hN _)))
          | (go_at_call 32; exact hE _)))
        have bN := below_then b9 (drewN_below w9 nq)
        have hNa := hN nq
        have hNb := hNN nq
        clear hN hNN hE hc1 hc2 b9
        go_wp2
        exact ⟨⟨k + 1, by omega, by go_num, r9, e9, hNa, hNb, bN⟩, by simp [intOf]; omega⟩
      have hk1' : (kind == 1) = false := by simp [hk1]
      have hk2' : (kind == 2) = false := by simp [hk2]
      have hk3' : (kind == 3) = false := by simp [hk3]
      obtain ⟨v9, r9, e9, hS⟩ : ∃ v r' e', smallT wide r e = (v, r', e') := ⟨_, _, _, rfl⟩
      go_wp2_with fail
      refine (rnum_walk _ p r e _ hrd hbr).mono ?_
      rw [hS]
      rintro en w8 ⟨rfl, hrd8, t8⟩
      have hrr8 := hrr.turn t8 (unhide HPQ) (unhide HBp)
      have b8 : Below w.heap.size w w8 := hbel.trans (t8.below (unhide HGp) hbel.size)
      go_wp2_with fail
      refine (refrnum_walk _ q zs r e _ hrr8 hb).mono ?_
      rw [hS]
      rintro en w9 ⟨rfl, hrr9, t9⟩
      have hrd9 := hrd8.turn t9 (unhide HQP) (unhide HBq)
      have b9 : Below w.heap.size w w9 := b8.trans (t9.below (unhide HGq) b8.size)
      clear hrd8 hrr8 b8 t8 t9 hrd hrr hbel hS
      replace hrr9 : RR (fun b => b < w.heap.size) w9 q zs r9 e9 := hrr9
      replace hrd9 : RD B1 w9 p r9 e9 := hrd9
      obtain ⟨x9, a9, hx9, hrow9, hq9, ha9, hr9⟩ := hrr9
      have hc1 : w9.cell? ⟨q, 1, none⟩ = some (.int .i64 (a9 : Int)) := cell_obj hx9
      have hc2 : w9.cell? ⟨q, 2, none⟩ = some (.int .i64 e9) := cell_obj hx9
      have hrl : r9.length = zs.length - a9 := by rw [hr9, List.length_drop]
      have hwr : IntKind.i64.wrap ((zs.length : Int) - (a9 : Int)) = (r9.length : Int) := by rw [IntKind.wrap_i64]; omega
      have hN : ∀ n, RD B1 (w9.drewN n) p r9 e9 := fun n => hrd9.turn (F := fun _ => False) (Turn.of_below (drewN_below w9 n)) (fun h => h) (fun _ _ h => h)
      have hNN : ∀ n, RR (fun b => b < w.heap.size) (w9.drewN n) q zs r9 e9 := fun n => RR.turn (F := fun _ => False) ⟨x9, a9, hx9, hrow9, hq9, ha9, hr9⟩ (Turn.of_below (drewN_below w9 n)) (fun h => h) (fun _ _ h => h)
      have hE : ∀ n, Calls Try.prog 32 #[.pointer (some ⟨q, 0, none⟩)] (w9.drewN n) fun en w'' => en = .returned (.int .i64 (endT r9 e9)) ∧ ∃ m, w'' = w9.drewN m := fun n => (refrend_walk _ q zs r9 e9 _ (hNN n)).mono fun en w'' ⟨he, m, hm⟩ => ⟨he, n + m, by rw [hm]; exact World.drewN_drewN ..⟩
      clear hx9 hrow9 hr9 hrd9 hrl
      go_wp2_with fail
      go_quiet ((first
        | (go_at_call 29; exact Calls.quiet_of_same (rleft_walk _ p r9 e9 _ (hN _)))
        | (go_at_call 30; exact Calls.quiet_of_same (rerr_walk _ p r9 e9 _ (hN _)))
        | (go_at_call 31; exact Calls.quiet_of_same (rend_walk _ p r9 e9 _ (hN _)))
        | (go_at_call 32; exact hE _)))
      have bN := below_then b9 (drewN_below w9 nq)
      have hNa := hN nq
      have hNb := hNN nq
      clear hN hNN hE hc1 hc2 b9
      go_wp2
      exact ⟨⟨k + 1, by omega, by go_num, r9, e9, hNa, hNb, bN⟩, by simp [intOf]; omega⟩
    · have hkT : k = T := by omega
      have hex : n ≤ k ∨ (k < n ∧ 100 ≤ k) := by omega
      rcases hex with hex1 | ⟨hex1, hex2⟩
      all_goals
        go_wp2
        go_ret
        exact ⟨rfl, hbel⟩
end Go.Proofs.Ytmkaamlacfdhlaa
