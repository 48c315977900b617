/- DiskApart: files side by side. -/
import Derived.Test.YthpfdgjpmooclaaDHelp
namespace Go.Proofs.Ythpfdgjpmooclaa
open Go.RowKit Go.Maps
set_option linter.unusedVariables false

theorem app_ok {S : Dk} {n : Nm} {zs : List Int} (hr : refuse S n = 0) (hf : fullB S n zs = false) (ha : S.arm = 0) : appendC S n zs = 0 ∧ appendS S n zs = appS S n zs := by
  have hh : hitB S = false := by simp [hitB, ha]
  refine ⟨by unfold appendC; rw [hr, hf, hh]; rfl, ?_⟩
  unfold appendS; rw [hr, hf]
  simp only [ne_eq, not_true_eq_false, if_false, Bool.false_eq_true]
  unfold hitS
  rw [if_pos (show (appS S n zs).arm = 0 from ha)]
/-- a disk of that size, up and not armed, with these files -/
def dS (N : Nat) (fs : List Fl) : Dk := ⟨N, fs, false, 0⟩
theorem ap1 (N : Nat) (za : List Int) (h : za.length ≤ N) : appendC (newS N) [97] za = 0 ∧ appendS (newS N) [97] za = dS N [⟨[97], za, 0⟩] := by
  have := app_ok (S := newS N) (n := [97]) (zs := za) rfl (by simp [fullB, newS, used]; omega) rfl
  exact ⟨this.1, this.2.trans rfl⟩
theorem ap2 (N : Nat) (za zb : List Int) (h : za.length + zb.length ≤ N) : appendC (dS N [⟨[97], za, 0⟩]) [98] zb = 0 ∧ appendS (dS N [⟨[97], za, 0⟩]) [98] zb = dS N [⟨[97], za, 0⟩, ⟨[98], zb, 0⟩] := by
  have := app_ok (S := dS N [⟨[97], za, 0⟩]) (n := [98]) (zs := zb) rfl (by simp [fullB, dS, used]; omega) rfl
  exact ⟨this.1, this.2.trans rfl⟩
theorem ap3 (N : Nat) (za zb : List Int) (h : N < za.length + zb.length + 2) : appendC (dS N [⟨[97], za, 0⟩, ⟨[98], zb, 0⟩]) [99] [1, 2] = 4 ∧ appendS (dS N [⟨[97], za, 0⟩, ⟨[98], zb, 0⟩]) [99] [1, 2] = dS N [⟨[97], za, 0⟩, ⟨[98], zb, 0⟩] := by
  have hr : refuse (dS N [⟨[97], za, 0⟩, ⟨[98], zb, 0⟩]) [99] = 0 := rfl
  have hf : fullB (dS N [⟨[97], za, 0⟩, ⟨[98], zb, 0⟩]) [99] [1, 2] = true := by simp [fullB, dS, used]; omega
  exact ⟨by unfold appendC; rw [hr, hf]; rfl, by unfold appendS; rw [hr, hf]; rfl⟩
theorem ap4 (N k : Nat) (za zb : List Int) (h : k ≤ za.length) : cutC (dS N [⟨[97], za, 0⟩, ⟨[98], zb, 0⟩]) [97] k = 0 ∧ cutS (dS N [⟨[97], za, 0⟩, ⟨[98], zb, 0⟩]) [97] k = dS N [⟨[97], za.take k, k⟩, ⟨[98], zb, 0⟩] := by
  have hr : refuse (dS N [⟨[97], za, 0⟩, ⟨[98], zb, 0⟩]) [97] = 0 := rfl
  have hg : getK Fl.n [97] (dS N [⟨[97], za, 0⟩, ⟨[98], zb, 0⟩]).fs = some ⟨[97], za, 0⟩ := rfl
  have hz : ¬ ((k : Int) < 0 ∨ (za.length : Int) < k) := by omega
  constructor
  · unfold cutC; rw [hr, hg]; simp only; rw [if_neg (by simp), if_neg hz]; rfl
  · unfold cutS; rw [hr, hg]; simp only; rw [if_neg (by simp), if_neg hz]; rfl
theorem ap5 (N k : Nat) (za zb : List Int) (h : k ≤ za.length) : used (dS N [⟨[97], za.take k, k⟩, ⟨[98], zb, 0⟩]).fs = k + zb.length := by simp [dS, used]; omega
theorem ap6 (N k : Nat) (za zb : List Int) : readC (dS N [⟨[97], za.take k, k⟩, ⟨[98], zb, 0⟩]) [98] = 0 ∧ readD (dS N [⟨[97], za.take k, k⟩, ⟨[98], zb, 0⟩]) [98] = zb := ⟨rfl, rfl⟩
theorem ap7 (N k : Nat) (za zb : List Int) : removeC (dS N [⟨[97], za.take k, k⟩, ⟨[98], zb, 0⟩]) [97] = 0 ∧ removeS (dS N [⟨[97], za.take k, k⟩, ⟨[98], zb, 0⟩]) [97] = dS N [⟨[98], zb, 0⟩] := ⟨rfl, rfl⟩
theorem ap8 (N : Nat) (zb : List Int) : used (dS N [⟨[98], zb, 0⟩]).fs = zb.length ∧ removeC (dS N [⟨[98], zb, 0⟩]) [97] = 6 ∧ removeS (dS N [⟨[98], zb, 0⟩]) [97] = dS N [⟨[98], zb, 0⟩] := ⟨by simp [dS, used], rfl, rfl⟩
theorem ap9 (N : Nat) (zb : List Int) : readC (dS N [⟨[98], zb, 0⟩]) [97] = 6 ∧ readD (dS N [⟨[98], zb, 0⟩]) [97] = [] ∧ namesC (dS N [⟨[98], zb, 0⟩]) = 0 ∧ namesL (dS N [⟨[98], zb, 0⟩]) = [[98]] := ⟨rfl, rfl, rfl, rfl⟩
theorem ap10 (N : Nat) (zb zc : List Int) (h : zb.length + zc.length ≤ N) : appendC (dS N [⟨[98], zb, 0⟩]) [99] zc = 0 := by
  exact (app_ok (S := dS N [⟨[98], zb, 0⟩]) (n := [99]) (zs := zc) rfl (by simp [fullB, dS, used]; omega) rfl).1

theorem nB_len : (⟨#[98]⟩ : ByteArray).size ≤ maxLen := by decide
theorem nC_len : (⟨#[99]⟩ : ByteArray).size ≤ maxLen := by decide

theorem rem_at (a : Int) (n : Nat) (h1 : n ≤ 2000) : ∃ f : Nat, f ≤ n ∧ wrap64 ((IntKind.u64.wrap a).tmod ((n : Int) + 1)) = (f : Int) := by
  have h2 := Int.emod_lt_of_pos (a % 18446744073709551616) (show (0 : Int) < (n : Int) + 1 by omega)
  have h3 := Int.emod_nonneg (a % 18446744073709551616) (show ((n : Int) + 1) ≠ 0 by omega)
  refine ⟨(a % 18446744073709551616 % ((n : Int) + 1)).toNat, by omega, ?_⟩
  have e : (IntKind.u64.wrap a).tmod ((n : Int) + 1) = a % 18446744073709551616 % ((n : Int) + 1) := by
    rw [IntKind.wrap_u64, Int.tmod_eq_emod_of_nonneg (by omega)]
  rw [e]
  unfold wrap64
  omega

set_option maxRecDepth 100000 in
set_option maxHeartbeats 4000000 in
theorem apart_walk (w : World) (av : Value) (za : List Int) (bv : Value) (zb : List Int) (n : Int) (ha : Row .u8 any w av za) (hb : Row .u8 any w bv zb) (hla : za.length ≤ 2000) (hlb : zb.length ≤ 2000) (hn1 : -9223372036854775808 ≤ n) (hn2 : n ≤ 9223372036854775807) :
    Calls Try.prog 7 #[av, bv, .int .i64 n] w fun e w' => e = .returned (.bool true) ∧ Turn (fun _ => False) w w' := by
  obtain ⟨aa, ac, rfl⟩ := ha.slice
  obtain ⟨ba, bc, rfl⟩ := hb.slice
  have hnew := New_walk (za.length + zb.length + 1) w (by omega) (by omega)
  rw [show ((za.length + zb.length + 1 : Nat) : Int) = (za.length : Int) + (zb.length : Int) + 1 by omega] at hnew
  go_enter Try.func7, Try.ntmps7
  go_wp2_with (first
    | (go_at_call 8; refine hnew.mono ?_; rintro e w1 ⟨rfl, t1, d1⟩)
    | (go_at_call 9; refine (awake_walk _).mono ?_; rintro e w2 ⟨rfl, t2⟩))
  have ha := ha.lt
  have hb := hb.lt
  have s1 := t1.size
  have s2 := t2.size
  have T2 : Turn (fun j => w.heap.size ≤ j) w w2 := (t1.then t2).mono (fun _ h => h.elim)
  have old : ∀ b : Nat, any b ∧ b < w.heap.size → ¬ w.heap.size ≤ b := fun b h => by have := h.2; omega
  have h1 := Append_walk w2 w.heap.size _ _ _ ⟨#[97]⟩ _ _ nA_len (d1.turn t2 (fun _ _ _ => id)) (ha.turn T2 old)
  rw [show (⟨#[97]⟩ : ByteArray).data.toList = [97] from rfl, (ap1 _ za (by omega)).1, (ap1 _ za (by omega)).2] at h1
  refine h1.mono ?_
  rintro x w3 ⟨rfl, t3, d3⟩
  have T3 := T2.then t3
  have s3 := T3.size
  have h2 := Append_walk w3 w.heap.size _ _ _ ⟨#[98]⟩ _ _ nB_len (d3.base (by omega)) (hb.turn T3 old)
  rw [show (⟨#[98]⟩ : ByteArray).data.toList = [98] from rfl, (ap2 _ za zb (by omega)).1, (ap2 _ za zb (by omega)).2] at h2
  go_wp2_with fail
  refine h2.mono ?_
  rintro x w4 ⟨rfl, t4, d4⟩
  have T4 := T3.then t4
  have s4 := T4.size
  clear h1 h2 hnew d1 d3 t1 t2 t3 t4
  go_wp2_with fail
  obtain ⟨k, hk, hke⟩ := rem_at n za.length hla
  rw [hke]
  clear hke
  have hk' : (k : Int) ≤ 2000 := by omega
  have tA : Turn (fun _ => False) w4 (w4.alloc (.cells #[.int .u8 1, .int .u8 2] 5)) := (Turn.refl _ w4).alloc _
  have h3 := Append_walk _ w.heap.size _ _ _ ⟨#[99]⟩ _ _ nC_len ((d4.base s3).turn tA (fun _ _ _ => id)) (row_marked w4 [1, 2] 5 (0, 0) (by decide))
  rw [show (⟨#[99]⟩ : ByteArray).data.toList = [99] from rfl, (ap3 _ za zb (by omega)).1, (ap3 _ za zb (by omega)).2] at h3
  refine h3.mono ?_
  rintro x w5 ⟨rfl, t5, d5⟩
  have T5 := (T4.then (tA.mono (fun _ h => h.elim))).then t5
  have s5 := T5.size
  have sA := tA.size
  have h4 := Cut_walk w5 w.heap.size _ _ ⟨#[97]⟩ (k : Int) nA_len (d5.base (by omega))
  rw [show (⟨#[97]⟩ : ByteArray).data.toList = [97] from rfl, (ap4 _ k za zb hk).1, (ap4 _ k za zb hk).2] at h4
  clear h3 d4 t5 tA
  go_wp2_with fail
  refine h4.mono ?_
  rintro x w6 ⟨rfl, t6, d6⟩
  have T6 := T5.then t6
  have s6 := T6.size
  have d6 := d6.base s5
  have h5 := Used_walk w6 w.heap.size _ _ d6
  rw [ap5 _ k za zb hk, show ((k + zb.length : Nat) : Int) = (k : Int) + (zb.length : Int) by omega] at h5
  clear h4 d5 t6
  go_wp2_with fail
  refine h5.mono ?_
  rintro x w7 ⟨rfl, t7⟩
  have T7 := T6.then (t7.mono (fun _ h => h.elim))
  have s7 := T7.size
  have d7 := d6.turn t7 (fun _ _ _ => id)
  have h6 := Read_walk w7 w.heap.size _ _ ⟨#[98]⟩ nB_len d7
  rw [show (⟨#[98]⟩ : ByteArray).data.toList = [98] from rfl, (ap6 _ k za zb).1, (ap6 _ k za zb).2] at h6
  clear h5 d6 t7
  go_wp2_with fail
  refine h6.mono ?_
  rintro x w8 ⟨v8, rfl, o8, b8, t8⟩
  have T8 := T7.then (t8.mono (fun _ h => h.elim))
  have s8 := T8.size
  have d8 := d7.turn t8 (fun _ _ _ => id)
  obtain ⟨p8, c8, hv8⟩ := o8.form
  subst hv8
  have h7 := bytes_walk _ _ _ _ zb w8 (row_of_sl o8) (hb.turn T8 old)
  have h8 := Remove_walk w8 w.heap.size _ _ ⟨#[97]⟩ nA_len d8
  rw [show (⟨#[97]⟩ : ByteArray).data.toList = [97] from rfl, (ap7 _ k za zb).1, (ap7 _ k za zb).2] at h8
  clear h6 d7 t8
  go_wp2_with (first | (go_at_call 24; refine h7.mono ?_; rintro x w0 ⟨rfl, hw0⟩; have hw0 := hw0.symm; subst hw0))
  refine h8.mono ?_
  rintro x w9 ⟨rfl, t9, d9⟩
  have T9 := T8.then t9
  have s9 := T9.size
  have d9 := d9.base s8
  have h9 := Used_walk w9 w.heap.size _ _ d9
  rw [(ap8 _ zb).1] at h9
  clear h7 h8 d8 t9
  go_wp2_with fail
  refine h9.mono ?_
  rintro x w10 ⟨rfl, t10⟩
  have T10 := T9.then (t10.mono (fun _ h => h.elim))
  have s10 := T10.size
  have d10 := d9.turn t10 (fun _ _ _ => id)
  have h10 := Remove_walk w10 w.heap.size _ _ ⟨#[97]⟩ nA_len d10
  rw [show (⟨#[97]⟩ : ByteArray).data.toList = [97] from rfl, (ap8 _ zb).2.1, (ap8 _ zb).2.2] at h10
  clear h9 d9 t10
  go_wp2_with fail
  refine h10.mono ?_
  rintro x w11 ⟨rfl, t11, d11⟩
  have T11 := T10.then t11
  have s11 := T11.size
  have d11 := d11.base s10
  have h11 := Read_walk w11 w.heap.size _ _ ⟨#[97]⟩ nA_len d11
  rw [show (⟨#[97]⟩ : ByteArray).data.toList = [97] from rfl, (ap9 _ zb).1, (ap9 _ zb).2.1] at h11
  clear h10 d10 t11
  go_wp2_with fail
  refine h11.mono ?_
  rintro x w12 ⟨v12, rfl, o12, b12, t12⟩
  have T12 := T11.then (t12.mono (fun _ h => h.elim))
  have s12 := T12.size
  have d12 := d11.turn t12 (fun _ _ _ => id)
  obtain ⟨p12, c12, hv12⟩ := o12.form
  subst hv12
  have h12 := Names_walk w12 w.heap.size _ _ d12
  rw [(ap9 _ zb).2.2.1, (ap9 _ zb).2.2.2] at h12
  clear h11 d11 t12 o12 b12
  go_wp2_with fail
  refine h12.mono ?_
  rintro x w13 ⟨v13, rfl, r13, t13⟩
  have T13 := T12.then (t13.mono (fun _ h => h.elim))
  have s13 := T13.size
  have d13 := d12.turn t13 (fun _ _ _ => id)
  obtain ⟨g13, c13, hv13, hc13⟩ : ∃ g c, v13 = .slice (some ⟨g, 0, none⟩) 1 c ∧ w13.cell? ⟨g, 0, none⟩ = some (.string ⟨#[98]⟩) := by
    rcases r13.2 with ⟨_, h0⟩ | ⟨g, cap, cur, hv, _⟩
    · cases h0
    · refine ⟨g, cap, hv, ?_⟩
      subst hv
      have := r13.cellAt 0 (by decide)
      simpa [encStr] using this
  subst hv13
  clear h12 d12 t13 r13
  obtain ⟨i0, hi, hz0, hz1, hz2⟩ := info_u8'
  obtain ⟨Z, hZ⟩ : ∃ Z : List Int, Z = List.replicate (za.length + 1) 0 := ⟨_, rfl⟩
  have hZl : Z.length = za.length + 1 := by rw [hZ]; simp
  have hmk : ∀ u : World, (Instr.makeSlice 32 (.int .i64 ((za.length : Int) + 1)) (.int .i64 ((za.length : Int) + 1))).run Try.prog u = .ok (.slice (some ⟨u.heap.size, 0, none⟩) Z.length Z.length) (u.alloc (.cells (Z.map (Value.int .u8)).toArray 5)) := by
    intro u
    have := run_make (P := Try.prog) u 32 5 i0 _ Try.underlying32 hi hz0 .i64 .i64 ((za.length : Int) + 1) ((za.length : Int) + 1) (by omega) (by omega) (by rw [hz2]; omega) (by omega)
    rw [hz1, show (Value.int .u8 0).cells = #[Value.int .u8 0] from rfl] at this
    rw [hZl, hZ]
    rw [show (List.replicate (za.length + 1) (0 : Int)).map (Value.int .u8) = (madeCells #[Value.int .u8 0] (za.length + 1)).toList by rw [toList_madeCells_one]; simp]
    simpa using this
  have hap := (ap10 (za.length + zb.length + 1) zb Z (by omega))
  have HZl := hide hZl
  clear hZ hZl
  have tZ : Turn (fun _ => False) w13 (w13.alloc (.cells (Z.map (Value.int .u8)).toArray 5)) := (Turn.refl _ w13).alloc _
  have h14 := Append_walk _ w.heap.size _ _ _ ⟨#[99]⟩ _ _ nC_len (d13.turn tZ (fun _ _ _ => id)) (row_marked w13 Z 5 (0, 0) (by unfold maxLen; have := unhide HZl; omega))
  rw [show (⟨#[99]⟩ : ByteArray).data.toList = [99] from rfl, hap] at h14
  go_wp2_with fail
  refine h14.mono ?_
  rintro x w14 ⟨rfl, t14, d14⟩
  have T14 := (T13.then (tZ.mono (fun _ h => h.elim))).then t14
  clear h14 hap
  go_wp2_with fail
  go_ret
  exact ⟨rfl, T14.fresh (Nat.le_refl _)⟩

set_option maxHeartbeats 1000000 in
theorem apart_big (w : World) (av : Value) (za : List Int) (bv : Value) (zb : List Int) (n : Int) (ha : Row .u8 any w av za) (hb : Row .u8 any w bv zb) (h : 2000 < za.length ∨ 2000 < zb.length) :
    Calls Try.prog 7 #[av, bv, .int .i64 n] w fun e w' => e = .returned (.bool true) ∧ Turn (fun _ => False) w w' := by
  have hla := ha.len
  have hlb := hb.len
  unfold maxLen at hla hlb
  obtain ⟨aa, ac, rfl⟩ := ha.slice
  obtain ⟨ba, bc, rfl⟩ := hb.slice
  clear ha hb
  by_cases h1 : 2000 < za.length
  · go_enter Try.func7, Try.ntmps7
    go_wp2_with (go_at_call 9; refine (awake_walk _).mono ?_; rintro e w2 ⟨rfl, t2⟩)
    go_ret
    exact ⟨rfl, t2⟩
  · have h2 : 2000 < zb.length := by omega
    go_enter Try.func7, Try.ntmps7
    go_wp2_with (go_at_call 9; refine (awake_walk _).mono ?_; rintro e w2 ⟨rfl, t2⟩)
    go_ret
    exact ⟨rfl, t2⟩
theorem DiskApart_law (w : World) (av : Value) (za : List Int) (ha : Row .u8 any w av za) (haw : ∀ n ∈ za, (Lit.int .u8 n).wf = true) (haz : za.length * 1 ≤ 140737488351232) (bv : Value) (zb : List Int) (hb : Row .u8 any w bv zb) (hbw : ∀ n ∈ zb, (Lit.int .u8 n).wf = true) (hbz : zb.length * 1 ≤ 140737488351232)
    (n : Int) (hn : (Lit.int .i64 n).wf = true) :
    Calls Try.prog 7 #[av, bv, .int .i64 n] w fun e w' => e = .returned (.bool true) ∧ Below w.heap.size w w' := by
  by_cases h : 2000 < za.length ∨ 2000 < zb.length
  · exact (apart_big w av za bv zb n ha hb h).mono (fun e w' h => ⟨h.1, h.2.bel⟩)
  · exact (apart_walk w av za bv zb n ha hb (by omega) (by omega) (wf_i64 hn).1 (wf_i64 hn).2).mono (fun e w' h => ⟨h.1, h.2.bel⟩)
end Go.Proofs.Ythpfdgjpmooclaa
