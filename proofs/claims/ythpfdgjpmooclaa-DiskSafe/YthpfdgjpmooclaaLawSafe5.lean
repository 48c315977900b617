/- DiskSafe: what was safe is there behind any fall; of what was not, a beginning, and noughts. -/
import Derived.Test.YthpfdgjpmooclaaDHelp
import Derived.Test.YthpfdgjpmooclaaDStart
namespace Go.Proofs.Ythpfdgjpmooclaa
open Go.RowKit Go.Maps
set_option linter.unusedVariables false

theorem app_ok' {S : Dk} {n : Nm} {zs : List Int} (hr : refuse S n = 0) (hf : fullB S n zs = false) (ha : S.arm = 0) : appendC S n zs = 0 ∧ appendS S n zs = appS S n zs := by
  have hh : hitB S = false := by simp [hitB, ha]
  refine ⟨by unfold appendC; rw [hr, hf, hh]; rfl, ?_⟩
  unfold appendS; rw [hr, hf]
  simp only [ne_eq, not_true_eq_false, if_false, Bool.false_eq_true]
  unfold hitS
  rw [if_pos (show (appS S n zs).arm = 0 from ha)]
def xS (d : List Int) (s : Nat) (down : Bool) : Dk := ⟨10000, [⟨[120], d, s⟩], down, 0⟩
theorem sf1 (za : List Int) (h : za.length ≤ 3000) : appendC (newS 10000) [120] za = 0 ∧ appendS (newS 10000) [120] za = xS za 0 false := by
  have := app_ok' (S := newS 10000) (n := [120]) (zs := za) rfl (by simp [fullB, newS, used]; omega) rfl
  exact ⟨this.1, this.2.trans rfl⟩
theorem sf2 (za : List Int) : syncC (xS za 0 false) [120] = 0 ∧ syncS (xS za 0 false) [120] = xS za za.length false := ⟨rfl, rfl⟩
theorem sf3 (za zb : List Int) (h : za.length ≤ 3000) (h' : zb.length ≤ 3000) : appendC (xS za za.length false) [120] zb = 0 ∧ appendS (xS za za.length false) [120] zb = xS (za ++ zb) za.length false := by
  have := app_ok' (S := xS za za.length false) (n := [120]) (zs := zb) rfl (by simp [fullB, xS, used, getK]; omega) rfl
  exact ⟨this.1, this.2.trans rfl⟩
/-- what is left of the file -/
def leftD (za zb ks : List Int) : List Int := fallD ⟨[120], za ++ zb, za.length⟩ (turnK ks 0)
theorem left_len (za zb ks : List Int) : (leftD za zb ks).length = endN ⟨[120], za ++ zb, za.length⟩ (turnK ks 0) := fallD_len _ _ (by simp)
theorem left_bd (za zb ks : List Int) : za.length + keepN ⟨[120], za ++ zb, za.length⟩ (turnK ks 0) ≤ (leftD za zb ks).length ∧ (leftD za zb ks).length ≤ za.length + zb.length := by
  rw [left_len]
  have := endN_le ⟨[120], za ++ zb, za.length⟩ (turnK ks 0) (by simp)
  simp only [List.length_append] at this
  exact this
theorem sf4 (za zb ks : List Int) (h0 : 0 < za.length) : crashS (xS (za ++ zb) za.length false) ks = xS (leftD za zb ks) (leftD za zb ks).length true := by
  have h := left_bd za zb ks
  unfold crashS xS
  simp only [fallL]
  rw [if_neg (by show ¬ (leftD za zb ks).length = 0; omega)]
  rfl
theorem sf5 (d : List Int) (h0 : 0 < d.length) : startS (xS d d.length true) = xS d d.length false := by
  have hk : fallD ⟨[120], d, d.length⟩ (turnK [] 0) = d := by
    unfold fallD
    rw [if_pos (by simp [keepN])]
  unfold startS xS
  simp only [if_true, crashS, fallL]
  rw [hk, if_neg (by omega)]
  unfold fallF
  rw [hk]
theorem sf6 (d : List Int) (s : Nat) : readC (xS d s false) [120] = 0 ∧ readD (xS d s false) [120] = d := ⟨rfl, rfl⟩
/-- where the bytes that stay end -/
def stayN (za zb ks : List Int) : Nat := za.length + keepN ⟨[120], za ++ zb, za.length⟩ (turnK ks 0)
theorem left_take (za zb ks : List Int) : (leftD za zb ks).take za.length = za := by
  unfold leftD fallD
  split
  · simp
  · simp only
    rw [List.take_append_of_le_length (by simp), List.take_take, Nat.min_eq_left (by omega)]
    simp
theorem left_same (za zb ks : List Int) {j : Nat} (h : j < stayN za zb ks) : (leftD za zb ks).getD j 0 = (za ++ zb).getD j 0 := by
  have hk := keepN_le ⟨[120], za ++ zb, za.length⟩ (turnK ks 0)
  simp only [List.length_append] at hk
  unfold stayN at h
  unfold leftD fallD
  split
  · rfl
  · simp only
    rw [List.getD_eq_getElem?_getD, List.getD_eq_getElem?_getD, List.getElem?_append_left (by simp; omega), List.getElem?_take, if_pos h]
theorem left_nought (za zb ks : List Int) {k i : Nat} (hk : stayN za zb ks ≤ k) (hi : k ≤ i) (hl : i < (leftD za zb ks).length) : (leftD za zb ks).getD i 0 = 0 ∧ i < (k / 64 + 1) * 64 := by
  have hkl := keepN_le ⟨[120], za ++ zb, za.length⟩ (turnK ks 0)
  simp only [List.length_append] at hkl
  rw [left_len] at hl
  unfold stayN at hk
  unfold endN at hl
  simp only [List.length_append] at hl
  split at hl
  · rename_i h
    omega
  · rename_i h
    have hse : secEnd (za.length + keepN ⟨[120], za ++ zb, za.length⟩ (turnK ks 0)) ≤ ((za.length + keepN ⟨[120], za ++ zb, za.length⟩ (turnK ks 0)) / 64 + 1) * 64 := by unfold secEnd; split <;> omega
    refine ⟨?_, by omega⟩
    unfold leftD fallD
    rw [if_neg (by simp only [List.length_append]; exact h)]
    simp only
    rw [List.getD_eq_getElem?_getD, List.getElem?_append_right (by simp; omega)]
    rw [List.getElem?_replicate]
    split <;> rfl

theorem nX_len : (⟨#[120]⟩ : ByteArray).size ≤ maxLen := by decide

set_option maxRecDepth 100000 in
set_option maxHeartbeats 4000000 in
theorem safe_walk (w : World) (av : Value) (za : List Int) (bv : Value) (zb : List Int) (kv : Value) (ks : List Int) (ha : Row .u8 any w av za) (hb : Row .u8 any w bv zb) (hk : Row .i64 any w kv ks) (h0 : 0 < za.length) (hla : za.length ≤ 3000) (hlb : zb.length ≤ 3000) :
    Calls Try.prog 4 #[av, bv, kv] w fun e w' => e = .returned (.bool true) ∧ Turn (fun _ => False) w w' := by
  obtain ⟨aa, ac, rfl⟩ := ha.slice
  obtain ⟨ba, bc, rfl⟩ := hb.slice
  have hnew := New_walk 10000 w (by omega) (by omega)
  have hz0 : ((za.length : Int) == 0) = false := by rw [beq_eq_false_iff_ne]; omega
  go_enter Try.func4, Try.ntmps4
  go_wp2_with (first
    | (go_at_call 8; refine hnew.mono ?_; rintro e w1 ⟨rfl, t1, d1⟩)
    | (go_at_call 9; refine (awake_walk _).mono ?_; rintro e w2 ⟨rfl, t2⟩))
  have ha := ha.lt
  have hb := hb.lt
  have hk := hk.lt
  have s1 := t1.size
  have T2 : Turn (fun j => w.heap.size ≤ j) w w2 := (t1.then t2).mono (fun _ h => h.elim)
  have s2 := T2.size
  have old : ∀ b : Nat, any b ∧ b < w.heap.size → ¬ w.heap.size ≤ b := fun b h => by have := h.2; omega
  have h1 := Append_walk w2 w.heap.size _ _ _ ⟨#[120]⟩ _ _ nX_len (d1.turn t2 (fun _ _ _ => id)) (ha.turn T2 old)
  rw [show (⟨#[120]⟩ : ByteArray).data.toList = [120] from rfl, (sf1 za hla).1, (sf1 za hla).2] at h1
  refine h1.mono ?_
  rintro x w3 ⟨rfl, t3, d3⟩
  have T3 := T2.then t3
  have s3 := T3.size
  have h2 := Sync_walk w3 w.heap.size _ _ ⟨#[120]⟩ nX_len (d3.base s2)
  rw [show (⟨#[120]⟩ : ByteArray).data.toList = [120] from rfl, (sf2 za).1, (sf2 za).2] at h2
  clear h1 hnew d1 t1 t2 t3
  go_wp2_with fail
  refine h2.mono ?_
  rintro x w4 ⟨rfl, t4, d4⟩
  have T4 := T3.then t4
  have s4 := T4.size
  have h3 := Append_walk w4 w.heap.size _ _ _ ⟨#[120]⟩ _ _ nX_len (d4.base s3) (hb.turn T4 old)
  rw [show (⟨#[120]⟩ : ByteArray).data.toList = [120] from rfl, (sf3 za zb hla hlb).1, (sf3 za zb hla hlb).2] at h3
  clear h2 d3 t4
  go_wp2_with fail
  refine h3.mono ?_
  rintro x w5 ⟨rfl, t5, d5⟩
  have T5 := T4.then t5
  have s5 := T5.size
  have h4 := Crash_walk w5 w.heap.size _ _ _ kv ks (d5.base s4) (hk.turn T5 old) old
  rw [sf4 za zb ks h0] at h4
  clear h3 d4 t5
  go_wp2_with fail
  refine h4.mono ?_
  rintro x w6 ⟨rfl, t6, d6⟩
  have T6 := T5.then t6
  have s6 := T6.size
  have d6 := d6.base s5
  have h5 := Down_walk w6 w.heap.size _ _ d6
  rw [show (xS (leftD za zb ks) (leftD za zb ks).length true).down = true from rfl] at h5
  have hbd := left_bd za zb ks
  have hst : stayN za zb ks ≤ (leftD za zb ks).length := hbd.1
  have h6 := Start_walk w6 w.heap.size _ _ d6
  rw [sf5 _ (by omega)] at h6
  clear h4 d5 t6
  go_wp2_with (first | (go_at_call 14; refine h5.mono ?_; rintro x w0 ⟨rfl, hw0⟩; have hw0 := hw0.symm; subst hw0))
  refine h6.mono ?_
  rintro x w7 ⟨rfl, t7, d7⟩
  have T7 := T6.then t7
  have s7 := T7.size
  have d7 := d7.base s6
  have h7 := Read_walk w7 w.heap.size _ _ ⟨#[120]⟩ nX_len d7
  rw [show (⟨#[120]⟩ : ByteArray).data.toList = [120] from rfl, (sf6 _ _).1, (sf6 _ _).2] at h7
  clear h5 h6 d6 t7
  go_wp2_with fail
  refine h7.mono ?_
  rintro x w8 ⟨v8, rfl, o8, b8, t8⟩
  have T8 := T7.then (t8.mono (fun _ h => h.elim))
  have s8 := T8.size
  obtain ⟨i0, hi, hz0, hz1, hz2⟩ := info_u8'
  have r8 := row_of_sl o8
  obtain ⟨p8, c8, hv8⟩ := o8.form
  subst hv8
  obtain ⟨x8, hsl, hr8⟩ := cut_to (ki := .i64) Try.underlying32 hi hz1 r8 za.length (by omega)
  rw [left_take] at hr8
  have h8 := bytes_walk _ _ _ _ za w8 hr8 (ha.turn T8 old)
  have h9 := copy_walk _ _ za w8 (ha.turn T8 old) (by omega)
  have hl1 : (za.length : Int) ≤ ((leftD za zb ks).length : Int) := by omega
  have hl2 : ((leftD za zb ks).length : Int) ≤ (za.length : Int) + (zb.length : Int) := by omega
  clear h7 d7 t8
  go_wp2_with (first | (go_at_call 24; refine h8.mono ?_; rintro x w0 ⟨rfl, hw0⟩; have hw0 := hw0.symm; subst hw0))
  refine h9.mono ?_
  rintro x w9 ⟨v9, rfl, o9, b9, t9⟩
  have T9 := T8.then (t9.mono (fun _ h => h.elim))
  obtain ⟨v10, w10, hrun, o10, t10, l10⟩ := append_sl (P := Try.prog) (ty := 32) Try.underlying32 hi ‹i0.zero = some (Value.int .u8 0)› hz1 hz2 rfl o9 (hb.turn T9 old) (by omega)
  obtain ⟨p9, c9, hv9⟩ := o9.form
  subst hv9
  obtain ⟨p10, c10, hv10⟩ := o10.form
  subst hv10
  have o9lt := o9.lt
  have n8 : ∀ j, (Value.slice p8 (leftD za zb ks).length c8).ownBlock = some j → ¬ (Value.slice p9 za.length c9).ownBlock = some j := fun j hj q => by
    have h1 := b9 j q
    obtain ⟨cur, hc⟩ := o8.lt j hj
    have h2 := (Array.getElem?_eq_some_iff.1 hc).1
    omega
  have o8' := (o8.turn t9 (fun _ _ => id)).turn t10 n8
  have r8' := row_of_sl o8'
  have r10 := row_of_sl o10
  have T10 : Turn (fun j => w.heap.size ≤ j) w w10 := T9.then (t10.mono (fun j hj => by have := b9 j hj; omega))
  have hW : (za ++ zb).length = za.length + zb.length := List.length_append
  have hsame := fun j => left_same za zb ks (j := j)
  have hnou := fun k i => left_nought za zb ks (k := k) (i := i)
  clear h8 h9 o8 o8' o9 o9lt o10 n8 hr8 hsl T8 T9 t9 t10 b8 b9 l10 r8
  generalize leftD za zb ks = D at *
  generalize za ++ zb = W at *
  generalize stayN za zb ks = ST at *
  have HW := hide hW
  clear hW
  have hWl : W.length ≤ 6000 := by have := unhide HW; omega
  have hDW : D.length ≤ W.length := by have := unhide HW; omega
  go_wp2_with (at_builtin; refine list_append_run rfl _ _ 32 rfl _ _ _ _ rfl rfl hrun ?_)
  have cD : ∀ k, k < D.length → ∃ b off, p8 = some ⟨b, off, none⟩ ∧ w10.cell? ⟨b, off + k, none⟩ = some (.int .u8 (D.getD k 0)) := fun k hk => by
    rcases r8' with ⟨_, _, _, _, _, h⟩ | ⟨b, off, c, e, _, _, _, h4⟩
    · rw [h] at hk; simp at hk
    · simp at e; exact ⟨b, off, e.1, h4 k hk⟩
  have cW : ∀ k, k < W.length → ∃ b off, p10 = some ⟨b, off, none⟩ ∧ w10.cell? ⟨b, off + k, none⟩ = some (.int .u8 (W.getD k 0)) := fun k hk => by
    rcases r10 with ⟨_, _, _, _, _, h⟩ | ⟨b, off, c, e, _, _, _, h4⟩
    · rw [h] at hk; simp at hk
    · simp at e; exact ⟨b, off, e.1, h4 k hk⟩
  have hhid1 := hide hsame
  have hhid2 := hide hnou
  have hlD : za.length ≤ D.length := by omega
  clear hsame hnou hrun r8' r10 hl1 hl2 hbd
  go_loopw [12] (fun i wr => ∃ n : Nat, n ≤ D.length ∧ i = .int .i64 (n : Int) ∧ Hid (∃ m, wr = w10.drewN m)) (fun i _ => D.length - (intOf i).toNat)
  case atStart => exact ⟨za.length, hlD, rfl, hide ⟨0, rfl⟩⟩
  case round =>
    obtain ⟨n, hn, rfl, hwr⟩ := hrel
    by_cases hgo : n < D.length ∧ D.getD n 0 = W.getD n 0
    · obtain ⟨hlt, heq⟩ := hgo
      obtain ⟨b1, off1, hp1, hc1⟩ := cD n hlt
      obtain ⟨b2, off2, hp2, hc2⟩ := cW n (by omega)
      subst hp1 hp2
      have hc1 : wr.cell? ⟨b1, off1 + n, none⟩ = some (.int .u8 (D.getD n 0)) := by obtain ⟨m, rfl⟩ := unhide hwr; exact hc1
      have hc2 : wr.cell? ⟨b2, off2 + n, none⟩ = some (.int .u8 (W.getD n 0)) := by obtain ⟨m, rfl⟩ := unhide hwr; exact hc2
      rw [heq] at hc1
      generalize W.getD n 0 = z at *
      have hltW : n < W.length := by omega
      clear heq cD cW
      go_wp2
      go_quiet (fail)
      go_wp2
      refine ⟨⟨n + 1, by omega, by go_num, hide ?_⟩, by simp [intOf]; omega⟩
      obtain ⟨m, rfl⟩ := unhide hwr
      exact ⟨m + nq, World.drewN_drewN ..⟩
    · have hstn : ST ≤ n := by
        rcases Nat.lt_or_ge n ST with h | h
        · exact absurd ⟨by omega, unhide hhid1 n h⟩ hgo
        · exact h
      by_cases hlt : n < D.length
      · obtain ⟨b1, off1, hp1, hc1⟩ := cD n hlt
        obtain ⟨b2, off2, hp2, hc2⟩ := cW n (by omega)
        have hc1 : wr.cell? ⟨b1, off1 + n, none⟩ = some (.int .u8 (D.getD n 0)) := by obtain ⟨m, rfl⟩ := unhide hwr; exact hc1
        have hc2 : wr.cell? ⟨b2, off2 + n, none⟩ = some (.int .u8 (W.getD n 0)) := by obtain ⟨m, rfl⟩ := unhide hwr; exact hc2
        have hneq : (D.getD n 0 == W.getD n 0) = false := by rw [beq_eq_false_iff_ne]; exact fun e => hgo ⟨hlt, e⟩
        have hltW : n < W.length := by omega
        have Hp1 := hide hp1
        generalize hzz : D.getD n 0 = z1 at hc1 hneq
        generalize hzw : W.getD n 0 = z2 at hc2 hneq
        clear hzz hzw hgo
        subst hp1 hp2
        go_wp2
        go_quiet (fail)
        have cD2 : ∀ k, k < D.length → ∃ b off, some (⟨b1, off1, none⟩ : Addr) = some ⟨b, off, none⟩ ∧ (wr.drewN nq).cell? ⟨b, off + k, none⟩ = some (.int .u8 (D.getD k 0)) := fun k hk => by
          obtain ⟨b, off, h1, h2⟩ := cD k hk
          refine ⟨b, off, h1, ?_⟩
          obtain ⟨m, rfl⟩ := unhide hwr
          exact h2
        have TF : Turn (fun _ => False) w (wr.drewN nq) := by
          obtain ⟨m, rfl⟩ := unhide hwr
          exact ((T10.drewN m).drewN nq).fresh (Nat.le_refl _)
        clear cD cW
        go_wp2
        go_loop [13] (fun i => ∃ j : Nat, n ≤ j ∧ j ≤ D.length ∧ i = .int .i64 (j : Int)) (fun i => D.length - (intOf i).toNat)
        case atStart => exact ⟨n, Nat.le_refl _, hn, rfl⟩
        case round =>
          obtain ⟨j, hj1, hj2, rfl⟩ := hrel
          by_cases hjl : j < D.length
          · obtain ⟨b3, off3, hp3, hc3⟩ := cD2 j hjl
            obtain ⟨q1, q2⟩ := unhide hhid2 n j hstn hj1 hjl
            rw [q1] at hc3
            have q3 : (j : Int) < ((n : Int) / 64 + 1) * 64 := by omega
            clear q1 q2
            cases hp3
            go_wp2
            go_round
            case rel => exact ⟨j + 1, by omega, by omega, by go_num⟩
            case measure => simp [intOf]; omega
          · go_wp2
            go_ret
            exact ⟨rfl, TF⟩
      · have hnlt : decide ((n : Int) < (D.length : Int)) = false := by simp; omega
        clear hgo
        go_wp2
        go_quiet (fail)
        have cD2 : ∀ k, k < D.length → ∃ b off, p8 = some ⟨b, off, none⟩ ∧ (wr.drewN nq).cell? ⟨b, off + k, none⟩ = some (.int .u8 (D.getD k 0)) := fun k hk => by
          obtain ⟨b, off, h1, h2⟩ := cD k hk
          refine ⟨b, off, h1, ?_⟩
          obtain ⟨m, rfl⟩ := unhide hwr
          exact h2
        have TF : Turn (fun _ => False) w (wr.drewN nq) := by
          obtain ⟨m, rfl⟩ := unhide hwr
          exact ((T10.drewN m).drewN nq).fresh (Nat.le_refl _)
        clear cD cW
        go_wp2
        go_loop [13] (fun i => ∃ j : Nat, n ≤ j ∧ j ≤ D.length ∧ i = .int .i64 (j : Int)) (fun i => D.length - (intOf i).toNat)
        case atStart => exact ⟨n, Nat.le_refl _, hn, rfl⟩
        case round =>
          obtain ⟨j, hj1, hj2, rfl⟩ := hrel
          by_cases hjl : j < D.length
          · exact absurd hjl (by omega)
          · go_wp2
            go_ret
            exact ⟨rfl, TF⟩

set_option maxRecDepth 100000 in
set_option maxHeartbeats 1000000 in
theorem safe_big (w : World) (av : Value) (za : List Int) (bv : Value) (zb : List Int) (kv : Value) (ha : Row .u8 any w av za) (hb : Row .u8 any w bv zb) (h : za.length = 0 ∨ 3000 < za.length ∨ 3000 < zb.length) :
    Calls Try.prog 4 #[av, bv, kv] w fun e w' => e = .returned (.bool true) ∧ Turn (fun _ => False) w w' := by
  have hla := ha.len
  have hlb := hb.len
  unfold maxLen at hla hlb
  obtain ⟨aa, ac, rfl⟩ := ha.slice
  obtain ⟨ba, bc, rfl⟩ := hb.slice
  clear ha hb
  have hnew := New_walk 10000 w (by omega) (by omega)
  have key : ∀ (la lb : Nat), la ≤ 9223372036854775807 → lb ≤ 9223372036854775807 → (la = 0 ∨ 3000 < la ∨ 3000 < lb) → Calls Try.prog 4 #[.slice aa la ac, .slice ba lb bc, kv] w fun e w' => e = .returned (.bool true) ∧ Turn (fun _ => False) w w' := by
    intro la lb hla hlb h
    by_cases h1 : 3000 < la
    · go_enter Try.func4, Try.ntmps4
      go_wp2_with (first
        | (go_at_call 8; refine hnew.mono ?_; rintro e w1 ⟨rfl, t1, d1⟩)
        | (go_at_call 9; refine (awake_walk _).mono ?_; first | (have _u := t2; rintro e w3 ⟨rfl, t3⟩) | (rintro e w2 ⟨rfl, t2⟩)))
      go_ret
      exact ⟨rfl, (t1.then t2).then t3⟩
    · by_cases h2 : 3000 < lb
      · go_enter Try.func4, Try.ntmps4
        go_wp2_with (first
          | (go_at_call 8; refine hnew.mono ?_; rintro e w1 ⟨rfl, t1, d1⟩)
          | (go_at_call 9; refine (awake_walk _).mono ?_; first | (have _u := t2; rintro e w3 ⟨rfl, t3⟩) | (rintro e w2 ⟨rfl, t2⟩)))
        go_ret
        exact ⟨rfl, (t1.then t2).then t3⟩
      · obtain rfl : la = 0 := by omega
        go_enter Try.func4, Try.ntmps4
        go_wp2_with (first
          | (go_at_call 8; refine hnew.mono ?_; rintro e w1 ⟨rfl, t1, d1⟩)
          | (go_at_call 9; refine (awake_walk _).mono ?_; first | (have _u := t2; rintro e w3 ⟨rfl, t3⟩) | (rintro e w2 ⟨rfl, t2⟩)))
        go_ret
        exact ⟨rfl, (t1.then t2).then t3⟩
  exact key _ _ hla hlb h
theorem DiskSafe_law (w : World) (av : Value) (za : List Int) (ha : Row .u8 any w av za) (haw : ∀ n ∈ za, (Lit.int .u8 n).wf = true) (haz : za.length * 1 ≤ 140737488351232) (bv : Value) (zb : List Int) (hb : Row .u8 any w bv zb) (hbw : ∀ n ∈ zb, (Lit.int .u8 n).wf = true) (hbz : zb.length * 1 ≤ 140737488351232)
    (kv : Value) (ks : List Int) (hk : Row .i64 any w kv ks) (hkwf : ∀ n ∈ ks, (Lit.int .i64 n).wf = true) (hkz : ks.length * 8 ≤ 140737488351232) :
    Calls Try.prog 4 #[av, bv, kv] w fun e w' => e = .returned (.bool true) ∧ Below w.heap.size w w' := by
  by_cases h : za.length = 0 ∨ 3000 < za.length ∨ 3000 < zb.length
  · exact (safe_big w av za bv zb kv ha hb h).mono (fun e w' h => ⟨h.1, h.2.bel⟩)
  · exact (safe_walk w av za bv zb kv ks ha hb hk (by omega) (by omega) (by omega)).mono (fun e w' h => ⟨h.1, h.2.bel⟩)
end Go.Proofs.Ythpfdgjpmooclaa
