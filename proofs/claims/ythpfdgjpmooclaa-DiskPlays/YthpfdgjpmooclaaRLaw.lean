/- DiskPlays. -/
import Derived.Test.YthpfdgjpmooclaaRStepA
import Derived.Test.YthpfdgjpmooclaaRStepC
import Derived.Test.YthpfdgjpmooclaaRStepR
import Derived.Test.YthpfdgjpmooclaaRStepK
import Derived.Lib.SlBytesConst
namespace Go.Proofs.Ythpfdgjpmooclaa
open Go.RowKit Go.Maps
set_option linter.unusedVariables false
set_option linter.unusedSimpArgs false

theorem step_walk {A : Nat → Prop} {w : World} {B R : Nat} {S : Dk} (h : Two A w B R S S) (kind n : Int) (s : ByteArray) (bv kv : Value) (hs : s.size ≤ maxLen) (hn : n ≤ 9223372036854775807) (Bk : Nat → Prop) (zs ks : List Int) (hrow : Row .u8 Bk w bv zs) (hrow2 : Row .i64 Bk w kv ks) (hBk : ∀ b, Bk b → ¬ A b) (hzl : zs.length ≤ 400) (hkl : ks.length * 8 ≤ 140737488351232) :
    Calls Try.prog 13 #[.pointer (some ⟨B, 0, none⟩), .pointer (some ⟨R, 0, none⟩), .agg #[.int .i64 kind, .int .i64 n, .string s, bv, kv]] w fun e w' => e = .returned (.bool true) ∧ Turn A w w' ∧ ∃ S', Two A w' B R S' S' := by
  by_cases h1 : kind = 1
  · subst h1; exact step_sync h n s bv kv hs
  by_cases h2 : kind = 2
  · subst h2; exact step_read h n s bv kv hs
  by_cases h3 : kind = 3
  · subst h3; exact step_cut h n s bv kv hs
  by_cases h4 : kind = 4
  · subst h4; exact step_remove h n s bv kv hs
  by_cases h5 : kind = 5
  · subst h5; exact step_names h n s bv kv hs
  by_cases h6 : kind = 6
  · subst h6; exact step_arm h n s bv kv hs hn
  by_cases h7 : kind = 7
  · subst h7; exact step_crash h n s bv kv hs Bk ks hrow2 hBk hkl
  by_cases h8 : kind = 8
  · subst h8; exact step_start h n s bv kv hs
  refine step_append h kind n s bv kv hs (fun j hj1 hj2 => ?_) Bk zs hrow hBk hzl
  rw [beq_eq_false_iff_ne]
  omega

/-- operations that came in -/
structure OpsIn (w : World) (v : Value) (n : Nat) (K N : Nat → Int) (Na : Nat → ByteArray) (BV KV : Nat → Value) (Z Q : Nat → List Int) : Prop where
  form : ∃ a c, v = .slice a n c ∧ n ≤ maxLen ∧ ∀ j, j < n → ∃ b off, a = some ⟨b, off, none⟩ ∧ w.cell? ⟨b, off + j * 5, none⟩ = some (.int .i64 (K j)) ∧ w.cell? ⟨b, off + j * 5 + 1, none⟩ = some (.int .i64 (N j)) ∧ w.cell? ⟨b, off + j * 5 + 2, none⟩ = some (.string (Na j)) ∧ w.cell? ⟨b, off + j * 5 + 3, none⟩ = some (BV j) ∧ w.cell? ⟨b, off + j * 5 + 4, none⟩ = some (KV j)
  rows : ∀ j, j < n → Row .u8 any w (BV j) (Z j) ∧ Row .i64 any w (KV j) (Q j)
  size : ∀ j, j < n → (Na j).size ≤ maxLen ∧ N j ≤ 9223372036854775807 ∧ (Q j).length * 8 ≤ 140737488351232

/-- a new reference -/
theorem new_two {w w1 : World} {n : Nat} (hn : n ≤ 16777216) (hd : DAt w1 w.heap.size (fun j => w.heap.size ≤ j) (newS n)) (hs : w.heap.size ≤ w1.heap.size) :
    Two (fun j => w.heap.size ≤ j) (w1.alloc (.cells #[.int .i64 (n : Int), .slice none 0 0, .int .i64 0, .bool false] 31)) w.heap.size w1.heap.size (newS n) (newS n) := by
  have t : Turn (fun _ => False) w1 (w1.alloc (.cells #[.int .i64 (n : Int), .slice none 0 0, .int .i64 0, .bool false] 31)) := (Turn.refl _ _).alloc _
  refine Two.of (F1 := fun j => w.heap.size ≤ j ∧ j < w1.heap.size) (F2 := fun j => j = w1.heap.size) ((hd.mono (fun j hj hl => ⟨hj, hl⟩)).turn t (fun _ _ _ => id)) ?_ (fun j hj => hj.1) (fun j hj => by subst hj; exact hs) (fun j h1 h2 _ => by omega) (fun j hj => by have := t.size; omega)
  refine ⟨.slice none 0 0, [], ⟨heap_alloc_new w1 _, ⟨rfl, .inl ⟨rfl, rfl⟩⟩, by simp, rfl, well_new hn⟩, ?_⟩
  rintro j (rfl | h | ⟨e, he, _⟩)
  · rfl
  · simp [Value.ownBlock] at h
  · cases he

set_option maxRecDepth 100000 in
set_option maxHeartbeats 1000000 in
theorem plays_bad (w : World) (size : Int) (lv : Value) (h : size < 1 ∨ 16777216 < size) :
    Calls Try.prog 3 #[.int .i64 size, lv] w fun e w' => e = .returned (.bool true) ∧ Turn (fun _ => False) w w' := by
  have hnew := new_no size w h
  have haw := awake_walk w
  rcases h with h | h
  · go_enter Try.func3, Try.ntmps3
    go_wp2_with (first
      | (go_at_call 8; refine hnew.mono ?_; rintro e w0 ⟨rfl, hw0⟩; have hw0 := hw0.symm; subst hw0)
      | (go_at_call 9; refine haw.mono ?_; rintro e w2 ⟨rfl, t2⟩))
    go_ret
    exact ⟨rfl, t2⟩
  · have h' : 1 ≤ size := by omega
    go_enter Try.func3, Try.ntmps3
    go_wp2_with (first
      | (go_at_call 8; refine hnew.mono ?_; rintro e w0 ⟨rfl, hw0⟩; have hw0 := hw0.symm; subst hw0)
      | (go_at_call 9; refine haw.mono ?_; rintro e w2 ⟨rfl, t2⟩))
    go_ret
    exact ⟨rfl, t2⟩

set_option maxRecDepth 100000 in
set_option maxHeartbeats 6000000 in
theorem plays_good (w : World) (size : Nat) (lv : Value) (n : Nat) (K N : Nat → Int) (Na : Nat → ByteArray) (BV KV : Nat → Value) (Z Q : Nat → List Int) (hl : OpsIn w lv n K N Na BV KV Z Q) (h1 : 1 ≤ size) (h2 : size ≤ 16777216) :
    Calls Try.prog 3 #[.int .i64 (size : Int), lv] w fun e w' => e = .returned (.bool true) ∧ Turn (fun _ => False) w w' := by
  have hnew := New_walk size w h1 h2
  obtain ⟨⟨la, lc, rfl, hnm, hop⟩, hrows, hsizes⟩ := hl
  unfold maxLen at hnm
  have Hop := hide hop
  have Hrows := hide hrows
  have Hsizes := hide hsizes
  clear hop hrows hsizes
  obtain ⟨T, hT⟩ : ∃ T, T = min n 120 := ⟨_, rfl⟩
  have hT1 : T ≤ n := by omega
  have hT2 : T ≤ 120 := by omega
  have HT := hide hT
  clear hT
  have hsI1 : (1 : Int) ≤ (size : Int) := by omega
  have hsI2 : (size : Int) ≤ 16777216 := by omega
  go_enter Try.func3, Try.ntmps3
  go_wp2_with (first
    | (go_at_call 8; refine hnew.mono ?_; rintro e w1 ⟨rfl, t1, d1⟩)
    | (go_at_call 9; refine (awake_walk _).mono ?_; rintro e w2 ⟨rfl, t2⟩))
  have s1 := t1.size
  have s2 := t2.size
  have two0 := new_two h2 (d1.turn t2 (fun _ _ _ => id)) (by omega)
  have T3 : Turn (fun j => w.heap.size ≤ j) w (w2.alloc (.cells #[.int .i64 (size : Int), .slice none 0 0, .int .i64 0, .bool false] 31)) := ((t1.then t2).alloc _).mono (fun _ h => h.elim)
  generalize w2.alloc (.cells #[.int .i64 (size : Int), .slice none 0 0, .int .i64 0, .bool false] 31) = W at *
  generalize w2.heap.size = R at *
  have kc := fun (w : World) (C : Array Value) (n c : Nat) => Lib.run_convert_bytes_const (P := Try.prog) w 32 5 C n c Try.underlying32 Try.underlying5
  clear d1 t1 t2 hnew s1 s2
  go_loopw [5, 8] (fun dp i wr => ∃ k : Nat, k ≤ T ∧ i = .int .i64 (k : Int) ∧ ∃ B S, dp = .pointer (some ⟨B, 0, none⟩) ∧ Two (fun j => w.heap.size ≤ j) wr B R S S ∧ Turn (fun j => w.heap.size ≤ j) w wr) (fun _ i _ => T - (intOf i).toNat)
  case atStart => exact ⟨0, Nat.zero_le _, rfl, _, _, rfl, two0, T3⟩
  case round =>
    obtain ⟨k, hk, rfl, B, S, rfl, two, tr⟩ := hrel
    by_cases hlt : k < T
    · have hkn : k < n := by omega
      have hk120 : k < 120 := by omega
      obtain ⟨b, off, rfl, c0, c1, c2, c3, c4⟩ := unhide Hop k hkn
      obtain ⟨r1, r2⟩ := unhide Hrows k hkn
      obtain ⟨z1, z2, z3⟩ := unhide Hsizes k hkn
      have hbl : b < w.heap.size := World.block_lt_of_cell? _ _ c0
      have nb : ¬ w.heap.size ≤ b := by omega
      have c0 := tr.cell c0 nb
      have c1 := tr.cell c1 nb
      have c2 := tr.cell c2 nb
      have c3 := tr.cell c3 nb
      have c4 := tr.cell c4 nb
      have r1 : Row .u8 (fun b => b < w.heap.size) wr (BV k) (Z k) := (r1.lt.mono (fun b h => h.2)).turn tr (fun b hb (q : w.heap.size ≤ b) => by have hb' : b < w.heap.size := hb; omega)
      have r2 : Row .i64 (fun b => b < w.heap.size) wr (KV k) (Q k) := (r2.lt.mono (fun b h => h.2)).turn tr (fun b hb (q : w.heap.size ≤ b) => by have hb' : b < w.heap.size := hb; omega)
      generalize K k = kind at *
      generalize N k = nn at *
      generalize Na k = na at *
      generalize BV k = bv at *
      generalize KV k = kv at *
      generalize Z k = zs at *
      generalize Q k = ks at *
      obtain ⟨ba, bc, hbv⟩ := r1.slice
      have hzm := r1.len
      unfold maxLen at hzm
      obtain ⟨i0, hi, hz0, hz1, hz2⟩ := info_u8'
      obtain ⟨bv', zs', hcase, r1', hzl⟩ : ∃ bv' zs', ((zs.length ≤ 400 ∧ bv' = bv) ∨ (400 < zs.length ∧ ∀ u : World, (Instr.slice 32 bv none (some (.int .i64 400)) none).run Try.prog u = .ok bv' u)) ∧ Row .u8 (fun b => b < w.heap.size) wr bv' zs' ∧ zs'.length ≤ 400 := by
        by_cases h4 : zs.length ≤ 400
        · exact ⟨bv, zs, .inl ⟨h4, rfl⟩, r1, h4⟩
        · obtain ⟨x', hsl, hrx⟩ := cut_to (ki := .i64) Try.underlying32 hi hz1 r1 400 (by omega)
          exact ⟨x', _, .inr ⟨by omega, hsl⟩, hrx, by simp; omega⟩
      have sr := tr.size
      -- the operation's own block
      obtain ⟨WB, hWB⟩ : ∃ WB, WB = wr.alloc (.cells #[.int .i64 kind, .int .i64 nn, .string na, bv', kv] 35) := ⟨_, rfl⟩
      have tB : Turn (fun _ => False) wr WB := by rw [hWB]; exact (Turn.refl _ _).alloc _
      have kB : WB.heap[wr.heap.size]? = some (.cells #[.int .i64 kind, .int .i64 nn, .string na, bv', kv] 35 (0, 0)) := by rw [hWB]; exact heap_alloc_new wr _
      have sB : WB.heap.size = wr.heap.size + 1 := by rw [hWB]; simp
      have o0 : WB.cell? ⟨wr.heap.size, 0, none⟩ = some (.int .i64 kind) := cell_obj kB 0
      have o1 : WB.cell? ⟨wr.heap.size, 1, none⟩ = some (.int .i64 nn) := cell_obj kB 1
      have o2 : WB.cell? ⟨wr.heap.size, 2, none⟩ = some (.string na) := cell_obj kB 2
      have o3 : WB.cell? ⟨wr.heap.size, 3, none⟩ = some bv' := cell_obj kB 3
      have o4 : WB.cell? ⟨wr.heap.size, 4, none⟩ = some kv := cell_obj kB 4
      have tw := two.shield tB
      have hnO : ¬ shield (fun j => w.heap.size ≤ j) wr.heap.size WB.heap.size wr.heap.size := not_shield _ _ _ (Nat.le_refl _) (by omega)
      have r1B := r1'.turn tB (fun _ _ => id)
      have r2B := r2.turn tB (fun _ _ => id)
      have trB : Turn (fun j => w.heap.size ≤ j) w WB := tr.then (tB.mono (fun _ h => h.elim))
      obtain ⟨ba', bc', hbv'⟩ := r1'.slice
      obtain ⟨ka, kkc, hkv⟩ := r2.slice
      have Htw := hide tw
      have Htr := hide trB
      have Hr1 := hide r1B
      have Hr2 := hide r2B
      have Hr := hide tr
      clear tw trB r1B r2B r1 r2 r1' two tr kB tB
      subst hbv' hkv
      generalize hzz : zs'.length = zn at *
      generalize hkk : ks.length = kn at *
      have Hzz := hide hzz
      have Hkk := hide hkk
      clear hzz hkk
      obtain ⟨wo, hwo⟩ : ∃ wo, wo = wr := ⟨_, rfl⟩
      subst hwo
      rcases hcase with ⟨h4, hb4⟩ | ⟨h4, hsl⟩
      case' inl => subst hb4; clear hbv h4; have hlen9 : zn ≤ 400 := hzl
      case' inr => subst hbv
      all_goals
        by_cases hk9 : kind = 9
        · subst hk9
          subst hWB
          go_wp2_with fail
          generalize wo.alloc (.cells #[.int .i64 9, .int .i64 nn, .string na, .slice ba' zn bc', .slice ka kn kkc] 35) = WB at *
          obtain ⟨⟨F1, F2, d, r, l1, l2, sep⟩, nw⟩ := unhide Htw
          refine (Fork_walk WB B F1 S d).mono ?_
          rintro x w1 ⟨B2, rfl, t1, d1⟩
          have s1 := t1.size
          have hr1 := row_marked w1 [49] 5 (1, 2) (by decide)
          have tA : Turn (fun _ => False) w1 (w1.alloc (.cells #[.int .u8 49] 5 (1, 2))) := (Turn.refl _ w1).alloc _
          have dA := (d.turn t1 (fun _ _ _ => id)).turn tA (fun _ _ _ => id)
          have hap := Append_walk _ B F1 _ S ⟨#[122, 122]⟩ _ _ (by decide) dA hr1
          clear o0 o1 o2 o3 o4
          go_wp2_with fail
          refine hap.mono ?_
          rintro x w2 ⟨rfl, t2, d2⟩
          have sA := tA.size
          have s2 := t2.size
          have hcr := Crash_walk w2 B _ (fun _ => False) _ (.slice none 0 0) [] d2 (row_none _ _ _) (fun _ h => h.elim)
          generalize appendC S (⟨#[122, 122]⟩ : ByteArray).data.toList [49] = ee at *
          clear hap d2 hr1 dA
          generalize w1.alloc (.cells #[.int .u8 49] 5 (1, 2)) = wA at *
          go_wp2_with fail
          refine hcr.mono ?_
          rintro x w3 ⟨rfl, t3, d3⟩
          have s3 := t3.size
          have dN := (((d1.mono (G := fun j => WB.heap.size ≤ j ∧ j < w1.heap.size) (fun j hj hl => ⟨hj, hl⟩)).turn tA (fun _ _ _ => id)).turn t2 (fun j hj _ q => by have := (l1 j q).2; omega)).turn t3 (fun j hj _ q => by
            rcases q with q | q
            · have := (l1 j q).2; omega
            · omega)
          have rN := (((r.turn t1 (fun _ _ _ => id)).turn tA (fun _ _ _ => id)).turn t2 (fun j hj _ q => sep j q hj)).turn t3 (fun j hj _ q => by
            rcases q with q | q
            · exact sep j q hj
            · have := (l2 j hj).2; omega)
          have fin : Two (fun j => w.heap.size ≤ j) w3 B2 R S S := Two.of dN rN (fun j hj => by have := hj.1; show w.heap.size ≤ j; omega) (fun j hj => (l2 j hj).1.1) (fun j g1 g2 _ => by have := (l2 j g2).2; omega) (fun j hj => by show w.heap.size ≤ j; omega)
          have tfin : Turn (fun j => w.heap.size ≤ j) w w3 := ((((unhide Htr).then (t1.mono (fun _ h => h.elim))).then (tA.mono (fun _ h => h.elim))).then (t2.mono (fun j hj => (l1 j hj).1.1))).then (t3.mono (fun j hj => by
            rcases hj with hj | hj
            · exact (l1 j hj).1.1
            · show w.heap.size ≤ j; omega))
          have Hfin := hide fin
          have Htfin := hide tfin
          clear d d1 d3 r dN rN fin tfin t1 tA t2 t3 hcr l1 l2 sep nw
          go_wp2
          exact ⟨⟨k + 1, by omega, by go_num, B2, S, rfl, unhide Hfin, unhide Htfin⟩, by simp [intOf]; omega⟩
        · have hk9' : (kind == 9) = false := by rw [beq_eq_false_iff_ne]; exact hk9
          subst hWB
          go_wp2_with fail
          generalize wo.alloc (.cells #[.int .i64 kind, .int .i64 nn, .string na, .slice ba' zn bc', .slice ka kn kkc] 35) = WB at *
          have twD := (unhide Htw).drew
          have h9 := step_walk twD kind nn na _ _ z1 z2 _ zs' ks (unhide Hr1) (unhide Hr2) (fun b hb q => by have hb' : b < w.heap.size := hb; have hq : w.heap.size ≤ b := q.1; omega) (by rw [unhide Hzz]; exact hzl) (by rw [unhide Hkk]; exact z3)
          have u0 : WB.drew.cell? ⟨wo.heap.size, 0, none⟩ = some (.int .i64 kind) := o0
          have u1 : WB.drew.cell? ⟨wo.heap.size, 1, none⟩ = some (.int .i64 nn) := o1
          have u2 : WB.drew.cell? ⟨wo.heap.size, 2, none⟩ = some (.string na) := o2
          have u3 : WB.drew.cell? ⟨wo.heap.size, 3, none⟩ = some (.slice ba' zn bc') := o3
          have u4 : WB.drew.cell? ⟨wo.heap.size, 4, none⟩ = some (.slice ka kn kkc) := o4
          clear o0 o1 o2 o3 o4 twD
          go_region_with
            (first
            | (go_at_call 13; refine h9.mono ?_; rintro x w3 ⟨rfl, t3, S3, h3⟩; have v0 := t3.cell u0 hnO; have v1 := t3.cell u1 hnO; have v2 := t3.cell u2 hnO; have v3 := t3.cell u3 hnO; have v4 := t3.cell u4 hnO; have off3 := rOff2 h3; have hdn := dDown2 h3; have hus := dUsed2 h3; generalize hSd : S3.down = sd at *; generalize hSu : used S3.fs = su at *)
            | (go_at_call 14; refine hdn.mono ?_; rintro x w0 ⟨rfl, hw0⟩; have hw0 := hw0.symm; subst hw0)
            | (go_at_call 15; refine hus.mono ?_; rintro x w5 ⟨rfl, t5⟩; have x0 := t5.cell v0 id; have x1 := t5.cell v1 id; have x2 := t5.cell v2 id; have x3 := t5.cell v3 id; have x4 := t5.cell v4 id; have h5 := h3.turn t5 (fun _ _ _ => id); have off5 := t5.cell off3 id; have hru := rUsed2 h5; rw [hSu] at hru)
            | (go_at_call 16; refine hru.mono ?_; rintro x w0 ⟨rfl, hw0⟩; have hw0 := hw0.symm; subst hw0))
          all_goals
            have fin : Two (fun j => w.heap.size ≤ j) w5 B R S3 S3 := h5.mono (fun j hj => hj.1)
            have tfin : Turn (fun j => w.heap.size ≤ j) w w5 := (((unhide Htr).drew).then (t3.mono (fun j hj => hj.1))).then (t5.mono (fun _ h => h.elim))
            have Hfin := hide fin
            have Htfin := hide tfin
            clear h3 h5 t3 t5 fin tfin off3 hdn hus hru h9
            go_wp2
            exact ⟨⟨k + 1, by omega, by go_num, B, S3, rfl, unhide Hfin, unhide Htfin⟩, by simp [intOf]; omega⟩
    · obtain ⟨wo, hwo⟩ : ∃ wo, wo = wr := ⟨_, rfl⟩
      subst hwo
      have hTT := unhide HT
      have hstop : ¬ k < n ∨ (k < n ∧ ¬ k < 120) := by omega
      clear hTT
      have h9 := dStart2 two
      rcases hstop with hs1 | ⟨hs0, hs1⟩
      all_goals
        go_wp2_with fail
        refine h9.mono ?_
        rintro x w3 ⟨rfl, h3, t3⟩
        have h10 := rStart2 h3
        clear h9
        go_wp2_with fail
        refine h10.mono ?_
        rintro x w4 ⟨⟨v4, rfl⟩, h4, t4⟩
        generalize startS S = S4 at *
        have h11 := dNames2 h4
        have T4 : Turn (fun j => w.heap.size ≤ j) w w4 := (tr.then t3).then t4
        clear h10 h3 t3 t4 two
        go_wp2_with fail
        refine h11.mono ?_
        rintro x w5 ⟨v5, rfl, o5, t5⟩
        have h5 := h4.turn t5 (fun _ _ _ => id)
        obtain ⟨p5, c5, hv5⟩ := o5.form
        have h12 := rNames2 h5
        clear h11
        go_wp2_with fail
        refine h12.mono ?_
        rintro x w6 ⟨v6, rfl, o6, t6⟩
        have h6 := h5.turn t6 (fun _ _ _ => id)
        obtain ⟨p6, c6, hv6⟩ := o6.form
        have hnames : (namesL S4).length ≤ 1000 ∧ ∀ x ∈ namesL S4, x.length ≤ 16 := by
          have hw := h6.wells.1
          refine ⟨?_, ?_⟩
          · have := hw.files; unfold namesL; split <;> simp <;> omega
          · unfold namesL; split
            · simp
            · intro x hx
              obtain ⟨f, hf, rfl⟩ := List.mem_map.1 hx
              exact (goodB_len (hw.good f hf).1).2
        obtain ⟨hn1, hn2⟩ := hnames
        have h13 := plain_str v5 v6 _ w6 hn1 (o5.turn t6 (fun _ _ => id)) o6
        have T6 : Turn (fun j => w.heap.size ≤ j) w w6 := (T4.then (t5.mono (fun _ h => h.elim))).then (t6.mono (fun _ h => h.elim))
        have HL := hide hn2
        generalize namesC S4 = nc at *
        generalize namesL S4 = L at *
        clear h4 h5 h12 o5 t5 t6 T4 hn2
        subst hv5 hv6
        go_wp2_with (first | (go_at_call 21; refine h13.mono ?_; rintro x w7 ⟨rfl, m, rfl⟩))
        have h7 := h6.drewN m
        have o7 : OwnSl (w6.drewN m) 9 1 (.slice p6 L.length c6) L.length (L.map encStr) := o6.turn (F := fun _ => False) ((Turn.refl _ _).drewN m) (fun _ _ => id)
        have T7 := T6.drewN m
        generalize w6.drewN m = w7 at *
        have Ho7 := hide o7
        have Hh7 := hide h7
        have HT7 := hide T7
        clear h6 o6 T6 h13 o7 h7 T7
        go_loopw [15] (fun i wr => ∃ q : Nat, q ≤ L.length ∧ i = .int .i64 (q : Int) ∧ Turn (fun _ => False) w7 wr) (fun i _ => L.length - (intOf i).toNat)
        case atStart => exact ⟨0, Nat.zero_le _, rfl, Turn.refl _ _⟩
        case round =>
          obtain ⟨q, hq, rfl, tq⟩ := hrel
          by_cases hql : q < L.length
          · have oq := (unhide Ho7).turn tq (fun _ _ => id)
            obtain ⟨gb, go, hp6, hcell⟩ : ∃ b off, p6 = some ⟨b, off, none⟩ ∧ wr.cell? ⟨b, off + q, none⟩ = some (.string ⟨L[q].toArray⟩) := by
              have oq1 := oq
              rcases oq.2 with ⟨_, h0⟩ | ⟨g, off, cap, cur, hv, _⟩
              · omega
              · simp only [Value.slice.injEq] at hv
                refine ⟨g, off, hv.1, ?_⟩
                rw [hv.1] at oq1
                exact oq1.cells q _ (by simp [hql])
            have hsz : (⟨L[q].toArray⟩ : ByteArray).size ≤ maxLen := by
              have := unhide HL _ (List.getElem_mem hql)
              unfold maxLen
              show L[q].toArray.size ≤ _
              simp; omega
            generalize (⟨L[q].toArray⟩ : ByteArray) = nq at *
            have hh := (unhide Hh7).turn tq (fun _ _ _ => id)
            have h14 := dRead2 hh nq hsz
            subst hp6
            clear oq
            go_wp2_with fail
            refine h14.mono ?_
            rintro x w8 ⟨v8, rfl, o8, l8, t8⟩
            have hh8 := hh.turn t8 (fun _ _ _ => id)
            have hc8 := t8.cell hcell id
            have h15 := rRead2 hh8 nq hsz
            obtain ⟨p8, c8, hv8⟩ := o8.form
            clear h14
            go_wp2_with fail
            refine h15.mono ?_
            rintro x w9 ⟨v9, rfl, o9, l9, t9⟩
            have h16 := bytes_walk _ _ v8 v9 _ w9 (row_of_sl (o8.turn t9 (fun _ _ => id))) (row_of_sl o9)
            obtain ⟨p9, c9, hv9⟩ := o9.form
            have tt := (tq.then t8).then t9
            have Htt := hide tt
            generalize readC S4 nq.data.toList = rcc at *
            clear hh hh8 h15 o8 o9 t8 t9 tt tq
            subst hv8 hv9
            go_wp2_with (first | (go_at_call 24; refine h16.mono ?_; rintro x w0 ⟨rfl, hw0⟩; have hw0 := hw0.symm; subst hw0))
            exact ⟨⟨q + 1, by omega, by go_num, unhide Htt⟩, by simp [intOf]; omega⟩
          · go_wp2
            go_ret
            exact ⟨rfl, ((unhide HT7).then (tq.mono (fun _ h => h.elim))).fresh (Nat.le_refl _)⟩

theorem DiskPlays_law (w : World) (size : Int) (hw : (Lit.int .i64 size).wf = true) (lv : Value) (n : Nat) (K N : Nat → Int) (Na : Nat → ByteArray) (BV KV : Nat → Value) (Z Q : Nat → List Int) (hl : OpsIn w lv n K N Na BV KV Z Q) :
    Calls Try.prog 3 #[.int .i64 size, lv] w fun e w' => e = .returned (.bool true) ∧ Below w.heap.size w w' := by
  by_cases h : size < 1 ∨ 16777216 < size
  · exact (plays_bad w size lv h).mono (fun e w' h => ⟨h.1, h.2.bel⟩)
  · obtain ⟨k, rfl⟩ : ∃ k : Nat, size = (k : Int) := ⟨size.toNat, by omega⟩
    exact (plays_good w k lv n K N Na BV KV Z Q hl (by omega) (by omega)).mono (fun e w' h => ⟨h.1, h.2.bel⟩)
end Go.Proofs.Ythpfdgjpmooclaa
