/- HeapPlays: whatever is pushed, lowered, popped and dropped. -/
import Derived.Test.YtcajomobmjapgaaHPlayO
import Derived.Deep.RegionHeld3
import Derived.Deep.CutRange
import Derived.Deep.CutBlock
namespace Go.Proofs.Ytcajomobmjapgaa
open Go.RowKit Go.Maps
set_option linter.unusedVariables false
set_option linter.unusedSimpArgs false

/-- operations that came in: a kind, a number, a rank -/
def Ops9 (w : World) (v : Value) (n : Nat) (Kd Id Rk : Nat → Int) : Prop :=
  ∃ a c, v = .slice a n c ∧ n ≤ maxLen ∧ ∀ j, j < n → ∃ b off, a = some ⟨b, off, none⟩ ∧ w.cell? ⟨b, off + j * 3, none⟩ = some (.int .i64 (Kd j)) ∧ w.cell? ⟨b, off + j * 3 + 1, none⟩ = some (.int .i64 (Id j)) ∧ w.cell? ⟨b, off + j * 3 + 2, none⟩ = some (.int .i64 (Rk j))

theorem rem_40 (a : Int) : ∃ f : Nat, f < 40 ∧ wrap64 ((IntKind.u64.wrap a).tmod 40) = (f : Int) := by
  refine ⟨(a % 18446744073709551616 % 40).toNat, by omega, ?_⟩
  rw [IntKind.wrap_u64, Int.tmod_eq_emod_of_nonneg (by omega)]
  unfold wrap64
  omega
theorem info_bool : (Try.prog.info? 4).map (fun i => (i.zero, i.size, i.bytes)) = some (some (.bool false), 1, 1) := by kernel_rfl
theorem info_i64 : (Try.prog.info? 2).map (fun i => (i.zero, i.size, i.bytes)) = some (some (.int .i64 0), 1, 8) := by kernel_rfl
theorem make_in (M : Nat) (hM : M ≤ 1048600) (u : World) : (Instr.makeSlice 29 (.int .i64 (M : Int)) (.int .i64 (M : Int))).run Try.prog u = .ok (.slice (some ⟨u.heap.size, 0, none⟩) M M) (u.alloc (.cells (List.replicate M (Value.bool false)).toArray 4)) := by
  obtain ⟨i0, hi, hz0, hz1, hz2⟩ := info_parts info_bool
  have := run_make (P := Try.prog) u 29 4 i0 _ Try.underlying29 hi hz0 .i64 .i64 (M : Int) (M : Int) (by omega) (by omega) (by rw [hz2]; omega) (by omega)
  rw [hz1] at this
  rw [show (Value.bool false).cells = #[Value.bool false] from rfl] at this
  rw [← toList_madeCells_one]
  simpa using this
theorem make_rank (M : Nat) (hM : M ≤ 1048600) (u : World) : (Instr.makeSlice 30 (.int .i64 (M : Int)) (.int .i64 (M : Int))).run Try.prog u = .ok (.slice (some ⟨u.heap.size, 0, none⟩) M M) (u.alloc (.cells (List.replicate M (Value.int .i64 0)).toArray 2)) := by
  obtain ⟨i0, hi, hz0, hz1, hz2⟩ := info_parts info_i64
  have := run_make (P := Try.prog) u 30 2 i0 _ Try.underlying30 hi hz0 .i64 .i64 (M : Int) (M : Int) (by omega) (by omega) (by rw [hz2]; omega) (by omega)
  rw [hz1] at this
  rw [show (Value.int .i64 0).cells = #[Value.int .i64 0] from rfl] at this
  rw [← toList_madeCells_one]
  simpa using this
set_option maxRecDepth 100000 in
set_option maxHeartbeats 8000000 in
theorem plays_walk (w : World) (nn : Int) (v : Value) (N : Nat) (Kd Id Rk : Nat → Int) (hv : Ops9 w v N Kd Id Rk) :
    Calls Try.prog 3 #[.int .i64 nn, v] w fun e w' => e = .returned (.bool true) ∧ Turn (fun _ => False) w w' := by
  obtain ⟨f, hf, hfe⟩ := rem_40 nn
  obtain ⟨n, hn⟩ : ∃ n, n = f + 1 := ⟨_, rfl⟩
  have h1f : (1 : Int) + (f : Int) = (n : Int) := by omega
  have hn1 : 1 ≤ n := by omega
  have hn2 : n ≤ 40 := by omega
  obtain ⟨a, c, rfl, hN, hops⟩ := hv
  have Hops : Hid (∀ u : World, Turn (fun j => w.heap.size ≤ j) w u → ∀ j, j < N → ∃ b off, a = some ⟨b, off, none⟩ ∧ u.cell? ⟨b, off + j * 3, none⟩ = some (.int .i64 (Kd j)) ∧ u.cell? ⟨b, off + j * 3 + 1, none⟩ = some (.int .i64 (Id j)) ∧ u.cell? ⟨b, off + j * 3 + 2, none⟩ = some (.int .i64 (Rk j))) := hide (fun u tu j hj => by
    obtain ⟨b, off, e, h1, h2, h3⟩ := hops j hj
    have hb : b < w.heap.size := World.block_lt_of_cell? _ _ h1
    exact ⟨b, off, e, tu.cell h1 (by simp; omega), tu.cell h2 (by simp; omega), tu.cell h3 (by simp; omega)⟩)
  clear hops hn hf
  go_enter Try.func3, Try.ntmps3
  go_wp2_with fail
  refine (newH _ n (by omega) (by omega)).mono ?_
  rintro e w1 ⟨B, rfl, t1, hB, h1⟩
  clear hfe h1f
  go_wp2_with fail
  refine (awake_walk _).mono ?_
  rintro e w2 ⟨rfl, t2⟩
  have h2 := (h1.quiet t2).old
  have T2 := t1.then t2
  clear h1 t1 t2
  have mk1 := fun u => make_in n (by omega) u
  have mk2 := fun u => make_rank n (by omega) u
  go_wp2_with fail
  go_cut [7, 8] from 43 to 46 (fun s7 s8 wc => ∃ gi gr : Nat, s7 = .slice (some ⟨gi, 0, none⟩) n n ∧ s8 = .slice (some ⟨gr, 0, none⟩) n n ∧ w2.heap.size ≤ gi ∧ w2.heap.size ≤ gr ∧ gi < wc.heap.size ∧ gr < wc.heap.size ∧ gi ≠ gr ∧ Turn (fun _ => False) w2 wc ∧ Lists2 wc (.slice (some ⟨gi, 0, none⟩) n n) (.slice (some ⟨gr, 0, none⟩) n n) n (List.replicate n false) (List.replicate n 0))
  case first =>
    go_region
    all_goals (go_wp2_with fail)
    all_goals go_meet
    all_goals
      first
        | (obtain ⟨x1, x2, x3⟩ := made_in w2 n (by omega)
           exact ⟨w2.heap.size, w2.heap.size + 1, rfl, rfl, Nat.le_refl _, by omega, by omega, x2, by omega, x1, x3⟩)
        | (obtain ⟨x1, x2, x3⟩ := made_rank w2 n (by omega)
           exact ⟨w2.heap.size + 1, w2.heap.size, rfl, rfl, by omega, Nat.le_refl _, x2, by omega, by omega, x1, x3⟩)
  case rest =>
    obtain ⟨gi, gr, rfl, rfl, b1, b2, b3, b4, b5, t3, hL⟩ := hcut
    obtain ⟨v0, hv0⟩ : ∃ v0, v0 = wc := ⟨_, rfl⟩
    rw [← hv0] at b3 b4 t3 hL ⊢
    clear hv0 wc
    have h3 := h2.quiet t3
    have T3 : Turn (fun j => w.heap.size ≤ j) w v0 := (T2.then t3).mono (fun _ h => h.elim)
    have hs2 := T2.size
    have h4 : HAt v0 B n (fun j => w.heap.size ≤ j ∧ j ≠ gi ∧ j ≠ gr) [] := h3.mono (fun j hj => ⟨hj.1, by omega, by omega⟩)
    have b6 : w.heap.size ≤ gi := by omega
    have b7 : w.heap.size ≤ gr := by omega
    clear h2 h3 t3 T2 mk1 mk2 b1 b2
    have b34 : Hid (∀ u : World, Turn (fun j => w.heap.size ≤ j) v0 u → gi < u.heap.size ∧ gr < u.heap.size) := hide (fun u t => ⟨Nat.lt_of_lt_of_le b3 t.size, Nat.lt_of_lt_of_le b4 t.size⟩)
    clear b3 b4
    go_wp2_with fail
    go_loopw [9, 10] (fun cnt i wr => ∃ (m : Nat) (T : List It) (I : List Bool) (K : List Int), cnt = .int .i64 (T.length : Int) ∧ i = .int .i64 (m : Int) ∧ m ≤ N ∧ m ≤ 300 ∧ HAt wr B n (fun j => w.heap.size ≤ j ∧ j ≠ gi ∧ j ≠ gr) T ∧ Lists2 wr (.slice (some ⟨gi, 0, none⟩) n n) (.slice (some ⟨gr, 0, none⟩) n n) n I K ∧ Hid (Told9 I K T) ∧ Turn (fun j => w.heap.size ≤ j) v0 wr) (fun _ i _ => N - (intOf i).toNat)
    case atStart => exact ⟨0, [], List.replicate n false, List.replicate n 0, rfl, rfl, Nat.zero_le N, by decide, h4, hL, hide (told_none n), Turn.refl _ v0⟩
    case round =>
      as_aux_lemma =>
        clear hL h4
        obtain ⟨m, T, I, K, rfl, rfl, hm1, hm2, hH, hL, hT, tr⟩ := hrel
        by_cases hgo : m < N ∧ m < 300
        · obtain ⟨hmN, hm3⟩ := hgo
          obtain ⟨b, off, rfl, o0, o1, o2⟩ := unhide Hops wr (T3.then tr) m hmN
          have hbw : b < wr.heap.size := World.block_lt_of_cell? _ _ o0
          generalize Kd m = kd at *
          generalize Id m = id at *
          generalize Rk m = rk at *
          have ta := (Turn.refl (fun _ => False) wr).alloc (.cells #[.int .i64 kd, .int .i64 id, .int .i64 rk] 32)
          have ko : (wr.alloc (.cells #[.int .i64 kd, .int .i64 id, .int .i64 rk] 32)).heap[wr.heap.size]? = some (.cells #[.int .i64 kd, .int .i64 id, .int .i64 rk] 32 (0, 0)) := heap_alloc_new wr _
          have hHo := (hH.quiet ta).but ko (by decide) (by decide) (by decide)
          have hLo := hL.turn ta (fun _ _ h => h) (fun _ _ h => h)
          have tro := tr.then (ta.mono (fun _ h => h.elim))
          have hgb := unhide b34 wr tr
          have hso := tr.size
          have q1 : (wr.alloc (.cells #[.int .i64 kd, .int .i64 id, .int .i64 rk] 32)).cell? ⟨wr.heap.size, 1, none⟩ = some (.int .i64 id) := cell_obj ko 1
          clear hH hL tr ta
          go_upto_region 11 with fail
          clear o0 o1 o2
          go_cut [12] from 47 to 279 (fun s12 wx => ∃ isB : Bool, s12 = .bool isB ∧ Hid (isB = decide (0 ≤ id ∧ id < (n : Int))) ∧ wx = wr.alloc (.cells #[.int .i64 kd, .int .i64 id, .int .i64 rk] 32))
          case first =>
            by_cases hid : 0 ≤ id
            · go_wp2_with fail
              go_meet
              exact ⟨decide (id < (n : Int)), rfl, hide (by simp [hid]), rfl⟩
            · go_wp2_with fail
              go_meet
              exact ⟨false, rfl, hide (decide_eq_false (by omega)).symm, rfl⟩
          case rest =>
            as_aux_lemma =>
              obtain ⟨isB, rfl, hisB, rfl⟩ := hcut
              generalize wr.alloc (.cells #[.int .i64 kd, .int .i64 id, .int .i64 rk] 32) = W at *
              generalize wr.heap.size = bo at *
              have q0 : W.cell? ⟨bo, 0, none⟩ = some (.int .i64 kd) := cell_obj ko 0
              go_upto_block 2 with fail
              clear q0
              go_cut [9, 13, 14, 15, 16, 17, 18, 19] from 47 to 279 (fun s9 s13 s14 s15 s16 s17 s18 s19 wx => ∃ (T : List It) (I : List Bool) (K : List Int), s9 = .int .i64 (T.length : Int) ∧ HAt wx B n (fun j => w.heap.size ≤ j ∧ j ≠ gi ∧ j ≠ gr) T ∧ Lists2 wx (.slice (some ⟨gi, 0, none⟩) n n) (.slice (some ⟨gr, 0, none⟩) n n) n I K ∧ Hid (Told9 I K T) ∧ Turn (fun j => w.heap.size ≤ j) v0 wx)
              case first =>
                as_aux_lemma =>
                  have q0 : W.cell? ⟨bo, 0, none⟩ = some (.int .i64 kd) := cell_obj ko 0
                  have q2 : W.cell? ⟨bo, 2, none⟩ = some (.int .i64 rk) := cell_obj ko 2
                  have hboW := (Array.getElem?_eq_some_iff.1 ko).1
                  have hTl : T.length ≤ n := hHo.len_le
                  obtain ⟨G, hG⟩ : ∃ G : Nat → Prop, G = fun j => (w.heap.size ≤ j ∧ j ≠ gi ∧ j ≠ gr) ∧ j ≠ bo := ⟨_, rfl⟩
                  rw [← hG] at hHo
                  have gF : ∀ j, G j → (w.heap.size ≤ j ∧ j ≠ gi ∧ j ≠ gr) := fun j hj => by rw [hG] at hj; exact hj.1
                  have gB : ∀ j, G j → j ≠ bo := fun j hj => by rw [hG] at hj; exact hj.2
                  have gW : ∀ j, G j → w.heap.size ≤ j := fun j hj => (gF j hj).1
                  have gI : ¬ G gi := fun h => (gF _ h).2.1 rfl
                  have gR : ¬ G gr := fun h => (gF _ h).2.2 rfl
                  have gN : ∀ j, W.heap.size ≤ j → G j := fun j hj => by
                    rw [hG]
                    have h1 := T3.size
                    have h2 := hgb.1
                    have h3 := hgb.2
                    exact ⟨⟨by omega, by omega, by omega⟩, by omega⟩
                  clear hG
                  have done : Hid (∀ (w' : World) (T' : List It) (I' : List Bool) (K' : List Int), HAt w' B n G T' → Lists2 w' (.slice (some ⟨gi, 0, none⟩) n n) (.slice (some ⟨gr, 0, none⟩) n n) n I' K' → Told9 I' K' T' → Turn (fun j => w.heap.size ≤ j) W w' → ∃ (T : List It) (I : List Bool) (K : List Int), Value.int .i64 (T'.length : Int) = .int .i64 (T.length : Int) ∧ HAt w' B n (fun j => w.heap.size ≤ j ∧ j ≠ gi ∧ j ≠ gr) T ∧ Lists2 w' (.slice (some ⟨gi, 0, none⟩) n n) (.slice (some ⟨gr, 0, none⟩) n n) n I K ∧ Hid (Told9 I K T) ∧ Turn (fun j => w.heap.size ≤ j) v0 w') := hide (fun w' T' I' K' a1 a2 a3 a4 => ⟨T', I', K', rfl, a1.mono gF, a2, hide a3, tro.then a4⟩)
                  have same : Hid (∀ (w' : World), HAt w' B n G T → Turn G W w' → ∃ (T_1 : List It) (I : List Bool) (K : List Int), Value.int .i64 (T.length : Int) = .int .i64 (T_1.length : Int) ∧ HAt w' B n (fun j => w.heap.size ≤ j ∧ j ≠ gi ∧ j ≠ gr) T_1 ∧ Lists2 w' (.slice (some ⟨gi, 0, none⟩) n n) (.slice (some ⟨gr, 0, none⟩) n n) n I K ∧ Hid (Told9 I K T_1) ∧ Turn (fun j => w.heap.size ≤ j) v0 w') := hide (fun w' a1 a2 => unhide done w' T I K a1 (hLo.turn a2 (fun j hj => by simp [Value.ownBlock] at hj; subst hj; exact gI) (fun j hj => by simp [Value.ownBlock] at hj; subst hj; exact gR)) (unhide hT) (a2.mono gW))
                  have GBI := hide hgb.1
                  have GBR := hide hgb.2
                  have HT := hide hT
                  have GN := hide gN
                  have GB := hide gB
                  have GW := hide gW
                  have GI := hide gI
                  have GR := hide gR
                  have GF := hide gF
                  have GGI := hide b6
                  have GGR := hide b7
                  clear hso hbw tro gN gB gW gI gR gF b34 hgb b6 b7
                  by_cases k2 : kd = 2
                  · subst k2
                    clear hisB same q1 q2
                    have hlw := least_walk W gi 0 n gr 0 n n I K hLo (by omega)
                    have hin : Hid (∀ u ∈ T, u.1 < n) := hide (fun u hu => hHo.id_lt hu)
                    have lI := hLo.lenI
                    have HLI := hide lI
                    clear lI
                    by_cases hem : T = []
                    · as_aux_lemma =>
                        subst hem
                        go_wp2_with fail
                        refine hlw.mono ?_
                        rintro e w5 ⟨k, rfl, hk, t5⟩
                        obtain rfl := least_empty (unhide hT) hk
                        have h5 := hHo.quiet t5
                        have L5 := hLo.turn t5 (fun _ _ h => h) (fun _ _ h => h)
                        have T5 := t5.mono (G := fun j => w.heap.size ≤ j) (fun _ h => h.elim)
                        clear hlw hk t5 q0
                        go_wp2_with fail
                        refine (pop_empty h5).mono ?_
                        rintro e w6 ⟨rfl, t6, h6⟩
                        have ta := (Turn.refl (fun _ => False) w6).alloc (.cells #[.int .i64 0, .int .i64 0] 36)
                        have kx : (w6.alloc (.cells #[.int .i64 0, .int .i64 0] 36)).heap[w6.heap.size]? = some (.cells #[.int .i64 0, .int .i64 0] 36 (0, 0)) := heap_alloc_new w6 _
                        have h7 := h6.quiet ta
                        have L7 := (L5.turn t6 (fun j hj => by simp [Value.ownBlock] at hj; subst hj; exact unhide GI) (fun j hj => by simp [Value.ownBlock] at hj; subst hj; exact unhide GR)).turn ta (fun _ _ h => h) (fun _ _ h => h)
                        have T7 := T5.then ((t6.mono (unhide GW)).then (ta.mono (fun _ h => h.elim)))
                        clear h5 L5 T5 t6 h6 ta hHo hLo ko
                        unfold itV
                        go_upto_region 35 with fail
                        generalize w6.alloc (.cells #[.int .i64 0, .int .i64 0] 36) = w7 at *
                        generalize w6.heap.size = b7' at *
                        have x0 : w7.cell? ⟨b7', 0, none⟩ = some (.int .i64 0) := cell_obj kx 0
                        have x1 : w7.cell? ⟨b7', 1, none⟩ = some (.int .i64 0) := cell_obj kx 1
                        go_quiet (fail)
                        have h8 := h7.quiet ((Turn.refl (fun _ => False) w7).drewN nq)
                        have L8 := L7.turn ((Turn.refl (fun _ => False) w7).drewN nq) (fun _ _ h => h) (fun _ _ h => h)
                        have T8 := T7.then (((Turn.refl (fun _ => False) w7).drewN nq).mono (fun _ h => h.elim))
                        clear x0 x1 kx h7 L7 T7
                        go_wp2_with fail
                        go_meet
                        exact unhide done _ [] I K h8 L8 (unhide hT) T8
                    · as_aux_lemma =>
                        obtain ⟨x, hx⟩ := min_of9 T hem
                        have HX := hide hx
                        have hxn := unhide hin x hx.1
                        have hxI := ((unhide hT x).1 hx.1).1
                        have HxI := hide hxI
                        clear hx hxI hem
                        go_wp2_with fail
                        refine hlw.mono ?_
                        rintro e w5 ⟨k, rfl, hk, t5⟩
                        obtain ⟨rfl, hKx⟩ := least_min (unhide hT) (unhide hin) (unhide HX) hk
                        have h5 := hHo.quiet t5
                        have L5 := hLo.turn t5 (fun _ _ h => h) (fun _ _ h => h)
                        have T5 := t5.mono (G := fun j => w.heap.size ≤ j) (fun _ h => h.elim)
                        clear hlw hk t5 q0
                        go_wp2_with fail
                        refine (pop_ok h5 x (unhide HX)).mono ?_
                        rintro e w6 ⟨rfl, t6, T', h6, hless⟩
                        have HLess := hide hless
                        have ta := (Turn.refl (fun _ => False) w6).alloc (.cells #[.int .i64 (x.1 : Int), .int .i64 x.2] 36)
                        have kx : (w6.alloc (.cells #[.int .i64 (x.1 : Int), .int .i64 x.2] 36)).heap[w6.heap.size]? = some (.cells #[.int .i64 (x.1 : Int), .int .i64 x.2] 36 (0, 0)) := heap_alloc_new w6 _
                        have h7 := h6.quiet ta
                        have L7 := (L5.turn t6 (fun j hj => by simp [Value.ownBlock] at hj; subst hj; exact unhide GI) (fun j hj => by simp [Value.ownBlock] at hj; subst hj; exact unhide GR)).turn ta (fun _ _ h => h) (fun _ _ h => h)
                        have T7 := T5.then ((t6.mono (unhide GW)).then (ta.mono (fun _ h => h.elim)))
                        clear h5 L5 T5 t6 h6 ta hHo hLo ko hless
                        unfold itV
                        go_upto_region 35 with fail
                        generalize w6.alloc (.cells #[.int .i64 (x.1 : Int), .int .i64 x.2] 36) = w7 at *
                        generalize w6.heap.size = b7' at *
                        have x0 : w7.cell? ⟨b7', 0, none⟩ = some (.int .i64 (x.1 : Int)) := cell_obj kx 0
                        have x1 : w7.cell? ⟨b7', 1, none⟩ = some (.int .i64 x.2) := cell_obj kx 1
                        have cK := L7.cellK hKx
                        have nx0 : decide ((x.1 : Int) < 0) = false := decide_eq_false (by omega)
                        have nx1 : decide ((0 : Int) ≤ (x.1 : Int)) = true := decide_eq_true (by omega)
                        go_quiet (fail)
                        have h8 := h7.quiet ((Turn.refl (fun _ => False) w7).drewN nq)
                        have L8 := L7.turn ((Turn.refl (fun _ => False) w7).drewN nq) (fun _ _ h => h) (fun _ _ h => h)
                        have T8 := T7.then (((Turn.refl (fun _ => False) w7).drewN nq).mono (fun _ h => h.elim))
                        clear x0 x1 kx h7 L7 T7 cK
                        generalize w7.drewN nq = w8 at *
                        have cI := L8.cellI (unhide HxI)
                        obtain ⟨L9, t9, z9⟩ := L8.setI b5 x.1 hxn false
                        have h9 := h8.turn t9 (fun j hj e => by subst e; exact unhide GI hj)
                        have T9 := T8.then (t9.mono (fun j hj => by subst hj; exact unhide GGI))
                        have told9 := hide (Told9.out (unhide hT) (by rw [unhide HLI]; exact hxn) (unhide HLess).2)
                        have e9 : Hid ((T.length : Int) - 1 = (T'.length : Int)) := hide (by have := (unhide HLess).1; omega)
                        clear L8 h8 T8 t9
                        go_wp2_with fail
                        go_meet
                        rw [unhide e9]
                        exact unhide done _ T' _ K h9 L9 (unhide told9) T9
                  have n2 : (kd == 2) = false := by simpa using k2
                  clear k2
                  cases isB with
                  | false =>
                    have hnin : ¬ (0 ≤ id ∧ id < (n : Int)) := of_decide_eq_false (unhide hisB).symm
                    have hout : ∀ (i : Nat) (r : Int), id = i → (i, r) ∉ T := fun i r e hm => hnin (by have := hHo.id_lt hm; simp only at this; omega)
                    have HN := hide hnin
                    have HO := hide hout
                    clear hnin hout
                    by_cases k1 : kd = 1
                    · as_aux_lemma =>
                        subst k1
                        go_wp2_with (go_at_call 9; refine (lower_bad hHo _ _ (unhide HN)).mono ?_; rintro e w5 ⟨rfl, t5, h5⟩)
                        go_meet
                        exact unhide same _ h5 t5
                    have n1 : (kd == 1) = false := by simpa using k1
                    by_cases k3 : kd = 3
                    · as_aux_lemma =>
                        subst k3
                        clear n1 n2
                        go_wp2_with (go_at_call 12; refine (drop_out hHo _ (unhide HO)).mono ?_; rintro e w5 ⟨rfl, t5, h5⟩)
                        go_meet
                        exact unhide same _ h5 t5
                    have n3 : (kd == 3) = false := by simpa using k3
                    by_cases k4 : kd = 4
                    · as_aux_lemma =>
                        subst k4
                        clear n1 n3 n2
                        go_wp2_with (go_at_call 13; refine (rank_out hHo _ (unhide HO)).mono ?_; rintro e w5 ⟨rfl, rfl⟩)
                        go_meet
                        exact unhide same _ hHo (Turn.refl _ _)
                    have n4 : (kd == 4) = false := by simpa using k4
                    clear k1 k3 k4
                    go_wp2_with (go_at_call 14; refine (push_bad hHo (unhide GN) _ _ (unhide HN)).mono ?_; rintro e w5 ⟨rfl, t5, h5⟩)
                    go_meet
                    exact unhide same _ h5 t5
                  | true =>
                    have hyin : 0 ≤ id ∧ id < (n : Int) := of_decide_eq_true (unhide hisB).symm
                    obtain ⟨i, rfl⟩ : ∃ i : Nat, id = i := ⟨id.toNat, by omega⟩
                    have hi : i < n := by omega
                    clear hyin hisB
                    obtain ⟨bI, hbI⟩ : ∃ bI, I[i]? = some bI := ⟨I[i]'(by rw [hLo.lenI]; exact hi), by simp [hLo.lenI, hi]⟩
                    obtain ⟨r, hr⟩ : ∃ r, K[i]? = some r := ⟨K[i]'(by rw [hLo.lenK]; exact hi), by simp [hLo.lenK, hi]⟩
                    have ci := hLo.cellI hbI
                    have cr := hLo.cellK hr
                    have lI := hLo.lenI
                    have lK := hLo.lenK
                    have HbI := hide hbI
                    have Hr := hide hr
                    clear hbI hr
                    cases bI with
                    | false =>
                      have hout : ∀ r : Int, (i, r) ∉ T := fun r hm => by
                        have := ((unhide hT (i, r)).1 hm).1
                        simp only at this
                        rw [unhide HbI] at this; simp at this
                      have HO := hide hout
                      have HO2 : Hid (∀ (i' : Nat) (r : Int), (i : Int) = i' → (i', r) ∉ T) := hide (fun i' r e hm => by
                        obtain rfl : i = i' := by omega
                        exact hout r hm)
                      clear hout
                      by_cases k1 : kd = 1
                      · as_aux_lemma =>
                          subst k1
                          go_wp2_with (go_at_call 9; refine (lower_none hHo i _ hi (unhide HO)).mono ?_; rintro e w5 ⟨rfl, t5, h5⟩)
                          go_meet
                          exact unhide same _ h5 t5
                      have n1 : (kd == 1) = false := by simpa using k1
                      by_cases k3 : kd = 3
                      · as_aux_lemma =>
                          subst k3
                          clear n1 n2
                          go_wp2_with (go_at_call 12; refine (drop_out hHo _ (unhide HO2)).mono ?_; rintro e w5 ⟨rfl, t5, h5⟩)
                          go_meet
                          exact unhide same _ h5 t5
                      have n3 : (kd == 3) = false := by simpa using k3
                      by_cases k4 : kd = 4
                      · as_aux_lemma =>
                          subst k4
                          clear n1 n3 n2
                          go_wp2_with (go_at_call 13; refine (rank_out hHo _ (unhide HO2)).mono ?_; rintro e w5 ⟨rfl, rfl⟩)
                          go_meet
                          exact unhide same _ hHo (Turn.refl _ _)
                      have n4 : (kd == 4) = false := by simpa using k4
                      clear k1 k3 k4
                      obtain ⟨L1, t1, z1⟩ := hLo.setI b5 i hi true
                      obtain ⟨L2, t2, z2⟩ := L1.setK b5 i hi rk
                      have z3 := (hLo.setK b5 i hi rk).2.2
                      have hbo : bo ≠ gi ∧ bo ≠ gr := ⟨by have := unhide GBI; omega, by have := unhide GBR; omega⟩
                      obtain ⟨hbo1, hbo2⟩ := hbo
                      have tt := ((t1.mono (G := fun j => j = gi ∨ j = gr) (fun j h => .inl h)).then (t2.mono (fun j h => .inr h))).drew
                      have h2 := hHo.turn tt (fun j hj e => by rcases e with rfl | rfl; exact unhide GI hj; exact unhide GR hj)
                      have L3 := L2.turn ((Turn.refl (fun _ => False) _).drew) (fun _ _ h => h) (fun _ _ h => h)
                      have k2' := tt.same ko (fun e => by rcases e with e | e; exact hbo1 e; exact hbo2 e)
                      have T2' := tt.mono (G := fun j => w.heap.size ≤ j) (fun j e => by rcases e with rfl | rfl; exact unhide GGI; exact unhide GGR)
                      clear L1 L2 t1 t2
                      go_upto_region 14 with fail
                      go_region
                      clear ci cr z1 z2 z3 q0 q1 q2
                      generalize ((W.setCell ⟨gi, i, none⟩ (.bool true)).setCell ⟨gr, i, none⟩ (.int .i64 rk)).drew = W2 at *
                      have q1 : W2.cell? ⟨bo, 1, none⟩ = some (.int .i64 (i : Int)) := cell_obj k2' 1
                      have q2 : W2.cell? ⟨bo, 2, none⟩ = some (.int .i64 rk) := cell_obj k2' 2
                      have hp := push_ok h2 (fun j hj => unhide GN j (Nat.le_trans tt.size hj)) i rk hi (unhide HO)
                      go_wp2_with (go_at_call 14; refine hp.mono ?_; rintro e w5 ⟨rfl, t5, T', h5, l5, m5⟩)
                      go_meet
                      have e9 : (T.length : Int) + 1 = (T'.length : Int) := by omega
                      rw [e9]
                      refine unhide done _ T' _ _ h5 (L3.turn t5 (fun j hj => by simp [Value.ownBlock] at hj; subst hj; exact unhide GI) (fun j hj => by simp [Value.ownBlock] at hj; subst hj; exact unhide GR)) (Told9.put (unhide hT) (by rw [lI]; exact hi) (by rw [lK]; exact hi) (fun u => ?_)) (T2'.then (t5.mono (unhide GW)))
                      rw [m5 u]
                      constructor
                      · rintro (h | h)
                        · exact .inl h
                        · exact .inr ⟨h, fun e => unhide HO u.2 (by rw [← e]; exact h)⟩
                      · rintro (h | h)
                        · exact .inl h
                        · exact .inr h.1
                    | true =>
                      have hm : (i, r) ∈ T := ((unhide hT) (i, r)).2 ⟨unhide HbI, unhide Hr⟩
                      have Hm := hide hm
                      clear hm
                      by_cases k1 : kd = 1
                      · subst k1
                        by_cases hlt : r < rk
                        · as_aux_lemma =>
                            have hd : decide (r < rk) = true := decide_eq_true hlt
                            go_upto_region 28 with fail
                            go_region
                            have tD := (Turn.refl (fun _ => False) W).drew
                            have h2 := hHo.quiet tD
                            have q1' : W.drew.cell? ⟨bo, 1, none⟩ = some (.int .i64 (i : Int)) := q1
                            have q2' : W.drew.cell? ⟨bo, 2, none⟩ = some (.int .i64 rk) := q2
                            go_wp2_with (go_at_call 9; refine (lower_above h2 i r rk (unhide Hm) hlt).mono ?_; rintro e w5 ⟨rfl, t5, h5⟩)
                            go_meet
                            exact unhide same _ h5 (Turn.undrew t5)
                        · as_aux_lemma =>
                            have hd : decide (r < rk) = false := decide_eq_false hlt
                            obtain ⟨L1, t1, z1⟩ := hLo.setK b5 i hi rk
                            have L2 := L1.turn ((Turn.refl (fun _ => False) (W.setCell ⟨gr, i, none⟩ (.int .i64 rk))).drew) (fun _ _ h => h) (fun _ _ h => h)
                            have t2 := t1.drew
                            have z2 : W.drew.frozen? ⟨gr, i, none⟩ = false := z1
                            have hbo2 : bo ≠ gr := by have := unhide GBR; omega
                            have h2 := hHo.turn t2 (fun j hj e => by subst e; exact unhide GR hj)
                            have k2' := t2.same ko hbo2
                            have T2' := t2.mono (G := fun j => w.heap.size ≤ j) (fun j e => by subst e; exact unhide GGR)
                            have q1' : W.drew.cell? ⟨bo, 1, none⟩ = some (.int .i64 (i : Int)) := q1
                            have q2' : W.drew.cell? ⟨bo, 2, none⟩ = some (.int .i64 rk) := q2
                            have cr' : W.drew.cell? ⟨gr, i, none⟩ = some (.int .i64 r) := cr
                            clear t1 L1
                            go_upto_region 28 with fail
                            go_region
                            go_upto_region 30 with fail
                            clear ci cr z1 z2 q0 q1 q2 q1' q2' cr'
                            generalize (W.setCell ⟨gr, i, none⟩ (.int .i64 rk)).drew = W2 at *
                            have q1 : W2.cell? ⟨bo, 1, none⟩ = some (.int .i64 (i : Int)) := cell_obj k2' 1
                            have q2 : W2.cell? ⟨bo, 2, none⟩ = some (.int .i64 rk) := cell_obj k2' 2
                            go_wp2_with (go_at_call 9; refine (lower_ok h2 i r rk (unhide Hm) (by omega)).mono ?_; rintro e w5 ⟨rfl, t5, T', h5, l5, m5⟩)
                            go_meet
                            rw [← l5]
                            exact unhide done _ T' _ _ h5 (L2.turn t5 (fun j hj => by simp [Value.ownBlock] at hj; subst hj; exact unhide GI) (fun j hj => by simp [Value.ownBlock] at hj; subst hj; exact unhide GR)) (Told9.low (unhide hT) (by rw [lK]; exact hi) (unhide Hm) m5) (T2'.then (t5.mono (unhide GW)))
                      have n1 : (kd == 1) = false := by simpa using k1
                      by_cases k3 : kd = 3
                      · as_aux_lemma =>
                          subst k3
                          clear n1 n2
                          go_wp2_with fail
                          refine (drop_in hHo i r (unhide Hm)).mono ?_
                          rintro e w5 ⟨rfl, t5, T', h5, hless⟩
                          have L5 := hLo.turn t5 (fun j hj => by simp [Value.ownBlock] at hj; subst hj; exact unhide GI) (fun j hj => by simp [Value.ownBlock] at hj; subst hj; exact unhide GR)
                          obtain ⟨L6, t6, z6⟩ := L5.setI b5 i hi false
                          have c5 := L5.cellI (unhide HbI)
                          have k5 := t5.same ko (fun h => unhide GB _ h rfl)
                          have q5 : w5.cell? ⟨bo, 1, none⟩ = some (.int .i64 (i : Int)) := cell_obj k5 1
                          have h6 := h5.turn t6 (fun j hj e => by subst e; exact unhide GI hj)
                          have T6 := (t5.mono (unhide GW)).then (t6.mono (fun j hj => by subst hj; exact unhide GGI))
                          have e9 : Hid ((T.length : Int) - 1 = (T'.length : Int)) := hide (by have := hless.1; omega)
                          have told9 := hide (Told9.out (unhide hT) (by rw [lI]; exact hi) hless.2)
                          clear t5 t6 L5 hless q0 q1 q2 ci cr
                          go_wp2_with fail
                          go_meet
                          rw [unhide e9]
                          exact unhide done _ T' _ _ h6 L6 (unhide told9) T6
                      have n3 : (kd == 3) = false := by simpa using k3
                      by_cases k4 : kd = 4
                      · as_aux_lemma =>
                          subst k4
                          clear n1 n3 n2
                          have hrr : (r != r) = false := by simp
                          go_wp2_with (go_at_call 13; refine (rank_in hHo i r (unhide Hm)).mono ?_; rintro e w5 ⟨rfl, rfl⟩)
                          go_meet
                          exact unhide same _ hHo (Turn.refl _ _)
                      have n4 : (kd == 4) = false := by simpa using k4
                      clear k1 k3 k4
                      go_wp2_with (go_at_call 14; refine (push_twice hHo (unhide GN) i r _ (unhide Hm)).mono ?_; rintro e w5 ⟨rfl, t5, h5⟩)
                      go_meet
                      exact unhide same _ h5 t5
              case rest =>
                as_aux_lemma =>
                  clear hHo hLo tro q1 ko hT hgb hso hbw
                  obtain ⟨T9, I9, K9, rfl, hH, hL, hT, tr⟩ := hcut
                  have hlw := least_walk wc gi 0 n gr 0 n n I9 K9 hL (by omega)
                  have hin : Hid (∀ u ∈ T9, u.1 < n) := hide (fun u hu => hH.id_lt hu)
                  by_cases hem : T9 = []
                  · as_aux_lemma =>
                      subst hem
                      go_wp2_with fail
                      refine hlw.mono ?_
                      rintro e w5 ⟨k, rfl, hk, t5⟩
                      obtain rfl := least_empty (unhide hT) hk
                      clear hlw hk
                      have hH5 := hH.quiet t5
                      have hL5 := hL.turn t5 (fun _ _ h => h) (fun _ _ h => h)
                      have tr5 := tr.then (t5.mono (fun _ h => h.elim))
                      clear hH hL tr t5
                      go_wp2_with fail
                      refine (peek_empty hH5).mono ?_
                      rintro e w6 ⟨rfl, t6, hH6⟩
                      have ta := (Turn.refl (fun _ => False) w6).alloc (.cells #[.int .i64 0, .int .i64 0] 36)
                      have kx : (w6.alloc (.cells #[.int .i64 0, .int .i64 0] 36)).heap[w6.heap.size]? = some (.cells #[.int .i64 0, .int .i64 0] 36 (0, 0)) := heap_alloc_new w6 _
                      have hH7 := hH6.quiet ta
                      have hL7 := hL5.turn (t6.then ta) (fun _ _ h => h) (fun _ _ h => h)
                      have tr7 := tr5.then ((t6.then ta).mono (fun _ h => h.elim))
                      clear hH5 hL5 tr5 t6 hH6 ta
                      unfold itV
                      go_upto_region 53 with fail
                      generalize w6.alloc (.cells #[.int .i64 0, .int .i64 0] 36) = w7 at *
                      generalize w6.heap.size = b7' at *
                      have x0 : w7.cell? ⟨b7', 0, none⟩ = some (.int .i64 0) := cell_obj kx 0
                      have x1 : w7.cell? ⟨b7', 1, none⟩ = some (.int .i64 0) := cell_obj kx 1
                      have hln : Hid (∀ u : World, Turn (fun _ => False) w7 u → Calls Try.prog 16 #[.pointer (some ⟨B, 0, none⟩)] u fun e w' => e = .returned (.int .i64 (0)) ∧ w' = u) := hide (fun u tu => lenH (hH7.quiet tu))
                      go_quiet ((go_at_call 16; exact Calls.quiet_of_same (unhide hln _ ((Turn.refl _ _).drewN _))))
                      have hH8 := hH7.quiet ((Turn.refl (fun _ => False) w7).drewN nq)
                      have hL8 := hL7.turn ((Turn.refl (fun _ => False) w7).drewN nq) (fun _ _ h => h) (fun _ _ h => h)
                      have tr8 := tr7.then (((Turn.refl (fun _ => False) w7).drewN nq).mono (fun _ h => h.elim))
                      clear x0 x1 kx hH7 hL7 tr7 hln
                      go_wp2_with fail
                      go_roundw
                      case rel => exact ⟨m + 1, [], I9, K9, rfl, by go_num, by omega, by omega, hH8, hL8, hT, tr8⟩
                      case measure => simp [intOf]; omega
                  · as_aux_lemma =>
                      obtain ⟨x, hx⟩ := min_of9 T9 hem
                      have HX := hide hx
                      have hxn := unhide hin x hx.1
                      clear hx hem
                      go_wp2_with fail
                      refine hlw.mono ?_
                      rintro e w5 ⟨k, rfl, hk, t5⟩
                      obtain ⟨rfl, hKx⟩ := least_min (unhide hT) (unhide hin) (unhide HX) hk
                      clear hlw hk
                      have hH5 := hH.quiet t5
                      have hL5 := hL.turn t5 (fun _ _ h => h) (fun _ _ h => h)
                      have tr5 := tr.then (t5.mono (fun _ h => h.elim))
                      clear hH hL tr t5
                      go_wp2_with fail
                      refine (peek_ok hH5 x (unhide HX)).mono ?_
                      rintro e w6 ⟨rfl, t6, hH6⟩
                      have ta := (Turn.refl (fun _ => False) w6).alloc (.cells #[.int .i64 (x.1 : Int), .int .i64 x.2] 36)
                      have kx : (w6.alloc (.cells #[.int .i64 (x.1 : Int), .int .i64 x.2] 36)).heap[w6.heap.size]? = some (.cells #[.int .i64 (x.1 : Int), .int .i64 x.2] 36 (0, 0)) := heap_alloc_new w6 _
                      have hH7 := hH6.quiet ta
                      have hL7 := hL5.turn (t6.then ta) (fun _ _ h => h) (fun _ _ h => h)
                      have tr7 := tr5.then ((t6.then ta).mono (fun _ h => h.elim))
                      clear hH5 hL5 tr5 t6 hH6 ta
                      unfold itV
                      obtain ⟨L9, hL9⟩ : ∃ L9, T9.length = L9 := ⟨_, rfl⟩
                      rw [hL9]
                      go_upto_region 53 with fail
                      generalize w6.alloc (.cells #[.int .i64 (x.1 : Int), .int .i64 x.2] 36) = w7 at *
                      generalize w6.heap.size = b7' at *
                      have x0 : w7.cell? ⟨b7', 0, none⟩ = some (.int .i64 (x.1 : Int)) := cell_obj kx 0
                      have x1 : w7.cell? ⟨b7', 1, none⟩ = some (.int .i64 x.2) := cell_obj kx 1
                      have hln : Hid (∀ u : World, Turn (fun _ => False) w7 u → Calls Try.prog 16 #[.pointer (some ⟨B, 0, none⟩)] u fun e w' => e = .returned (.int .i64 ((L9 : Int))) ∧ w' = u) := hide (fun u tu => by rw [← hL9]; exact lenH (hH7.quiet tu))
                      have cK := hL7.cellK hKx
                      have nx0 : decide ((x.1 : Int) < 0) = false := decide_eq_false (by omega)
                      have nx1 : decide ((0 : Int) ≤ (x.1 : Int)) = true := decide_eq_true (by omega)
                      go_quiet ((go_at_call 16; exact Calls.quiet_of_same (unhide hln _ ((Turn.refl _ _).drewN _))))
                      have hH8 := hH7.quiet ((Turn.refl (fun _ => False) w7).drewN nq)
                      have hL8 := hL7.turn ((Turn.refl (fun _ => False) w7).drewN nq) (fun _ _ h => h) (fun _ _ h => h)
                      have tr8 := tr7.then (((Turn.refl (fun _ => False) w7).drewN nq).mono (fun _ h => h.elim))
                      clear x0 x1 kx hH7 hL7 tr7 hln
                      go_wp2_with fail
                      go_roundw
                      case rel => exact ⟨m + 1, T9, I9, K9, by rw [hL9], by go_num, by omega, by omega, hH8, hL8, hT, tr8⟩
                      case measure => simp [intOf]; omega
        · as_aux_lemma =>
            have TE := (T3.then tr).fresh (fun j hj => hj)
            go_wp2_with fail
            all_goals go_ret
            all_goals exact ⟨rfl, TE⟩
theorem HeapPlays_law (w : World) (nn : Int) (hw : (Lit.int .i64 nn).wf = true) (v : Value) (N : Nat) (Kd Id Rk : Nat → Int) (hv : Ops9 w v N Kd Id Rk) :
    Calls Try.prog 3 #[.int .i64 nn, v] w fun e w' => e = .returned (.bool true) ∧ Below w.heap.size w w' :=
  (plays_walk w nn v N Kd Id Rk hv).mono (fun e w' h => ⟨h.1, h.2.bel⟩)
end Go.Proofs.Ytcajomobmjapgaa
