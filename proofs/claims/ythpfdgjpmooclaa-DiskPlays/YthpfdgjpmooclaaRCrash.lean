/- The reference's Crash, Start. -/
import Derived.Test.YthpfdgjpmooclaaRApp2
import Derived.Test.YthpfdgjpmooclaaDStart
namespace Go.Proofs.Ythpfdgjpmooclaa
open Go.RowKit Go.Maps
set_option linter.unusedVariables false
set_option linter.unusedSimpArgs false

theorem fallD_eq (f : Fl) (x : Int) (h : f.s ≤ f.d.length) : fallD f x = f.d.take (f.s + keepN f x) ++ List.replicate (endN f x - (f.s + keepN f x)) 0 := by
  unfold fallD
  split
  · rename_i e
    have e1 : f.s + keepN f x = f.d.length := by omega
    have e2 : endN f x = f.d.length := by unfold endN; rw [if_pos e]
    rw [e1, e2]; simp
  · rfl
theorem end_cond (f : Fl) (x : Int) (h : f.s ≤ f.d.length) {n : Nat} (h1 : f.s + keepN f x ≤ n) (h2 : n ≤ endN f x) : n < endN f x ↔ (n < f.d.length ∧ n % 64 ≠ 0) := by
  have hk := keepN_le f x
  unfold endN at h2 ⊢
  split at h2
  · rename_i e
    rw [if_pos e]
    constructor
    · intro h; omega
    · intro h; exact h.1
  · rename_i e
    rw [if_neg e]
    generalize f.s + keepN f x = st at *
    unfold secEnd at *
    split at h2
    · rename_i e2
      rw [if_pos e2]
      constructor
      · intro h; omega
      · rintro ⟨a, b⟩
        have : n = st := by omega
        subst this; omega
    · rename_i e2
      rw [if_neg e2]
      constructor
      · intro h
        refine ⟨by omega, by omega⟩
      · rintro ⟨a, b⟩
        rcases Nat.lt_or_ge n (min (st + 64 - st % 64) f.d.length) with h | h
        · exact h
        · have : n = st + 64 - st % 64 ∨ n = f.d.length := by omega
          rcases this with h' | h'
          · omega
          · omega
theorem fall_none (f : Fl) (x : Int) (h : f.s ≤ f.d.length) : (fallD f x).length = 0 ↔ f.s + keepN f x = 0 := by
  rw [fallD_len f x h]
  have hb := endN_le f x h
  constructor
  · intro h; omega
  · intro h0
    have := end_cond f x h (n := 0) (by omega) (by omega)
    have h2 : ¬ (0 < f.d.length ∧ 0 % 64 ≠ 0) := by omega
    omega
theorem fall_take (ks : List Int) (fs : List Fl) {i : Nat} (h : i < fs.length) : fallL ks 0 (fs.take (i + 1)) = fallL ks 0 (fs.take i) ++ (if (fallD fs[i] (turnK ks i)).length = 0 then [] else [fallF fs[i] (turnK ks i)]) := by
  rw [List.take_succ_eq_append_getElem h, fallL_append]
  have : (fs.take i).length = i := by simp; omega
  rw [this, Nat.zero_add]
  congr 1
def slLen : Value → Nat
  | .slice _ n _ => n
  | _ => 0
theorem min_any (x y : Int) (t1 : Array TypeId) (t : TypeId) (u : World) : (Builtin.min_ t1 t #[.int .i64 x, .int .i64 y]).run Try.prog u = .ok (.int .i64 (if y < x then y else x)) u := by
  simp only [Builtin.min_, List.foldlM, Builtin.min2, pure_bind]
  rfl
theorem max_any (x y : Int) (t1 : Array TypeId) (t : TypeId) (u : World) : (Builtin.max_ t1 t #[.int .i64 x, .int .i64 y]).run Try.prog u = .ok (.int .i64 (if y > x then y else x)) u := by
  simp only [Builtin.max_, List.foldlM, Builtin.max2, pure_bind]
  rfl

set_option maxRecDepth 100000 in
set_option maxHeartbeats 4000000 in
theorem rCrash_walk (w : World) (R : Nat) (F Bk : Nat → Prop) (S : Dk) (kv : Value) (ks : List Int) (h : RAt w R F S) (hrow : Row .i64 Bk w kv ks) (hBk : ∀ b, Bk b → ¬ F b) :
    Calls Try.prog 42 #[.pointer (some ⟨R, 0, none⟩), kv] w fun e w' => (∃ v, e = .returned v) ∧ Turn F w w' ∧ RAt w' R (NF w F) (crashS S ks) := by
  obtain ⟨lv, E, m, hF⟩ := h
  have hFR := hF R (.inl rfl)
  have hrow := hrow.lt
  have hkl := hrow.len
  unfold maxLen at hkl
  have c3 : w.cell? ⟨R, 3, none⟩ = some (.bool S.down) := cell_obj m.obj 3
  have f3 : w.frozen? ⟨R, 3, none⟩ = false := frozen_obj m.obj 3
  have t1 := setRow w R 3 (.bool true)
  have m1 := m.re (S' := { S with down := true }) t1 (by rw [heap_setCell_obj (j := 3) m.obj]; rfl) rfl ⟨m.well.rise, m.well.good, m.well.room, m.well.size, m.well.files, m.well.arm⟩
  have row1 := hrow.turn t1 (fun b hb q => by subst q; exact hBk b hb.1 hFR)
  have hs1 : (w.setCell ⟨R, 3, none⟩ (.bool true)).heap.size = w.heap.size := by simp [World.setCell]
  have hwc := well_crash m.well ks
  have hcnt := m.count
  have hfsE := m.fs
  obtain ⟨pl, cl, hlv⟩ := m.row.form
  obtain ⟨ka, kc, hkv⟩ := hrow.slice
  subst hlv hkv
  generalize hw1 : w.setCell ⟨R, 3, none⟩ (.bool true) = w1 at *
  have Hm1 := hide m1
  have HW1 := hide hw1
  have Ht1 := hide t1
  have Hrow1 := hide row1
  have Hs1 := hide hs1
  have Hwc := hide hwc
  have HfsE := hide hfsE
  have hsafe : ∀ k (h : k < E.length), E[k].s ≤ E[k].d.length ∧ E[k].d.length ≤ 16777216 := fun k h => ⟨m.safe (List.getElem_mem h), m.bound (List.getElem_mem h)⟩
  have hatk : ∀ wr, Turn (fun j => w.heap.size ≤ j) w1 wr → ∀ k (h : k < E.length), ∃ g off, ∃ a : ByteArray, ∃ p c, pl = some ⟨g, off, none⟩ ∧ wr.cell? ⟨g, off + k * 3, none⟩ = some (.string a) ∧ wr.cell? ⟨g, off + k * 3 + 1, none⟩ = some (.slice p E[k].d.length c) ∧ wr.cell? ⟨g, off + k * 3 + 2, none⟩ = some (.int .i64 (E[k].s : Int)) ∧
      a.data.toList = E[k].n ∧ OwnSl wr 5 1 (.slice p E[k].d.length c) E[k].d.length (E[k].d.map (Value.int .u8)) := fun wr tr k h => by
    have mr := (unhide Hm1).turn tr (fun j hj (q : w.heap.size ≤ j) => by have := (unhide Hm1).lt j hj; have := unhide Hs1; omega)
    obtain ⟨X', e, Y', hE', hX', he⟩ := split_at h
    subst hX'
    rw [hE'] at mr
    obtain ⟨g, off, cap, hlv, q0, q1, q2⟩ := mr.at
    obtain ⟨p, c, hv⟩ := mr.form (e := e) (by simp)
    have ho := mr.own e (by simp)
    simp only [Value.slice.injEq] at hlv
    rw [← he]
    rw [hv] at q1 ho
    exact ⟨g, off, _, p, c, hlv.1, q0, q1, q2, rfl, ho⟩
  have Hatk := hide hatk
  have Hsafe := hide hsafe
  have hcR : ∀ wr, Turn (fun j => w.heap.size ≤ j) w1 wr → wr.cell? ⟨R, 1, none⟩ = some (.slice pl E.length cl) := fun wr tr => tr.cell (cell_obj (unhide Hm1).obj 1) (fun q : w.heap.size ≤ R => by have := (unhide Hm1).lt R (.inl rfl); have := unhide Hs1; omega)
  have HcR := hide hcR
  have hrk : ∀ wr, Turn (fun j => w.heap.size ≤ j) w1 wr → Row .i64 (fun b => Bk b ∧ b < w.heap.size) wr (.slice ka ks.length kc) ks := fun wr tr => (unhide Hrow1).turn tr (fun b hb (q : w.heap.size ≤ b) => by have := hb.2; omega)
  have Hrk := hide hrk
  clear hatk hcR hrk hsafe m hrow row1 hs1 m1 t1 hwc hw1 hfsE
  go_enter Try.func42, Try.ntmps42
  go_wp2
  rw [unhide HW1]
  go_loopw [4, 5] (fun v i wr => ∃ k : Nat, k ≤ E.length ∧ i = .int .i64 k ∧ ∃ Eo : List Ent, OwnSl wr 77 3 v Eo.length (rcs Eo) ∧ Eo.length ≤ k ∧ (∀ j, v.ownBlock = some j → w.heap.size ≤ j) ∧ Turn (fun j => w.heap.size ≤ j) w1 wr ∧
      Hid (Eo.map Ent.fl = fallL ks 0 (S.fs.take k)) ∧ Hid (∀ e ∈ Eo, OwnSl wr 5 1 e.v e.d.length (e.d.map (Value.int .u8)) ∧ ∀ j, e.v.ownBlock = some j → w.heap.size ≤ j)) (fun _ i _ => E.length - (intOf i).toNat)
  case atStart => exact ⟨0, Nat.zero_le _, rfl, [], ⟨rfl, .inl ⟨rfl, rfl⟩⟩, Nat.le_refl _, fun j hj => by simp [Value.ownBlock] at hj, Turn.refl _ _, hide rfl, hide (fun e he => by cases he)⟩
  case round =>
    obtain ⟨k, hk, rfl, Eo, own, hEk, bl, tr, hfl, hEo⟩ := hrel
    obtain ⟨vp, vc, hvf⟩ := own.form
    subst hvf
    obtain ⟨wo, hwo⟩ : ∃ wo, wo = wr := ⟨_, rfl⟩
    subst hwo
    have cR := unhide HcR wo tr
    by_cases hlt : k < E.length
    · obtain ⟨g, off, a, p, c, rfl, q0, q1, q2, han, hod⟩ := unhide Hatk wo tr k hlt
      obtain ⟨hsafe, hbd⟩ := unhide Hsafe k hlt
      have rk := unhide Hrk wo tr
      have hft : fallL ks 0 (S.fs.take (k + 1)) = fallL ks 0 (S.fs.take k) ++ (if (fallD E[k].fl (turnK ks k)).length = 0 then [] else [fallF E[k].fl (turnK ks k)]) := by
        have h1 : k < S.fs.length := by rw [unhide HfsE]; simpa using hlt
        have h2 : S.fs[k] = E[k].fl := by simp [unhide HfsE]
        rw [fall_take ks S.fs h1, h2]
      generalize hek : E[k] = e at *
      clear hek
      obtain ⟨f, hf⟩ : ∃ f : Fl, f = e.fl := ⟨_, rfl⟩
      have f1 : f.n = e.n ∧ f.d = e.d ∧ f.s = e.s := by rw [hf]; exact ⟨rfl, rfl, rfl⟩
      rw [← hf] at hft
      obtain ⟨x, hx⟩ : ∃ x, x = turnK ks k := ⟨_, rfl⟩
      rw [← hx] at hft
      have hnone := fall_none f x (by rw [f1.2.1, f1.2.2]; exact hsafe)
      have hKl := keepN_le f x
      have hend := endN_le f x (by rw [f1.2.1, f1.2.2]; exact hsafe)
      have hcnd := fun n => end_cond f x (by rw [f1.2.1, f1.2.2]; exact hsafe) (n := n)
      have hfD := fallD_eq f x (by rw [f1.2.1, f1.2.2]; exact hsafe)
      have hfL := fallD_len f x (by rw [f1.2.1, f1.2.2]; exact hsafe)
      rw [f1.2.1, f1.2.2] at hKl
      rw [f1.2.2] at hnone
      rw [f1.2.1, f1.2.2] at hend hfD
      simp only [f1.2.1, f1.2.2] at hcnd
      have hKdef : keepN f x = min x.toNat (e.d.length - e.s) := by unfold keepN; rw [f1.2.1, f1.2.2]
      have hFF : fallF f x = ⟨e.n, fallD f x, (fallD f x).length⟩ := by unfold fallF; rw [f1.1]
      rw [hFF] at hft
      obtain ⟨K, hK⟩ : ∃ K, K = keepN f x := ⟨_, rfl⟩
      obtain ⟨N, hN⟩ : ∃ N, N = endN f x := ⟨_, rfl⟩
      obtain ⟨FD, hFD⟩ : ∃ FD, FD = fallD f x := ⟨_, rfl⟩
      rw [← hK] at hKl hnone hend hcnd hfD hKdef
      rw [← hN] at hend hcnd hfD hfL
      rw [← hFD] at hft hnone hfD hfL
      clear hFF hf f1 hK hN hFD
      -- what is kept of the bytes
      obtain ⟨i0, hi, hz0, hz1, hz2⟩ := info_u8'
      obtain ⟨st, hst⟩ : ∃ st, st = e.s + K := ⟨_, rfl⟩
      have hstl : st ≤ e.d.length := by omega
      rw [← hst] at hnone hend hfD
      simp only [← hst] at hcnd
      obtain ⟨WA, hWA⟩ : ∃ WA, (ks.length = 0 ∧ WA = wo.alloc (.cells #[.string a, .slice p e.d.length c, .int .i64 (e.s : Int)] 77)) ∨ (0 < ks.length ∧ WA = (wo.alloc (.cells #[.string a, .slice p e.d.length c, .int .i64 (e.s : Int)] 77)).drew) := by
        by_cases hk0 : ks.length = 0
        · exact ⟨_, .inl ⟨hk0, rfl⟩⟩
        · exact ⟨_, .inr ⟨by omega, rfl⟩⟩
      have tA : Turn (fun _ => False) wo WA := by
        rcases hWA with ⟨_, h⟩ | ⟨_, h⟩
        · rw [h]; exact (Turn.refl _ wo).alloc _
        · rw [h]; exact ((Turn.refl _ wo).alloc _).drew
      have kA : WA.heap[wo.heap.size]? = some (.cells #[.string a, .slice p e.d.length c, .int .i64 (e.s : Int)] 77 (0, 0)) := by
        rcases hWA with ⟨_, h⟩ | ⟨_, h⟩
        · rw [h]; exact heap_alloc_new wo _
        · rw [h]; exact heap_alloc_new wo _
      have sA : WA.heap.size = wo.heap.size + 1 := by
        rcases hWA with ⟨_, h⟩ | ⟨_, h⟩
        · rw [h]; simp
        · rw [h]; simp
      have sr := tr.size
      have s1 := unhide Hs1
      obtain ⟨y, hsl, hry⟩ := cut_to (ki := .i64) Try.underlying32 hi hz1 (row_of_sl (hod.turn tA (fun _ _ => id))) st hstl
      obtain ⟨v2, w2, hrun, o2, t2, l2⟩ := copy_run hry (by simp; omega)
      have hltk : (e.d.take st).length = st := by simp; omega
      obtain ⟨ya, yc, hyv⟩ := hry.slice
      rw [hltk] at o2 hyv
      obtain ⟨p2, c2, hv2⟩ := o2.form
      have T2 : Turn (fun _ => False) wo w2 := tA.then t2
      have k2 := t2.same kA id
      have own2 := own.turn T2 (fun _ _ => id)
      have HEo2 : Hid (∀ x ∈ Eo, OwnSl w2 5 1 x.v x.d.length (x.d.map (Value.int .u8)) ∧ ∀ j, x.v.ownBlock = some j → w.heap.size ≤ j ∧ j < wo.heap.size) := hide (fun x hx => ⟨((unhide hEo x hx).1).turn T2 (fun _ _ => id), fun j hj => ⟨(unhide hEo x hx).2 j hj, by obtain ⟨cur, hc⟩ := (unhide hEo x hx).1.lt j hj; exact (Array.getElem?_eq_some_iff.1 hc).1⟩⟩)
      have bl2 : ∀ j, (Value.slice vp Eo.length vc).ownBlock = some j → w.heap.size ≤ j ∧ j < wo.heap.size := fun j hj => ⟨bl j hj, by obtain ⟨cur, hc⟩ := own.lt j hj; exact (Array.getElem?_eq_some_iff.1 hc).1⟩
      have tr2 : Turn (fun j => w.heap.size ≤ j) w1 w2 := tr.then (T2.mono (fun _ h => h.elim))
      have fA0 : WA.cell? ⟨wo.heap.size, 0, none⟩ = some (.string a) := cell_obj kA 0
      have fA1 : WA.cell? ⟨wo.heap.size, 1, none⟩ = some (.slice p e.d.length c) := cell_obj kA 1
      have fA2 : WA.cell? ⟨wo.heap.size, 2, none⟩ = some (.int .i64 (e.s : Int)) := cell_obj kA 2
      have rkA := rk.turn tA (fun _ _ => id)
      have s2 := t2.size
      have Hdone : Hid (st = 0 → Eo.map Ent.fl = fallL ks 0 (S.fs.take (k + 1))) := hide (fun h0 => by rw [hft, if_pos (hnone.2 h0), List.append_nil]; exact unhide hfl)
      have Hmore : Hid (∀ b : Value, st ≠ 0 → (Eo ++ [(⟨e.n, b, FD, N⟩ : Ent)]).map Ent.fl = fallL ks 0 (S.fs.take (k + 1))) := hide (fun b h0 => by
        rw [hft, if_neg (fun q => h0 (hnone.1 q)), List.map_append, unhide hfl, hfL]; rfl)
      have HfD := hide hfD
      have HfL := hide hfL
      have Hcnd := hide hcnd
      have Hst := hide hst
      have HKd := hide hKdef
      have Hx := hide hx
      have Hhan := hide han
      have Hltk := hide hltk
      clear hst hKdef hx han hltk hcnd hfD hfL hft hnone hry kA rk tA t2 own tr T2 hod hfl hEo bl
      subst hyv hv2
      have hst' := unhide Hst
      generalize hdl : e.d.length = dl at *
      have Hdl := hide hdl
      clear hdl
      have hnN : N ≤ dl := hend.2
      have hsN : st ≤ N := hend.1
      have Hown2 := hide own2
      have Hbl2 := hide bl2
      have Htr2 := hide tr2
      have Hk2 := hide k2
      have Ho2 := hide o2
      have Hl2 := hide l2
      clear own2 bl2 tr2 k2 o2 l2
      rcases hWA with ⟨hk0, hWA⟩ | ⟨hk0, hWA⟩
      · have hK0 : K = 0 := by have := unhide HKd; rw [unhide Hx] at this; unfold turnK at this; rw [if_pos hk0] at this; simpa using this
        have hse : e.s = st := by omega
        rw [hse] at hWA fA2 Hk2
        have hk1 : ¬ 0 < ks.length := by omega
        clear hst' Hst HKd hk0
        subst hWA
        by_cases hs0 : st = 0
        · have hzz : ((st : Int) == 0) = true := by rw [beq_iff_eq]; omega
          have Hs0 := hide hs0
          clear hs0
          go_wp2_with (at_builtin; refine list_append_run rfl _ _ 32 rfl _ _ _ _ rfl rfl hrun ?_)
          exact ⟨⟨k + 1, by omega, by go_num, Eo, unhide Hown2, by omega, fun j hj => (unhide Hbl2 j hj).1, unhide Htr2, hide (unhide Hdone (unhide Hs0)), hide (fun x hx => ⟨(unhide HEo2 x hx).1, fun j hj => ((unhide HEo2 x hx).2 j hj).1⟩)⟩, by simp [intOf]; omega⟩
        · have hzz : ((st : Int) == 0) = false := by rw [beq_eq_false_iff_ne]; omega
          go_wp2_with (at_builtin; refine list_append_run rfl _ _ 32 rfl _ _ _ _ rfl rfl hrun ?_)
          generalize wo.alloc (.cells #[.string a, .slice p dl c, .int .i64 (st : Int)] 77) = WA at *
          clear hrun fA0 fA1 fA2 rkA
          go_loopw [9] (fun bv wi => ∃ n : Nat, st ≤ n ∧ n ≤ N ∧ OwnSl wi 5 1 bv n ((e.d.take st ++ List.replicate (n - st) 0).map (Value.int .u8)) ∧ (∀ j, bv.ownBlock = some j → WA.heap.size ≤ j) ∧ Turn (fun j => WA.heap.size ≤ j) w2 wi) (fun bv _ => N - slLen bv)
          case atStart => exact ⟨st, Nat.le_refl _, hsN, by rw [Nat.sub_self]; simpa using unhide Ho2, unhide Hl2, Turn.refl _ _⟩
          case round =>
            obtain ⟨n, hn1, hn2, oB, lB, tB⟩ := hrel
            have kB := tB.same (unhide Hk2) (fun q : WA.heap.size ≤ wo.heap.size => by omega)
            have g0 := cell_obj kB 0
            have g1 := cell_obj kB 1
            simp only [List.getElem?_toArray, List.getElem?_cons_zero, List.getElem?_cons_succ] at g0 g1
            obtain ⟨pB, cB, hB⟩ := oB.form
            subst hB
            have hc := unhide Hcnd n hn1 hn2
            by_cases hgo : n < N
            · obtain ⟨hc1, hc2⟩ := hc.1 hgo
              have hc3 : ((n : Int) % 64 != 0) = true := by rw [bne_iff_ne]; omega
              have tC : Turn (fun _ => False) wr (wr.alloc (.cells #[.int .u8 0] 5)) := (Turn.refl _ wr).alloc _
              have srcC : Src 1 (wr.alloc (.cells #[.int .u8 0] 5)) (.slice (some ⟨wr.heap.size, 0, none⟩) 1 1) 1 [.int .u8 0] := ⟨rfl, .inr ⟨_, _, rfl, by omega, one_new _ _ _⟩⟩
              obtain ⟨v', w', runC, o', t', l'⟩ := append_src (P := Try.prog) (ty := 32) Try.underlying32 hi hz0 hz1 hz2 rfl (by omega) (oB.turn tC (fun _ _ => id)) srcC (by simp [Value.oneCell']) (by unfold maxLen; omega) (by omega)
              have hrep : (e.d.take st ++ List.replicate (n - st) (0 : Int)).map (Value.int .u8) ++ [.int .u8 0] = (e.d.take st ++ List.replicate (n + 1 - st) 0).map (Value.int .u8) := by
                rw [show n + 1 - st = (n - st) + 1 by omega, List.replicate_succ', ← List.append_assoc, List.map_append (l₂ := [0])]; rfl
              rw [hrep] at o'
              have sC := tC.size
              have sB := tB.size
              have t9 : Turn (fun j => WA.heap.size ≤ j) w2 w' := (tB.then (tC.mono (fun _ h => h.elim))).then (t'.mono (fun j hj => lB j hj))
              have l9 : ∀ j, v'.ownBlock = some j → WA.heap.size ≤ j := fun j hj => by
                rcases l' j hj with h | h
                · exact lB j h
                · omega
              obtain ⟨pv', cv', hv'⟩ := o'.form
              have Ho9 := hide o'
              have Ht9 := hide t9
              have Hl9 := hide l9
              clear srcC hrep t' l' o' t9 l9 hc kB oB lB tB tC hc2
              subst hv'
              go_wp2_with (at_builtin; refine list_append_run rfl _ _ 32 rfl _ _ _ _ rfl rfl runC ?_)
              exact ⟨⟨n + 1, by omega, by omega, unhide Ho9, unhide Hl9, unhide Ht9⟩, by simp [slLen]; omega⟩
            · have hnN2 : n = N := by omega
              subst hnN2
              have hno : ¬ (n < dl ∧ n % 64 ≠ 0) := fun q => hgo (hc.2 q)
              have tD : Turn (fun _ => False) wr (wr.alloc (.cells #[.string a, .slice pB n cB, .int .i64 (n : Int)] 77)) := (Turn.refl _ wr).alloc _
              have srcD : Src 3 (wr.alloc (.cells #[.string a, .slice pB n cB, .int .i64 (n : Int)] 77)) (.slice (some ⟨wr.heap.size, 0, none⟩) 1 1) [(⟨e.n, .slice pB n cB, FD, n⟩ : Ent)].length (rcs [⟨e.n, .slice pB n cB, FD, n⟩]) := by
                have : rcs [(⟨e.n, .slice pB n cB, FD, n⟩ : Ent)] = [.string a, .slice pB n cB, .int .i64 (n : Int)] := by rw [rcs_cons, rcs_nil, List.append_nil]; unfold rc; simp only; rw [← unhide Hhan]
                rw [this]; exact new_src wr a _ _ _
              have ownB := (unhide Hown2).turn tB (fun j hj (q : WA.heap.size ≤ j) => by have := (unhide Hbl2 j hj).2; omega)
              obtain ⟨v', w', runD, o', t', l'⟩ := app_files (ownB.turn tD (fun _ _ => id)) srcD (fun x hx => by simp at hx; rw [hx]; exact ⟨_, _, _, rfl⟩) (by simp; omega)
              rw [← rcs_append, ← List.length_append] at o'
              have sB := tB.size
              have sD := tD.size
              have tr9 : Turn (fun j => w.heap.size ≤ j) w1 w' := (((unhide Htr2).then (tB.mono (fun j (hj : WA.heap.size ≤ j) => by show w.heap.size ≤ j; omega))).then (tD.mono (fun _ h => h.elim))).then (t'.mono (fun j hj => (unhide Hbl2 j hj).1))
              have bl9 : ∀ j, v'.ownBlock = some j → w.heap.size ≤ j := fun j hj => by
                rcases l' j hj with h | h
                · exact (unhide Hbl2 j h).1
                · omega
              obtain ⟨curv, hcurv⟩ : ∃ cur : Nat → Array Value, (∀ j, (Value.slice vp Eo.length vc).ownBlock = some j → (wr.alloc (.cells #[.string a, .slice pB n cB, .int .i64 (n : Int)] 77)).heap[j]? = some (.cells (cur j) 77 (0, 0))) := by
                have h9 := (ownB.turn tD (fun _ _ => id)).lt
                exact ⟨fun j => if h : (Value.slice vp Eo.length vc).ownBlock = some j then (h9 j h).choose else #[], fun j hj => by simp only [hj, dite_true]; exact (h9 j hj).choose_spec⟩
              have hfin : ∀ x : Ent, OwnSl wr 5 1 x.v x.d.length (x.d.map (Value.int .u8)) → OwnSl w' 5 1 x.v x.d.length (x.d.map (Value.int .u8)) := fun x hx => by
                have h1 := hx.turn tD (fun _ _ => id)
                exact h1.turn t' (fun j hj q => h1.neObj (hcurv j q) (by decide) j hj rfl)
              have HEo9 : Hid (∀ x ∈ Eo ++ [(⟨e.n, .slice pB n cB, FD, n⟩ : Ent)], OwnSl w' 5 1 x.v x.d.length (x.d.map (Value.int .u8)) ∧ ∀ j, x.v.ownBlock = some j → w.heap.size ≤ j) := hide (fun x hx => by
                rcases List.mem_append.1 hx with hx | hx
                · refine ⟨hfin x (((unhide HEo2 x hx).1).turn tB (fun j hj (q : WA.heap.size ≤ j) => by have := ((unhide HEo2 x hx).2 j hj).2; omega)), fun j hj => ((unhide HEo2 x hx).2 j hj).1⟩
                · simp at hx
                  subst hx
                  refine ⟨hfin _ ?_, fun j hj => by have := lB j hj; omega⟩
                  simp only
                  rw [unhide HfL, unhide HfD]
                  exact oB)
              obtain ⟨pv', cv', hv'⟩ := o'.form
              have hl9 : (Eo ++ [(⟨e.n, .slice pB n cB, FD, n⟩ : Ent)]).length = Eo.length + 1 := by simp
              have Ho9 := hide o'
              have Ht9 := hide tr9
              have Hl9 := hide bl9
              rw [hl9] at hv'
              clear srcD t' l' o' tr9 bl9 hc kB oB lB tB tD hfin hcurv ownB
              by_cases hnd : n < dl
              · have hc3 : ((n : Int) % 64 != 0) = false := by rw [bne_eq_false_iff_eq]; omega
                clear hno
                subst hv'
                go_wp2_with (at_builtin; refine list_append_run rfl _ _ 29 rfl _ _ _ _ rfl rfl runD ?_)
                exact ⟨⟨k + 1, by omega, by go_num, Eo ++ [(⟨e.n, .slice pB n cB, FD, n⟩ : Ent)], by have := unhide Ho9; rw [hl9] at this ⊢; exact this, by omega, unhide Hl9, unhide Ht9, hide (unhide Hmore _ hs0), HEo9⟩, by simp [intOf]; omega⟩
              · clear hno
                subst hv'
                go_wp2_with (at_builtin; refine list_append_run rfl _ _ 29 rfl _ _ _ _ rfl rfl runD ?_)
                exact ⟨⟨k + 1, by omega, by go_num, Eo ++ [(⟨e.n, .slice pB n cB, FD, n⟩ : Ent)], by have := unhide Ho9; rw [hl9] at this ⊢; exact this, by omega, unhide Hl9, unhide Ht9, hide (unhide Hmore _ hs0), HEo9⟩, by simp [intOf]; omega⟩
      · have hxx : x = ks.getD (k % ks.length) 0 := by rw [unhide Hx]; unfold turnK; rw [if_neg (by omega)]
        have hlt3 : k % ks.length < ks.length := Nat.mod_lt _ hk0
        obtain ⟨kb, koff, hka, hkc⟩ : ∃ b off, ka = some ⟨b, off, none⟩ ∧ Cells .i64 WA b off ks := by
          rcases rkA with ⟨_, _, _, _, _, h⟩ | ⟨b, off, c, h, _, _, _, h4⟩
          · rw [h] at hk0; simp at hk0
          · simp at h; exact ⟨b, off, h.1, h4⟩
        have hcell := hkc _ hlt3
        rw [← hxx] at hcell
        obtain ⟨M, hM⟩ : ∃ M : Int, M = if ((dl : Int) - (e.s : Int)) < x then ((dl : Int) - (e.s : Int)) else x := ⟨_, rfl⟩
        have hmn := min_any x ((dl : Int) - (e.s : Int)) #[3, 3] 3
        rw [← hM] at hmn
        have hmx := max_any 0 M #[3, 3] 3
        have hKM : (if M > 0 then M else 0) = (K : Int) := by
          have hk := unhide HKd
          rw [hk, hM]
          split <;> split <;> omega
        rw [hKM] at hmx
        have hwr : IntKind.i64.wrap ((dl : Int) - (e.s : Int)) = (dl : Int) - (e.s : Int) := by rw [IntKind.wrap_i64]; omega
        have hsafe' : (e.s : Int) ≤ (dl : Int) := by omega
        have hsK : (e.s : Int) + (K : Int) ≤ (dl : Int) := by omega
        rw [show (st : Int) = (e.s : Int) + (K : Int) by omega] at hsl
        subst hka
        have Hst' := hide hst'
        clear hKM hM hxx hkc HKd Hst hst'
        subst hWA
        go_wp2
        go_region
        by_cases hs0 : st = 0
        · have hzz : ((e.s : Int) + (K : Int) == 0) = true := by have := unhide Hst'; rw [beq_iff_eq]; omega
          have Hs0 := hide hs0
          clear hs0
          go_wp2_with (at_builtin; refine list_append_run rfl _ _ 32 rfl _ _ _ _ rfl rfl hrun ?_)
          exact ⟨⟨k + 1, by omega, by go_num, Eo, unhide Hown2, by omega, fun j hj => (unhide Hbl2 j hj).1, unhide Htr2, hide (unhide Hdone (unhide Hs0)), hide (fun x hx => ⟨(unhide HEo2 x hx).1, fun j hj => ((unhide HEo2 x hx).2 j hj).1⟩)⟩, by simp [intOf]; omega⟩
        · have hzz : ((e.s : Int) + (K : Int) == 0) = false := by have := unhide Hst'; rw [beq_eq_false_iff_ne]; omega
          go_wp2_with (at_builtin; refine list_append_run rfl _ _ 32 rfl _ _ _ _ rfl rfl hrun ?_)
          generalize (wo.alloc (.cells #[.string a, .slice p dl c, .int .i64 (e.s : Int)] 77)).drew = WA at *
          clear hrun fA0 fA1 fA2 rkA
          go_loopw [9] (fun bv wi => ∃ n : Nat, st ≤ n ∧ n ≤ N ∧ OwnSl wi 5 1 bv n ((e.d.take st ++ List.replicate (n - st) 0).map (Value.int .u8)) ∧ (∀ j, bv.ownBlock = some j → WA.heap.size ≤ j) ∧ Turn (fun j => WA.heap.size ≤ j) w2 wi) (fun bv _ => N - slLen bv)
          case atStart => exact ⟨st, Nat.le_refl _, hsN, by rw [Nat.sub_self]; simpa using unhide Ho2, unhide Hl2, Turn.refl _ _⟩
          case round =>
            obtain ⟨n, hn1, hn2, oB, lB, tB⟩ := hrel
            have kB := tB.same (unhide Hk2) (fun q : WA.heap.size ≤ wo.heap.size => by omega)
            have g0 := cell_obj kB 0
            have g1 := cell_obj kB 1
            simp only [List.getElem?_toArray, List.getElem?_cons_zero, List.getElem?_cons_succ] at g0 g1
            obtain ⟨pB, cB, hB⟩ := oB.form
            subst hB
            have hc := unhide Hcnd n hn1 hn2
            by_cases hgo : n < N
            · obtain ⟨hc1, hc2⟩ := hc.1 hgo
              have hc3 : ((n : Int) % 64 != 0) = true := by rw [bne_iff_ne]; omega
              have tC : Turn (fun _ => False) wr (wr.alloc (.cells #[.int .u8 0] 5)) := (Turn.refl _ wr).alloc _
              have srcC : Src 1 (wr.alloc (.cells #[.int .u8 0] 5)) (.slice (some ⟨wr.heap.size, 0, none⟩) 1 1) 1 [.int .u8 0] := ⟨rfl, .inr ⟨_, _, rfl, by omega, one_new _ _ _⟩⟩
              obtain ⟨v', w', runC, o', t', l'⟩ := append_src (P := Try.prog) (ty := 32) Try.underlying32 hi hz0 hz1 hz2 rfl (by omega) (oB.turn tC (fun _ _ => id)) srcC (by simp [Value.oneCell']) (by unfold maxLen; omega) (by omega)
              have hrep : (e.d.take st ++ List.replicate (n - st) (0 : Int)).map (Value.int .u8) ++ [.int .u8 0] = (e.d.take st ++ List.replicate (n + 1 - st) 0).map (Value.int .u8) := by
                rw [show n + 1 - st = (n - st) + 1 by omega, List.replicate_succ', ← List.append_assoc, List.map_append (l₂ := [0])]; rfl
              rw [hrep] at o'
              have sC := tC.size
              have sB := tB.size
              have t9 : Turn (fun j => WA.heap.size ≤ j) w2 w' := (tB.then (tC.mono (fun _ h => h.elim))).then (t'.mono (fun j hj => lB j hj))
              have l9 : ∀ j, v'.ownBlock = some j → WA.heap.size ≤ j := fun j hj => by
                rcases l' j hj with h | h
                · exact lB j h
                · omega
              obtain ⟨pv', cv', hv'⟩ := o'.form
              have Ho9 := hide o'
              have Ht9 := hide t9
              have Hl9 := hide l9
              clear srcC hrep t' l' o' t9 l9 hc kB oB lB tB tC hc2
              subst hv'
              go_wp2_with (at_builtin; refine list_append_run rfl _ _ 32 rfl _ _ _ _ rfl rfl runC ?_)
              exact ⟨⟨n + 1, by omega, by omega, unhide Ho9, unhide Hl9, unhide Ht9⟩, by simp [slLen]; omega⟩
            · have hnN2 : n = N := by omega
              subst hnN2
              have hno : ¬ (n < dl ∧ n % 64 ≠ 0) := fun q => hgo (hc.2 q)
              have tD : Turn (fun _ => False) wr (wr.alloc (.cells #[.string a, .slice pB n cB, .int .i64 (n : Int)] 77)) := (Turn.refl _ wr).alloc _
              have srcD : Src 3 (wr.alloc (.cells #[.string a, .slice pB n cB, .int .i64 (n : Int)] 77)) (.slice (some ⟨wr.heap.size, 0, none⟩) 1 1) [(⟨e.n, .slice pB n cB, FD, n⟩ : Ent)].length (rcs [⟨e.n, .slice pB n cB, FD, n⟩]) := by
                have : rcs [(⟨e.n, .slice pB n cB, FD, n⟩ : Ent)] = [.string a, .slice pB n cB, .int .i64 (n : Int)] := by rw [rcs_cons, rcs_nil, List.append_nil]; unfold rc; simp only; rw [← unhide Hhan]
                rw [this]; exact new_src wr a _ _ _
              have ownB := (unhide Hown2).turn tB (fun j hj (q : WA.heap.size ≤ j) => by have := (unhide Hbl2 j hj).2; omega)
              obtain ⟨v', w', runD, o', t', l'⟩ := app_files (ownB.turn tD (fun _ _ => id)) srcD (fun x hx => by simp at hx; rw [hx]; exact ⟨_, _, _, rfl⟩) (by simp; omega)
              rw [← rcs_append, ← List.length_append] at o'
              have sB := tB.size
              have sD := tD.size
              have tr9 : Turn (fun j => w.heap.size ≤ j) w1 w' := (((unhide Htr2).then (tB.mono (fun j (hj : WA.heap.size ≤ j) => by show w.heap.size ≤ j; omega))).then (tD.mono (fun _ h => h.elim))).then (t'.mono (fun j hj => (unhide Hbl2 j hj).1))
              have bl9 : ∀ j, v'.ownBlock = some j → w.heap.size ≤ j := fun j hj => by
                rcases l' j hj with h | h
                · exact (unhide Hbl2 j h).1
                · omega
              obtain ⟨curv, hcurv⟩ : ∃ cur : Nat → Array Value, (∀ j, (Value.slice vp Eo.length vc).ownBlock = some j → (wr.alloc (.cells #[.string a, .slice pB n cB, .int .i64 (n : Int)] 77)).heap[j]? = some (.cells (cur j) 77 (0, 0))) := by
                have h9 := (ownB.turn tD (fun _ _ => id)).lt
                exact ⟨fun j => if h : (Value.slice vp Eo.length vc).ownBlock = some j then (h9 j h).choose else #[], fun j hj => by simp only [hj, dite_true]; exact (h9 j hj).choose_spec⟩
              have hfin : ∀ x : Ent, OwnSl wr 5 1 x.v x.d.length (x.d.map (Value.int .u8)) → OwnSl w' 5 1 x.v x.d.length (x.d.map (Value.int .u8)) := fun x hx => by
                have h1 := hx.turn tD (fun _ _ => id)
                exact h1.turn t' (fun j hj q => h1.neObj (hcurv j q) (by decide) j hj rfl)
              have HEo9 : Hid (∀ x ∈ Eo ++ [(⟨e.n, .slice pB n cB, FD, n⟩ : Ent)], OwnSl w' 5 1 x.v x.d.length (x.d.map (Value.int .u8)) ∧ ∀ j, x.v.ownBlock = some j → w.heap.size ≤ j) := hide (fun x hx => by
                rcases List.mem_append.1 hx with hx | hx
                · refine ⟨hfin x (((unhide HEo2 x hx).1).turn tB (fun j hj (q : WA.heap.size ≤ j) => by have := ((unhide HEo2 x hx).2 j hj).2; omega)), fun j hj => ((unhide HEo2 x hx).2 j hj).1⟩
                · simp at hx
                  subst hx
                  refine ⟨hfin _ ?_, fun j hj => by have := lB j hj; omega⟩
                  simp only
                  rw [unhide HfL, unhide HfD]
                  exact oB)
              obtain ⟨pv', cv', hv'⟩ := o'.form
              have hl9 : (Eo ++ [(⟨e.n, .slice pB n cB, FD, n⟩ : Ent)]).length = Eo.length + 1 := by simp
              have Ho9 := hide o'
              have Ht9 := hide tr9
              have Hl9 := hide bl9
              rw [hl9] at hv'
              clear srcD t' l' o' tr9 bl9 hc kB oB lB tB tD hfin hcurv ownB
              by_cases hnd : n < dl
              · have hc3 : ((n : Int) % 64 != 0) = false := by rw [bne_eq_false_iff_eq]; omega
                clear hno
                subst hv'
                go_wp2_with (at_builtin; refine list_append_run rfl _ _ 29 rfl _ _ _ _ rfl rfl runD ?_)
                exact ⟨⟨k + 1, by omega, by go_num, Eo ++ [(⟨e.n, .slice pB n cB, FD, n⟩ : Ent)], by have := unhide Ho9; rw [hl9] at this ⊢; exact this, by omega, unhide Hl9, unhide Ht9, hide (unhide Hmore _ hs0), HEo9⟩, by simp [intOf]; omega⟩
              · clear hno
                subst hv'
                go_wp2_with (at_builtin; refine list_append_run rfl _ _ 29 rfl _ _ _ _ rfl rfl runD ?_)
                exact ⟨⟨k + 1, by omega, by go_num, Eo ++ [(⟨e.n, .slice pB n cB, FD, n⟩ : Ent)], by have := unhide Ho9; rw [hl9] at this ⊢; exact this, by omega, unhide Hl9, unhide Ht9, hide (unhide Hmore _ hs0), HEo9⟩, by simp [intOf]; omega⟩
    · obtain rfl : k = E.length := by omega
      have hlE : S.fs.length = E.length := by rw [unhide HfsE]; simp
      have hfl2 : (crashS S ks).fs = Eo.map Ent.fl := by
        have := unhide hfl
        rw [← hlE, List.take_length] at this
        exact this.symm
      have m1 := unhide Hm1
      have hRl : R < w.heap.size := by have := m1.lt R (.inl rfl); have := unhide Hs1; omega
      have objR := tr.same m1.obj (fun q : w.heap.size ≤ R => by omega)
      have m4 := RMem.list (S' := crashS S ks) objR rfl rfl rfl own (fun x hx => (unhide hEo x hx).1) hfl2 (unhide Hwc)
      have t4 := setRow wo R 1 (.slice vp Eo.length vc)
      have tt : Turn F w (wo.setCell ⟨R, 1, none⟩ (.slice vp Eo.length vc)) :=
        (((unhide Ht1).mono (fun j hj => by subst hj; exact hFR)).trans tr (fun j hj => .inr hj)).then (t4.mono (fun j hj => by subst hj; exact hFR))
      have ffin : RAt (wo.setCell ⟨R, 1, none⟩ (.slice vp Eo.length vc)) R (NF w F) (crashS S ks) := ⟨_, _, m4, by
        rintro j (rfl | hj | ⟨e, he, hj⟩)
        · exact .inl hFR
        · exact .inr (bl j hj)
        · exact .inr ((unhide hEo e he).2 j hj)⟩
      have fR : wo.frozen? ⟨R, 1, none⟩ = false := frozen_obj objR 1
      clear m4 t4 own
      go_wp2
      go_end0
      exact ⟨⟨_, rfl⟩, tt, ffin⟩

set_option maxRecDepth 100000 in
set_option maxHeartbeats 1000000 in
theorem rStart_walk (w : World) (R : Nat) (F : Nat → Prop) (S : Dk) (h : RAt w R F S) :
    Calls Try.prog 18 #[.pointer (some ⟨R, 0, none⟩)] w fun e w' => (∃ v, e = .returned v) ∧ Turn F w w' ∧ RAt w' R (NF w F) (startS S) := by
  obtain ⟨lv, E, m, hF⟩ := h
  have hFR := hF R (.inl rfl)
  have hws := well_start m.well
  have c2 : w.cell? ⟨R, 2, none⟩ = some (.int .i64 (S.arm : Int)) := cell_obj m.obj 2
  have f2 : w.frozen? ⟨R, 2, none⟩ = false := frozen_obj m.obj 2
  have t1 := setRow w R 2 (.int .i64 0)
  have m1 := m.re (S' := { S with arm := 0 }) t1 (by rw [heap_setCell_obj (j := 2) m.obj]; rfl) rfl ⟨m.well.rise, m.well.good, m.well.room, m.well.size, m.well.files, Nat.zero_le _⟩
  have s1 : (w.setCell ⟨R, 2, none⟩ (.int .i64 0)).heap.size = w.heap.size := by simp [World.setCell]
  have T1 : Turn F w (w.setCell ⟨R, 2, none⟩ (.int .i64 0)) := t1.mono (fun j hj => by subst hj; exact hFR)
  have c3 : (w.setCell ⟨R, 2, none⟩ (.int .i64 0)).cell? ⟨R, 3, none⟩ = some (.bool S.down) := cell_obj m1.obj 3
  clear m t1
  cases hd : S.down
  · rw [hd] at c3
    have e1 : startS S = { S with arm := 0 } := by unfold startS; rw [hd]; cases S; simp_all
    rw [e1]
    have fin : RAt (w.setCell ⟨R, 2, none⟩ (.int .i64 0)) R (NF w F) { S with arm := 0 } := ⟨lv, E, m1, fun j hj => .inl (hF j hj)⟩
    clear m1 e1 hws hd
    go_enter Try.func18, Try.ntmps18
    go_wp2
    exact bodyPost_ret (results_none rfl _ _ _) rfl ⟨⟨_, rfl⟩, T1, fin⟩
  · rw [hd] at c3
    have hcr := rCrash_walk (w.setCell ⟨R, 2, none⟩ (.int .i64 0)) R F (fun _ => False) { S with arm := 0 } (.slice none 0 0) [] ⟨lv, E, m1, hF⟩ (row_none _ _ _) (fun _ h => h.elim)
    have e1 : startS S = { crashS { S with arm := 0 } [] with down := false } := by unfold startS crashS; rw [hd]; rfl
    rw [e1] at hws ⊢
    clear m1 e1 hd
    go_enter Try.func18, Try.ntmps18
    go_wp2_with fail
    refine hcr.mono ?_
    rintro x w2 ⟨⟨v, rfl⟩, t2, lv2, E2, m2, hF2⟩
    have c4 : w2.cell? ⟨R, 3, none⟩ = some (.bool true) := cell_obj m2.obj 3
    have f4 : w2.frozen? ⟨R, 3, none⟩ = false := frozen_obj m2.obj 3
    have t3 := setRow w2 R 3 (.bool false)
    have m3 := m2.re (S' := { crashS { S with arm := 0 } [] with down := false }) t3 (by rw [heap_setCell_obj (j := 3) m2.obj]; rfl) rfl hws
    have T3 : Turn F w (w2.setCell ⟨R, 3, none⟩ (.bool false)) := (T1.then t2).then (t3.mono (fun j hj => by subst hj; exact hFR))
    have fin : RAt (w2.setCell ⟨R, 3, none⟩ (.bool false)) R (NF w F) { crashS { S with arm := 0 } [] with down := false } := ⟨lv2, E2, m3, fun j hj => by
      rcases hF2 j hj with h | h
      · exact .inl h
      · exact .inr (by omega)⟩
    clear m2 m3 t3
    go_wp2
    go_end0
    exact ⟨⟨_, rfl⟩, T3, fin⟩
end Go.Proofs.Ythpfdgjpmooclaa
