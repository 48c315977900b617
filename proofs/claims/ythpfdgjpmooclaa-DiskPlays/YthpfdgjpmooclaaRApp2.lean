/- The reference's Append: a new file; Append whole. -/
import Derived.Test.YthpfdgjpmooclaaRApp
namespace Go.Proofs.Ythpfdgjpmooclaa
open Go.RowKit Go.Maps
set_option linter.unusedVariables false
set_option linter.unusedSimpArgs false

theorem less_before : ∀ a b : Nm, Op.bytesLess a b = bytesBefore a b
  | [], [] => by simp [Op.bytesLess, bytesBefore]
  | [], _ :: _ => by simp [Op.bytesLess, bytesBefore]
  | _ :: _, [] => by simp [Op.bytesLess, bytesBefore]
  | x :: a, y :: b => by
    rw [Op.bytesLess, bytesBefore, less_before a b]
theorem str_less (a s : ByteArray) (n : Nm) (ha : a.data.toList = n) : Op.bytesLess a.toList s.toList = bytesBefore n s.data.toList := by
  rw [ByteArray.toList_eq, ByteArray.toList_eq, ha, less_before]
/-- where a new one comes -/
theorem ins_exact {n : Nm} : ∀ {E : List Ent}, (∀ e ∈ E, e.n ≠ n) → ∃ X Y, E = X ++ Y ∧ (∀ x ∈ X, bytesBefore x.n n = true) ∧ (∀ y r, Y = y :: r → bytesBefore y.n n = false) ∧ ∀ x : Ent, x.n = n → insK Ent.n x E = X ++ x :: Y
  | [], _ => ⟨[], [], rfl, by simp, (fun y r h => by cases h), fun x hx => rfl⟩
  | y :: r, h => by
    by_cases hb : bytesBefore n y.n = true
    · refine ⟨[], y :: r, rfl, by simp, fun z q hz => ?_, fun x hx => ?_⟩
      · cases hz; exact before_anti hb
      · simp [insK, hx, hb]
    · have hy : bytesBefore y.n n = true := by
        rcases WideAt.bytes_total y.n n (h y (by simp)) with h' | h'
        · exact h'
        · exact absurd h' hb
      obtain ⟨X, Y, h1, h2, h3, h4⟩ := ins_exact (E := r) (n := n) (fun e he => h e (by simp [he]))
      refine ⟨y :: X, Y, by rw [h1]; rfl, fun x hx => ?_, h3, fun x hx => ?_⟩
      · rcases List.mem_cons.1 hx with rfl | hx
        · exact hy
        · exact h2 x hx
      · simp only [insK, hx]
        rw [if_neg hb, h4 x hx]; rfl
theorem new_src (w : World) (a : ByteArray) (v : Value) (k : Int) (T : TypeId) : Src 3 (w.alloc (.cells #[.string a, v, .int .i64 k] T)) (.slice (some ⟨w.heap.size, 0, none⟩) 1 1) 1 [.string a, v, .int .i64 k] := by
  refine ⟨rfl, .inr ⟨_, _, rfl, by omega, fun j u hu => ?_⟩⟩
  rw [Addr.add_lit, Nat.zero_add, cell_obj (heap_alloc_new w _)]
  simpa using hu
theorem fullB_less {S : Dk} {n : Nm} {zs : List Int} (h : fullB S n zs = false) : fullB S n [] = false := by
  simp [fullB] at h ⊢
  exact ⟨by omega, h.2⟩
theorem take_mid {X1 X2 : List Ent} {e : Ent} : (X1 ++ e :: X2).take (X1.length + 1) = X1 ++ [e] := by
  rw [show X1 ++ e :: X2 = (X1 ++ [e]) ++ X2 by simp, show X1.length + 1 = (X1 ++ [e]).length by simp, List.take_left]
theorem take_mid0 {X1 X2 : List Ent} {e : Ent} : (X1 ++ e :: X2).take X1.length = X1 := List.take_left

set_option maxRecDepth 100000 in
set_option maxHeartbeats 4000000 in
theorem rapp_new (w : World) (R : Nat) (F Bk : Nat → Prop) (lv : Value) (E : List Ent) (S : Dk) (s : ByteArray) (bv : Value) (zs : List Int) (hs : s.size ≤ maxLen) (m : RMem w R lv E S) (hF : ∀ j, RFoot R lv E j → F j) (hrow : Row .u8 Bk w bv zs) (hBk : ∀ b, Bk b → ¬ F b) (hBw : ∀ b, Bk b → b < w.heap.size) (hr : refuse S s.data.toList = 0)
    (hg : getK Ent.n s.data.toList E = none) (hful : fullB S s.data.toList zs = false) :
    Calls Try.prog 45 #[.pointer (some ⟨R, 0, none⟩), .string s, bv] w fun x w' => x = .returned (.int .i64 (hitC S)) ∧ Turn F w w' ∧ RAt w' R (NF w F) (hitS (appS S s.data.toList zs)) := by
  have hf := fine_walk w R lv E S s hs m
  rw [hr] at hf
  have hu : ∀ n, Calls Try.prog 16 #[.pointer (some ⟨R, 0, none⟩)] (w.drewN n) fun e w' => e = .returned (.int .i64 (used S.fs : Nat)) ∧ w' = w.drewN n := fun n => rused_walk _ R lv E S (m.drewN n)
  have c0 : w.cell? ⟨R, 0, none⟩ = some (.int .i64 (S.size : Int)) := cell_obj m.obj 0
  have c1 : w.cell? ⟨R, 1, none⟩ = some lv := cell_obj m.obj 1
  have hzl := hrow.len
  unfold maxLen at hzl
  have hroom := m.well.room
  have hsize := m.well.size
  have hcnt := m.count
  have hd := (refuse_up hr).1
  have hgood := (refuse_up hr).2
  have ha := at_none m hg
  obtain ⟨ab, cb, hbv⟩ := hrow.slice
  have hgf : getK Fl.n s.data.toList S.fs = none := by rw [m.get, hg]; rfl
  have hfl : S.fs.length = E.length := by rw [m.fs]; simp
  have hA : used S.fs + zs.length ≤ S.size ∧ E.length < 64 := by
    simp [fullB, hgf] at hful; omega
  have hA' : decide ((S.size : Int) - (used S.fs : Int) < (zs.length : Int)) = false := by simp; omega
  have hC' : decide ((64 : Int) ≤ (E.length : Int)) = false := by simp; omega
  have hC2 : decide (64 ≤ E.length) = false := by simp; omega
  have hzb : zs.length ≤ 16777216 := by omega
  obtain ⟨X, Y, hE, hXb, hYb, hins⟩ := ins_exact (getK_none hg)
  have hfs : ∀ (d : List Int) (v : Value), (hitS (appS S s.data.toList d)).fs = (X ++ ⟨s.data.toList, v, d, 0⟩ :: Y).map Ent.fl := fun d v => by
    rw [(hitS_fs _).1, appS_new hgf]
    simp only
    rw [m.fs, show (⟨s.data.toList, d, 0⟩ : Fl) = Ent.fl ⟨s.data.toList, v, d, 0⟩ from rfl, ← map_putK Ent.n Fl.n Ent.fl (fun _ => rfl)]
    unfold putK
    rw [delK_none (getK_none hg), hins _ rfl]
  have hwell : Well (hitS (appS S s.data.toList zs)) := well_hit (well_new_file m.well hgf hgood hful)
  have hwell0 : Well (hitS (appS S s.data.toList [])) := well_hit (well_new_file m.well hgf hgood (fullB_less hful))
  have hh := fun n => rhit_walk (w.drewN n) R lv E S hd (m.drewN n)
  have hsame : ∀ d, (hitS (appS S s.data.toList d)).size = (hitS S).size ∧ (hitS (appS S s.data.toList d)).arm = (hitS S).arm ∧ (hitS (appS S s.data.toList d)).down = (hitS S).down := fun d => by rw [hit_appS]; exact ⟨rfl, rfl, rfl⟩
  have Hw := hide hwell
  have Hw0 := hide hwell0
  have Hfs := hide hfs
  have Hsame := hide hsame
  have hlen : E.length = X.length + Y.length := by rw [hE]; simp
  have Hlen := hide hlen
  have HE := hide hE
  have HXb := hide hXb
  have HYb := hide hYb
  generalize hS2 : hitS (appS S s.data.toList zs) = S2 at *
  have HS2 := hide hS2
  clear hful hwell hwell0 hfs hsame hlen hr hg hgf hS2 hXb hYb hins hfl hE
  subst hbv
  have rowD : ∀ n, Row .u8 Bk (w.drewN n) (.slice ab zs.length cb) zs := fun n => hrow.turn (F := fun _ => False) ((Turn.refl _ _).drewN n) (fun _ _ => id)
  have HrowD := hide rowD
  have hFR := hF R (.inl rfl)
  obtain ⟨pl, cl, hlv⟩ := m.row.form
  subst hlv
  clear rowD hrow m
  generalize hU : used S.fs = U at *
  clear hU
  obtain ⟨hA1, hA2⟩ := hA
  go_enter Try.func45, Try.ntmps45
  go_wp2_with (first | (go_at_call 51; refine hf.mono ?_; rintro y w0 ⟨rfl, hw0⟩; have hw0 := hw0.symm; subst hw0) | (go_at_call 52; refine ha.mono ?_; rintro x w0 ⟨rfl, hw0⟩; have hw0 := hw0.symm; subst hw0))
  go_quiet ((go_at_call 16; exact Calls.quiet_of_same (hu _)))
  go_wp2_with fail
  refine (hh nq).mono ?_
  rintro x w1 ⟨rfl, t1, m1⟩
  have row1 := (unhide HrowD nq).turn t1 (fun b hb q => by subst q; exact hBk b hb hFR)
  have s1 := t1.size
  have s0 : (w.drewN nq).heap.size = w.heap.size := by simp
  have T1 : Turn F w w1 := ((Turn.refl F w).drewN nq).then (t1.mono (fun j hj => by subst hj; exact hFR))
  have hhb : hitC S = if hitB S then 3 else 0 := rfl
  clear hh hu hf ha c0 c1 t1
  generalize hb : hitB S = hit at *
  have Hhb := hide hhb
  have Hm1 := hide m1
  have Hrow1 := hide row1
  have HT1 := hide T1
  clear hhb hb m1 row1 T1 hA' hC' hC2
  have hatk : ∀ wr, Turn (fun j => w1.heap.size ≤ j) w1 wr → ∀ k (h : k < E.length), ∃ g off, ∃ a : ByteArray, ∃ p c, pl = some ⟨g, off, none⟩ ∧ wr.cell? ⟨g, off + k * 3, none⟩ = some (.string a) ∧ wr.cell? ⟨g, off + k * 3 + 1, none⟩ = some (.slice p E[k].d.length c) ∧ wr.cell? ⟨g, off + k * 3 + 2, none⟩ = some (.int .i64 (E[k].s : Int)) ∧
      a.data.toList = E[k].n ∧ rc E[k] = [.string a, .slice p E[k].d.length c, .int .i64 (E[k].s : Int)] := fun wr tr k h => by
    have mr := (unhide Hm1).turn tr (fun j hj q => by have := (unhide Hm1).lt j hj; omega)
    obtain ⟨X', e, Y', hE', hX', he⟩ := split_at h
    subst hX'
    rw [hE'] at mr
    obtain ⟨g, off, cap, hlv, q0, q1, q2⟩ := mr.at
    obtain ⟨p, c, hv⟩ := mr.form (e := e) (by simp)
    simp only [Value.slice.injEq] at hlv
    rw [← he]
    rw [hv] at q1
    exact ⟨g, off, _, p, c, hlv.1, q0, q1, q2, rfl, by unfold rc; rw [hv]⟩
  have Hatk := hide hatk
  have hcR : ∀ wr, Turn (fun j => w1.heap.size ≤ j) w1 wr → wr.cell? ⟨R, 1, none⟩ = some (.slice pl E.length cl) := fun wr tr => tr.cell (cell_obj (unhide Hm1).obj 1) (fun q : w1.heap.size ≤ R => by have := (unhide Hm1).lt R (.inl rfl); omega)
  have HcR := hide hcR
  clear hatk hcR
  go_wp2_with fail
  go_loopw [8, 10] (fun i v wr => ∃ k : Nat, k ≤ X.length ∧ i = .int .i64 k ∧ OwnSl wr 77 3 v k (rcs (X.take k)) ∧ (∀ j, v.ownBlock = some j → w1.heap.size ≤ j) ∧ Turn (fun j => w1.heap.size ≤ j) w1 wr) (fun i _ _ => E.length - (intOf i).toNat)
  case atStart => exact ⟨0, Nat.zero_le _, rfl, ⟨rfl, .inl ⟨rfl, rfl⟩⟩, fun j hj => by simp [Value.ownBlock] at hj, Turn.refl _ _⟩
  case round =>
    obtain ⟨k, hk, rfl, own, bl, tr⟩ := hrel
    have cR := unhide HcR wr tr
    have hlL := unhide Hlen
    by_cases hlt : k < X.length
    · have hkE : k < E.length := by omega
      obtain ⟨g, off, a, p, c, rfl, q0, q1, q2, han, hrc⟩ := unhide Hatk wr tr k hkE
      have hless := str_less a s _ han
      have hEk : E[k] = X[k] := by have hE := unhide HE; subst hE; exact List.getElem_append_left hlt
      rw [hEk, unhide HXb _ (List.getElem_mem hlt)] at hless
      obtain ⟨vp, vc, hvf⟩ := own.form
      have tA : Turn (fun _ => False) wr (wr.alloc (.cells #[.string a, .slice p E[k].d.length c, .int .i64 (E[k].s : Int)] 77)) := (Turn.refl _ wr).alloc _
      have hrc1 : rcs [E[k]] = [.string a, .slice p E[k].d.length c, .int .i64 (E[k].s : Int)] := by rw [rcs_cons, rcs_nil, List.append_nil, hrc]
      have srcA : Src 3 (wr.alloc (.cells #[.string a, .slice p E[k].d.length c, .int .i64 (E[k].s : Int)] 77)) (.slice (some ⟨wr.heap.size, 0, none⟩) 1 1) [E[k]].length (rcs [E[k]]) := by rw [hrc1]; exact new_src wr a _ _ _
      obtain ⟨v', w', hrun, o', t', l'⟩ := app_files (E := [E[k]]) (own.turn tA (fun _ _ => id)) srcA (fun e he => by simp at he; rw [he]; obtain ⟨pp, cc, hh⟩ := (unhide Hm1).form (List.getElem_mem hkE); exact ⟨_, _, _, hh⟩) (by simp; omega)
      have htk : rcs (X.take k) ++ rcs [E[k]] = rcs (X.take (k + 1)) := by rw [← rcs_append, hEk, List.take_succ_eq_append_getElem hlt]
      rw [htk] at o'
      have tr' : Turn (fun j => w1.heap.size ≤ j) w1 w' := (tr.then (tA.mono (fun _ h => h.elim))).then (t'.mono (fun j hj => bl j hj))
      have bl' : ∀ j, v'.ownBlock = some j → w1.heap.size ≤ j := fun j hj => by
        rcases l' j hj with h | h
        · exact bl j h
        · have := tr.size; have := tA.size; omega
      obtain ⟨pv', cv', hv'⟩ := o'.form
      clear hrc hrc1 srcA htk han t' l' hlL
      subst hvf hv'
      generalize E[k].d.length = dl at *
      generalize (E[k].s : Int) = sl at *
      clear hEk
      go_wp2_with (at_builtin; refine list_append_run rfl _ _ 29 rfl _ _ _ _ rfl rfl hrun ?_)
      exact ⟨⟨k + 1, by omega, by go_num, o', bl', tr'⟩, by simp [intOf]; omega⟩
    · obtain rfl : k = X.length := by omega
      rw [List.take_length] at own
      obtain ⟨i0, hi, hz0, hz1, hz2⟩ := info_file'
      have m1 := unhide Hm1
      have hE := unhide HE
      have mr := m1.turn tr (fun j hj (q : w1.heap.size ≤ j) => by have := m1.lt j hj; omega)
      have s2 := tr.size
      -- the new file
      have srcA : Src 3 (wr.alloc (.cells #[.string s, .slice none 0 0, .int .i64 0] 77)) (.slice (some ⟨wr.heap.size, 0, none⟩) 1 1) [(⟨s.data.toList, .slice none 0 0, [], 0⟩ : Ent)].length (rcs [⟨s.data.toList, .slice none 0 0, [], 0⟩]) := new_src wr s _ _ _
      have tA : Turn (fun _ => False) wr (wr.alloc (.cells #[.string s, .slice none 0 0, .int .i64 0] 77)) := (Turn.refl _ wr).alloc _
      obtain ⟨vb, wb, runb, ob, tb, lb⟩ := app_files (own.turn tA (fun _ _ => id)) srcA (fun e he => by simp at he; rw [he]; exact ⟨_, _, _, rfl⟩) (by simp; omega)
      have sA := tA.size
      have trb : Turn (fun j => w1.heap.size ≤ j) w1 wb := (tr.then (tA.mono (fun _ h => h.elim))).then (tb.mono (fun j hj => bl j hj))
      have blb : ∀ j, vb.ownBlock = some j → w1.heap.size ≤ j := fun j hj => by
        rcases lb j hj with h | h
        · exact bl j h
        · omega
      have mb := m1.turn trb (fun j hj (q : w1.heap.size ≤ j) => by have := m1.lt j hj; omega)
      have cRb := unhide HcR wb trb
      -- the others behind it
      obtain ⟨x2, hs2, sr2, b2⟩ := cutS_from (ki := .i64) Try.underlying29 hi hz1 mb.row X.length (by omega)
      have hdr : (rcs E).drop (X.length * 3) = rcs Y := by rw [hE]; exact rcs_drop X Y
      rw [hdr, show E.length - X.length = Y.length by omega] at sr2
      obtain ⟨vc, wc, runc, oc, tc, lc⟩ := app_files ob sr2 (fun e he => m1.slices e (by rw [hE]; simp [he])) (by simp; omega)
      have trc : Turn (fun j => w1.heap.size ≤ j) w1 wc := trb.then (tc.mono (fun j hj => blb j hj))
      have sb := trb.size
      have blc : ∀ j, vc.ownBlock = some j → w1.heap.size ≤ j := fun j hj => by
        rcases lc j hj with h | h
        · exact blb j h
        · omega
      have mc := m1.turn trc (fun j hj (q : w1.heap.size ≤ j) => by have := m1.lt j hj; omega)
      have cRc := unhide HcR wc trc
      have fRc : wc.frozen? ⟨R, 1, none⟩ = false := frozen_obj mc.obj 1
      have hE2 : rcs X ++ rcs [(⟨s.data.toList, .slice none 0 0, [], 0⟩ : Ent)] ++ rcs Y = rcs (X ++ ⟨s.data.toList, .slice none 0 0, [], 0⟩ :: Y) := by simp [rcs_append, rcs_cons, rcs_nil]
      have hl2 : X.length + [(⟨s.data.toList, .slice none 0 0, [], 0⟩ : Ent)].length + Y.length = (X ++ (⟨s.data.toList, .slice none 0 0, [], 0⟩ : Ent) :: Y).length := by simp; omega
      rw [hE2, hl2] at oc
      have md := RMem.list (S' := hitS (appS S s.data.toList [])) mc.obj (unhide Hsame []).1 (unhide Hsame []).2.1 (unhide Hsame []).2.2 oc (fun e he => by
        rcases List.mem_append.1 he with he | he
        · exact mc.own e (by rw [hE]; simp [he])
        · rcases List.mem_cons.1 he with rfl | he
          · exact ⟨rfl, .inl ⟨rfl, rfl⟩⟩
          · exact mc.own e (by rw [hE]; simp [he])) (unhide Hfs [] (.slice none 0 0)) (unhide Hw0)
      obtain ⟨g2, off2, cap2, hvc, _⟩ := md.at
      have td := setRow wc R 1 vc
      have rowd := ((unhide Hrow1).turn trc (fun b hb (q : w1.heap.size ≤ b) => by have := hBw b hb; omega)).turn td (fun b hb q => by subst q; exact hBk b hb hFR)
      subst hvc
      -- its bytes
      obtain ⟨p2, c2, w2, p3, c3, w3, run2, run3, a1, a2, a3, q1, q2, q3, fz, m4, t4, l4⟩ := write_facts (S2 := S2) (zs := zs) (nX := X.length) md rfl rfl rowd (by simp; omega) (by rw [← unhide HS2, (unhide Hsame zs).1, (unhide Hsame []).1]) (by rw [← unhide HS2, (unhide Hsame zs).2.1, (unhide Hsame []).2.1]) (by rw [← unhide HS2, (unhide Hsame zs).2.2, (unhide Hsame []).2.2]) (by rw [← unhide HS2]; simpa using unhide Hfs zs (.slice none 0 0)) (unhide Hw)
      have hg2 : w1.heap.size ≤ g2 := blc g2 rfl
      have sc := trc.size
      have hsd : (wc.setCell ⟨R, 1, none⟩ (.slice (some ⟨g2, off2, none⟩) (X ++ (⟨s.data.toList, .slice none 0 0, [], 0⟩ : Ent) :: Y).length cap2)).heap.size = wc.heap.size := by simp [World.setCell]
      have tt := (((unhide HT1).trans trc (fun j hj => .inr (by have hj' : w1.heap.size ≤ j := hj; omega))).then (td.mono (fun j hj => by subst hj; exact hFR))).trans t4 (fun j hj => .inr (by subst hj; omega))
      have ffin : RAt _ R (NF w F) S2 := ⟨_, _, m4, by
        rintro j (rfl | hj | ⟨e, he, hj⟩)
        · exact .inl hFR
        · simp [Value.ownBlock] at hj; exact .inr (by omega)
        · rcases List.mem_append.1 he with he | he
          · exact .inl (hF j (.inr (.inr ⟨e, by rw [hE]; simp [he], hj⟩)))
          · rcases List.mem_cons.1 he with rfl | he
            · exact .inr (by have := l4 j hj; omega)
            · exact .inl (hF j (.inr (.inr ⟨e, by rw [hE]; simp [he], hj⟩)))⟩
      have hlN : (X ++ (⟨s.data.toList, .slice none 0 0, [], 0⟩ : Ent) :: Y).length = X.length + Y.length + 1 := by simp; omega
      obtain ⟨px2, nx2, cx2, hx2⟩ : ∃ a n c, x2 = .slice a n c := by rcases sr2.2 with ⟨a, c, h, _⟩ | ⟨a, c, h, _⟩ <;> exact ⟨_, _, _, h⟩
      obtain ⟨pv, cv, hv⟩ := own.form
      obtain ⟨pb, cb2, hvb⟩ := ob.form
      simp only [List.length_nil, Nat.zero_add, List.length_cons, hlN] at run2 run3 q1 q2 q3 tt ffin fz runb runc hvb a1 a2 a3
      have hcond : (k : Nat) → True := fun _ => trivial
      have hcmp : Y.length = 0 ∨ (X.length < E.length ∧ ∃ g off, ∃ a : ByteArray, pl = some ⟨g, off, none⟩ ∧ wr.cell? ⟨g, off + X.length * 3, none⟩ = some (.string a) ∧ Op.bytesLess a.toList s.toList = false) := by
        by_cases hY0 : Y.length = 0
        · exact .inl hY0
        · have hkE : X.length < E.length := by omega
          obtain ⟨g, off, a, p, c, hp, r0, r1, r2, han, hrc⟩ := unhide Hatk wr tr X.length hkE
          refine .inr ⟨hkE, g, off, a, hp, r0, ?_⟩
          rw [str_less a s _ han]
          obtain ⟨y, r, hY⟩ : ∃ y r, Y = y :: r := by cases Y with | nil => simp at hY0 | cons y r => exact ⟨y, r, rfl⟩
          have : E[X.length] = y := by subst hE; subst hY; simp
          rw [this]
          exact unhide HYb y r hY
      have hXE : X.length ≤ E.length := by omega
      have hE0 : Y.length = 0 → ¬ X.length < E.length := by intro h; omega
      clear hlL hcond m4 md mc mb mr m1 oc ob own sr2 srcA tA tb tc trb trc td t4 rowd hE hE2 hl2 hlN blb blc lb lc l4 hdr b2 bl hsd
      have Htt := hide tt
      have Hff := hide ffin
      clear tt ffin
      subst hx2 hv hvb
      generalize hXn : X.length = nX at *
      generalize hYn : Y.length = nY at *
      clear hXn hYn Hlen
      have hxb : nX < nX + nY + 1 := by omega
      generalize nX + nY + 1 = nN at *
      rcases hcmp with hY0 | ⟨hkE, g, off, a, rfl, r0, hless⟩
      all_goals
        try (have hnE := hE0 hY0; clear hY0)
        clear hE0
        go_wp2_with (first | (at_builtin; refine list_append_run rfl (.tmp 77) (.tmp 80) 29 rfl _ _ _ _ rfl rfl runb ?_) | (at_builtin; refine list_append_run rfl (.tmp 83) (.tmp 89) 29 rfl _ _ _ _ rfl rfl runc ?_))
        generalize wc.setCell ⟨R, 1, none⟩ (.slice (some ⟨g2, off2, none⟩) nN cap2) = wd at *
        clear runb runc cR cRb cRc hs2
        cases hit
        all_goals
          go_region_law (first | (refine step_append_run rfl (.tmp 106) (.tmp 107) 32 rfl _ _ _ _ rfl rfl run3 ?_) | (refine step_append_run rfl (.const (.slice none 0 0)) (.tmp 105) 32 rfl _ _ _ _ rfl rfl run2 ?_))
          all_goals
            go_wp2
            go_ret
            exact ⟨ret_int (unhide Hhb).symm, unhide Htt, unhide Hff⟩

theorem rAppend_walk (w : World) (R : Nat) (F Bk : Nat → Prop) (S : Dk) (s : ByteArray) (bv : Value) (zs : List Int) (hs : s.size ≤ maxLen) (h : RAt w R F S) (hrow : Row .u8 Bk w bv zs) (hBk : ∀ b, Bk b → ¬ F b) :
    Calls Try.prog 45 #[.pointer (some ⟨R, 0, none⟩), .string s, bv] w fun x w' => x = .returned (.int .i64 (appendC S s.data.toList zs)) ∧ Turn F w w' ∧ RAt w' R (NF w F) (appendS S s.data.toList zs) := by
  obtain ⟨lv, E, m, hF⟩ := h
  have hrow := hrow.lt
  have fin : RAt w R (NF w F) S := ⟨lv, E, m, fun j hj => .inl (hF j hj)⟩
  by_cases hr : refuse S s.data.toList = 0
  · cases hful : fullB S s.data.toList zs
    · have e1 : appendC S s.data.toList zs = hitC S := by unfold appendC hitC; rw [hr, hful]; rfl
      have e2 : appendS S s.data.toList zs = hitS (appS S s.data.toList zs) := by unfold appendS; rw [hr, hful]; rfl
      rw [e1, e2]
      cases hg : getK Ent.n s.data.toList E with
      | none => exact rapp_new w R F _ lv E S s bv zs hs m hF hrow (fun b hb => hBk b hb.1) (fun b hb => hb.2) hr hg hful
      | some e => exact rapp_old w R F _ lv E S s bv zs hs m hF hrow (fun b hb => hBk b hb.1) hr e hg hful
    · have e1 : appendC S s.data.toList zs = 4 := by unfold appendC; rw [hr, hful]; rfl
      have e2 : appendS S s.data.toList zs = S := by unfold appendS; rw [hr, hful]; rfl
      rw [e1, e2]
      refine (rapp_full w R lv E S s bv zs _ hs m hrow hr hful).mono ?_
      rintro x w' ⟨rfl, n, rfl⟩
      exact ⟨rfl, (Turn.refl _ _).drewN n, lv, E, m.drewN n, fun j hj => .inl (hF j hj)⟩
  · have e1 : appendC S s.data.toList zs = refuse S s.data.toList := by unfold appendC; rw [if_pos hr]
    have e2 : appendS S s.data.toList zs = S := by unfold appendS; rw [if_pos hr]
    rw [e1, e2]
    refine (rapp_no w R lv E S s bv hs m hr).mono ?_
    rintro x w' ⟨rfl, rfl⟩
    exact ⟨rfl, Turn.refl _ _, fin⟩
end Go.Proofs.Ythpfdgjpmooclaa
