/- Crash: what a fall leaves of all files. -/
import Derived.Test.YthikiahhochjmaaGreatDoorDFall
import Derived.Deep.CutRange
import Derived.Deep.RegionWith
namespace Go.Proofs.YthikiahhochjmaaGreatDoor
open Go.RowKit Go.Maps Go.Sort
set_option linter.unusedVariables false

theorem fallL_append (ks : List Int) : ∀ (a b : List Fl) (k : Nat), fallL ks k (a ++ b) = fallL ks k a ++ fallL ks (k + a.length) b
  | [], b, k => by simp [fallL]
  | f :: a, b, k => by
    simp only [List.cons_append, fallL, List.length_cons]
    rw [fallL_append ks a b (k + 1), show k + 1 + a.length = k + (a.length + 1) by omega]
    split <;> simp
/-- the files, of which the first i have fallen -/
def mixL (ks : List Int) (fs : List Fl) (i : Nat) : List Fl := fallL ks 0 (fs.take i) ++ fs.drop i
def mixS (S : Dk) (ks : List Int) (i : Nat) : Dk := { S with fs := mixL ks S.fs i, down := true }
theorem mix_zero (S : Dk) (ks : List Int) : mixS S ks 0 = { S with down := true } := by simp [mixS, mixL, fallL]
theorem mix_end (S : Dk) (ks : List Int) {i : Nat} (h : S.fs.length ≤ i) : mixS S ks i = crashS S ks := by
  unfold mixS mixL crashS
  rw [List.take_of_length_le h, List.drop_of_length_le h, List.append_nil]
theorem mix_at (ks : List Int) (fs : List Fl) {i : Nat} (h : i < fs.length) : mixL ks fs i = fallL ks 0 (fs.take i) ++ fs[i] :: fs.drop (i + 1) := by
  unfold mixL; rw [List.drop_eq_getElem_cons h]
theorem mix_step (ks : List Int) (fs : List Fl) {i : Nat} (h : i < fs.length) : mixL ks fs (i + 1) = fallL ks 0 (fs.take i) ++ (if (fallD fs[i] (turnK ks i)).length = 0 then [] else [fallF fs[i] (turnK ks i)]) ++ fs.drop (i + 1) := by
  unfold mixL
  rw [List.take_succ_eq_append_getElem h, fallL_append]
  have : 0 + (fs.take i).length = i := by simp; omega
  rw [this]
  simp only [fallL]
theorem well_mix {S : Dk} (h : Well S) (ks : List Int) (i : Nat) : Well (mixS S ks i) := by
  have hg : ∀ f ∈ S.fs.take i, f.s ≤ f.d.length := fun f hf => (h.good f (List.mem_of_mem_take hf)).2
  have hu := used_fall ks (S.fs.take i) 0 hg
  have hs : S.fs.take i ++ S.fs.drop i = S.fs := List.take_append_drop i S.fs
  have hr := h.rise
  have hroom := h.room
  have hfiles := h.files
  rw [← hs] at hr hroom hfiles
  rw [used_append] at hroom
  rw [List.length_append] at hfiles
  unfold Rise at hr
  rw [List.pairwise_append] at hr
  refine ⟨?_, fun f hf => ?_, ?_, h.size, ?_, h.arm⟩
  · show Rise Fl.n (mixL ks S.fs i)
    unfold mixL Rise
    rw [List.pairwise_append]
    refine ⟨rise_fall hr.1, hr.2.1, fun a ha b hb => ?_⟩
    obtain ⟨f', h1, h2, _⟩ := mem_fall ha
    rw [h2]; exact hr.2.2 f' h1 b hb
  · rcases List.mem_append.1 (show f ∈ mixL ks S.fs i from hf) with hf | hf
    · obtain ⟨f', h1, h2, h3⟩ := mem_fall hf
      exact ⟨by rw [h2]; exact (h.good f' (List.mem_of_mem_take h1)).1, by omega⟩
    · exact h.good f (List.mem_of_mem_drop hf)
  · show used (mixL ks S.fs i) ≤ S.size
    unfold mixL; rw [used_append]; omega
  · show (mixL ks S.fs i).length ≤ 64
    unfold mixL; rw [List.length_append]; omega
theorem well_crash {S : Dk} (h : Well S) (ks : List Int) : Well (crashS S ks) := by
  rw [← mix_end S ks (Nat.le_refl _)]; exact well_mix h ks _

/-- fallen -/
theorem fallen_walk (w : World) (e : Ent) (x : Int) (p : Option Addr) (c : Nat) (hv : e.v = .slice p e.d.length c) (hs : e.s ≤ e.d.length) (hb : e.d.length ≤ 16777216)
    (ho : OwnSl w 5 1 (.slice p e.d.length c) e.d.length (e.d.map (Value.int .u8))) :
    Calls Tryz.prog 54 #[.agg #[.slice p e.d.length c, .int .i64 (e.s : Int)], .int .i64 x] w fun y w' => ∃ p' c', y = .returned (.agg #[.slice p' (fallD e.fl x).length c', .int .i64 ((fallD e.fl x).length : Nat)]) ∧
      OwnSl w' 5 1 (.slice p' (fallD e.fl x).length c') (fallD e.fl x).length ((fallD e.fl x).map (Value.int .u8)) ∧ (∀ j, (Value.slice p' (fallD e.fl x).length c').ownBlock = some j → e.v.ownBlock = some j ∨ w.heap.size ≤ j) ∧ Turn (fun _ => False) w w' := by
  have hlen := fallD_len e.fl x hs
  by_cases hk : keepN e.fl x = e.d.length - e.s
  · have eD : fallD e.fl x = e.d := by unfold fallD; exact if_pos hk
    rw [eD]
    refine (fallen_all w e x p c hv hs hb hk).mono ?_
    rintro y w' ⟨rfl, t⟩
    exact ⟨p, c, rfl, ho.turn t (fun _ _ => id), fun j hj => .inl (by rw [hv]; exact hj), t⟩
  · rw [hlen]
    refine (fallen_some w e x p c hv hs hb hk ho).mono ?_
    rintro y w' ⟨p', c', rfl, h1, h2, t⟩
    exact ⟨p', c', rfl, h1, fun j hj => .inr (h2 j hj), t⟩

theorem DMem.atMid {w : World} {B : Nat} {mv : Option Nat} {E : List Ent} {S : Dk} (m : DMem w B mv E S) {X Y : List Fl} {f : Fl} (h : S.fs = X ++ f :: Y) : ∃ e, e ∈ E ∧ e.fl = f ∧ getK Ent.n f.n E = some e := by
  have h1 := m.fs
  rw [h] at h1
  have hf : f ∈ E.map Ent.fl := by rw [← h1]; simp
  obtain ⟨e, he, hfe⟩ := List.mem_map.1 hf
  refine ⟨e, he, hfe, ?_⟩
  have := getK_of_mem m.rise he
  rw [← hfe]
  exact this

set_option maxRecDepth 100000 in
set_option maxHeartbeats 2000000 in
theorem Crash_walk (w : World) (B : Nat) (F Bk : Nat → Prop) (S : Dk) (kv : Value) (ks : List Int) (h : DAt w B F S) (hrow : Row .i64 Bk w kv ks) (hBk : ∀ b, Bk b → ¬ F b) :
    Calls Tryz.prog 30 #[.pointer (some ⟨B, 0, none⟩), kv] w fun e w' => e = .returned (.int .i64 0) ∧ Turn F w w' ∧ DAt w' B (NF w F) (crashS S ks) := by
  obtain ⟨mv, E, m, hF⟩ := h
  have hrow := hrow.lt
  have hB := m.obj
  have c2 : w.cell? ⟨B, 2, none⟩ = some (.bool S.down) := cell_obj hB 2
  have f2 : w.frozen? ⟨B, 2, none⟩ = false := frozen_obj hB 2
  have t1 : Turn (fun j => j = B) w (w.setCell ⟨B, 2, none⟩ (.bool true)) := (Turn.refl (fun j => j = B) w).setCell (p := ⟨B, 2, none⟩) (.inl rfl) _
  have hB1 := heap_setCell_obj (j := 2) hB (.bool true)
  have m1 : DMem (w.setCell ⟨B, 2, none⟩ (.bool true)) B mv E (mixS S ks 0) := m.re t1 (by rw [hB1, mix_zero]; rfl) (by rw [mix_zero]) (by rw [mix_zero]; exact ⟨m.well.rise, m.well.good, m.well.room, m.well.size, m.well.files, m.well.arm⟩)
  have hFB := hF B (.inl rfl)
  have t1F : Turn F w (w.setCell ⟨B, 2, none⟩ (.bool true)) := t1.mono (fun j hj => by subst hj; exact hFB)
  have hcnt := m.count
  have hmlt := m.lt
  have hfl : S.fs.length = E.length := by rw [m.fs]; simp
  have hnm : E.map Ent.n = S.fs.map Fl.n := by rw [m.fs, List.map_map]; rfl
  have hwell := m.well
  have hrow1 := hrow.turn t1F (fun b hb => hBk b hb.1)
  have hs1 : (w.setCell ⟨B, 2, none⟩ (.bool true)).heap.size = w.heap.size := by simp [World.setCell]
  clear t1 hB1 hB m hrow
  have hnw := names_walk _ B mv E _ m1
  go_enter Tryz.func30, Tryz.ntmps30
  go_wp2_with (go_at_call 42; refine hnw.mono ?_; rintro x w2 ⟨nv, rfl, hnr, t2⟩; obtain ⟨np, nc, hnv⟩ : ∃ p c, nv = .slice p E.length c := (OwnSl.of_owns hnr).form; subst hnv)
  have hnb : ∀ j, (Value.slice np E.length nc).ownBlock = some j → w.heap.size ≤ j ∧ j < w2.heap.size := fun j hj => by
    have h1 := own_base hnr j hj
    obtain ⟨cur, hc⟩ := (OwnSl.of_owns hnr).lt j hj
    exact ⟨by omega, (Array.getElem?_eq_some_iff.1 hc).1⟩
  have ho := OwnSl.of_owns hnr
  have m2 := m1.turn t2 (fun _ _ => id)
  have t02 : Turn F w w2 := t1F.then (t2.mono (fun _ h => h.elim))
  have hrow2 := hrow1.turn t2 (fun _ _ => id)
  have hs2 : w.heap.size ≤ w2.heap.size := t02.size
  obtain ⟨G, hG⟩ : ∃ G : Nat → Prop, G = fun j => (F j ∧ j < w.heap.size) ∨ w2.heap.size ≤ j := ⟨_, rfl⟩
  have hG1 : ∀ j, DFoot B mv E j → G j := fun j hj => by rw [hG]; exact .inl ⟨hF j hj, hmlt j hj⟩
  have hGb : ∀ b, Bk b ∧ b < w.heap.size → ¬ G b := fun b hb hg => by
    rw [hG] at hg
    rcases hg with h | h
    · exact hBk b hb.1 h.1
    · omega
  have hGn : ∀ j, (Value.slice np E.length nc).ownBlock = some j → ¬ G j := fun j hj hg => by
    have := hnb j hj
    rw [hG] at hg
    rcases hg with h | h <;> omega
  have hGF : ∀ j, G j → F j ∨ w.heap.size ≤ j := fun j hg => by
    rw [hG] at hg
    rcases hg with h | h
    · exact .inl h.1
    · exact .inr (by omega)
  have hGnew : ∀ j, w2.heap.size ≤ j → G j := fun j h => by rw [hG]; exact .inr h
  have HGs : Hid True := hide trivial
  clear hG hnw hnr hnb t1F hs1 hrow1 m1 t2 c2 f2
  go_loopw [16] (fun i wr => ∃ k : Nat, k ≤ E.length ∧ i = .int .i64 k ∧ Hid (∃ Ek, DMem wr B mv Ek (mixS S ks k) ∧ (∀ j, DFoot B mv Ek j → G j) ∧ Turn G w2 wr)) (fun i _ => E.length - (intOf i).toNat)
  case atStart => exact ⟨0, Nat.zero_le _, rfl, hide ⟨E, m2, hG1, Turn.refl _ _⟩⟩
  case round =>
    obtain ⟨k, hk, rfl, hinv⟩ := hrel
    by_cases hlt : k < E.length
    · obtain ⟨Ek, mk, fk, tk⟩ := unhide hinv
      clear hinv
      have hki : k < S.fs.length := by omega
      have hsplit : (mixS S ks k).fs = fallL ks 0 (S.fs.take k) ++ S.fs[k] :: S.fs.drop (k + 1) := mix_at ks S.fs hki
      obtain ⟨e, hem, hef, hge⟩ := mk.atMid hsplit
      obtain ⟨ng, noff, hnp⟩ : ∃ ng noff, np = some ⟨ng, noff, none⟩ := by
        rcases ho.2 with ⟨h, _⟩ | ⟨g, off, cap, cur, h, _⟩
        · simp at h; omega
        · simp at h; exact ⟨g, off, h.1⟩
      have hok := ho.turn tk hGn
      subst hnp
      have hcell := hok.cells k (encStr (S.fs[k]).n) (by rw [hnm]; simp [hki])
      have hrowk := hrow2.turn tk hGb
      have tD : Turn (fun _ => False) wr wr.drew := (Turn.refl _ _).drew
      have mD := mk.turn tD (fun _ _ => id)
      have hgood := mk.well.good (S.fs[k]) (by rw [hsplit]; exact List.mem_append.2 (.inr (List.mem_cons_self ..)))
      have hnl := (goodB_len hgood.1).2
      have hen : e.n = (S.fs[k]).n := by rw [← hef]; rfl
      obtain ⟨p, c, hv⟩ := mk.form hem
      have hbd := mk.bound hem
      have hes : e.s ≤ e.d.length := by have := hgood.2; rw [← hef] at this; exact this
      have hl := mD.look0 (s := ⟨(S.fs[k]).n.toArray⟩) (by unfold maxLen; simp [ByteArray.size]; omega) hge
      rw [hv] at hl
      have hoD := mD.own e hem
      rw [hv] at hoD
      have htw := turn_walk _ wr.drew kv ks k (hrowk.turn tD (fun _ _ => id)) (by omega)
      have hfw := fallen_walk wr.drew e (turnK ks k) p c hv hes hbd hoD
      have tZ : Turn (fun _ => False) wr (wr.alloc (.cells #[.slice none 0 0, .int .i64 0] 84)).drew := ((Turn.refl _ _).alloc _).drew
      have kZ : (wr.alloc (.cells #[.slice none 0 0, .int .i64 0] 84)).drew.heap[wr.heap.size]? = some (.cells #[.slice none 0 0, .int .i64 0] 84 (0, 0)) := heap_alloc_new wr _
      have mZ := mk.turn tZ (fun _ _ => id)
      have hlZ := mZ.look0 (s := ⟨(S.fs[k]).n.toArray⟩) (by unfold maxLen; simp [ByteArray.size]; omega) hge
      rw [hv] at hlZ
      have hoZ := mZ.own e hem
      rw [hv] at hoZ
      have htwZ := turn_walk _ (wr.alloc (.cells #[.slice none 0 0, .int .i64 0] 84)).drew kv ks k (hrowk.turn tZ (fun _ _ => id)) (by omega)
      have hfwZ := fallen_walk (wr.alloc (.cells #[.slice none 0 0, .int .i64 0] 84)).drew e (turnK ks k) p c hv hes hbd hoZ
      have hBcZ : (wr.alloc (.cells #[.slice none 0 0, .int .i64 0] 84)).cell? ⟨B, 1, none⟩ = some (.map mv) := cell_obj mZ.obj 1
      have hBc : wr.cell? ⟨B, 1, none⟩ = some (.map mv) := cell_obj mk.obj 1
      obtain ⟨b, hmv, _⟩ := mk.entry hem
      subst hmv
      have hpure : mixL ks S.fs (k + 1) = if (fallD e.fl (turnK ks k)).length = 0 then delK Fl.n (S.fs[k]).n (mixS S ks k).fs else putK Fl.n (fallF e.fl (turnK ks k)) (mixS S ks k).fs := by
        have hr := mk.well.rise
        rw [hsplit] at hr ⊢
        rw [mix_step ks S.fs hki, hef]
        split
        · rw [delK_mid hr]; simp
        · rw [putK_mid (x' := fallF S.fs[k] (turnK ks k)) hr rfl]; simp
      have Hpure := hide hpure
      have hwell1 := well_mix hwell ks (k + 1)
      generalize hnmk : (S.fs[k]).n = nm at *
      have hapart := mk.apart
      clear hpure hok hrowk hsplit hgood hge mD
      generalize hx : turnK ks k = x at *
      generalize hL : (fallD e.fl x).length = L at *
      have HL := hide hL
      clear hL hx
      go_wp2
      go_cut [7, 16] from 16 to 46 (fun s7 s16 wc => ∃ (g : Nat) (p5 : Option Addr) (c5 : Nat), s7 = .pointer (some ⟨g, 0, none⟩) ∧ s16 = .int .i64 (k : Int) ∧ wr.heap.size ≤ g ∧ wc.heap[g]? = some (.cells #[.slice p5 L c5, .int .i64 (L : Int)] 84 (0, 0)) ∧ Turn (fun _ => False) wr wc ∧
          OwnSl wc 5 1 (.slice p5 L c5) L ((fallD e.fl x).map (Value.int .u8)) ∧ (∀ j, (Value.slice p5 L c5).ownBlock = some j → e.v.ownBlock = some j ∨ (wr.heap.size ≤ j ∧ j ≠ g)))
      case first =>
        go_region_with (first
          | (go_at_call 55; refine htw.mono ?_; rintro y w0 ⟨rfl, hw0⟩; have hw0 := hw0.symm; subst hw0)
          | (go_at_call 55; refine htwZ.mono ?_; rintro y w0 ⟨rfl, hw0⟩; have hw0 := hw0.symm; subst hw0)
          | (go_at_call 54; refine hfw.mono ?_; rintro y w5 ⟨p5, c5, rfl, o5, l5, t5⟩)
          | (go_at_call 54; refine hfwZ.mono ?_; rintro y w5 ⟨p5, c5, rfl, o5, l5, t5⟩; have r5 := t5.same kZ id; have r50 : w5.cell? ⟨wr.heap.size, 0, none⟩ = some (.slice none 0 0) := cell_obj r5 0; have r51 : w5.cell? ⟨wr.heap.size, 1, none⟩ = some (.int .i64 0) := cell_obj r5 1; have f50 := frozen_obj r5 0; have f51 := frozen_obj r5 1))
        all_goals (go_wp2_with fail)
        all_goals go_meet
        all_goals
          first
            | (have tA : Turn (fun _ => False) w5 (w5.alloc (.cells #[.slice p5 L c5, .int .i64 (L : Int)] 84)) := (Turn.refl _ w5).alloc _
               refine ⟨w5.heap.size, p5, c5, rfl, rfl, (tD.then t5).size, heap_alloc_new w5 _, (tD.then t5).then tA, o5.turn tA (fun _ _ => id), fun j hj => ?_⟩
               rcases l5 j hj with h | h
               · exact .inl h
               · obtain ⟨cur, hc⟩ := o5.lt j hj
                 have h1 := (Array.getElem?_eq_some_iff.1 hc).1
                 exact .inr ⟨h, by omega⟩)
            | (have tB : Turn (fun j => j = wr.heap.size) w5 ((w5.setCell ⟨wr.heap.size, 0, none⟩ (.slice p5 L c5)).setCell ⟨wr.heap.size, 1, none⟩ (.int .i64 (L : Int))) := ((Turn.refl (fun j => j = wr.heap.size) w5).setCell (p := ⟨wr.heap.size, 0, none⟩) (.inl rfl) _).setCell (p := ⟨wr.heap.size, 1, none⟩) (.inl rfl) _
               have hsZ : (wr.alloc (.cells #[.slice none 0 0, .int .i64 0] 84)).drew.heap.size = wr.heap.size + 1 := by simp
               have hel := mk.lt
               have hnew : ∀ j, (Value.slice p5 L c5).ownBlock = some j → e.v.ownBlock = some j ∨ (wr.heap.size ≤ j ∧ j ≠ wr.heap.size) := fun j hj => by
                 rcases l5 j hj with h | h
                 · exact .inl h
                 · exact .inr ⟨by omega, by omega⟩
               refine ⟨wr.heap.size, p5, c5, rfl, rfl, Nat.le_refl _, ?_, (tZ.then t5).trans tB (fun j hj => .inr (by omega)), o5.turn tB (fun j hj q => ?_), hnew⟩
               · have h1 := heap_setCell_obj (j := 1) (heap_setCell_obj (j := 0) r5 (.slice p5 L c5)) (.int .i64 (L : Int))
                 rw [h1]; rfl
               · rcases hnew j hj with h | h
                 · have := hel j (.inr (.inr ⟨e, hem, h⟩)); omega
                 · exact h.2 q)
      case rest =>
        obtain ⟨g, p5, c5, rfl, rfl, hg1, hg2, t5, o5, l5⟩ := hcut
        have mC := mk.turn t5 (fun _ _ => id)
        have cB : wc.cell? ⟨B, 1, none⟩ = some (.map (some b)) := cell_obj mC.obj 1
        have q0 : wc.cell? ⟨g, 0, none⟩ = some (.slice p5 L c5) := cell_obj hg2 0
        have q1 : wc.cell? ⟨g, 1, none⟩ = some (.int .i64 (L : Int)) := cell_obj hg2 1
        have hLb : L ≤ 16777216 := by rw [← unhide HL, fallD_len e.fl x hes]; exact Nat.le_trans (endN_le e.fl x hes).2 hbd
        have hsz16 : (⟨nm.toArray⟩ : ByteArray).size ≤ maxLen := by unfold maxLen; simp [ByteArray.size]; omega
        have hGb' : G b := fk b (.inr (.inl rfl))
        have hw2r : w2.heap.size ≤ wr.heap.size := tk.size
        by_cases hL0 : L = 0
        · have eS : mixS S ks (k + 1) = { mixS S ks k with fs := delK Fl.n nm (mixS S ks k).fs } := by
            unfold mixS
            have := unhide Hpure
            rw [if_pos hL0] at this
            rw [this]; rfl
          obtain ⟨w6, hu, t6, m6⟩ := mC.drop hsz16 eS hwell1
          have tR : Turn G w2 w6 := (tk.then (t5.mono (fun _ h => h.elim))).then (t6.mono (fun j hj => by subst hj; exact hGb'))
          have Hinv : Hid (∃ Ek, DMem w6 B (some b) Ek (mixS S ks (k + 1)) ∧ (∀ j, DFoot B (some b) Ek j → G j) ∧ Turn G w2 w6) := hide ⟨_, m6, fun j hj => fk j (foot_del hj), tR⟩
          subst hL0
          clear m6 t6 tR eS mC hfw hfwZ htw htwZ hl hlZ hcell
          go_wp2
          go_roundw
          case rel => exact ⟨k + 1, by omega, by go_num, Hinv⟩
          case measure => simp [intOf]; omega
        · have eS : mixS S ks (k + 1) = { mixS S ks k with fs := putK Fl.n (Ent.fl ⟨nm, .slice p5 L c5, fallD e.fl x, L⟩) (mixS S ks k).fs } := by
            unfold mixS
            have := unhide Hpure
            rw [if_neg hL0] at this
            rw [this]
            simp only [fallF, Ent.fl, hen]
            congr
          obtain ⟨w6, hu, t6, m6⟩ := mC.update ⟨nm, .slice p5 L c5, fallD e.fl x, L⟩ hsz16 rfl mC.ofMap (by rw [unhide HL]; exact o5) (fun y hy hyn j h1 h2 => by
            rcases l5 j h2 with h | h
            · exact apart_of hapart hy hem (by rw [hen]; exact hyn) j h1 h
            · have := mk.lt j (.inr (.inr ⟨y, hy, h1⟩)); omega) eS hwell1
          have tR : Turn G w2 w6 := (tk.then (t5.mono (fun _ h => h.elim))).then (t6.mono (fun j hj => by subst hj; exact hGb'))
          have Hinv : Hid (∃ Ek, DMem w6 B (some b) Ek (mixS S ks (k + 1)) ∧ (∀ j, DFoot B (some b) Ek j → G j) ∧ Turn G w2 w6) := hide ⟨_, m6, fun j hj => by
            rcases foot_put hj with hj | hj
            · exact fk j hj
            · rcases l5 j hj with h | h
              · exact fk j (.inr (.inr ⟨e, hem, h⟩))
              · exact hGnew j (by omega), tR⟩
          have hLp : 0 < L := by omega
          simp only at hu
          clear m6 t6 tR eS mC hfw hfwZ htw htwZ hl hlZ hcell
          go_wp2
          go_region
          go_wp2
          go_roundw
          case rel => exact ⟨k + 1, by omega, by go_num, Hinv⟩
          case measure => simp [intOf]; omega
    · have hkE : k = E.length := by omega
      obtain ⟨Ek, mk, fk, tk⟩ := unhide hinv
      rw [mix_end S ks (by omega)] at mk
      have tF := t02.trans tk (fun j hj => by rcases hGF j hj with h | h; exact .inl h; exact .inr h)
      clear hinv
      go_wp2
      go_ret
      exact ⟨rfl, tF, mv, Ek, mk, fun j hj => hGF j (fk j hj)⟩
end Go.Proofs.YthikiahhochjmaaGreatDoor
