/- A file put into a disk's map, or taken out of it; Sync, Remove, Cut. -/
import Derived.Test.YthikiahhochjmaaGreatDoorDRead
import Derived.Test.YthikiahhochjmaaGreatDoorDNames
namespace Go.Proofs.YthikiahhochjmaaGreatDoor
open Go.RowKit Go.Maps
set_option linter.unusedVariables false

def apartR (x y : Ent) : Prop := ∀ j, x.v.ownBlock = some j → y.v.ownBlock ≠ some j
theorem apartR_symm {x y : Ent} (h : apartR x y) : apartR y x := fun j h1 h2 => h j h2 h1
theorem insK_perm {α : Type} (key : α → Nm) (x : α) (l : List α) : (insK key x l).Perm (x :: l) := by
  obtain ⟨X, Y, h1, h2⟩ := insK_split key x l
  rw [h2, h1]; exact List.perm_middle
theorem apart_put {E : List Ent} {e : Ent} (h : E.Pairwise apartR) (hn : ∀ x ∈ E, x.n ≠ e.n → apartR x e) : (putK Ent.n e E).Pairwise apartR := by
  unfold putK
  refine ((insK_perm Ent.n e _).pairwise_iff (fun {_ _} h => apartR_symm h)).2 ?_
  rw [List.pairwise_cons]
  exact ⟨fun a ha => apartR_symm (hn a (mem_delK.1 ha).1 (mem_delK.1 ha).2), h.filter _⟩

/-- a disk with a file put into its map -/
theorem DMem.mk_put {w' : World} {B b k : Nat} {E : List Ent} {S' : Dk} {e : Ent}
    (hobj : w'.heap[B]? = some (.cells #[.int .i64 (S'.size : Int), .map (some b), .bool S'.down, .int .u64 (S'.arm : Int)] 66 (0, 0)))
    (hmap : w'.ownsMap Tryz.prog 9 rawR b k ((DD E).put (.string e.n) (.held e.val)))
    (hown : ∀ x ∈ E, x.n ≠ e.n → OwnSl w' 5 1 x.v x.d.length (x.d.map (Value.int .u8)))
    (he : OwnSl w' 5 1 e.v e.d.length (e.d.map (Value.int .u8)))
    (hap : E.Pairwise apartR) (hapn : ∀ x ∈ E, x.n ≠ e.n → apartR x e) (hfs : S'.fs = putK Fl.n e.fl (E.map Ent.fl)) (hw : Well S') : DMem w' B (some b) (putK Ent.n e E) S' := by
  refine ⟨hobj, .inr ⟨b, rfl, ?_⟩, fun x hx => ?_, apart_put hap hapn, ?_, hw⟩
  · rw [DD_put] at hmap
    have := ownsMap_tight hmap
    rwa [DD_size] at this
  · rcases mem_putK.1 hx with rfl | ⟨h1, h2⟩
    · exact he
    · exact hown x h1 h2
  · rw [hfs, map_putK Ent.n Fl.n Ent.fl (fun _ => rfl)]
/-- a disk with a file taken out of its map -/
theorem DMem.mk_del {w' : World} {B b k : Nat} {E : List Ent} {S' : Dk} {n : Nm}
    (hobj : w'.heap[B]? = some (.cells #[.int .i64 (S'.size : Int), .map (some b), .bool S'.down, .int .u64 (S'.arm : Int)] 66 (0, 0)))
    (hmap : w'.ownsMap Tryz.prog 9 rawR b k ((DD E).del (.string n)))
    (hown : ∀ x ∈ E, x.n ≠ n → OwnSl w' 5 1 x.v x.d.length (x.d.map (Value.int .u8)))
    (hap : E.Pairwise apartR) (hfs : S'.fs = delK Fl.n n (E.map Ent.fl)) (hw : Well S') : DMem w' B (some b) (delK Ent.n n E) S' := by
  refine ⟨hobj, .inr ⟨b, rfl, ?_⟩, fun x hx => hown x (mem_delK.1 hx).1 (mem_delK.1 hx).2, hap.filter _, ?_, hw⟩
  · rw [DD_del] at hmap
    have := ownsMap_tight hmap
    rwa [DD_size] at this
  · rw [hfs, map_delK Ent.n Fl.n Ent.fl (fun _ => rfl)]

theorem refuse_up {S : Dk} {n : Nm} (h : refuse S n = 0) : S.down = false ∧ goodB n = true := by
  unfold refuse at h
  cases hd : S.down
  · rw [hd] at h
    cases hg : goodB n
    · rw [hg] at h; simp at h
    · exact ⟨rfl, rfl⟩
  · rw [hd] at h; simp at h

theorem used_put {l : List Fl} {f g : Fl} (hr : Rise Fl.n l) (hg : getK Fl.n f.n l = some g) : used (putK Fl.n f l) + g.d.length = used l + f.d.length ∧ (putK Fl.n f l).length = l.length := by
  obtain ⟨h1, h2⟩ := getK_some hg
  obtain ⟨X, Y, rfl⟩ := split_of_mem h1
  rw [putK_mid hr h2.symm]
  simp [used_append, used_cons]; omega
theorem used_new {l : List Fl} {f : Fl} (hg : getK Fl.n f.n l = none) : used (putK Fl.n f l) = used l + f.d.length ∧ (putK Fl.n f l).length = l.length + 1 := by
  unfold putK
  rw [delK_none (getK_none hg)]
  have hp := insK_perm Fl.n f l
  rw [used_perm hp, used_cons, hp.length_eq]
  simp; omega
theorem used_filter (p : Fl → Bool) (l : List Fl) : used (l.filter p) ≤ used l := by
  induction l with
  | nil => exact Nat.le_refl _
  | cons f l ih => rw [List.filter_cons]; split <;> simp only [used_cons] <;> omega
theorem used_del (l : List Fl) (n : Nm) : used (delK Fl.n n l) ≤ used l ∧ (delK Fl.n n l).length ≤ l.length := by
  unfold delK
  exact ⟨used_filter _ l, List.length_filter_le _ _⟩

/-- a file in an old one's place -/
theorem well_put {S S' : Dk} (h : Well S) {f g : Fl} (hg : getK Fl.n f.n S.fs = some g) (hl : used S.fs + f.d.length ≤ S.size + g.d.length) (hs : f.s ≤ f.d.length) (hfs : S'.fs = putK Fl.n f S.fs) (hsz : S'.size = S.size) (ha : S'.arm ≤ 9223372036854775807) : Well S' := by
  obtain ⟨u1, u2⟩ := used_put h.rise hg
  obtain ⟨h1, h2⟩ := getK_some hg
  have hroom := h.room
  have hfiles := h.files
  refine ⟨by rw [hfs]; exact h.rise.put, fun x hx => ?_, by rw [hfs, hsz]; omega, by rw [hsz]; exact h.size, by rw [hfs]; omega, ha⟩
  rw [hfs] at hx
  rcases mem_putK.1 hx with rfl | ⟨hx, _⟩
  · exact ⟨by rw [← h2]; exact (h.good g h1).1, hs⟩
  · exact h.good x hx
theorem well_del {S S' : Dk} (h : Well S) {n : Nm} (hfs : S'.fs = delK Fl.n n S.fs) (hsz : S'.size = S.size) (ha : S'.arm ≤ 9223372036854775807) : Well S' := by
  have := used_del S.fs n
  have hroom := h.room
  have hfiles := h.files
  exact ⟨by rw [hfs]; exact h.rise.del n, fun x hx => by rw [hfs] at hx; exact h.good x (mem_delK.1 hx).1, by rw [hfs, hsz]; omega, by rw [hsz]; exact h.size, by rw [hfs]; omega, ha⟩

def NF (w : World) (F : Nat → Prop) : Nat → Prop := fun j => F j ∨ w.heap.size ≤ j

theorem DMem.entry {w : World} {B : Nat} {mv : Option Nat} {E : List Ent} {S : Dk} (m : DMem w B mv E S) {e : Ent} (he : e ∈ E) : ∃ b, mv = some b ∧ w.ownsMap Tryz.prog 9 rawR b E.length (DD E) := by
  rcases m.map with ⟨_, h⟩ | h
  · rw [h] at he; cases he
  · exact h
theorem DMem.apartM {w : World} {B b : Nat} {E : List Ent} {S : Dk} (m : DMem w B (some b) E S) : ∀ x ∈ E, ∀ j, x.v.ownBlock = some j → j ≠ b := by
  intro x hx j hj
  obtain ⟨b', h1, h2⟩ := m.entry hx
  cases h1
  exact (m.own x hx).neMap h2 j hj
theorem hitS_fs (S : Dk) : (hitS S).fs = S.fs ∧ (hitS S).size = S.size := by unfold hitS; split <;> exact ⟨rfl, rfl⟩

theorem apart_of {E : List Ent} (h : E.Pairwise apartR) {x y : Ent} (hx : x ∈ E) (hy : y ∈ E) (hn : x.n ≠ y.n) : apartR x y := by
  obtain ⟨X, Y, rfl⟩ := split_of_mem hy
  rw [List.pairwise_append, List.pairwise_cons] at h
  rcases List.mem_append.1 hx with h1 | h1
  · exact h.2.2 x h1 y (by simp)
  · rcases List.mem_cons.1 h1 with rfl | h1
    · exact absurd rfl hn
    · exact apartR_symm (h.2.1.1 x h1)
/-- 'd.files[name] = f' -/
theorem DMem.updateAt {w : World} {B b : Nat} {E : List Ent} {S S' : Dk} (m : DMem w B (some b) E S) (e : Ent) {s : ByteArray} (hs : s.size ≤ maxLen) (hn : e.n = s.data.toList)
    (ho : w.ownsMap Tryz.prog 9 rawR b E.length (DD E))
    (he : OwnSl w 5 1 e.v e.d.length (e.d.map (Value.int .u8))) (hap : ∀ x ∈ E, x.n ≠ e.n → apartR x e) (hfs : S' = { S with fs := putK Fl.n e.fl S.fs }) (hw : Well S') :
    ∃ w', (Instr.mapUpdate 64 (.map (some b)) (.string s) (.agg #[e.v, .int .i64 (e.s : Int)])).run Tryz.prog w = .ok () w' ∧ Turn (fun j => j = b) w w' ∧ DMem w' B (some b) (putK Ent.n e E) S' := by
  have hneB : B ≠ b := fun q => m.neB (by rw [q])
  obtain ⟨w4, hu, o4, g4⟩ := World.ownsMap.update (w := w) ho dLaw Tryz.underlying64 (by unfold maxLen; have := m.count; omega) (dKey hs) (rawR_eq (.agg #[e.v, .int .i64 (e.s : Int)]))
  have t4 : Turn (fun j => j = b) w w4 := Turn.grown (F := fun j => j = b) g4 (fun k e => by cases e; rfl)
  refine ⟨w4, hu, t4, DMem.mk_put (k := E.length + 1) ?_ ?_ ?_ ?_ m.apart hap ?_ hw⟩
  · rw [hfs]; exact t4.same m.obj hneB
  · rw [hn]; exact o4
  · exact fun x hx _ => (m.own x hx).turn t4 (fun j hj => m.apartM x hx j hj)
  · exact he.turn t4 (he.neMap ho)
  · rw [hfs, ← m.fs]
theorem DMem.update {w : World} {B b : Nat} {E : List Ent} {S S' : Dk} (m : DMem w B (some b) E S) (e : Ent) {s : ByteArray} (hs : s.size ≤ maxLen) (hn : e.n = s.data.toList)
    (ho : w.ownsMap Tryz.prog 9 rawR b E.length (DD E))
    (he : OwnSl w 5 1 e.v e.d.length (e.d.map (Value.int .u8))) (hap : ∀ x ∈ E, x.n ≠ e.n → apartR x e) (hfs : S' = { S with fs := putK Fl.n e.fl S.fs }) (hw : Well S') :
    ∃ w', (Instr.mapUpdate 64 (.map (some b)) (.string s) (.agg #[e.v, .int .i64 (e.s : Int)])).run Tryz.prog w.drew = .ok () w' ∧ Turn (fun j => j = b) w w' ∧ DMem w' B (some b) (putK Ent.n e E) S' := by
  have tD : Turn (fun _ => False) w w.drew := (Turn.refl _ _).drew
  obtain ⟨w', h1, h2, h3⟩ := (m.turn tD (fun _ _ => id)).updateAt e hs hn (tD.map ho id) (he.turn tD (fun _ _ => id)) hap hfs hw
  exact ⟨w', h1, h2.undrew, h3⟩
theorem DMem.ofMap {w : World} {B b : Nat} {E : List Ent} {S : Dk} (m : DMem w B (some b) E S) : w.ownsMap Tryz.prog 9 rawR b E.length (DD E) := by
  rcases m.map with ⟨h, _⟩ | ⟨b', h, h2⟩
  · cases h
  · cases h; exact h2
/-- the blocks of a disk with a file put -/
theorem foot_put {B b : Nat} {E : List Ent} {e : Ent} {j : Nat} (h : DFoot B (some b) (putK Ent.n e E) j) : DFoot B (some b) E j ∨ e.v.ownBlock = some j := by
  rcases h with rfl | h | ⟨x, hx, hj⟩
  · exact .inl (.inl rfl)
  · exact .inl (.inr (.inl h))
  · rcases mem_putK.1 hx with rfl | ⟨hx, _⟩
    · exact .inr hj
    · exact .inl (.inr (.inr ⟨x, hx, hj⟩))
theorem foot_del {B b : Nat} {E : List Ent} {n : Nm} {j : Nat} (h : DFoot B (some b) (delK Ent.n n E) j) : DFoot B (some b) E j := by
  rcases h with rfl | h | ⟨x, hx, hj⟩
  · exact .inl rfl
  · exact .inr (.inl h)
  · exact .inr (.inr ⟨x, (mem_delK.1 hx).1, hj⟩)

set_option maxHeartbeats 1000000 in
theorem Sync_walk (w : World) (B : Nat) (F : Nat → Prop) (S : Dk) (s : ByteArray) (hs : s.size ≤ maxLen) (h : DAt w B F S) :
    Calls Tryz.prog 69 #[.pointer (some ⟨B, 0, none⟩), .string s] w fun e w' => e = .returned (.int .i64 (syncC S s.data.toList)) ∧ Turn F w w' ∧ DAt w' B (NF w F) (syncS S s.data.toList) := by
  obtain ⟨mv, E, m, hF⟩ := h
  have hFB := hF B (.inl rfl)
  by_cases hr : refuse S s.data.toList = 0
  · cases hg : getK Ent.n s.data.toList E with
    | none =>
      have hf := find_none w B mv E S s hs m hr hg
      have e1 : syncC S s.data.toList = 6 := by unfold syncC; rw [hr, m.get, hg]; rfl
      have e2 : syncS S s.data.toList = S := by unfold syncS; rw [hr, m.get, hg]; rfl
      rw [e1, e2]
      clear e1 e2 hg hr
      go_enter Tryz.func69, Tryz.ntmps69
      go_wp2_with (go_at_call 45; refine hf.mono ?_; rintro e w' ⟨rfl, ht⟩)
      go_ret
      exact ⟨rfl, (ht.alloc _).mono (fun _ h => h.elim), mv, E, m.turn (ht.alloc _) (fun _ _ => id), fun j hj => .inl (hF j hj)⟩
    | some e =>
      have hf := find_some w B mv E S s hs m hr e hg
      have hem := (getK_some hg).1
      have hen := (getK_some hg).2
      obtain ⟨p, c, hv⟩ := m.form hem
      rw [hv] at hf
      have hd := (refuse_up hr).1
      have hbd := m.bound hem
      cases hh : hitB S
      · have e1 : syncC S s.data.toList = 0 := by unfold syncC; rw [hr, m.get, hg]; simp [hh]
        have e2 : syncS S s.data.toList = { hitS S with fs := putK Fl.n ⟨s.data.toList, e.d, e.d.length⟩ S.fs } := by unfold syncS; rw [hr, m.get, hg]; simp [hh, Ent.fl]
        have hwell : Well (syncS S s.data.toList) := by
          rw [e2]
          exact well_put (f := ⟨s.data.toList, e.d, e.d.length⟩) (g := e.fl) m.well (by rw [m.get, hg]; rfl) (by have := m.well.room; simp [Ent.fl]; omega) (Nat.le_refl _) rfl (hitS_fs S).2 (well_hit m.well).arm
        rw [e1]
        rw [e2] at hwell ⊢
        obtain ⟨b, hmv, _⟩ := m.entry hem
        subst hmv
        clear e1 e2
        go_enter Tryz.func69, Tryz.ntmps69
        go_wp2_with (go_at_call 45; refine hf.mono ?_; rintro e w1 ⟨rfl, ht⟩)
        have tA : Turn (fun _ => False) w (w1.alloc (.cells #[.slice p e.d.length c, .int .i64 (e.s : Int)] 84)) := ht.alloc _
        have k0 : (w1.alloc (.cells #[.slice p e.d.length c, .int .i64 (e.s : Int)] 84)).heap[w1.heap.size]? = some (.cells #[.slice p e.d.length c, .int .i64 (e.s : Int)] 84 (0, 0)) := heap_alloc_new w1 _
        have hw1 : w.heap.size ≤ w1.heap.size := ht.size
        have mA := m.turn tA (fun _ _ => id)
        generalize w1.alloc (.cells #[.slice p e.d.length c, .int .i64 (e.s : Int)] 84) = W at *
        have ngB : w1.heap.size ≠ B := fun q => by have := m.lt B (.inl rfl); omega
        refine (hit_walk W B _ E S hd mA).mono ?_
        rw [hh]
        rintro x w2 ⟨rfl, t2, m2⟩
        have k2 := t2.same k0 ngB
        have c0 : w2.cell? ⟨w1.heap.size, 0, none⟩ = some (.slice p e.d.length c) := cell_obj k2 0
        have c1 : w2.cell? ⟨w1.heap.size, 1, none⟩ = some (.int .i64 (e.s : Int)) := cell_obj k2 1
        have f1 : w2.frozen? ⟨w1.heap.size, 1, none⟩ = false := frozen_obj k2 1
        generalize w1.heap.size = g at *
        go_wp2
        have k3 := heap_setCell_obj (j := 1) k2 (.int .i64 (e.d.length : Int))
        have t3 : Turn (fun j => j = g) w2 (w2.setCell ⟨g, 1, none⟩ (.int .i64 (e.d.length : Int))) := (Turn.refl (fun j => j = g) w2).setCell (p := ⟨g, 1, none⟩) (.inl rfl) _
        have m3 := m2.turn t3 (fun j hj q => by have := m.lt j hj; omega)
        clear c0 c1 f1 k0 k2
        generalize hW3 : w2.setCell ⟨g, 1, none⟩ (.int .i64 (e.d.length : Int)) = w3 at *
        clear hW3
        have cB : w3.cell? ⟨B, 1, none⟩ = some (.map (some b)) := cell_obj m3.obj 1
        have c0 : w3.cell? ⟨g, 0, none⟩ = some (.slice p e.d.length c) := cell_obj k3 0
        have c1 : w3.cell? ⟨g, 1, none⟩ = some (.int .i64 (e.d.length : Int)) := cell_obj k3 1
        have ho3 := m3.own e hem
        rw [hv] at ho3
        obtain ⟨w4, hu, t4, m4⟩ := m3.update ⟨s.data.toList, .slice p e.d.length c, e.d, e.d.length⟩ hs rfl m3.ofMap ho3 (fun x hx hn j h1 h2 => apart_of m.apart hx hem (by rw [hen]; exact hn) j h1 (by rw [hv]; exact h2)) rfl (by rw [(hitS_fs S).1]; exact hwell)
        rw [(hitS_fs S).1] at m4
        simp only at hu
        go_region
        go_wp2
        go_ret
        have hfb : F b := hF b (.inr (.inl rfl))
        refine ⟨rfl, (((tA.mono (fun _ h => h.elim)).then (t2.mono (fun j hj => by subst hj; exact hFB))).trans t3 (fun j hj => .inr (by omega))).trans t4 (fun j hj => .inl (by subst hj; exact hfb)), _, _, m4, fun j hj => .inl ?_⟩
        rcases foot_put hj with hj | hj
        · exact hF j hj
        · exact hF j (.inr (.inr ⟨e, hem, by rw [hv]; exact hj⟩))
      · have e1 : syncC S s.data.toList = 3 := by unfold syncC; rw [hr, m.get, hg]; simp [hh]
        have e2 : syncS S s.data.toList = hitS S := by unfold syncS; rw [hr, m.get, hg]; simp [hh]
        rw [e1, e2]
        clear e1 e2
        go_enter Tryz.func69, Tryz.ntmps69
        go_wp2_with (go_at_call 45; refine hf.mono ?_; rintro e w1 ⟨rfl, ht⟩)
        have tA : Turn (fun _ => False) w (w1.alloc (.cells #[.slice p e.d.length c, .int .i64 (e.s : Int)] 84)) := ht.alloc _
        have mA := m.turn tA (fun _ _ => id)
        generalize w1.alloc (.cells #[.slice p e.d.length c, .int .i64 (e.s : Int)] 84) = W at *
        refine (hit_walk W B _ E S hd mA).mono ?_
        rw [hh]
        rintro x w2 ⟨rfl, t2, m2⟩
        go_wp2
        go_ret
        exact ⟨rfl, (tA.mono (fun _ h => h.elim)).then (t2.mono (fun j hj => by subst hj; exact hFB)), _, _, m2, fun j hj => .inl (hF j hj)⟩
  · have hf := find_no w B mv E S s hs m hr
    have e1 : syncC S s.data.toList = refuse S s.data.toList := by unfold syncC; rw [if_pos hr]
    have e2 : syncS S s.data.toList = S := by unfold syncS; rw [if_pos hr]
    rw [e1, e2]
    have hne : (refuse S s.data.toList != 0) = true := by simpa using hr
    clear e1 e2 hr
    generalize refuse S s.data.toList = x at *
    go_enter Tryz.func69, Tryz.ntmps69
    go_wp2_with (go_at_call 45; refine hf.mono ?_; rintro e w' ⟨rfl, ht⟩)
    go_ret
    exact ⟨rfl, (ht.alloc _).mono (fun _ h => h.elim), mv, E, m.turn (ht.alloc _) (fun _ _ => id), fun j hj => .inl (hF j hj)⟩
end Go.Proofs.YthikiahhochjmaaGreatDoor
