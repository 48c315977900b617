/- find, Used. -/
import Derived.Test.YthikiahhochjmaaGreatDoorDSmall
namespace Go.Proofs.YthikiahhochjmaaGreatDoor
open Go.RowKit Go.Maps
set_option linter.unusedVariables false

/-- what the map answers to a name -/
theorem DMem.look {w : World} {B : Nat} {mv : Option Nat} {E : List Ent} {S : Dk} (h : DMem w B mv E S) {s : ByteArray} (hs : s.size ≤ maxLen) :
    (getK Ent.n s.data.toList E = none → (Instr.lookup 64 (.map mv) (.string s) true).run Tryz.prog w = .ok (.tuple #[.agg #[.slice none 0 0, .int .i64 0], .bool false]) w) ∧
    (∀ e, getK Ent.n s.data.toList E = some e → (Instr.lookup 64 (.map mv) (.string s) true).run Tryz.prog w = .ok (.tuple #[.agg #[e.v, .int .i64 (e.s : Int)], .bool true]) w) := by
  rcases h.map with ⟨rfl, rfl⟩ | ⟨b, rfl, ho⟩
  · refine ⟨fun _ => ?_, fun e he => by simp [getK] at he⟩
    have := Maps.look_nil (P := Tryz.prog) (w := w) true dLaw Tryz.underlying64 (dZero w) (dKey hs)
    simpa using this
  · obtain ⟨v, ps, hrun, hv⟩ := World.ownsMap.look_ok ho dLaw Tryz.underlying64 (dZero w) (rawR_eq _) (dKey hs)
    have hv' := rawR_inv hv
    rw [DD_at] at hv'
    rw [DD_has] at hrun
    refine ⟨fun hn => ?_, fun e he => ?_⟩
    · rw [hn] at hv' hrun
      simp at hv'
      rw [← hv'] at hrun
      exact hrun
    · rw [he] at hv' hrun
      simp at hv'
      rw [← hv'] at hrun
      exact hrun
theorem DMem.look0 {w : World} {B : Nat} {mv : Option Nat} {E : List Ent} {S : Dk} (h : DMem w B mv E S) {s : ByteArray} (hs : s.size ≤ maxLen) {e : Ent} (he : getK Ent.n s.data.toList E = some e) :
    (Instr.lookup 64 (.map mv) (.string s) false).run Tryz.prog w = .ok (.agg #[e.v, .int .i64 (e.s : Int)]) w := by
  rcases h.map with ⟨rfl, rfl⟩ | ⟨b, rfl, ho⟩
  · simp [getK] at he
  · obtain ⟨v, ps, hrun, hv⟩ := World.ownsMap.lookup ho dLaw Tryz.underlying64 (dZero w) (rawR_eq _) (dKey hs)
    have hv' := rawR_inv hv
    rw [DD_at, he] at hv'
    simp at hv'
    rw [← hv'] at hrun
    exact hrun

theorem DMem.get {w : World} {B : Nat} {mv : Option Nat} {E : List Ent} {S : Dk} (h : DMem w B mv E S) (n : Nm) : getK Fl.n n S.fs = (getK Ent.n n E).map Ent.fl := by
  rw [h.fs, ← map_getK Ent.n Fl.n Ent.fl (fun _ => rfl)]

theorem DMem.form {w : World} {B : Nat} {mv : Option Nat} {E : List Ent} {S : Dk} (h : DMem w B mv E S) {e : Ent} (he : e ∈ E) : ∃ p c, e.v = .slice p e.d.length c := (h.own e he).form

set_option maxHeartbeats 1000000 in
theorem find_no (w : World) (B : Nat) (mv : Option Nat) (E : List Ent) (S : Dk) (s : ByteArray) (hs : s.size ≤ maxLen) (h : DMem w B mv E S) (hr : refuse S s.data.toList ≠ 0) :
    Calls Tryz.prog 45 #[.pointer (some ⟨B, 0, none⟩), .string s] w fun e w' => e = .returned (.tuple #[.agg #[.slice none 0 0, .int .i64 0], .int .i64 (refuse S s.data.toList)]) ∧ Turn (fun _ => False) w w' := by
  have t1 : Turn (fun _ => False) w (w.alloc (.cells #[.slice none 0 0, .int .i64 0] 84)) := (Turn.refl _ w).alloc _
  have h1 := h.turn t1 (fun _ _ => id)
  have hw := refusal_walk _ B mv E S s hs h1
  have hne : (refuse S s.data.toList != 0) = true := by simpa using hr
  have Ht := hide t1
  clear t1 h h1 hr
  generalize refuse S s.data.toList = x at *
  go_enter Tryz.func45, Tryz.ntmps45
  go_wp2_with (go_at_call 47; refine hw.mono ?_; rintro e w' ⟨rfl, rfl⟩)
  exact bodyPost_ret (v := .tuple #[.agg #[.slice none 0 0, .int .i64 0], .int .i64 x]) (by simp [results, Tryz.results45, go_sem]) rfl ⟨rfl, unhide Ht⟩

set_option maxHeartbeats 1000000 in
theorem find_none (w : World) (B : Nat) (mv : Option Nat) (E : List Ent) (S : Dk) (s : ByteArray) (hs : s.size ≤ maxLen) (h : DMem w B mv E S) (hr : refuse S s.data.toList = 0) (hg : getK Ent.n s.data.toList E = none) :
    Calls Tryz.prog 45 #[.pointer (some ⟨B, 0, none⟩), .string s] w fun e w' => e = .returned (.tuple #[.agg #[.slice none 0 0, .int .i64 0], .int .i64 6]) ∧ Turn (fun _ => False) w w' := by
  have t1 : Turn (fun _ => False) w (w.alloc (.cells #[.slice none 0 0, .int .i64 0] 84)) := (Turn.refl _ w).alloc _
  have h1 := h.turn t1 (fun _ _ => id)
  have hw := refusal_walk _ B mv E S s hs h1
  rw [hr] at hw
  have hl := (h1.look hs).1 hg
  have c1 : (w.alloc (.cells #[.slice none 0 0, .int .i64 0] 84)).cell? ⟨B, 1, none⟩ = some (.map mv) := cell_obj h1.obj 1
  have Ht := hide t1
  clear t1 h h1 hr
  go_enter Tryz.func45, Tryz.ntmps45
  go_wp2_with (go_at_call 47; refine hw.mono ?_; rintro e w' ⟨rfl, rfl⟩)
  exact bodyPost_ret (v := .tuple #[.agg #[.slice none 0 0, .int .i64 0], .int .i64 6]) (by simp [results, Tryz.results45, go_sem]) rfl ⟨rfl, (unhide Ht).alloc _⟩

set_option maxHeartbeats 1000000 in
theorem find_some (w : World) (B : Nat) (mv : Option Nat) (E : List Ent) (S : Dk) (s : ByteArray) (hs : s.size ≤ maxLen) (h : DMem w B mv E S) (hr : refuse S s.data.toList = 0) (e : Ent) (hg : getK Ent.n s.data.toList E = some e) :
    Calls Tryz.prog 45 #[.pointer (some ⟨B, 0, none⟩), .string s] w fun x w' => x = .returned (.tuple #[.agg #[e.v, .int .i64 (e.s : Int)], .int .i64 0]) ∧ Turn (fun _ => False) w w' := by
  have t1 : Turn (fun _ => False) w (w.alloc (.cells #[.slice none 0 0, .int .i64 0] 84)) := (Turn.refl _ w).alloc _
  have h1 := h.turn t1 (fun _ _ => id)
  have hw := refusal_walk _ B mv E S s hs h1
  rw [hr] at hw
  have hl := (h1.look hs).2 e hg
  have c1 : (w.alloc (.cells #[.slice none 0 0, .int .i64 0] 84)).cell? ⟨B, 1, none⟩ = some (.map mv) := cell_obj h1.obj 1
  have t2 : Turn (fun _ => False) w (w.alloc (.cells #[e.v, .int .i64 (e.s : Int)] 84)) := (Turn.refl _ w).alloc _
  have Ht := hide t2
  obtain ⟨p, c, hv⟩ := h.form (getK_some hg).1
  rw [hv] at hl Ht ⊢
  clear t1 h h1 hr t2 hg hv
  generalize e.d.length = n at *
  generalize (e.s : Int) = z at *
  go_enter Tryz.func45, Tryz.ntmps45
  go_wp2_with (go_at_call 47; refine hw.mono ?_; rintro e w' ⟨rfl, rfl⟩)
  exact bodyPost_ret (v := .tuple #[.agg #[.slice p n c, .int .i64 z], .int .i64 0]) (by simp [results, Tryz.results45, go_sem]) rfl ⟨rfl, (unhide Ht).alloc _⟩

def eused (E : List Ent) : Nat := used (E.map Ent.fl)
theorem eused_cons (e : Ent) (E : List Ent) : eused (e :: E) = e.d.length + eused E := by simp [eused, used_cons, Ent.fl]
theorem eused_mid (X Y : List Ent) (e : Ent) : eused (X ++ e :: Y) = e.d.length + eused (X ++ Y) := by simp [eused, used_append, used_cons, Ent.fl]; omega
/-- how many bytes are still to come -/
theorem left_used {E : List Ent} (hr : Rise Ent.n E) {left : Lit → Bool} {e : Ent} (he : e ∈ E) (hl : left (.string e.n) = true) :
    eused (E.filter (fun x => left (.string x.n))) = e.d.length + eused (E.filter (fun x => left (.string x.n) && !(Lit.string x.n).sameKey (.string e.n))) := by
  obtain ⟨X, Y, rfl⟩ := split_of_mem he
  unfold Rise at hr
  rw [List.pairwise_append, List.pairwise_cons] at hr
  rw [List.filter_append, List.filter_append, List.filter_cons, List.filter_cons]
  have e1 : X.filter (fun x => left (.string x.n) && !(Lit.string x.n).sameKey (.string e.n)) = X.filter (fun x => left (.string x.n)) := by
    apply List.filter_congr
    intro x hx
    have := before_ne (hr.2.2 x hx e (by simp))
    simp [Lit.sameKey, this]
  have e2 : Y.filter (fun x => left (.string x.n) && !(Lit.string x.n).sameKey (.string e.n)) = Y.filter (fun x => left (.string x.n)) := by
    apply List.filter_congr
    intro x hx
    have := (before_ne (hr.2.1.1 x hx)).symm
    simp [Lit.sameKey, this]
  rw [e1, e2]
  simp [hl, Lit.sameKey, eused_mid]

set_option maxRecDepth 100000 in
set_option maxHeartbeats 1000000 in
theorem used_map (w : World) (B b : Nat) (E : List Ent) (S : Dk) (h : DMem w B (some b) E S) :
    Calls Tryz.prog 48 #[.pointer (some ⟨B, 0, none⟩)] w fun e w' => e = .returned (.int .i64 (used S.fs : Nat)) ∧ Turn (fun _ => False) w w' := by
  obtain ⟨b', e', hown⟩ : ∃ b', some b = some b' ∧ w.ownsMap Tryz.prog 9 rawR b' E.length (DD E) := by
    rcases h.map with ⟨h1, _⟩ | h1
    · cases h1
    · exact h1
  cases e'
  have hu : used S.fs = eused E := by rw [h.fs]; rfl
  rw [hu]
  have hbd : eused E ≤ 16777216 := by have := h.well.room; have := h.well.size; omega
  have c1 : w.cell? ⟨B, 1, none⟩ = some (.map (some b)) := cell_obj h.obj 1
  have hrise : Rise Ent.n E := by
    have := h.well.rise
    rw [h.fs] at this
    unfold Rise at *
    rw [List.pairwise_map] at this
    exact this
  have hform : ∀ e ∈ E, ∃ p c, e.v = .slice p e.d.length c := fun e he => h.form he
  have Hrise := hide hrise
  have hbl := hown.lt
  clear h hrise hu
  go_enter Tryz.func48, Tryz.ntmps48
  go_wp2_with (at_range; refine wpList_range_own _ rfl _ 64 rfl 9 84 dLaw Tryz.underlying64 _ b E.length _ rfl hown ?_; intro w0 hrg0 hg0 hs0)
  go_frame
  go_loopw [3] (fun v wr => ∃ (left : Lit → Bool) (cnt : Nat), wr.ranges Tryz.prog 9 rawR b w.heap.size E.length (DD E) left cnt ∧
      (∃ n : Nat, v = .int .i64 n ∧ Hid (n + eused (E.filter (fun x => left (.string x.n))) = eused E)) ∧ Turn (fun _ => False) w wr)
    (fun _ wr => wr.rangeLeft b w.heap.size)
  case atStart =>
    refine ⟨_, _, hrg0, ⟨0, rfl, hide ?_⟩, Turn.grown hg0 (fun k e => by cases e)⟩
    rw [Nat.zero_add, List.filter_eq_self.2]
    intro x hx
    rw [DD_has, getK_of_mem (unhide Hrise) hx]; rfl
  case round =>
    obtain ⟨left, cnt, hrg, ⟨n, rfl, hn⟩, ht⟩ := hrel
    go_wp2_with (at_next; refine wpList_next_ranges _ rfl _ rfl 9 dLaw rawR encStr (fun v : Value => v) (fun key kl hk => by obtain ⟨x, hx, _⟩ := Maps.keyOf_str Tryz.underlying9 hk; exact ⟨x, hx⟩) (fun v y hv => ⟨v, rfl⟩) b w.heap.size E.length _ _ _ rfl hrg ?_ ?_)
    · intro hc0 hl0
      have hfin : n = eused E := by
        have := unhide hn
        rw [List.filter_eq_nil_iff.2 (fun x _ => by rw [hl0]; simp)] at this
        simpa [eused, used] using this
      have Hf := hide hfin
      clear hfin
      go_wp2
      go_ret
      exact ⟨ret_int (by rw [unhide Hf]), ht⟩
    · intro x c kl yd yp w2 cnt2 hkey hlk hv hat hrg2 hlt hg2 hs2 hen
      obtain ⟨x', ex, rfl, _⟩ := Maps.keyOf_str Tryz.underlying9 hkey
      obtain rfl : x = x' := encStr_inj ex
      have hyd := rawR_inv hv
      subst hyd
      obtain ⟨e, hge⟩ : ∃ e, getK Ent.n x E = some e := by
        have h1 := Maps.has_true_of_atKey hat
        rw [DD_has] at h1
        exact Option.isSome_iff_exists.1 h1
      obtain ⟨hem, hen'⟩ := getK_some hge
      have hval := hat .nil
      rw [DD_at, hge] at hval
      simp only [DataW.held.injEq] at hval
      obtain ⟨p, q, hev⟩ := hform e hem
      have hc : c = .agg #[.slice p e.d.length q, .int .i64 (e.s : Int)] := by rw [← hval, Ent.val, hev]
      subst hc
      have hnew : Hid ((n + e.d.length) + eused (E.filter (fun y => left (.string y.n) && !(Lit.string y.n).sameKey (.string x))) = eused E) := by
        have h1 := left_used (unhide Hrise) hem (left := left) (by rw [hen']; exact hlk)
        have h2 := unhide hn
        rw [hen'] at h1
        exact hide (by omega)
      have hb1 : n + e.d.length ≤ 16777216 := by have := unhide hnew; omega
      have t2 : Turn (fun _ => False) w w2 := ht.trans (G := fun j => j = w.heap.size) (Turn.grown hg2 (fun k e => by cases e; rfl)) (fun j hj => .inr (by omega))
      generalize e.d.length = m at *
      generalize (e.s : Int) = z at *
      have Hle := hide hrg.left_eq
      clear hs2 hval hat hkey hv hge hn ht hg2 hrg hev hem hen' hform ex hg0 hs0 hrg0
      go_wp2
      go_roundw
      case rel => exact ⟨_, cnt2, hrg2.alloc _, ⟨n + m, by go_num, hnew⟩, t2.alloc _⟩
      case measure => rw [(hrg2.alloc _).left_eq, unhide Hle]; exact hlt

set_option maxRecDepth 100000 in
set_option maxHeartbeats 1000000 in
theorem used_nomap (w : World) (B : Nat) (E : List Ent) (S : Dk) (h : DMem w B none E S) :
    Calls Tryz.prog 48 #[.pointer (some ⟨B, 0, none⟩)] w fun e w' => e = .returned (.int .i64 (used S.fs : Nat)) ∧ Turn (fun _ => False) w w' := by
  have hu : used S.fs = 0 := by
    rw [h.fs]
    rcases h.map with ⟨_, h1⟩ | ⟨b, h1, _⟩
    · rw [h1]; rfl
    · cases h1
  rw [hu]
  have c1 : w.cell? ⟨B, 1, none⟩ = some (.map none) := cell_obj h.obj 1
  have hrg := run_range_nilMap (P := Tryz.prog) w 64 9 84 Tryz.underlying64
  have hnx : ∀ ty, (Instr.next (.pointer (some ⟨w.heap.size, 0, none⟩)) false ty).run Tryz.prog (w.alloc (.mapIter none 0 #[] 0)) = _ := fun ty => run_next_nilMap _ ty 0 0 #[]
  have t1 : Turn (fun _ => False) w (w.alloc (.mapIter none 0 #[] 0)) := (Turn.refl _ w).alloc _
  have Ht := hide t1
  clear h hu t1
  go_enter Tryz.func48, Tryz.ntmps48
  go_wp2
  refine wp_loop_rounds 1 ?_
  rw [rounds_succ]
  go_wp2
  go_ret
  exact ⟨rfl, unhide Ht⟩
theorem used_walk (w : World) (B : Nat) (mv : Option Nat) (E : List Ent) (S : Dk) (h : DMem w B mv E S) :
    Calls Tryz.prog 48 #[.pointer (some ⟨B, 0, none⟩)] w fun e w' => e = .returned (.int .i64 (used S.fs : Nat)) ∧ Turn (fun _ => False) w w' := by
  cases mv with
  | none => exact used_nomap w B E S h
  | some b => exact used_map w B b E S h
end Go.Proofs.YthikiahhochjmaaGreatDoor
