/- find, Used. bytes.Clone; hansomhelp's Bytes and CopyBytes. bytes.Clone; Read; appending to a slice; a file put into a disk's map. Contracts of the library's own functions, laid at this program: each is one application. names, Names: the names of all files, rising. A file put into a disk's map, or taken out of it; Sync, Remove, Cut. -/
import Derived.Test.YthikiahhochjmaaGreatDoorPack2
import Derived.Laws.BytesArg
import Derived.Shelf.Strings.Builder1
import Derived.Shelf.Strings.Builder2
import Derived.Shelf.Small.Bits
import Derived.Shelf.Strings.BuilderF
import Derived.Shelf.Strconv.Itoa0
import Derived.Shelf.Strconv.Itoa1
import Derived.Shelf.LaysM
import Derived.Shelf.Strconv.Itoa2
import Derived.Shelf.Strconv.Itoa3
import Derived.Shelf.Strconv.Clone
import Derived.Shelf.Strconv.Lower
import Derived.Shelf.Strconv.ParseUint10
import Derived.Shelf.Strconv.ParseUint10Empty
import Derived.Shelf.Strconv.ParseUint10Any
import Derived.Ground.MpProg
import Derived.Shelf.Pu.ParseUintPublic10
import Derived.Shelf.Sort.Plain
import Derived.Shelf.Strings.Prefix
import Derived.Shelf.Bits.Mul64
import Derived.Shelf.Strings.Repeat
import Derived.Shelf.Slices.In.SortNone
import Derived.Test.YthikiahhochjmaaGreatDoorProg
namespace Go.Proofs.YthikiahhochjmaaGreatDoor
open Go.RowKit Go.Maps
set_option linter.unusedVariables false

/-- what the map answers to a name -/
theorem DMem.look {w : World} {B : Nat} {mv : Option Nat} {E : List Ent} {S : Dk} (h : DMem w B mv E S) {s : ByteArray} (hs : s.size ≤ maxLen) :
    (getK Ent.n s.data.toList E = none → (Instr.lookup 64 (.map mv) (.string s) true).run Tryz.prog w = .ok (.tuple #[.agg #[.slice none 0 0, .int .i64 0], .bool false]) w) ∧
    (∀ e, getK Ent.n s.data.toList E = some e → (Instr.lookup 64 (.map mv) (.string s) true).run Tryz.prog w = .ok (.tuple #[.agg #[e.v, .int .i64 (e.s : Int)], .bool true]) w) := by
  rcases h.map with ⟨rfl, rfl⟩ | ⟨b, rfl, ho⟩
  · refine ⟨fun _ => ?_, fun e he => by simp [getK] at he⟩
    have := Maps.look_nil (P := Tryz.prog) (w := w) true dLaw Tryz.underlying64 (dZero w) (dKey hs)
    simpa using this
  · obtain ⟨v, ps, hrun, hv⟩ := World.ownsMap.look_ok ho dLaw Tryz.underlying64 (dZero w) (rawR_eq _) (dKey hs)
    have hv' := rawR_inv hv
    rw [DD_at] at hv'
    rw [DD_has] at hrun
    refine ⟨fun hn => ?_, fun e he => ?_⟩
    · rw [hn] at hv' hrun
      simp at hv'
      rw [← hv'] at hrun
      exact hrun
    · rw [he] at hv' hrun
      simp at hv'
      rw [← hv'] at hrun
      exact hrun
theorem DMem.look0 {w : World} {B : Nat} {mv : Option Nat} {E : List Ent} {S : Dk} (h : DMem w B mv E S) {s : ByteArray} (hs : s.size ≤ maxLen) {e : Ent} (he : getK Ent.n s.data.toList E = some e) :
    (Instr.lookup 64 (.map mv) (.string s) false).run Tryz.prog w = .ok (.agg #[e.v, .int .i64 (e.s : Int)]) w := by
  rcases h.map with ⟨rfl, rfl⟩ | ⟨b, rfl, ho⟩
  · simp [getK] at he
  · obtain ⟨v, ps, hrun, hv⟩ := World.ownsMap.lookup ho dLaw Tryz.underlying64 (dZero w) (rawR_eq _) (dKey hs)
    have hv' := rawR_inv hv
    rw [DD_at, he] at hv'
    simp at hv'
    rw [← hv'] at hrun
    exact hrun

theorem DMem.get {w : World} {B : Nat} {mv : Option Nat} {E : List Ent} {S : Dk} (h : DMem w B mv E S) (n : Nm) : getK Fl.n n S.fs = (getK Ent.n n E).map Ent.fl := by
  rw [h.fs, ← map_getK Ent.n Fl.n Ent.fl (fun _ => rfl)]

theorem OwnSl.form {w : World} {e : TypeId} {s : Nat} {v : Value} {n : Nat} {xs : List Value} (h : OwnSl w e s v n xs) : ∃ p c, v = .slice p n c := by
  rcases h.2 with ⟨rfl, rfl⟩ | ⟨g, off, cap, cur, rfl, _⟩
  · exact ⟨_, _, rfl⟩
  · exact ⟨_, _, rfl⟩
theorem DMem.form {w : World} {B : Nat} {mv : Option Nat} {E : List Ent} {S : Dk} (h : DMem w B mv E S) {e : Ent} (he : e ∈ E) : ∃ p c, e.v = .slice p e.d.length c := (h.own e he).form

set_option maxHeartbeats 1000000 in
theorem find_no (w : World) (B : Nat) (mv : Option Nat) (E : List Ent) (S : Dk) (s : ByteArray) (hs : s.size ≤ maxLen) (h : DMem w B mv E S) (hr : refuse S s.data.toList ≠ 0) :
    Calls Tryz.prog 45 #[.pointer (some ⟨B, 0, none⟩), .string s] w fun e w' => e = .returned (.tuple #[.agg #[.slice none 0 0, .int .i64 0], .int .i64 (refuse S s.data.toList)]) ∧ Turn (fun _ => False) w w' := by
  have t1 : Turn (fun _ => False) w (w.alloc (.cells #[.slice none 0 0, .int .i64 0] 84)) := (Turn.refl _ w).alloc _
  have h1 := h.turn t1 (fun _ _ => id)
  have hw := refusal_walk _ B mv E S s hs h1
  have hne : (refuse S s.data.toList != 0) = true := by simpa using hr
  have Ht := hide t1
  clear t1 h h1 hr
  generalize refuse S s.data.toList = x at *
  go_enter Tryz.func45, Tryz.ntmps45
  go_wp2_with (go_at_call 47; refine hw.mono ?_; rintro e w' ⟨rfl, rfl⟩)
  exact bodyPost_ret (v := .tuple #[.agg #[.slice none 0 0, .int .i64 0], .int .i64 x]) (by simp [results, Tryz.results45, go_sem]) rfl ⟨rfl, unhide Ht⟩

set_option maxHeartbeats 1000000 in
theorem find_none (w : World) (B : Nat) (mv : Option Nat) (E : List Ent) (S : Dk) (s : ByteArray) (hs : s.size ≤ maxLen) (h : DMem w B mv E S) (hr : refuse S s.data.toList = 0) (hg : getK Ent.n s.data.toList E = none) :
    Calls Tryz.prog 45 #[.pointer (some ⟨B, 0, none⟩), .string s] w fun e w' => e = .returned (.tuple #[.agg #[.slice none 0 0, .int .i64 0], .int .i64 6]) ∧ Turn (fun _ => False) w w' := by
  have t1 : Turn (fun _ => False) w (w.alloc (.cells #[.slice none 0 0, .int .i64 0] 84)) := (Turn.refl _ w).alloc _
  have h1 := h.turn t1 (fun _ _ => id)
  have hw := refusal_walk _ B mv E S s hs h1
  rw [hr] at hw
  have hl := (h1.look hs).1 hg
  have c1 : (w.alloc (.cells #[.slice none 0 0, .int .i64 0] 84)).cell? ⟨B, 1, none⟩ = some (.map mv) := cell_obj h1.obj 1
  have Ht := hide t1
  clear t1 h h1 hr
  go_enter Tryz.func45, Tryz.ntmps45
  go_wp2_with (go_at_call 47; refine hw.mono ?_; rintro e w' ⟨rfl, rfl⟩)
  exact bodyPost_ret (v := .tuple #[.agg #[.slice none 0 0, .int .i64 0], .int .i64 6]) (by simp [results, Tryz.results45, go_sem]) rfl ⟨rfl, (unhide Ht).alloc _⟩

set_option maxHeartbeats 1000000 in
theorem find_some (w : World) (B : Nat) (mv : Option Nat) (E : List Ent) (S : Dk) (s : ByteArray) (hs : s.size ≤ maxLen) (h : DMem w B mv E S) (hr : refuse S s.data.toList = 0) (e : Ent) (hg : getK Ent.n s.data.toList E = some e) :
    Calls Tryz.prog 45 #[.pointer (some ⟨B, 0, none⟩), .string s] w fun x w' => x = .returned (.tuple #[.agg #[e.v, .int .i64 (e.s : Int)], .int .i64 0]) ∧ Turn (fun _ => False) w w' := by
  have t1 : Turn (fun _ => False) w (w.alloc (.cells #[.slice none 0 0, .int .i64 0] 84)) := (Turn.refl _ w).alloc _
  have h1 := h.turn t1 (fun _ _ => id)
  have hw := refusal_walk _ B mv E S s hs h1
  rw [hr] at hw
  have hl := (h1.look hs).2 e hg
  have c1 : (w.alloc (.cells #[.slice none 0 0, .int .i64 0] 84)).cell? ⟨B, 1, none⟩ = some (.map mv) := cell_obj h1.obj 1
  have t2 : Turn (fun _ => False) w (w.alloc (.cells #[e.v, .int .i64 (e.s : Int)] 84)) := (Turn.refl _ w).alloc _
  have Ht := hide t2
  obtain ⟨p, c, hv⟩ := h.form (getK_some hg).1
  rw [hv] at hl Ht ⊢
  clear t1 h h1 hr t2 hg hv
  generalize e.d.length = n at *
  generalize (e.s : Int) = z at *
  go_enter Tryz.func45, Tryz.ntmps45
  go_wp2_with (go_at_call 47; refine hw.mono ?_; rintro e w' ⟨rfl, rfl⟩)
  exact bodyPost_ret (v := .tuple #[.agg #[.slice p n c, .int .i64 z], .int .i64 0]) (by simp [results, Tryz.results45, go_sem]) rfl ⟨rfl, (unhide Ht).alloc _⟩

def eused (E : List Ent) : Nat := used (E.map Ent.fl)
theorem eused_cons (e : Ent) (E : List Ent) : eused (e :: E) = e.d.length + eused E := by simp [eused, used_cons, Ent.fl]
theorem eused_mid (X Y : List Ent) (e : Ent) : eused (X ++ e :: Y) = e.d.length + eused (X ++ Y) := by simp [eused, used_append, used_cons, Ent.fl]; omega
/-- how many bytes are still to come -/
theorem left_used {E : List Ent} (hr : Rise Ent.n E) {left : Lit → Bool} {e : Ent} (he : e ∈ E) (hl : left (.string e.n) = true) :
    eused (E.filter (fun x => left (.string x.n))) = e.d.length + eused (E.filter (fun x => left (.string x.n) && !(Lit.string x.n).sameKey (.string e.n))) := by
  obtain ⟨X, Y, rfl⟩ := split_of_mem he
  unfold Rise at hr
  rw [List.pairwise_append, List.pairwise_cons] at hr
  rw [List.filter_append, List.filter_append, List.filter_cons, List.filter_cons]
  have e1 : X.filter (fun x => left (.string x.n) && !(Lit.string x.n).sameKey (.string e.n)) = X.filter (fun x => left (.string x.n)) := by
    apply List.filter_congr
    intro x hx
    have := before_ne (hr.2.2 x hx e (by simp))
    simp [Lit.sameKey, this]
  have e2 : Y.filter (fun x => left (.string x.n) && !(Lit.string x.n).sameKey (.string e.n)) = Y.filter (fun x => left (.string x.n)) := by
    apply List.filter_congr
    intro x hx
    have := (before_ne (hr.2.1.1 x hx)).symm
    simp [Lit.sameKey, this]
  rw [e1, e2]
  simp [hl, Lit.sameKey, eused_mid]

set_option maxRecDepth 100000 in
set_option maxHeartbeats 1000000 in
theorem used_map (w : World) (B b : Nat) (E : List Ent) (S : Dk) (h : DMem w B (some b) E S) :
    Calls Tryz.prog 48 #[.pointer (some ⟨B, 0, none⟩)] w fun e w' => e = .returned (.int .i64 (used S.fs : Nat)) ∧ Turn (fun _ => False) w w' := by
  obtain ⟨b', e', hown⟩ : ∃ b', some b = some b' ∧ w.ownsMap Tryz.prog 9 rawR b' E.length (DD E) := by
    rcases h.map with ⟨h1, _⟩ | h1
    · cases h1
    · exact h1
  cases e'
  have hu : used S.fs = eused E := by rw [h.fs]; rfl
  rw [hu]
  have hbd : eused E ≤ 16777216 := by have := h.well.room; have := h.well.size; omega
  have c1 : w.cell? ⟨B, 1, none⟩ = some (.map (some b)) := cell_obj h.obj 1
  have hrise : Rise Ent.n E := by
    have := h.well.rise
    rw [h.fs] at this
    unfold Rise at *
    rw [List.pairwise_map] at this
    exact this
  have hform : ∀ e ∈ E, ∃ p c, e.v = .slice p e.d.length c := fun e he => h.form he
  have Hrise := hide hrise
  have hbl := hown.lt
  clear h hrise hu
  go_enter Tryz.func48, Tryz.ntmps48
  go_wp2_with (at_range; refine wpList_range_own _ rfl _ 64 rfl 9 84 dLaw Tryz.underlying64 _ b E.length _ rfl hown ?_; intro w0 hrg0 hg0 hs0)
  go_frame
  go_loopw [3] (fun v wr => ∃ (left : Lit → Bool) (cnt : Nat), wr.ranges Tryz.prog 9 rawR b w.heap.size E.length (DD E) left cnt ∧
      (∃ n : Nat, v = .int .i64 n ∧ Hid (n + eused (E.filter (fun x => left (.string x.n))) = eused E)) ∧ Turn (fun _ => False) w wr)
    (fun _ wr => wr.rangeLeft b w.heap.size)
  case atStart =>
    refine ⟨_, _, hrg0, ⟨0, rfl, hide ?_⟩, Turn.grown hg0 (fun k e => by cases e)⟩
    rw [Nat.zero_add, List.filter_eq_self.2]
    intro x hx
    rw [DD_has, getK_of_mem (unhide Hrise) hx]; rfl
  case round =>
    obtain ⟨left, cnt, hrg, ⟨n, rfl, hn⟩, ht⟩ := hrel
    go_wp2_with (at_next; refine wpList_next_ranges _ rfl _ rfl 9 dLaw rawR encStr (fun v : Value => v) (fun key kl hk => by obtain ⟨x, hx, _⟩ := Maps.keyOf_str Tryz.underlying9 hk; exact ⟨x, hx⟩) (fun v y hv => ⟨v, rfl⟩) b w.heap.size E.length _ _ _ rfl hrg ?_ ?_)
    · intro hc0 hl0
      have hfin : n = eused E := by
        have := unhide hn
        rw [List.filter_eq_nil_iff.2 (fun x _ => by rw [hl0]; simp)] at this
        simpa [eused, used] using this
      have Hf := hide hfin
      clear hfin
      go_wp2
      go_ret
      exact ⟨ret_int (by rw [unhide Hf]), ht⟩
    · intro x c kl yd yp w2 cnt2 hkey hlk hv hat hrg2 hlt hg2 hs2 hen
      obtain ⟨x', ex, rfl, _⟩ := Maps.keyOf_str Tryz.underlying9 hkey
      obtain rfl : x = x' := encStr_inj ex
      have hyd := rawR_inv hv
      subst hyd
      obtain ⟨e, hge⟩ : ∃ e, getK Ent.n x E = some e := by
        have h1 := Maps.has_true_of_atKey hat
        rw [DD_has] at h1
        exact Option.isSome_iff_exists.1 h1
      obtain ⟨hem, hen'⟩ := getK_some hge
      have hval := hat .nil
      rw [DD_at, hge] at hval
      simp only [DataW.held.injEq] at hval
      obtain ⟨p, q, hev⟩ := hform e hem
      have hc : c = .agg #[.slice p e.d.length q, .int .i64 (e.s : Int)] := by rw [← hval, Ent.val, hev]
      subst hc
      have hnew : Hid ((n + e.d.length) + eused (E.filter (fun y => left (.string y.n) && !(Lit.string y.n).sameKey (.string x))) = eused E) := by
        have h1 := left_used (unhide Hrise) hem (left := left) (by rw [hen']; exact hlk)
        have h2 := unhide hn
        rw [hen'] at h1
        exact hide (by omega)
      have hb1 : n + e.d.length ≤ 16777216 := by have := unhide hnew; omega
      have t2 : Turn (fun _ => False) w w2 := ht.trans (G := fun j => j = w.heap.size) (Turn.grown hg2 (fun k e => by cases e; rfl)) (fun j hj => .inr (by omega))
      generalize e.d.length = m at *
      generalize (e.s : Int) = z at *
      have Hle := hide hrg.left_eq
      clear hs2 hval hat hkey hv hge hn ht hg2 hrg hev hem hen' hform ex hg0 hs0 hrg0
      go_wp2
      go_roundw
      case rel => exact ⟨_, cnt2, hrg2.alloc _, ⟨n + m, by go_num, hnew⟩, t2.alloc _⟩
      case measure => rw [(hrg2.alloc _).left_eq, unhide Hle]; exact hlt

set_option maxRecDepth 100000 in
set_option maxHeartbeats 1000000 in
theorem used_nomap (w : World) (B : Nat) (E : List Ent) (S : Dk) (h : DMem w B none E S) :
    Calls Tryz.prog 48 #[.pointer (some ⟨B, 0, none⟩)] w fun e w' => e = .returned (.int .i64 (used S.fs : Nat)) ∧ Turn (fun _ => False) w w' := by
  have hu : used S.fs = 0 := by
    rw [h.fs]
    rcases h.map with ⟨_, h1⟩ | ⟨b, h1, _⟩
    · rw [h1]; rfl
    · cases h1
  rw [hu]
  have c1 : w.cell? ⟨B, 1, none⟩ = some (.map none) := cell_obj h.obj 1
  have hrg := run_range_nilMap (P := Tryz.prog) w 64 9 84 Tryz.underlying64
  have hnx : ∀ ty, (Instr.next (.pointer (some ⟨w.heap.size, 0, none⟩)) false ty).run Tryz.prog (w.alloc (.mapIter none 0 #[] 0)) = _ := fun ty => run_next_nilMap _ ty 0 0 #[]
  have t1 : Turn (fun _ => False) w (w.alloc (.mapIter none 0 #[] 0)) := (Turn.refl _ w).alloc _
  have Ht := hide t1
  clear h hu t1
  go_enter Tryz.func48, Tryz.ntmps48
  go_wp2
  refine wp_loop_rounds 1 ?_
  rw [rounds_succ]
  go_wp2
  go_ret
  exact ⟨rfl, unhide Ht⟩
theorem used_walk (w : World) (B : Nat) (mv : Option Nat) (E : List Ent) (S : Dk) (h : DMem w B mv E S) :
    Calls Tryz.prog 48 #[.pointer (some ⟨B, 0, none⟩)] w fun e w' => e = .returned (.int .i64 (used S.fs : Nat)) ∧ Turn (fun _ => False) w w' := by
  cases mv with
  | none => exact used_nomap w B E S h
  | some b => exact used_map w B b E S h
end Go.Proofs.YthikiahhochjmaaGreatDoor


namespace Go.Proofs.YthikiahhochjmaaGreatDoor
open Go.RowKit Go.Maps
set_option linter.unusedVariables false

set_option maxRecDepth 10000 in
set_option maxHeartbeats 1000000 in
theorem clone_walk (B : Nat → Prop) (v : Value) (zs : List Int) (w : World) (hr : Row .u8 B w v zs) (hl : zs.length ≤ 140737488355328) :
    Calls Tryz.prog 40 #[v] w fun e w' => ∃ x, e = .returned x ∧ OwnSl w' 5 1 x zs.length (zs.map (Value.int .u8)) ∧ (∀ j, x.ownBlock = some j → w.heap.size ≤ j) ∧ Turn (fun _ => False) w w' := by
  obtain ⟨i0, hi, hz0, hz1, hz2⟩ := info_parts info_u8
  have q : ∀ (w : World) (a : Option Addr) (n c n' c' : Nat), (binOp .eql 33 (.slice a n c) (.slice none n' c')).run Tryz.prog w = .ok (.bool a.isNone) w := fun w a n c n' c' => by cases a <;> rfl
  obtain ⟨a, c, rfl⟩ := hr.slice
  cases a with
  | none =>
    have h0 : zs = [] := by
      rcases hr with ⟨a, c, h, _, _, rfl⟩ | ⟨b, off, c, h, _⟩
      · rfl
      · simp at h
    subst h0
    go_enter Tryz.func40, Tryz.ntmps40
    go_wp2
    go_ret
    exact ⟨_, rfl, ⟨rfl, .inl ⟨rfl, rfl⟩⟩, fun j hj => by simp [Value.ownBlock] at hj, Turn.refl _ _⟩
  | some a =>
    have hown0 : (w.alloc (.cells #[] 5)).ownsRow w.heap.size 5 1 (.slice (some ⟨w.heap.size, 0, none⟩) 0 0) ([] : List Int).length (([] : List Int).map (Value.int .u8)) :=
      World.ownsRow_lit w #[] 0 (Nat.le_refl _) (Nat.zero_le _) rfl
    have hb0 : Below w.heap.size w (w.alloc (.cells #[] 5)) := (Below.refl _ _).alloc (Nat.le_refl _) _
    obtain ⟨x2, w2, hrun, hx2, hb2⟩ := append_row (P := Tryz.prog) (ty := 33) Tryz.underlying33 hi hz0 hz1 hz2 rfl hown0 (hr.below hb0) (by unfold maxLen; simp; omega) (by simp; omega) hb0.size
    rw [List.nil_append] at hx2
    go_enter Tryz.func40, Tryz.ntmps40
    go_wp2_with (at_builtin; refine list_append_run rfl _ _ 33 rfl _ _ _ _ rfl rfl hrun ?_)
    go_ret
    exact ⟨x2, rfl, OwnSl.of_owns hx2, own_base hx2, Turn.of_below (hb0.trans hb2)⟩

/-- string(a) of a row -/
theorem conv_row {w : World} {B : Nat → Prop} {v : Value} {zs : List Int} (h : Row .u8 B w v zs) : (convert 33 9 v).run Tryz.prog w = .ok (.string (strOfNums zs)) w := by
  rcases h with ⟨a, c, rfl, hn, _, rfl⟩ | ⟨b, off, c, rfl, _, _, _, h4⟩
  · cases a with
    | none =>
      exact run_convert_bytes_nil w 33 5 Tryz.underlying33 Tryz.underlying5 0 c 9 Tryz.underlying9
    | some a =>
      rw [run_convert_bytes_string w 33 9 5 _ 0 c Tryz.underlying33 Tryz.underlying5 Tryz.underlying9]
      exact run_bytesToString w a 0 c [] (by simp [loadCells, loadCellsFrom])
  · exact run_convert_bytes_arg w 33 5 Tryz.underlying33 Tryz.underlying5 b off zs.length c zs rfl h4 9 Tryz.underlying9
set_option maxHeartbeats 400000 in
theorem bytes_walk (B B' : Nat → Prop) (v v' : Value) (zs : List Int) (w : World) (hr : Row .u8 B w v zs) (hr' : Row .u8 B' w v' zs) : Calls Tryz.prog 29 #[v, v'] w fun e w' => e = .returned (.bool true) ∧ w' = w := by
  have h1 := conv_row hr
  have h2 := conv_row hr'
  generalize strOfNums zs = s at *
  clear hr hr'
  go_enter Tryz.func29, Tryz.ntmps29
  go_wp2
  go_ret
  exact ⟨ret_bool (by simp), rfl⟩
set_option maxHeartbeats 1000000 in
theorem copy_walk (B : Nat → Prop) (v : Value) (zs : List Int) (w : World) (hr : Row .u8 B w v zs) (hl : zs.length ≤ 140737488355328) :
    Calls Tryz.prog 34 #[v] w fun e w' => ∃ x, e = .returned x ∧ OwnSl w' 5 1 x zs.length (zs.map (Value.int .u8)) ∧ (∀ j, x.ownBlock = some j → w.heap.size ≤ j) ∧ Turn (fun _ => False) w w' := by
  obtain ⟨i0, hi, hz0, hz1, hz2⟩ := info_parts info_u8
  have hown0 : w.ownsRow w.heap.size 5 1 (.slice none 0 0) ([] : List Int).length (([] : List Int).map (Value.int .u8)) := ⟨rfl, .inl ⟨rfl, rfl⟩⟩
  obtain ⟨x2, w2, hrun, hx2, hb2⟩ := append_row (P := Tryz.prog) (ty := 33) Tryz.underlying33 hi hz0 hz1 hz2 rfl hown0 hr (by unfold maxLen; simp; omega) (by simp; omega) (Nat.le_refl _)
  rw [List.nil_append] at hx2
  go_enter Tryz.func34, Tryz.ntmps34
  go_wp2_with (at_builtin; refine list_append_run rfl _ _ 33 rfl _ _ _ _ rfl rfl hrun ?_)
  go_ret
  exact ⟨x2, rfl, OwnSl.of_owns hx2, own_base hx2, Turn.of_below hb2⟩
end Go.Proofs.YthikiahhochjmaaGreatDoor


namespace Go.Proofs.YthikiahhochjmaaGreatDoor
open Go.RowKit Go.Maps
set_option linter.unusedVariables false

theorem DMem.bound {w : World} {B : Nat} {mv : Option Nat} {E : List Ent} {S : Dk} (h : DMem w B mv E S) {e : Ent} (he : e ∈ E) : e.d.length ≤ 16777216 := by
  have h1 := used_mem (l := S.fs) (f := e.fl) (by rw [h.fs]; exact List.mem_map.2 ⟨e, he, rfl⟩)
  have h2 := h.well.room
  have h3 := h.well.size
  have h4 : e.fl.d.length = e.d.length := rfl
  omega

set_option maxHeartbeats 1000000 in
theorem Read_walk (w : World) (B : Nat) (F : Nat → Prop) (S : Dk) (s : ByteArray) (hs : s.size ≤ maxLen) (h : DAt w B F S) :
    Calls Tryz.prog 84 #[.pointer (some ⟨B, 0, none⟩), .string s] w fun e w' => ∃ v, e = .returned (.tuple #[v, .int .i64 (readC S s.data.toList)]) ∧ OwnSl w' 5 1 v (readD S s.data.toList).length ((readD S s.data.toList).map (Value.int .u8)) ∧ (∀ j, v.ownBlock = some j → w.heap.size ≤ j) ∧ Turn (fun _ => False) w w' := by
  obtain ⟨mv, E, m, _⟩ := h
  by_cases hr : refuse S s.data.toList = 0
  · cases hg : getK Ent.n s.data.toList E with
    | none =>
      have hf := find_none w B mv E S s hs m hr hg
      have e1 : readC S s.data.toList = 6 := by unfold readC; rw [hr, m.get, hg]; rfl
      have e2 : readD S s.data.toList = [] := by unfold readD; rw [hr, m.get, hg]; rfl
      rw [e1, e2]
      clear e1 e2 hg hr m
      go_enter Tryz.func84, Tryz.ntmps84
      go_wp2_with (go_at_call 45; refine hf.mono ?_; rintro e w' ⟨rfl, ht⟩)
      go_ret2
      exact ⟨_, rfl, ⟨rfl, .inl ⟨rfl, rfl⟩⟩, fun j hj => by simp [Value.ownBlock] at hj, ht.alloc _⟩
    | some e =>
      have hf := find_some w B mv E S s hs m hr e hg
      have e1 : readC S s.data.toList = 0 := by unfold readC; rw [hr, m.get, hg]; rfl
      have e2 : readD S s.data.toList = e.d := by unfold readD; rw [hr, m.get, hg]; rfl
      rw [e1, e2]
      have hem := (getK_some hg).1
      have hbd := m.bound hem
      obtain ⟨p, c, hv⟩ := m.form hem
      have ho := m.own e hem
      rw [hv] at hf ho
      clear e1 e2 hg hr
      go_enter Tryz.func84, Tryz.ntmps84
      go_wp2_with (go_at_call 45; refine hf.mono ?_; rintro e w' ⟨rfl, ht⟩)
      have tA := ht.alloc (.cells #[.slice p e.d.length c, .int .i64 (e.s : Int)] 84)
      have hrow := row_of_sl (ho.turn tA (fun _ _ => id))
      refine (clone_walk _ _ e.d _ hrow (by omega)).mono ?_
      rintro x w2 ⟨v, rfl, hov, hbv, ht2⟩
      go_wp2
      go_ret2
      exact ⟨v, rfl, hov, fun j hj => Nat.le_trans tA.size (hbv j hj), tA.then ht2⟩
  · have hf := find_no w B mv E S s hs m hr
    have e1 : readC S s.data.toList = refuse S s.data.toList := by unfold readC; rw [if_pos hr]
    have e2 : readD S s.data.toList = [] := by unfold readD; rw [if_pos hr]
    rw [e1, e2]
    have hne : (refuse S s.data.toList != 0) = true := by simpa using hr
    clear e1 e2 hr m
    generalize refuse S s.data.toList = x at *
    go_enter Tryz.func84, Tryz.ntmps84
    go_wp2_with (go_at_call 45; refine hf.mono ?_; rintro e w' ⟨rfl, ht⟩)
    go_ret2
    exact ⟨_, rfl, ⟨rfl, .inl ⟨rfl, rfl⟩⟩, fun j hj => by simp [Value.ownBlock] at hj, ht.alloc _⟩
end Go.Proofs.YthikiahhochjmaaGreatDoor


namespace Go.Proofs
open Go.Shelf
def Tryz.lays283_ren : Go.Shelf.Ren := ⟨fun | 283 => 109 | n => n, fun | 3 => 3 | 9 => 9 | 4 => 4 | n => n, fun | n => n⟩
theorem Tryz.lays283 : Go.Proofs.Lays.n283 Tryz.prog Tryz.lays283_ren := {
  mixed := by kernel_rfl
  f283 := Tryz.func109.trans (congrArg some (by kernel_rfl))
  t3 := Tryz.underlying3
  a3 := Tryz.isAgg3
  z3 := Tryz.sizeOf3
  v3 := Tryz.zeroValue3
  t4 := Tryz.underlying4
  a4 := Tryz.isAgg4
  z4 := Tryz.sizeOf4
  v4 := Tryz.zeroValue4
  t9 := Tryz.underlying9
  a9 := Tryz.isAgg9
  z9 := Tryz.sizeOf9
  v9 := Tryz.zeroValue9 }
open Go.Lib in
theorem Tryz.internal_strconv_small (i : Nat) (h : i < 100) (w : World) :
    Calls Tryz.prog 109 #[.int .i64 i] w fun e w' => e = .returned (.string ⟨(Lib.decDigits i).toArray⟩) ∧ w' = w := Any.internal_strconv_small Tryz.lays283 i h w
def Tryz.laysM316_ren : Go.Shelf.Ren := ⟨fun | 316 => 80 | n => n, fun | 9 => 9 | 3 => 3 | 4 => 4 | 37 => 33 | 0 => 0 | 127 => 149 | 5 => 5 | n => n, fun | n => n⟩
theorem Tryz.laysM316 : Go.Proofs.LaysM.n316 Tryz.prog Tryz.laysM316_ren := {
  mixed := by kernel_rfl
  f316 := Tryz.func80.trans (congrArg some (by kernel_rfl))
  t0 := Tryz.underlying0
  a0 := Tryz.isAgg0
  z0 := Tryz.sizeOf0
  v0 := Tryz.zeroValue0
  t3 := Tryz.underlying3
  a3 := Tryz.isAgg3
  z3 := Tryz.sizeOf3
  v3 := Tryz.zeroValue3
  t4 := Tryz.underlying4
  a4 := Tryz.isAgg4
  z4 := Tryz.sizeOf4
  v4 := Tryz.zeroValue4
  t9 := Tryz.underlying9
  a9 := Tryz.isAgg9
  z9 := Tryz.sizeOf9
  v9 := Tryz.zeroValue9
  t37 := Tryz.underlying33
  a37 := Tryz.isAgg33
  z37 := Tryz.sizeOf33
  v37 := Tryz.zeroValue33
  t127 := Tryz.underlying149
  a127 := Tryz.isAgg149
  z127 := Tryz.sizeOf149
  v127 := Tryz.zeroValue149
  t5 := Tryz.underlying5
  a5 := Tryz.isAgg5
  z5 := Tryz.sizeOf5
  v5 := Tryz.zeroValue5
  i0 := by kernel_rfl
  i3 := by kernel_rfl
  i4 := by kernel_rfl
  i5 := by kernel_rfl
  i9 := by kernel_rfl
  i37 := by kernel_rfl
  i127 := by kernel_rfl }
open Go.RowKit in
theorem Tryz.stringslite_Clone (s : ByteArray) (w : World) (hlim : s.size ≤ 281474976710656) :
    Calls Tryz.prog 80 #[.string s] w fun e w' => e = .returned (.string s) ∧ Below w.heap.size w w' := Any.stringslite_Clone Tryz.laysM316 s w hlim
def Tryz.laysPu14_ren : Go.Shelf.Ren := ⟨fun | 14 => 82 | 16 => 105 | 17 => 106 | 19 => 123 | 20 => 124 | 21 => 125 | 22 => 126 | 23 => 127 | 24 => 128 | 25 => 80 | 27 => 140 | 26 => 139 | 28 => 143 | 29 => 144 | 30 => 109 | 31 => 110 | 32 => 111 | 33 => 112 | 35 => 103 | 34 => 132 | 36 => 133 | 37 => 134 | 38 => 135 | 39 => 141 | 40 => 142 | n => n, fun | 9 => 9 | 3 => 3 | 22 => 30 | 24 => 125 | 25 => 126 | 4 => 4 | 34 => 167 | 5 => 5 | 36 => 25 | 37 => 33 | 0 => 0 | 39 => 169 | 21 => 21 | 44 => 184 | 47 => 149 | 50 => 188 | 48 => 186 | 2 => 2 | 52 => 154 | 55 => 156 | 59 => 174 | 60 => 99 | 20 => 20 | 61 => 175 | 65 => 189 | 66 => 190 | 67 => 102 | n => n, fun | 0 => 1 | 1 => 2 | 2 => 0 | 3 => 4 | 4 => 5 | n => n⟩
theorem Tryz.laysPu14 : Go.Proofs.LaysPu.n14 Tryz.prog Tryz.laysPu14_ren := {
  mixed := by kernel_rfl
  f14 := Tryz.func82.trans (congrArg some (by kernel_rfl))
  f16 := Tryz.func105.trans (congrArg some (by kernel_rfl))
  f17 := Tryz.func106.trans (congrArg some (by kernel_rfl))
  f19 := Tryz.func123.trans (congrArg some (by kernel_rfl))
  f20 := Tryz.func124.trans (congrArg some (by kernel_rfl))
  f21 := Tryz.func125.trans (congrArg some (by kernel_rfl))
  f22 := Tryz.func126.trans (congrArg some (by kernel_rfl))
  f23 := Tryz.func127.trans (congrArg some (by kernel_rfl))
  f24 := Tryz.func128.trans (congrArg some (by kernel_rfl))
  f25 := Tryz.func80.trans (congrArg some (by kernel_rfl))
  f26 := Tryz.func139.trans (congrArg some (by kernel_rfl))
  f27 := Tryz.func140.trans (congrArg some (by kernel_rfl))
  f28 := Tryz.func143.trans (congrArg some (by kernel_rfl))
  f29 := Tryz.func144.trans (congrArg some (by kernel_rfl))
  f30 := Tryz.func109.trans (congrArg some (by kernel_rfl))
  f31 := Tryz.func110.trans (congrArg some (by kernel_rfl))
  f32 := Tryz.func111.trans (congrArg some (by kernel_rfl))
  f33 := Tryz.func112.trans (congrArg some (by kernel_rfl))
  f34 := Tryz.func132.trans (congrArg some (by kernel_rfl))
  f35 := Tryz.func103.trans (congrArg some (by kernel_rfl))
  f36 := Tryz.func133.trans (congrArg some (by kernel_rfl))
  f37 := Tryz.func134.trans (congrArg some (by kernel_rfl))
  f38 := Tryz.func135.trans (congrArg some (by kernel_rfl))
  f39 := Tryz.func141.trans (congrArg some (by kernel_rfl))
  f40 := Tryz.func142.trans (congrArg some (by kernel_rfl))
  t0 := Tryz.underlying0
  a0 := Tryz.isAgg0
  z0 := Tryz.sizeOf0
  v0 := Tryz.zeroValue0
  i0 := by kernel_rfl
  t2 := Tryz.underlying2
  a2 := Tryz.isAgg2
  z2 := Tryz.sizeOf2
  v2 := Tryz.zeroValue2
  i2 := by kernel_rfl
  t3 := Tryz.underlying3
  a3 := Tryz.isAgg3
  z3 := Tryz.sizeOf3
  v3 := Tryz.zeroValue3
  i3 := by kernel_rfl
  t4 := Tryz.underlying4
  a4 := Tryz.isAgg4
  z4 := Tryz.sizeOf4
  v4 := Tryz.zeroValue4
  i4 := by kernel_rfl
  t5 := Tryz.underlying5
  a5 := Tryz.isAgg5
  z5 := Tryz.sizeOf5
  v5 := Tryz.zeroValue5
  i5 := by kernel_rfl
  t9 := Tryz.underlying9
  a9 := Tryz.isAgg9
  z9 := Tryz.sizeOf9
  v9 := Tryz.zeroValue9
  i9 := by kernel_rfl
  t20 := Tryz.underlying20
  a20 := Tryz.isAgg20
  z20 := Tryz.sizeOf20
  v20 := Tryz.zeroValue20
  i20 := by kernel_rfl
  t21 := Tryz.underlying21
  a21 := Tryz.isAgg21
  z21 := Tryz.sizeOf21
  v21 := Tryz.zeroValue21
  i21 := by kernel_rfl
  t22 := Tryz.underlying30
  a22 := Tryz.isAgg30
  z22 := Tryz.sizeOf30
  v22 := Tryz.zeroValue30
  i22 := by kernel_rfl
  t24 := Tryz.underlying125
  a24 := Tryz.isAgg125
  z24 := Tryz.sizeOf125
  v24 := Tryz.zeroValue125
  i24 := by kernel_rfl
  t25 := Tryz.underlying126
  a25 := Tryz.isAgg126
  z25 := Tryz.sizeOf126
  v25 := Tryz.zeroValue126
  i25 := by kernel_rfl
  t34 := Tryz.underlying167
  a34 := Tryz.isAgg167
  z34 := Tryz.sizeOf167
  v34 := Tryz.zeroValue167
  i34 := by kernel_rfl
  c34 := by kernel_rfl
  t36 := Tryz.underlying25
  a36 := Tryz.isAgg25
  z36 := Tryz.sizeOf25
  v36 := Tryz.zeroValue25
  i36 := by kernel_rfl
  t37 := Tryz.underlying33
  a37 := Tryz.isAgg33
  z37 := Tryz.sizeOf33
  v37 := Tryz.zeroValue33
  i37 := by kernel_rfl
  t39 := Tryz.underlying169
  a39 := Tryz.isAgg169
  z39 := Tryz.sizeOf169
  v39 := Tryz.zeroValue169
  i39 := by kernel_rfl
  t44 := Tryz.underlying184
  a44 := Tryz.isAgg184
  z44 := Tryz.sizeOf184
  v44 := Tryz.zeroValue184
  i44 := by kernel_rfl
  t47 := Tryz.underlying149
  a47 := Tryz.isAgg149
  z47 := Tryz.sizeOf149
  v47 := Tryz.zeroValue149
  i47 := by kernel_rfl
  t48 := Tryz.underlying186
  a48 := Tryz.isAgg186
  z48 := Tryz.sizeOf186
  v48 := Tryz.zeroValue186
  i48 := by kernel_rfl
  t50 := Tryz.underlying188
  a50 := Tryz.isAgg188
  z50 := Tryz.sizeOf188
  v50 := Tryz.zeroValue188
  i50 := by kernel_rfl
  t52 := Tryz.underlying154
  a52 := Tryz.isAgg154
  z52 := Tryz.sizeOf154
  v52 := Tryz.zeroValue154
  i52 := by kernel_rfl
  t55 := Tryz.underlying156
  a55 := Tryz.isAgg156
  z55 := Tryz.sizeOf156
  v55 := Tryz.zeroValue156
  i55 := by kernel_rfl
  t59 := Tryz.underlying174
  a59 := Tryz.isAgg174
  z59 := Tryz.sizeOf174
  v59 := Tryz.zeroValue174
  i59 := by kernel_rfl
  t60 := Tryz.underlying99
  a60 := Tryz.isAgg99
  z60 := Tryz.sizeOf99
  v60 := Tryz.zeroValue99
  i60 := by kernel_rfl
  t61 := Tryz.underlying175
  a61 := Tryz.isAgg175
  z61 := Tryz.sizeOf175
  t65 := Tryz.underlying189
  a65 := Tryz.isAgg189
  z65 := Tryz.sizeOf189
  v65 := Tryz.zeroValue189
  i65 := by kernel_rfl
  t66 := Tryz.underlying190
  a66 := Tryz.isAgg190
  z66 := Tryz.sizeOf190
  v66 := Tryz.zeroValue190
  i66 := by kernel_rfl
  t67 := Tryz.underlying102
  a67 := Tryz.isAgg102
  z67 := Tryz.sizeOf102
  v67 := Tryz.zeroValue102
  i67 := by kernel_rfl
  g0 := by kernel_rfl
  m0 := by kernel_rfl
  g1 := by kernel_rfl
  m1 := by kernel_rfl
  g2 := by kernel_rfl
  m2 := by kernel_rfl
  g3 := by kernel_rfl
  m3 := by kernel_rfl
  g4 := by kernel_rfl
  m4 := by kernel_rfl }
open Go.RowKit in
theorem Tryz.strconv_ParseUint_10_at64_ok (s : ByteArray) (hmax : s.size ≤ 9223372036854775806) (u : Nat) (h : Lib.parseUintB 64 s.data.toList = .ok u) (w : World) :
    Calls Tryz.prog 82 #[.string s, .int .i64 10, .int .i64 64] w fun e w' => e = .returned (.tuple #[.int .u64 u, .nilIface]) ∧ (w' = w ∨ w' = Lib.bytesWorld w 5 s) := Any.strconv_ParseUint_10_at64_ok Tryz.laysPu14 s hmax u h w
open Go.RowKit in
theorem Tryz.strconv_ParseUint_10_at64_syntax (s : ByteArray) (hlim : s.size ≤ 281474976710656) (h : Lib.parseUintB 64 s.data.toList = .«syntax») (ev : Value) (w : World) (hv : w.cell? ⟨1, 0, none⟩ = some ev) (hev : ev = .nilIface ∨ ∃ te pe, ev = .iface te pe) :
    Calls Tryz.prog 82 #[.string s, .int .i64 10, .int .i64 64] w fun e w' => ∃ N, e = .returned (.tuple #[.int .u64 0, .iface 169 (.pointer (some ⟨N, 0, none⟩))]) ∧ w.heap.size ≤ N ∧ w'.heap[N]? = some (.cells #[.string ⟨#[80, 97, 114, 115, 101, 85, 105, 110, 116]⟩, .string s, ev] 184 (0, 0)) ∧ Below w.heap.size w w' := Any.strconv_ParseUint_10_at64_syntax Tryz.laysPu14 s hlim h ev w hv hev
def Tryz.lays190_ren : Go.Shelf.Ren := ⟨fun | 190 => 61 | 125 => 78 | 258 => 77 | 128 => 102 | 129 => 103 | 302 => 93 | 303 => 94 | 304 => 95 | 305 => 96 | 306 => 97 | 307 => 98 | 308 => 99 | 309 => 100 | 310 => 101 | 333 => 117 | 329 => 118 | 330 => 119 | 334 => 120 | 335 => 121 | 336 => 122 | 344 => 138 | n => n, fun | 31 => 42 | 9 => 9 | 3 => 3 | 46 => 25 | 0 => 0 | 51 => 99 | 53 => 30 | 4 => 4 | 183 => 142 | 182 => 141 | 131 => 146 | 5 => 5 | 218 => 162 | 222 => 165 | 228 => 180 | 229 => 181 | n => n, fun | n => n⟩
theorem Tryz.lays190 : Go.Proofs.Lays.n190 Tryz.prog Tryz.lays190_ren := {
  mixed := by kernel_rfl
  f125 := Tryz.func78.trans (congrArg some (by kernel_rfl))
  f128 := Tryz.func102.trans (congrArg some (by kernel_rfl))
  f129 := Tryz.func103.trans (congrArg some (by kernel_rfl))
  f190 := Tryz.func61.trans (congrArg some (by kernel_rfl))
  f258 := Tryz.func77.trans (congrArg some (by kernel_rfl))
  f302 := Tryz.func93.trans (congrArg some (by kernel_rfl))
  f303 := Tryz.func94.trans (congrArg some (by kernel_rfl))
  f304 := Tryz.func95.trans (congrArg some (by kernel_rfl))
  f305 := Tryz.func96.trans (congrArg some (by kernel_rfl))
  f306 := Tryz.func97.trans (congrArg some (by kernel_rfl))
  f307 := Tryz.func98.trans (congrArg some (by kernel_rfl))
  f308 := Tryz.func99.trans (congrArg some (by kernel_rfl))
  f309 := Tryz.func100.trans (congrArg some (by kernel_rfl))
  f310 := Tryz.func101.trans (congrArg some (by kernel_rfl))
  f329 := Tryz.func118.trans (congrArg some (by kernel_rfl))
  f330 := Tryz.func119.trans (congrArg some (by kernel_rfl))
  f333 := Tryz.func117.trans (congrArg some (by kernel_rfl))
  f334 := Tryz.func120.trans (congrArg some (by kernel_rfl))
  f335 := Tryz.func121.trans (congrArg some (by kernel_rfl))
  f336 := Tryz.func122.trans (congrArg some (by kernel_rfl))
  f344 := Tryz.func138.trans (congrArg some (by kernel_rfl))
  t0 := Tryz.underlying0
  a0 := Tryz.isAgg0
  z0 := Tryz.sizeOf0
  v0 := Tryz.zeroValue0
  t3 := Tryz.underlying3
  a3 := Tryz.isAgg3
  z3 := Tryz.sizeOf3
  v3 := Tryz.zeroValue3
  t4 := Tryz.underlying4
  a4 := Tryz.isAgg4
  z4 := Tryz.sizeOf4
  v4 := Tryz.zeroValue4
  t5 := Tryz.underlying5
  a5 := Tryz.isAgg5
  z5 := Tryz.sizeOf5
  v5 := Tryz.zeroValue5
  t9 := Tryz.underlying9
  a9 := Tryz.isAgg9
  z9 := Tryz.sizeOf9
  v9 := Tryz.zeroValue9
  t31 := Tryz.underlying42
  a31 := Tryz.isAgg42
  z31 := Tryz.sizeOf42
  v31 := Tryz.zeroValue42
  t46 := Tryz.underlying25
  a46 := Tryz.isAgg25
  z46 := Tryz.sizeOf25
  v46 := Tryz.zeroValue25
  t51 := Tryz.underlying99
  a51 := Tryz.isAgg99
  z51 := Tryz.sizeOf99
  v51 := Tryz.zeroValue99
  t53 := Tryz.underlying30
  a53 := Tryz.isAgg30
  z53 := Tryz.sizeOf30
  v53 := Tryz.zeroValue30
  t131 := Tryz.underlying146
  a131 := Tryz.isAgg146
  z131 := Tryz.sizeOf146
  v131 := Tryz.zeroValue146
  t182 := Tryz.underlying141
  a182 := Tryz.isAgg141
  z182 := Tryz.sizeOf141
  v182 := Tryz.zeroValue141
  t183 := Tryz.underlying142
  a183 := Tryz.isAgg142
  z183 := Tryz.sizeOf142
  v183 := Tryz.zeroValue142
  t218 := Tryz.underlying162
  a218 := Tryz.isAgg162
  z218 := Tryz.sizeOf162
  v218 := Tryz.zeroValue162
  t222 := Tryz.underlying165
  a222 := Tryz.isAgg165
  z222 := Tryz.sizeOf165
  v222 := Tryz.zeroValue165
  t228 := Tryz.underlying180
  a228 := Tryz.isAgg180
  z228 := Tryz.sizeOf180
  v228 := Tryz.zeroValue180
  t229 := Tryz.underlying181
  a229 := Tryz.isAgg181
  z229 := Tryz.sizeOf181
  v229 := Tryz.zeroValue181 }
open Go.Sort Go.RowKit in
theorem Tryz.slices_Sort_string (blk off cap : Nat) (ss : List (List UInt8)) (w : World) (hH : Holds encStr w blk off ss.toArray) (hblk : blk < w.heap.size) (hsz : ss.length < 4611686018427387904) :
    Calls Tryz.prog 61 #[.slice (some ⟨blk, off, none⟩) ss.length cap] w fun e w' =>
      e = .returned (.tuple #[]) ∧ ∃ n os, w' = grow (putRow encStr (Sort.ahead w n) blk off (ss.mergeSort fun x y => decide (x ≤ y)).toArray) os := Any.slices_Sort_string Tryz.lays190 blk off cap ss w hH hblk hsz
def Tryz.lays99_ren : Go.Shelf.Ren := ⟨fun | 99 => 66 | 206 => 83 | n => n, fun | 9 => 9 | 4 => 4 | 3 => 3 | n => n, fun | n => n⟩
theorem Tryz.lays99 : Go.Proofs.Lays.n99 Tryz.prog Tryz.lays99_ren := {
  mixed := by kernel_rfl
  f99 := Tryz.func66.trans (congrArg some (by kernel_rfl))
  f206 := Tryz.func83.trans (congrArg some (by kernel_rfl))
  t3 := Tryz.underlying3
  a3 := Tryz.isAgg3
  z3 := Tryz.sizeOf3
  v3 := Tryz.zeroValue3
  t4 := Tryz.underlying4
  a4 := Tryz.isAgg4
  z4 := Tryz.sizeOf4
  v4 := Tryz.zeroValue4
  t9 := Tryz.underlying9
  a9 := Tryz.isAgg9
  z9 := Tryz.sizeOf9
  v9 := Tryz.zeroValue9 }
open Go.RowKit Go.Lib in
theorem Tryz.strings_HasPrefix (s p : ByteArray) (w : World) :
    Calls Tryz.prog 66 #[.string s, .string p] w fun e w' => e = .returned (.bool (Lib.hasPrefix s.data.toList p.data.toList)) ∧ w' = w := Any.strings_HasPrefix Tryz.lays99 s p w
def Tryz.lays101_ren : Go.Shelf.Ren := ⟨fun | 101 => 81 | 208 => 104 | 206 => 83 | n => n, fun | 9 => 9 | 4 => 4 | 3 => 3 | n => n, fun | n => n⟩
theorem Tryz.lays101 : Go.Proofs.Lays.n101 Tryz.prog Tryz.lays101_ren := {
  mixed := by kernel_rfl
  f101 := Tryz.func81.trans (congrArg some (by kernel_rfl))
  f206 := Tryz.func83.trans (congrArg some (by kernel_rfl))
  f208 := Tryz.func104.trans (congrArg some (by kernel_rfl))
  t3 := Tryz.underlying3
  a3 := Tryz.isAgg3
  z3 := Tryz.sizeOf3
  v3 := Tryz.zeroValue3
  t4 := Tryz.underlying4
  a4 := Tryz.isAgg4
  z4 := Tryz.sizeOf4
  v4 := Tryz.zeroValue4
  t9 := Tryz.underlying9
  a9 := Tryz.isAgg9
  z9 := Tryz.sizeOf9
  v9 := Tryz.zeroValue9 }
open Go.RowKit Go.Lib in
theorem Tryz.strings_TrimPrefix (s p : ByteArray) (w : World) :
    Calls Tryz.prog 81 #[.string s, .string p] w fun e w' => e = .returned (.string ⟨(Lib.trimPrefix s.data.toList p.data.toList).toArray⟩) ∧ w' = w := Any.strings_TrimPrefix Tryz.lays101 s p w
def Tryz.lays105_ren : Go.Shelf.Ren := ⟨fun | 105 => 76 | 212 => 88 | 99 => 66 | 165 => 89 | 166 => 90 | 170 => 91 | 169 => 92 | 263 => 113 | 264 => 114 | 206 => 83 | 240 => 115 | 241 => 116 | 276 => 136 | 277 => 137 | n => n, fun | 9 => 9 | 3 => 3 | 4 => 4 | 20 => 20 | 0 => 0 | 46 => 25 | 109 => 132 | 5 => 5 | 72 => 136 | 76 => 138 | 51 => 99 | 146 => 158 | 53 => 30 | 148 => 160 | 70 => 134 | 37 => 33 | 75 => 125 | 127 => 149 | 164 => 177 | 80 => 102 | n => n, fun | n => n⟩
theorem Tryz.lays105 : Go.Proofs.Lays.n105 Tryz.prog Tryz.lays105_ren := {
  mixed := by kernel_rfl
  f99 := Tryz.func66.trans (congrArg some (by kernel_rfl))
  f105 := Tryz.func76.trans (congrArg some (by kernel_rfl))
  f165 := Tryz.func89.trans (congrArg some (by kernel_rfl))
  f166 := Tryz.func90.trans (congrArg some (by kernel_rfl))
  f169 := Tryz.func92.trans (congrArg some (by kernel_rfl))
  f170 := Tryz.func91.trans (congrArg some (by kernel_rfl))
  f206 := Tryz.func83.trans (congrArg some (by kernel_rfl))
  f212 := Tryz.func88.trans (congrArg some (by kernel_rfl))
  f240 := Tryz.func115.trans (congrArg some (by kernel_rfl))
  f241 := Tryz.func116.trans (congrArg some (by kernel_rfl))
  f263 := Tryz.func113.trans (congrArg some (by kernel_rfl))
  f264 := Tryz.func114.trans (congrArg some (by kernel_rfl))
  f276 := Tryz.func136.trans (congrArg some (by kernel_rfl))
  f277 := Tryz.func137.trans (congrArg some (by kernel_rfl))
  t0 := Tryz.underlying0
  a0 := Tryz.isAgg0
  z0 := Tryz.sizeOf0
  v0 := Tryz.zeroValue0
  t3 := Tryz.underlying3
  a3 := Tryz.isAgg3
  z3 := Tryz.sizeOf3
  v3 := Tryz.zeroValue3
  t4 := Tryz.underlying4
  a4 := Tryz.isAgg4
  z4 := Tryz.sizeOf4
  v4 := Tryz.zeroValue4
  t5 := Tryz.underlying5
  a5 := Tryz.isAgg5
  z5 := Tryz.sizeOf5
  v5 := Tryz.zeroValue5
  t9 := Tryz.underlying9
  a9 := Tryz.isAgg9
  z9 := Tryz.sizeOf9
  v9 := Tryz.zeroValue9
  t20 := Tryz.underlying20
  a20 := Tryz.isAgg20
  z20 := Tryz.sizeOf20
  v20 := Tryz.zeroValue20
  t37 := Tryz.underlying33
  a37 := Tryz.isAgg33
  z37 := Tryz.sizeOf33
  v37 := Tryz.zeroValue33
  t46 := Tryz.underlying25
  a46 := Tryz.isAgg25
  z46 := Tryz.sizeOf25
  v46 := Tryz.zeroValue25
  t51 := Tryz.underlying99
  a51 := Tryz.isAgg99
  z51 := Tryz.sizeOf99
  v51 := Tryz.zeroValue99
  t53 := Tryz.underlying30
  a53 := Tryz.isAgg30
  z53 := Tryz.sizeOf30
  v53 := Tryz.zeroValue30
  t70 := Tryz.underlying134
  a70 := Tryz.isAgg134
  z70 := Tryz.sizeOf134
  v70 := Tryz.zeroValue134
  t72 := Tryz.underlying136
  a72 := Tryz.isAgg136
  z72 := Tryz.sizeOf136
  v72 := Tryz.zeroValue136
  t75 := Tryz.underlying125
  a75 := Tryz.isAgg125
  z75 := Tryz.sizeOf125
  v75 := Tryz.zeroValue125
  t76 := Tryz.underlying138
  a76 := Tryz.isAgg138
  z76 := Tryz.sizeOf138
  v76 := Tryz.zeroValue138
  t109 := Tryz.underlying132
  a109 := Tryz.isAgg132
  z109 := Tryz.sizeOf132
  v109 := Tryz.zeroValue132
  t127 := Tryz.underlying149
  a127 := Tryz.isAgg149
  z127 := Tryz.sizeOf149
  v127 := Tryz.zeroValue149
  t146 := Tryz.underlying158
  a146 := Tryz.isAgg158
  z146 := Tryz.sizeOf158
  v146 := Tryz.zeroValue158
  t148 := Tryz.underlying160
  a148 := Tryz.isAgg160
  z148 := Tryz.sizeOf160
  v148 := Tryz.zeroValue160
  t164 := Tryz.underlying177
  a164 := Tryz.isAgg177
  z164 := Tryz.sizeOf177
  v164 := Tryz.zeroValue177 }
theorem Tryz.Builder_Extra_105 : Builder.Extra Tryz.prog Tryz.lays105_ren := {
  sizeBuilder := by kernel_rfl
  liesBuilder := by kernel_rfl
  t5 := Tryz.underlying5
  a5 := Tryz.isAgg5
  z5 := Tryz.sizeOf5
  v5 := Tryz.zeroValue5
  infoByte := by kernel_rfl
  cellsByte := by kernel_rfl
  sizeByte := by kernel_rfl
  neB5 := by decide }
open Go.RowKit Go.Lib in
theorem Tryz.strings_Repeat (s : ByteArray) (c : Nat) (w : World) (hc : c ≤ 9223372036854775807) (hlen : s.size * c ≤ 140737488355328) :
    Calls Tryz.prog 76 #[.string s, .int .i64 c] w fun e w' => e = .returned (.string ⟨(Lib.repeatL s.data.toList c).toArray⟩) ∧ Below w.heap.size w w' := Any.strings_Repeat Tryz.lays105 Tryz.Builder_Extra_105 s c w hc hlen
open Go.RowKit Go.Sort in
theorem Tryz.slices_Sort_string_none (p : Option Addr) (cap : Nat) (w : World) :
    Calls Tryz.prog 61 #[.slice p 0 cap] w fun e w' => e = .returned (.tuple #[]) ∧ w' = w := Any.slices_Sort_string_none Tryz.lays190 p cap w
end Go.Proofs


namespace Go.Proofs.YthikiahhochjmaaGreatDoor
open Go.RowKit Go.Maps Go.Sort
set_option linter.unusedVariables false

theorem info_str : (Tryz.prog.info? 9).map (fun i => (i.zero, i.size, i.bytes)) = some (some (.string ⟨#[]⟩), 1, 16) := by kernel_rfl

theorem lt_before : ∀ {a b : Nm}, bytesBefore a b = true → a ≤ b
  | [], [], h => by simp [bytesBefore] at h
  | [], _ :: _, _ => by simp
  | _ :: _, [], h => by simp [bytesBefore] at h
  | x :: a, y :: b, h => by
    simp only [bytesBefore, Bool.or_eq_true, Bool.and_eq_true, decide_eq_true_eq, beq_iff_eq] at h
    rcases h with h | ⟨rfl, h⟩
    · rw [List.cons_le_cons_iff]; exact .inl h
    · rw [List.cons_le_cons_iff]; exact .inr ⟨rfl, lt_before h⟩
theorem sorted_names {E : List Ent} (h : Rise Ent.n E) : (E.map Ent.n).mergeSort leB = E.map Ent.n := by
  have tr : ∀ a b c : List UInt8, leB a b = true → leB b c = true → leB a c = true := fun a b c h1 h2 => by simp only [leB, decide_eq_true_eq] at *; exact List.le_trans h1 h2
  have tot : ∀ a b : List UInt8, (leB a b || leB b a) = true := fun a b => by simp only [leB, Bool.or_eq_true, decide_eq_true_eq]; exact List.le_total a b
  refine List.Perm.eq_of_pairwise (le := fun a b => leB a b = true) (fun a b _ _ h1 h2 => ?_) (List.pairwise_mergeSort tr tot _) ?_ (List.mergeSort_perm _ leB)
  · simp only [leB, decide_eq_true_eq] at h1 h2
    exact List.le_antisymm h1 h2
  · rw [List.pairwise_map]
    exact h.imp (fun {a b} hab => by simp only [leB, decide_eq_true_eq]; exact lt_before hab)
theorem DMem.rise {w : World} {B : Nat} {mv : Option Nat} {E : List Ent} {S : Dk} (h : DMem w B mv E S) : Rise Ent.n E := by
  have := h.well.rise
  rw [h.fs] at this
  unfold Rise at *
  rw [List.pairwise_map] at this
  exact this
theorem DMem.count {w : World} {B : Nat} {mv : Option Nat} {E : List Ent} {S : Dk} (h : DMem w B mv E S) : E.length ≤ 64 := by
  have := h.well.files
  rw [h.fs] at this
  simpa using this

set_option maxRecDepth 100000 in
set_option maxHeartbeats 1000000 in
theorem names_map (w : World) (B b : Nat) (E : List Ent) (S : Dk) (h : DMem w B (some b) E S) :
    Calls Tryz.prog 42 #[.pointer (some ⟨B, 0, none⟩)] w fun e w' => ∃ v, e = .returned v ∧ w'.ownsRow w.heap.size 9 1 v E.length ((E.map Ent.n).map encStr) ∧ Turn (fun _ => False) w w' := by
  obtain ⟨b', e', hown⟩ : ∃ b', some b = some b' ∧ w.ownsMap Tryz.prog 9 rawR b' E.length (DD E) := by
    rcases h.map with ⟨h1, _⟩ | h1
    · cases h1
    · exact h1
  cases e'
  obtain ⟨i0, hi, hz0, hz1, hz2⟩ := info_parts info_str
  have hcnt := h.count
  have c1 : w.cell? ⟨B, 1, none⟩ = some (.map (some b)) := cell_obj h.obj 1
  have c1' : ∀ w1, w.grownBy w1 none → w1.cell? ⟨B, 1, none⟩ = some (.map (some b)) := fun w1 hg => (Turn.grown (F := fun _ => False) hg (fun k e => by cases e)).cell c1 id
  have Hrise := hide h.rise
  have hbl := hown.lt
  have hsz : Maps.size (DD E) = E.length := DD_size E
  have hlen := hown.len (ty := 3) Tryz.underlying64
  rw [hsz] at hlen
  have Hsz := hide hsz
  clear h hsz
  go_enter Tryz.func42, Tryz.ntmps42
  go_wp2_with (first
    | (at_make; refine wpList_make_own _ rfl _ _ 42 rfl w.heap.size 9 i0 (.string ⟨#[]⟩) 1 Tryz.underlying42 hi hz0 hz1 _ _ _ E.length rfl rfl rfl (by rw [hz2]; omega) (by unfold maxLen; omega) (Nat.le_refl _) ?_; intro w1 hrow1 hg1; have c2 := c1' w1 hg1; clear c1')
    | (at_range; refine wpList_range_own _ rfl _ 64 rfl 9 84 dLaw Tryz.underlying64 _ b E.length _ rfl (hown.kept hg1 (by simp)) ?_; intro w0 hrg0 hg0 hs0))
  go_frame
  go_loopw [3] (fun v wr => ∃ (left : Lit → Bool) (cnt : Nat) (ss : List (List UInt8)), wr.ranges Tryz.prog 9 rawR b w1.heap.size E.length (DD E) left cnt ∧ ss.length + cnt ≤ E.length ∧
      wr.ownsRow w.heap.size 9 1 v ss.length (ss.map encStr) ∧ v ≠ .slice none 0 0 ∧ Collected (DD E) left ss ∧ Below w.heap.size w wr)
    (fun _ wr => wr.rangeLeft b w1.heap.size)
  case atStart =>
    refine ⟨_, _, [], hrg0, by rw [unhide Hsz]; simp, hrow1.kept hg0 (Or.inr (by simp [Value.ownBlock])), by simp, Collected.start _, ?_⟩
    exact ((Below.refl _ _).grown hg1 (Nat.le_refl _) (fun j hj => by cases hj)).grown hg0 hg1.size (fun j hj => by cases hj)
  case round =>
    obtain ⟨left, cnt, ss, hrg, hcs, hrow, hnn, hC, hnx⟩ := hrel
    go_wp2_with (at_next; refine wpList_next_ranges _ rfl _ rfl 9 dLaw rawR encStr (fun v : Value => v) (fun key kl hk => by obtain ⟨x, hx, _⟩ := Maps.keyOf_str Tryz.underlying9 hk; exact ⟨x, hx⟩) (fun v y hv => ⟨v, rfl⟩) b w1.heap.size E.length _ _ _ rfl hrg ?_ ?_)
    · intro hc0 hl0
      rcases hrow.2 with ⟨hnil, _⟩ | ⟨g, cap, cur, rfl, hbase, hb, h1, h2, h3, h4⟩
      · exact absurd hnil hnn
      have hperm : ss.Perm (E.map Ent.n) := by
        have := hC.perm hown dLaw Tryz.underlying9 hl0
        rwa [strKeys_DD] at this
      have hsl : ss.length = E.length := by have := hperm.length_eq; simpa using this
      have hso : (ss.mergeSort fun x y => decide (x ≤ y)) = E.map Ent.n := (mergeSort_of_perm hperm).trans (sorted_names (unhide Hrise))
      have hH : Holds encStr wr g 0 ss.toArray := holds_of_block hb (by simpa using h4)
      have hgl : g < wr.heap.size := (Array.getElem?_eq_some_iff.1 hb).1
      have hc := Tryz.slices_Sort_string g 0 cap ss wr hH hgl (by omega)
      have Hso := hide hso
      have Hsl := hide hsl
      clear hso hsl hperm hH
      go_wp2_with (go_at_call 61; refine hc.mono ?_; rintro e w' ⟨rfl, nn, os, rfl⟩)
      go_ret
      have hr := ownsRow_sorted (w := wr) (base := w.heap.size) (n := nn) (os := os) (ts := ss.mergeSort fun x y => decide (x ≤ y)) (by simp) hbase hb h1 h2 h3
      rw [unhide Hso] at hr
      refine ⟨_, rfl, ?_, Turn.of_below ?_⟩
      · rw [← unhide Hsl]
        rw [unhide Hso]
        exact hr
      · exact hnx.grown (grownBy_sorted _) hnx.size (fun j hj => by cases hj; exact hbase)
    · intro x c kl yd yp w2 cnt2 hkey hlk hv hat hrg2 hlt hg2 hs2 hen
      obtain ⟨x', ex, rfl, _⟩ := Maps.keyOf_str Tryz.underlying9 hkey
      obtain rfl : x = x' := encStr_inj ex
      have hrow2 := hrow.kept hg2 (Or.inr (row_ne_iter hrow hrg).symm)
      have Hle := hide hrg.left_eq
      clear hs2
      go_wp2_with (at_builtin; refine wpList_append_own _ rfl _ _ 42 rfl w.heap.size 9 i0 (.string ⟨#[]⟩) 1 16 Tryz.underlying42 hi hz0 hz1 hz2 rfl (by decide) _ _ _ rfl (hrow2.alloc _) ⟨w2.heap.size, 0, none⟩ 1 1 [encStr x] rfl rfl (one_new _ _ _) (by simp [Value.oneCell', encStr]) (by unfold maxLen at *; omega) (by omega) (by have := hnx.size; have := hg2.size; simp; omega) ?_; intro v' w3 hown' hg3 hnil3; go_frame)
      have hrg3 := (hrg2.alloc _).kept hg3 (row_ne_low hrow2 hbl) (row_ne_iter hrow2 hrg2)
      go_roundw
      case rel =>
        refine ⟨_, cnt2, ss ++ [x], hrg3, by simp; omega, by simpa using hown', fun hv' => by have := (hnil3.1 hv').2; omega, hC.step hlk hat, ?_⟩
        exact ((hnx.grown hg2 hnx.size (fun j hj => by cases hj; exact hg1.size)).alloc (by have := hnx.size; have := hg2.size; omega) _).grown hg3 (by have := hnx.size; have := hg2.size; simp; omega) (fun j hj => (hrow2.lt j hj).1)
      case measure => rw [hrg3.left_eq, unhide Hle]; exact hlt

set_option maxRecDepth 100000 in
set_option maxHeartbeats 1000000 in
theorem names_nomap (w : World) (B : Nat) (E : List Ent) (S : Dk) (h : DMem w B none E S) :
    Calls Tryz.prog 42 #[.pointer (some ⟨B, 0, none⟩)] w fun e w' => ∃ v, e = .returned v ∧ w'.ownsRow w.heap.size 9 1 v E.length ((E.map Ent.n).map encStr) ∧ Turn (fun _ => False) w w' := by
  obtain ⟨i0, hi, hz0, hz1, hz2⟩ := info_parts info_str
  have hE : E = [] := by
    rcases h.map with ⟨_, h1⟩ | ⟨b, h1, _⟩
    · exact h1
    · cases h1
  have c1 : w.cell? ⟨B, 1, none⟩ = some (.map none) := cell_obj h.obj 1
  have c1' : ∀ w1, w.grownBy w1 none → w1.cell? ⟨B, 1, none⟩ = some (.map none) := fun w1 hg => (Turn.grown (F := fun _ => False) hg (fun k e => by cases e)).cell c1 id
  have hlen := Maps.len_nil (P := Tryz.prog) (w := w) (ty := 3) Tryz.underlying64
  subst hE
  clear h
  go_enter Tryz.func42, Tryz.ntmps42
  go_wp2_with (at_make; refine wpList_make_own _ rfl _ _ 42 rfl w.heap.size 9 i0 (.string ⟨#[]⟩) 1 Tryz.underlying42 hi hz0 hz1 _ _ _ 0 rfl rfl rfl (by rw [hz2]; omega) (by unfold maxLen; omega) (Nat.le_refl _) ?_; intro w1 hrow1 hg1; have c2 := c1' w1 hg1; clear c1'; have hrg := run_range_nilMap (P := Tryz.prog) w1 64 9 84 Tryz.underlying64; have hnx : ∀ ty, (Instr.next (.pointer (some ⟨w1.heap.size, 0, none⟩)) false ty).run Tryz.prog (w1.alloc (.mapIter none 0 #[] 0)) = _ := fun ty => run_next_nilMap _ ty 0 0 #[])
  refine wp_loop_rounds 1 ?_
  rw [rounds_succ]
  have hrow2 := hrow1.alloc (.mapIter none 0 #[] 0)
  have hc := Tryz.slices_Sort_string_none (some ⟨w.heap.size, 0, none⟩) 0 (w1.alloc (.mapIter none 0 #[] 0))
  have t2 : Turn (fun _ => False) w (w1.alloc (.mapIter none 0 #[] 0)) := (Turn.grown hg1 (fun k e => by cases e)).alloc _
  have Ht := hide t2
  have Hr := hide hrow2
  clear hrow1 hg1 t2 hrow2
  go_wp2_with (go_at_call 61; refine hc.mono ?_; rintro e w' ⟨rfl, rfl⟩)
  go_ret
  exact ⟨_, rfl, unhide Hr, unhide Ht⟩
theorem names_walk (w : World) (B : Nat) (mv : Option Nat) (E : List Ent) (S : Dk) (h : DMem w B mv E S) :
    Calls Tryz.prog 42 #[.pointer (some ⟨B, 0, none⟩)] w fun e w' => ∃ v, e = .returned v ∧ w'.ownsRow w.heap.size 9 1 v E.length ((E.map Ent.n).map encStr) ∧ Turn (fun _ => False) w w' := by
  cases mv with
  | none => exact names_nomap w B E S h
  | some b => exact names_map w B b E S h

set_option maxHeartbeats 1000000 in
theorem Names_walk (w : World) (B : Nat) (F : Nat → Prop) (S : Dk) (h : DAt w B F S) :
    Calls Tryz.prog 16 #[.pointer (some ⟨B, 0, none⟩)] w fun e w' => ∃ v, e = .returned (.tuple #[v, .int .i64 (namesC S)]) ∧ w'.ownsRow w.heap.size 9 1 v (namesL S).length ((namesL S).map encStr) ∧ Turn (fun _ => False) w w' := by
  obtain ⟨mv, E, m, _⟩ := h
  have hr := ready_walk w B mv E S m
  have hn := names_walk w B mv E S m
  have hE : S.fs.map Fl.n = E.map Ent.n := by rw [m.fs, List.map_map]; rfl
  clear m
  cases hd : S.down
  · have e1 : namesL S = E.map Ent.n := by unfold namesL; rw [hd, ← hE]; rfl
    have e2 : namesC S = 0 := by unfold namesC; rw [hd]; rfl
    rw [e1, e2, List.length_map]
    unfold readyC at hr
    rw [hd] at hr
    clear e1 e2 hd hE
    go_enter Tryz.func16, Tryz.ntmps16
    go_wp2_with (first | (go_at_call 41; refine hr.mono ?_; rintro e w' ⟨rfl, rfl⟩) | (go_at_call 42; refine hn.mono ?_; rintro e w' ⟨v, rfl, hv, ht⟩))
    go_ret2
    exact ⟨v, rfl, hv, ht⟩
  · have e1 : namesL S = [] := by unfold namesL; rw [hd]; rfl
    have e2 : namesC S = 3 := by unfold namesC; rw [hd]; rfl
    rw [e1, e2]
    unfold readyC at hr
    rw [hd] at hr
    clear e1 e2 hd hE hn
    go_enter Tryz.func16, Tryz.ntmps16
    go_wp2_with (go_at_call 41; refine hr.mono ?_; rintro e w' ⟨rfl, rfl⟩)
    go_ret2
    exact ⟨_, rfl, World.ownsRow_nil _ _ _ _, Turn.refl _ _⟩
end Go.Proofs.YthikiahhochjmaaGreatDoor


namespace Go.Proofs.YthikiahhochjmaaGreatDoor
open Go.RowKit Go.Maps
set_option linter.unusedVariables false

def apartR (x y : Ent) : Prop := ∀ j, x.v.ownBlock = some j → y.v.ownBlock ≠ some j
theorem apartR_symm {x y : Ent} (h : apartR x y) : apartR y x := fun j h1 h2 => h j h2 h1
theorem insK_perm {α : Type} (key : α → Nm) (x : α) (l : List α) : (insK key x l).Perm (x :: l) := by
  obtain ⟨X, Y, h1, h2⟩ := insK_split key x l
  rw [h2, h1]; exact List.perm_middle
theorem apart_put {E : List Ent} {e : Ent} (h : E.Pairwise apartR) (hn : ∀ x ∈ E, x.n ≠ e.n → apartR x e) : (putK Ent.n e E).Pairwise apartR := by
  unfold putK
  refine ((insK_perm Ent.n e _).pairwise_iff (fun {_ _} h => apartR_symm h)).2 ?_
  rw [List.pairwise_cons]
  exact ⟨fun a ha => apartR_symm (hn a (mem_delK.1 ha).1 (mem_delK.1 ha).2), h.filter _⟩

/-- a disk with a file put into its map -/
theorem DMem.mk_put {w' : World} {B b k : Nat} {E : List Ent} {S' : Dk} {e : Ent}
    (hobj : w'.heap[B]? = some (.cells #[.int .i64 (S'.size : Int), .map (some b), .bool S'.down, .int .u64 (S'.arm : Int)] 66 (0, 0)))
    (hmap : w'.ownsMap Tryz.prog 9 rawR b k ((DD E).put (.string e.n) (.held e.val)))
    (hown : ∀ x ∈ E, x.n ≠ e.n → OwnSl w' 5 1 x.v x.d.length (x.d.map (Value.int .u8)))
    (he : OwnSl w' 5 1 e.v e.d.length (e.d.map (Value.int .u8)))
    (hap : E.Pairwise apartR) (hapn : ∀ x ∈ E, x.n ≠ e.n → apartR x e) (hfs : S'.fs = putK Fl.n e.fl (E.map Ent.fl)) (hw : Well S') : DMem w' B (some b) (putK Ent.n e E) S' := by
  refine ⟨hobj, .inr ⟨b, rfl, ?_⟩, fun x hx => ?_, apart_put hap hapn, ?_, hw⟩
  · rw [DD_put] at hmap
    have := ownsMap_tight hmap
    rwa [DD_size] at this
  · rcases mem_putK.1 hx with rfl | ⟨h1, h2⟩
    · exact he
    · exact hown x h1 h2
  · rw [hfs, map_putK Ent.n Fl.n Ent.fl (fun _ => rfl)]
/-- a disk with a file taken out of its map -/
theorem DMem.mk_del {w' : World} {B b k : Nat} {E : List Ent} {S' : Dk} {n : Nm}
    (hobj : w'.heap[B]? = some (.cells #[.int .i64 (S'.size : Int), .map (some b), .bool S'.down, .int .u64 (S'.arm : Int)] 66 (0, 0)))
    (hmap : w'.ownsMap Tryz.prog 9 rawR b k ((DD E).del (.string n)))
    (hown : ∀ x ∈ E, x.n ≠ n → OwnSl w' 5 1 x.v x.d.length (x.d.map (Value.int .u8)))
    (hap : E.Pairwise apartR) (hfs : S'.fs = delK Fl.n n (E.map Ent.fl)) (hw : Well S') : DMem w' B (some b) (delK Ent.n n E) S' := by
  refine ⟨hobj, .inr ⟨b, rfl, ?_⟩, fun x hx => hown x (mem_delK.1 hx).1 (mem_delK.1 hx).2, hap.filter _, ?_, hw⟩
  · rw [DD_del] at hmap
    have := ownsMap_tight hmap
    rwa [DD_size] at this
  · rw [hfs, map_delK Ent.n Fl.n Ent.fl (fun _ => rfl)]

theorem refuse_up {S : Dk} {n : Nm} (h : refuse S n = 0) : S.down = false ∧ goodB n = true := by
  unfold refuse at h
  cases hd : S.down
  · rw [hd] at h
    cases hg : goodB n
    · rw [hg] at h; simp at h
    · exact ⟨rfl, rfl⟩
  · rw [hd] at h; simp at h

theorem used_put {l : List Fl} {f g : Fl} (hr : Rise Fl.n l) (hg : getK Fl.n f.n l = some g) : used (putK Fl.n f l) + g.d.length = used l + f.d.length ∧ (putK Fl.n f l).length = l.length := by
  obtain ⟨h1, h2⟩ := getK_some hg
  obtain ⟨X, Y, rfl⟩ := split_of_mem h1
  rw [putK_mid hr h2.symm]
  simp [used_append, used_cons]; omega
theorem used_new {l : List Fl} {f : Fl} (hg : getK Fl.n f.n l = none) : used (putK Fl.n f l) = used l + f.d.length ∧ (putK Fl.n f l).length = l.length + 1 := by
  unfold putK
  rw [delK_none (getK_none hg)]
  have hp := insK_perm Fl.n f l
  rw [used_perm hp, used_cons, hp.length_eq]
  simp; omega
theorem used_filter (p : Fl → Bool) (l : List Fl) : used (l.filter p) ≤ used l := by
  induction l with
  | nil => exact Nat.le_refl _
  | cons f l ih => rw [List.filter_cons]; split <;> simp only [used_cons] <;> omega
theorem used_del (l : List Fl) (n : Nm) : used (delK Fl.n n l) ≤ used l ∧ (delK Fl.n n l).length ≤ l.length := by
  unfold delK
  exact ⟨used_filter _ l, List.length_filter_le _ _⟩

/-- a file in an old one's place -/
theorem well_put {S S' : Dk} (h : Well S) {f g : Fl} (hg : getK Fl.n f.n S.fs = some g) (hl : used S.fs + f.d.length ≤ S.size + g.d.length) (hs : f.s ≤ f.d.length) (hfs : S'.fs = putK Fl.n f S.fs) (hsz : S'.size = S.size) (ha : S'.arm ≤ 9223372036854775807) : Well S' := by
  obtain ⟨u1, u2⟩ := used_put h.rise hg
  obtain ⟨h1, h2⟩ := getK_some hg
  have hroom := h.room
  have hfiles := h.files
  refine ⟨by rw [hfs]; exact h.rise.put, fun x hx => ?_, by rw [hfs, hsz]; omega, by rw [hsz]; exact h.size, by rw [hfs]; omega, ha⟩
  rw [hfs] at hx
  rcases mem_putK.1 hx with rfl | ⟨hx, _⟩
  · exact ⟨by rw [← h2]; exact (h.good g h1).1, hs⟩
  · exact h.good x hx
theorem well_del {S S' : Dk} (h : Well S) {n : Nm} (hfs : S'.fs = delK Fl.n n S.fs) (hsz : S'.size = S.size) (ha : S'.arm ≤ 9223372036854775807) : Well S' := by
  have := used_del S.fs n
  have hroom := h.room
  have hfiles := h.files
  exact ⟨by rw [hfs]; exact h.rise.del n, fun x hx => by rw [hfs] at hx; exact h.good x (mem_delK.1 hx).1, by rw [hfs, hsz]; omega, by rw [hsz]; exact h.size, by rw [hfs]; omega, ha⟩

def NF (w : World) (F : Nat → Prop) : Nat → Prop := fun j => F j ∨ w.heap.size ≤ j

theorem DMem.entry {w : World} {B : Nat} {mv : Option Nat} {E : List Ent} {S : Dk} (m : DMem w B mv E S) {e : Ent} (he : e ∈ E) : ∃ b, mv = some b ∧ w.ownsMap Tryz.prog 9 rawR b E.length (DD E) := by
  rcases m.map with ⟨_, h⟩ | h
  · rw [h] at he; cases he
  · exact h
theorem DMem.apartM {w : World} {B b : Nat} {E : List Ent} {S : Dk} (m : DMem w B (some b) E S) : ∀ x ∈ E, ∀ j, x.v.ownBlock = some j → j ≠ b := by
  intro x hx j hj
  obtain ⟨b', h1, h2⟩ := m.entry hx
  cases h1
  exact (m.own x hx).neMap h2 j hj
theorem hitS_fs (S : Dk) : (hitS S).fs = S.fs ∧ (hitS S).size = S.size := by unfold hitS; split <;> exact ⟨rfl, rfl⟩

theorem apart_of {E : List Ent} (h : E.Pairwise apartR) {x y : Ent} (hx : x ∈ E) (hy : y ∈ E) (hn : x.n ≠ y.n) : apartR x y := by
  obtain ⟨X, Y, rfl⟩ := split_of_mem hy
  rw [List.pairwise_append, List.pairwise_cons] at h
  rcases List.mem_append.1 hx with h1 | h1
  · exact h.2.2 x h1 y (by simp)
  · rcases List.mem_cons.1 h1 with rfl | h1
    · exact absurd rfl hn
    · exact apartR_symm (h.2.1.1 x h1)
/-- 'd.files[name] = f' -/
theorem DMem.updateAt {w : World} {B b : Nat} {E : List Ent} {S S' : Dk} (m : DMem w B (some b) E S) (e : Ent) {s : ByteArray} (hs : s.size ≤ maxLen) (hn : e.n = s.data.toList)
    (ho : w.ownsMap Tryz.prog 9 rawR b E.length (DD E))
    (he : OwnSl w 5 1 e.v e.d.length (e.d.map (Value.int .u8))) (hap : ∀ x ∈ E, x.n ≠ e.n → apartR x e) (hfs : S' = { S with fs := putK Fl.n e.fl S.fs }) (hw : Well S') :
    ∃ w', (Instr.mapUpdate 64 (.map (some b)) (.string s) (.agg #[e.v, .int .i64 (e.s : Int)])).run Tryz.prog w = .ok () w' ∧ Turn (fun j => j = b) w w' ∧ DMem w' B (some b) (putK Ent.n e E) S' := by
  have hneB : B ≠ b := fun q => m.neB (by rw [q])
  obtain ⟨w4, hu, o4, g4⟩ := World.ownsMap.update (w := w) ho dLaw Tryz.underlying64 (by unfold maxLen; have := m.count; omega) (dKey hs) (rawR_eq (.agg #[e.v, .int .i64 (e.s : Int)]))
  have t4 : Turn (fun j => j = b) w w4 := Turn.grown (F := fun j => j = b) g4 (fun k e => by cases e; rfl)
  refine ⟨w4, hu, t4, DMem.mk_put (k := E.length + 1) ?_ ?_ ?_ ?_ m.apart hap ?_ hw⟩
  · rw [hfs]; exact t4.same m.obj hneB
  · rw [hn]; exact o4
  · exact fun x hx _ => (m.own x hx).turn t4 (fun j hj => m.apartM x hx j hj)
  · exact he.turn t4 (he.neMap ho)
  · rw [hfs, ← m.fs]
theorem DMem.update {w : World} {B b : Nat} {E : List Ent} {S S' : Dk} (m : DMem w B (some b) E S) (e : Ent) {s : ByteArray} (hs : s.size ≤ maxLen) (hn : e.n = s.data.toList)
    (ho : w.ownsMap Tryz.prog 9 rawR b E.length (DD E))
    (he : OwnSl w 5 1 e.v e.d.length (e.d.map (Value.int .u8))) (hap : ∀ x ∈ E, x.n ≠ e.n → apartR x e) (hfs : S' = { S with fs := putK Fl.n e.fl S.fs }) (hw : Well S') :
    ∃ w', (Instr.mapUpdate 64 (.map (some b)) (.string s) (.agg #[e.v, .int .i64 (e.s : Int)])).run Tryz.prog w.drew = .ok () w' ∧ Turn (fun j => j = b) w w' ∧ DMem w' B (some b) (putK Ent.n e E) S' := by
  have tD : Turn (fun _ => False) w w.drew := (Turn.refl _ _).drew
  obtain ⟨w', h1, h2, h3⟩ := (m.turn tD (fun _ _ => id)).updateAt e hs hn (tD.map ho id) (he.turn tD (fun _ _ => id)) hap hfs hw
  exact ⟨w', h1, h2.undrew, h3⟩
theorem DMem.ofMap {w : World} {B b : Nat} {E : List Ent} {S : Dk} (m : DMem w B (some b) E S) : w.ownsMap Tryz.prog 9 rawR b E.length (DD E) := by
  rcases m.map with ⟨h, _⟩ | ⟨b', h, h2⟩
  · cases h
  · cases h; exact h2
/-- the blocks of a disk with a file put -/
theorem foot_put {B b : Nat} {E : List Ent} {e : Ent} {j : Nat} (h : DFoot B (some b) (putK Ent.n e E) j) : DFoot B (some b) E j ∨ e.v.ownBlock = some j := by
  rcases h with rfl | h | ⟨x, hx, hj⟩
  · exact .inl (.inl rfl)
  · exact .inl (.inr (.inl h))
  · rcases mem_putK.1 hx with rfl | ⟨hx, _⟩
    · exact .inr hj
    · exact .inl (.inr (.inr ⟨x, hx, hj⟩))
theorem foot_del {B b : Nat} {E : List Ent} {n : Nm} {j : Nat} (h : DFoot B (some b) (delK Ent.n n E) j) : DFoot B (some b) E j := by
  rcases h with rfl | h | ⟨x, hx, hj⟩
  · exact .inl rfl
  · exact .inr (.inl h)
  · exact .inr (.inr ⟨x, (mem_delK.1 hx).1, hj⟩)

set_option maxHeartbeats 1000000 in
theorem Sync_walk (w : World) (B : Nat) (F : Nat → Prop) (S : Dk) (s : ByteArray) (hs : s.size ≤ maxLen) (h : DAt w B F S) :
    Calls Tryz.prog 69 #[.pointer (some ⟨B, 0, none⟩), .string s] w fun e w' => e = .returned (.int .i64 (syncC S s.data.toList)) ∧ Turn F w w' ∧ DAt w' B (NF w F) (syncS S s.data.toList) := by
  obtain ⟨mv, E, m, hF⟩ := h
  have hFB := hF B (.inl rfl)
  by_cases hr : refuse S s.data.toList = 0
  · cases hg : getK Ent.n s.data.toList E with
    | none =>
      have hf := find_none w B mv E S s hs m hr hg
      have e1 : syncC S s.data.toList = 6 := by unfold syncC; rw [hr, m.get, hg]; rfl
      have e2 : syncS S s.data.toList = S := by unfold syncS; rw [hr, m.get, hg]; rfl
      rw [e1, e2]
      clear e1 e2 hg hr
      go_enter Tryz.func69, Tryz.ntmps69
      go_wp2_with (go_at_call 45; refine hf.mono ?_; rintro e w' ⟨rfl, ht⟩)
      go_ret
      exact ⟨rfl, (ht.alloc _).mono (fun _ h => h.elim), mv, E, m.turn (ht.alloc _) (fun _ _ => id), fun j hj => .inl (hF j hj)⟩
    | some e =>
      have hf := find_some w B mv E S s hs m hr e hg
      have hem := (getK_some hg).1
      have hen := (getK_some hg).2
      obtain ⟨p, c, hv⟩ := m.form hem
      rw [hv] at hf
      have hd := (refuse_up hr).1
      have hbd := m.bound hem
      cases hh : hitB S
      · have e1 : syncC S s.data.toList = 0 := by unfold syncC; rw [hr, m.get, hg]; simp [hh]
        have e2 : syncS S s.data.toList = { hitS S with fs := putK Fl.n ⟨s.data.toList, e.d, e.d.length⟩ S.fs } := by unfold syncS; rw [hr, m.get, hg]; simp [hh, Ent.fl]
        have hwell : Well (syncS S s.data.toList) := by
          rw [e2]
          exact well_put (f := ⟨s.data.toList, e.d, e.d.length⟩) (g := e.fl) m.well (by rw [m.get, hg]; rfl) (by have := m.well.room; simp [Ent.fl]; omega) (Nat.le_refl _) rfl (hitS_fs S).2 (well_hit m.well).arm
        rw [e1]
        rw [e2] at hwell ⊢
        obtain ⟨b, hmv, _⟩ := m.entry hem
        subst hmv
        clear e1 e2
        go_enter Tryz.func69, Tryz.ntmps69
        go_wp2_with (go_at_call 45; refine hf.mono ?_; rintro e w1 ⟨rfl, ht⟩)
        have tA : Turn (fun _ => False) w (w1.alloc (.cells #[.slice p e.d.length c, .int .i64 (e.s : Int)] 84)) := ht.alloc _
        have k0 : (w1.alloc (.cells #[.slice p e.d.length c, .int .i64 (e.s : Int)] 84)).heap[w1.heap.size]? = some (.cells #[.slice p e.d.length c, .int .i64 (e.s : Int)] 84 (0, 0)) := heap_alloc_new w1 _
        have hw1 : w.heap.size ≤ w1.heap.size := ht.size
        have mA := m.turn tA (fun _ _ => id)
        generalize w1.alloc (.cells #[.slice p e.d.length c, .int .i64 (e.s : Int)] 84) = W at *
        have ngB : w1.heap.size ≠ B := fun q => by have := m.lt B (.inl rfl); omega
        refine (hit_walk W B _ E S hd mA).mono ?_
        rw [hh]
        rintro x w2 ⟨rfl, t2, m2⟩
        have k2 := t2.same k0 ngB
        have c0 : w2.cell? ⟨w1.heap.size, 0, none⟩ = some (.slice p e.d.length c) := cell_obj k2 0
        have c1 : w2.cell? ⟨w1.heap.size, 1, none⟩ = some (.int .i64 (e.s : Int)) := cell_obj k2 1
        have f1 : w2.frozen? ⟨w1.heap.size, 1, none⟩ = false := frozen_obj k2 1
        generalize w1.heap.size = g at *
        go_wp2
        have k3 := heap_setCell_obj (j := 1) k2 (.int .i64 (e.d.length : Int))
        have t3 : Turn (fun j => j = g) w2 (w2.setCell ⟨g, 1, none⟩ (.int .i64 (e.d.length : Int))) := (Turn.refl (fun j => j = g) w2).setCell (p := ⟨g, 1, none⟩) (.inl rfl) _
        have m3 := m2.turn t3 (fun j hj q => by have := m.lt j hj; omega)
        clear c0 c1 f1 k0 k2
        generalize hW3 : w2.setCell ⟨g, 1, none⟩ (.int .i64 (e.d.length : Int)) = w3 at *
        clear hW3
        have cB : w3.cell? ⟨B, 1, none⟩ = some (.map (some b)) := cell_obj m3.obj 1
        have c0 : w3.cell? ⟨g, 0, none⟩ = some (.slice p e.d.length c) := cell_obj k3 0
        have c1 : w3.cell? ⟨g, 1, none⟩ = some (.int .i64 (e.d.length : Int)) := cell_obj k3 1
        have ho3 := m3.own e hem
        rw [hv] at ho3
        obtain ⟨w4, hu, t4, m4⟩ := m3.update ⟨s.data.toList, .slice p e.d.length c, e.d, e.d.length⟩ hs rfl m3.ofMap ho3 (fun x hx hn j h1 h2 => apart_of m.apart hx hem (by rw [hen]; exact hn) j h1 (by rw [hv]; exact h2)) rfl (by rw [(hitS_fs S).1]; exact hwell)
        rw [(hitS_fs S).1] at m4
        simp only at hu
        go_region
        go_wp2
        go_ret
        have hfb : F b := hF b (.inr (.inl rfl))
        refine ⟨rfl, (((tA.mono (fun _ h => h.elim)).then (t2.mono (fun j hj => by subst hj; exact hFB))).trans t3 (fun j hj => .inr (by omega))).trans t4 (fun j hj => .inl (by subst hj; exact hfb)), _, _, m4, fun j hj => .inl ?_⟩
        rcases foot_put hj with hj | hj
        · exact hF j hj
        · exact hF j (.inr (.inr ⟨e, hem, by rw [hv]; exact hj⟩))
      · have e1 : syncC S s.data.toList = 3 := by unfold syncC; rw [hr, m.get, hg]; simp [hh]
        have e2 : syncS S s.data.toList = hitS S := by unfold syncS; rw [hr, m.get, hg]; simp [hh]
        rw [e1, e2]
        clear e1 e2
        go_enter Tryz.func69, Tryz.ntmps69
        go_wp2_with (go_at_call 45; refine hf.mono ?_; rintro e w1 ⟨rfl, ht⟩)
        have tA : Turn (fun _ => False) w (w1.alloc (.cells #[.slice p e.d.length c, .int .i64 (e.s : Int)] 84)) := ht.alloc _
        have mA := m.turn tA (fun _ _ => id)
        generalize w1.alloc (.cells #[.slice p e.d.length c, .int .i64 (e.s : Int)] 84) = W at *
        refine (hit_walk W B _ E S hd mA).mono ?_
        rw [hh]
        rintro x w2 ⟨rfl, t2, m2⟩
        go_wp2
        go_ret
        exact ⟨rfl, (tA.mono (fun _ h => h.elim)).then (t2.mono (fun j hj => by subst hj; exact hFB)), _, _, m2, fun j hj => .inl (hF j hj)⟩
  · have hf := find_no w B mv E S s hs m hr
    have e1 : syncC S s.data.toList = refuse S s.data.toList := by unfold syncC; rw [if_pos hr]
    have e2 : syncS S s.data.toList = S := by unfold syncS; rw [if_pos hr]
    rw [e1, e2]
    have hne : (refuse S s.data.toList != 0) = true := by simpa using hr
    clear e1 e2 hr
    generalize refuse S s.data.toList = x at *
    go_enter Tryz.func69, Tryz.ntmps69
    go_wp2_with (go_at_call 45; refine hf.mono ?_; rintro e w' ⟨rfl, ht⟩)
    go_ret
    exact ⟨rfl, (ht.alloc _).mono (fun _ h => h.elim), mv, E, m.turn (ht.alloc _) (fun _ _ => id), fun j hj => .inl (hF j hj)⟩
end Go.Proofs.YthikiahhochjmaaGreatDoor
