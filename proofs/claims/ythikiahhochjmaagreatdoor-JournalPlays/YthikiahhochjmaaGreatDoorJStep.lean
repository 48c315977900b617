/- JournalPlays: the truth in memory moves; its simpler steps (Sync, Arm). -/
import Derived.Test.YthikiahhochjmaaGreatDoorJTell
import Derived.Test.YthikiahhochjmaaGreatDoorDStart
import Derived.Test.YthikiahhochjmaaGreatDoorDCrash
import Derived.Deep.RegionHeld3
import Derived.Deep.CutBlock
namespace Go.Proofs.YthikiahhochjmaaGreatDoor
open Go.RowKit Go.Maps
set_option linter.unusedVariables false
set_option linter.unusedSimpArgs false

/-- a call of the journal -/
theorem Tr.call {w w' : World} {T D J : Nat} {H M : Nat → Prop} {av : Value} {X X' : Jn} {S S' : Dk} {A : List (List Int)} {most first might safe : Nat} {more dn fell : Bool} (h : Tr w T D J H M av X S A most first might safe more dn fell) (t : Turn H w w') (j' : JAt w' (NF w H) J D X' S') :
    Tr w' T D J (fun j => NF w H j ∧ j < w'.heap.size) M av X' S' A most first might safe more dn fell := by
  have hT := (Array.getElem?_eq_some_iff.1 h.obj).1
  have s := t.size
  refine ⟨t.same h.obj h.nH, j'.mono (fun j hj hl => ⟨hj, hl⟩), h.all.turn t (fun j hm hh => h.apart j hh hm), ?_, h.nM, ?_, fun j hj => hj.2, fun j hj => by have := h.hM j hj; omega, h.bytes⟩
  · rintro ⟨hj | hj, _⟩
    · exact h.nH hj
    · omega
  · rintro j ⟨hj | hj, _⟩ hm
    · exact h.apart j hj hm
    · have := h.hM j hm; omega
/-- a store into the truth -/
theorem Tr.put {w w' : World} {T D J : Nat} {H M : Nat → Prop} {av : Value} {X : Jn} {S : Dk} {A : List (List Int)} {most first might safe : Nat} {more dn fell : Bool} (h : Tr w T D J H M av X S A most first might safe more dn fell) (t : Turn (fun j => j = T) w w') {first' might' safe' : Nat} {more' dn' fell' : Bool}
    (o : w'.heap[T]? = some (.cells #[.pointer (some ⟨D, 0, none⟩), .pointer (some ⟨J, 0, none⟩), .int .i64 (most : Int), av, .int .u64 (first' : Int), .int .u64 (might' : Int), .int .i64 (safe' : Int), .bool more', .bool dn', .bool fell'] 32 (0, 0))) :
    Tr w' T D J H M av X S A most first' might' safe' more' dn' fell' := by
  have s := t.size
  exact ⟨o, h.j.turn t (fun j hj e => h.nH (e ▸ hj)), h.all.turn t (fun j hm e => h.nM (e ▸ hm)), h.nH, h.nM, h.apart, fun j hj => by have := h.hH j hj; omega, fun j hj => by have := h.hM j hj; omega, h.bytes⟩

set_option maxRecDepth 100000 in
set_option maxHeartbeats 4000000 in
theorem sync_step (w : World) (T D J : Nat) (H M : Nat → Prop) (av : Value) (X : Jn) (S : Dk) (A : List (List Int)) (most first might safe : Nat) (more dn fell : Bool) (h : Tr w T D J H M av X S A most first might safe more dn fell) (fit : Fit X) (N : Int) (bv kv : Value) (hA : A.length ≤ 1000)
    (e : Int) (he : (syncJ X S).1 = e) (h3 : dn = true → e = 3) (h0 : dn = false → e = 0 ∨ e = 3 ∧ (syncJ X S).2.2.down = true) :
    Calls Tryz.prog 11 #[.pointer (some ⟨T, 0, none⟩), .agg #[.int .i64 1, .int .i64 N, bv, kv]] w fun e' w' => e' = .returned (.bool true) ∧
      Turn (fun j => j = T ∨ H j) w w' ∧ ∃ H', (∀ j, H' j → H j ∨ w.heap.size ≤ j) ∧ Tr w' T D J H' M av (syncJ X S).2.1 (syncJ X S).2.2 A most first might (if dn = false ∧ e = 0 then A.length else safe) more (dn || decide (e = 3)) fell := by
  have ta := (Turn.refl (fun _ => False) w).alloc (.cells #[.int .i64 1, .int .i64 N, bv, kv] 36)
  have ko : (w.alloc (.cells #[.int .i64 1, .int .i64 N, bv, kv] 36)).heap[w.heap.size]? = some (.cells #[.int .i64 1, .int .i64 N, bv, kv] 36 (0, 0)) := heap_alloc_new w _
  have q0 : (w.alloc (.cells #[.int .i64 1, .int .i64 N, bv, kv] 36)).cell? ⟨w.heap.size, 0, none⟩ = some (.int .i64 1) := cell_obj ko 0
  have g := h.calm ta
  have c1 : (w.alloc (.cells #[.int .i64 1, .int .i64 N, bv, kv] 36)).cell? ⟨T, 1, none⟩ = some (.pointer (some ⟨J, 0, none⟩)) := cell_obj g.obj 1
  have hs := sync_j _ H J D X S g.j fit
  rw [he] at hs
  go_enter Tryz.func11, Tryz.ntmps11
  go_wp2_with fail
  refine hs.mono ?_
  rintro e1 w2 ⟨rfl, t2, j2⟩
  have g2 := g.call t2 j2
  have c8 : w2.cell? ⟨T, 8, none⟩ = some (.bool dn) := cell_obj g2.obj 8
  have TT : Turn (fun j => j = T ∨ H j) w w2 := (ta.mono (fun _ q => q.elim)).then (t2.mono (fun j hj => .inr hj))
  have HB : Hid (∀ j, (NF (w.alloc (.cells #[.int .i64 1, .int .i64 N, bv, kv] 36)) H j ∧ j < w2.heap.size) → H j ∨ w.heap.size ≤ j) := hide (fun j hj => by
    rcases hj.1 with q | q
    · exact .inl q
    · exact .inr (Nat.le_trans ta.size q))
  clear g j2 t2 hs q0 c1 ta ko
  cases dn with
  | true =>
    obtain rfl := h3 rfl
    go_wp2_with fail
    go_ret
    exact ⟨rfl, TT, _, unhide HB, by simpa using g2⟩
  | false =>
    obtain ⟨aa, ac, hav⟩ := (h.all.my h.hM).slice
    subst hav
    have c3 : w2.cell? ⟨T, 3, none⟩ = some (.slice aa A.length ac) := cell_obj g2.obj 3
    have c6 : w2.cell? ⟨T, 6, none⟩ = some (.int .i64 (safe : Int)) := cell_obj g2.obj 6
    have z6 := frozen_obj g2.obj 6
    have z8 := frozen_obj g2.obj 8
    rcases h0 rfl with rfl | ⟨rfl, hdn⟩
    · have o6 := heap_setCell_obj (j := 6) g2.obj (.int .i64 (A.length : Int))
      have o8 := heap_setCell_obj (j := 8) o6 (.bool false)
      have t8 : Turn (fun j => j = T) w2 ((w2.setCell ⟨T, 6, none⟩ (.int .i64 (A.length : Int))).setCell ⟨T, 8, none⟩ (.bool false)) := ((Turn.refl (fun j => j = T) w2).setCell (p := ⟨T, 6, none⟩) (.inl rfl) _).setCell (p := ⟨T, 8, none⟩) (.inl rfl) _
      have g8 := g2.put (first' := first) (might' := might) (safe' := A.length) (more' := more) (dn' := false) (fell' := fell) t8 o8
      have T8 := TT.then (t8.mono (fun j e => .inl e))
      clear g2 o6 o8 t8 TT
      go_wp2_with fail
      go_ret
      exact ⟨rfl, T8, _, unhide HB, by simpa using g8⟩
    · have o8 := heap_setCell_obj (j := 8) g2.obj (.bool true)
      have t8 : Turn (fun j => j = T) w2 (w2.setCell ⟨T, 8, none⟩ (.bool true)) := (Turn.refl (fun j => j = T) w2).setCell (p := ⟨T, 8, none⟩) (.inl rfl) _
      have g8 := g2.put (first' := first) (might' := might) (safe' := safe) (more' := more) (dn' := true) (fell' := fell) t8 o8
      have T8 := TT.then (t8.mono (fun j e => .inl e))
      have c0 : w2.cell? ⟨T, 0, none⟩ = some (.pointer (some ⟨D, 0, none⟩)) := cell_obj g2.obj 0
      obtain ⟨F, d, _⟩ := disk_of g8.j
      have hw := Down_walk _ D F _ d
      rw [hdn] at hw
      clear g2 o8 t8 TT d
      go_wp2_with (go_at_call 10; refine hw.mono ?_; rintro e w5 ⟨rfl, rfl⟩)
      go_ret
      exact ⟨rfl, T8, _, unhide HB, by simpa using g8⟩

/-- a call of the disk alone -/
theorem Tr.diskcall {w : World} {T D J : Nat} {H M : Nat → Prop} {av : Value} {X : Jn} {S : Dk} {A : List (List Int)} {most first might safe : Nat} {more dn fell : Bool} (h : Tr w T D J H M av X S A most first might safe more dn fell) :
    ∃ F, DAt w D F S ∧ (∀ j, F j → H j) ∧ (∀ j, M j → ¬ F j) ∧ ¬ F T ∧ ∀ (w' : World) (S' : Dk), Turn F w w' → DAt w' D (NF w F) S' → Tr w' T D J (fun j => NF w H j ∧ j < w'.heap.size) M av X S' A most first might safe more dn fell := by
  obtain ⟨F, G, sv, E, d, m, hn, hF, hG⟩ := h.j
  refine ⟨F, d, fun j hj => (hF j hj).1, fun j hm hf => h.apart j (hF j hf).1 hm, fun q => h.nH (hF T q).1, fun w' S' t d' => ?_⟩
  have hs := t.size
  refine h.call (t.mono (fun j hj => (hF j hj).1)) ⟨fun j => NF w F j ∧ j < w'.heap.size, G, sv, E, d'.mono (fun j hj hl => ⟨hj, hl⟩), m.turn t (fun j hg hf => hn j hf hg), ?_, ?_, ?_⟩
  · rintro j ⟨hj | hj, _⟩ hg
    · exact hn j hj hg
    · have := (hG j hg).2; omega
  · rintro j ⟨hj | hj, hl⟩
    · exact ⟨.inl (hF j hj).1, hl⟩
    · exact ⟨.inr hj, hl⟩
  · intro j hg
    exact ⟨.inl (hG j hg).1, by have := (hG j hg).2; omega⟩

set_option maxRecDepth 100000 in
set_option maxHeartbeats 4000000 in
theorem arm_step (w : World) (T D J : Nat) (H M : Nat → Prop) (av : Value) (X : Jn) (S : Dk) (A : List (List Int)) (most first might safe : Nat) (more dn fell : Bool) (h : Tr w T D J H M av X S A most first might safe more dn fell) (N : Int) (bv kv : Value) (hN : N ≤ 9223372036854775807) :
    Calls Tryz.prog 11 #[.pointer (some ⟨T, 0, none⟩), .agg #[.int .i64 3, .int .i64 N, bv, kv]] w fun e' w' => e' = .returned (.bool true) ∧
      Turn (fun j => j = T ∨ H j) w w' ∧ ∃ H', (∀ j, H' j → H j ∨ w.heap.size ≤ j) ∧ Tr w' T D J H' M av X (armS S N) A most first might safe more dn fell := by
  have ta := (Turn.refl (fun _ => False) w).alloc (.cells #[.int .i64 3, .int .i64 N, bv, kv] 36)
  have ko : (w.alloc (.cells #[.int .i64 3, .int .i64 N, bv, kv] 36)).heap[w.heap.size]? = some (.cells #[.int .i64 3, .int .i64 N, bv, kv] 36 (0, 0)) := heap_alloc_new w _
  have g := h.calm ta
  have hnH : ¬ H w.heap.size := fun q => by have := h.hH _ q; omega
  have HSZ := hide ta.size
  go_enter Tryz.func11, Tryz.ntmps11
  have q0 : (w.alloc (.cells #[.int .i64 3, .int .i64 N, bv, kv] 36)).cell? ⟨w.heap.size, 0, none⟩ = some (.int .i64 3) := cell_obj ko 0
  go_upto_region 24 with fail
  clear q0
  generalize w.alloc (.cells #[.int .i64 3, .int .i64 N, bv, kv] 36) = W at *
  generalize hbo : w.heap.size = bo at *
  have Hbo := hide hbo
  clear hbo
  have q1 : W.drew.cell? ⟨bo, 1, none⟩ = some (.int .i64 N) := cell_obj ko 1
  have c0 : W.drew.cell? ⟨T, 0, none⟩ = some (.pointer (some ⟨D, 0, none⟩)) := cell_obj g.obj 0
  obtain ⟨F, d, hFH, hFM, hFT, hfin⟩ := (g.calm (Turn.refl (fun _ => False) W).drew).diskcall
  have hFb : ¬ F bo := fun q => hnH (hFH _ q)
  have ha := Arm_walk _ D F S N hN d
  have Hfin := hide hfin
  have HFH := hide hFH
  clear hfin hFH hFM ko g d
  go_region_held3 (fun u => u.cell? ⟨T, 0, none⟩ = some (.pointer (some ⟨D, 0, none⟩)) ∧ u.cell? ⟨bo, 1, none⟩ = some (.int .i64 N)) (first | exact ⟨c0, q1⟩ | exact ⟨b0, b1⟩ | go_keep)
    (first
    | (go_at_call 13; refine ha.mono ?_; rintro e w2 ⟨rfl, t2, d2⟩; have b0 := t2.cell c0 hFT; have b1 := t2.cell q1 hFb))
  have g2 := unhide Hfin w2 _ t2 (d2.mono (fun j hj _ => .inl hj))
  have HB : Hid (∀ j, (NF W.drew H j ∧ j < w2.heap.size) → H j ∨ w.heap.size ≤ j) := hide (fun j hj => by
    rcases hj.1 with q | q
    · exact .inl q
    · exact .inr (by rw [unhide Hbo]; exact Nat.le_trans (unhide HSZ) q))
  have T2 : Turn (fun j => j = T ∨ H j) w w2 := (ta.mono (fun _ q => q.elim)).then ((Turn.undrew t2).mono (fun j hj => .inr (unhide HFH j hj)))
  clear ha c0 q1 b0 b1 t2 d2
  go_wp2_with fail
  go_ret
  exact ⟨rfl, T2, _, unhide HB, g2⟩
end Go.Proofs.YthikiahhochjmaaGreatDoor
