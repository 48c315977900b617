/- Dist and Within of a graph; a nil graph. -/
import Derived.Test.YtombpfpfeebnpaaSCalls
namespace Go.Proofs.Ytombpfpfeebnpaa
open Go.RowKit Go.Maps
set_option linter.unusedVariables false
set_option linter.unusedSimpArgs false
set_option maxRecDepth 100000

theorem isD_out {n : Nat} {E : Goes} {s u : Int} (hE : Fair n E) (hu : ¬ (0 ≤ u ∧ u < n)) : IsD n E s u INF :=
  ⟨by decide, Int.le_refl _, fun h => absurd h (by decide), fun y h => absurd ⟨(h.nonneg hE).2.1, (h.nonneg hE).2.2.1⟩ hu⟩

set_option maxHeartbeats 8000000 in
theorem Within_ok {w : World} {G n : Nat} {F : Nat → Prop} {l : List Ar} (hg : GraphAt w G F n l) (hB : BoundedN (n : Int) l) (v most : Int) :
    Calls Try.prog 19 #[.pointer (some ⟨G, 0, none⟩), .int .i64 v, .int .i64 most] w fun e w' => ∃ x R, e = .returned x ∧ DL w' x R ∧ (∀ j, x.ownBlock = some j → w.heap.size ≤ j) ∧ Near n (goesF l) v most R ∧ Turn (fun _ => False) w w' := by
  have ta := (Turn.refl (fun _ => False) w).alloc (.cells #[.int .i64 most] 2)
  have tb := ta.alloc (.cells #[.slice none 0 0] 39)
  have tab := (Turn.refl (fun _ => False) (w.alloc (.cells #[.int .i64 most] 2))).alloc (.cells #[.slice none 0 0] 39)
  have hm := tab.same (heap_alloc_new w (.cells #[.int .i64 most] 2)) (fun h => h)
  have hn := heap_alloc_new (w.alloc (.cells #[.int .i64 most] 2)) (.cells #[.slice none 0 0] 39)
  rw [alloc_size] at hn
  have hgW := hg.quiet tb
  have hal := along_walk hgW hB v
  have HG := hide (hg.below.quiet tb)
  have HB := hide hB
  clear hg hB hgW ta tab
  go_enter Try.func19, Try.ntmps19
  go_wp2_with fail
  generalize (w.alloc (.cells #[.int .i64 most] 2)).alloc (.cells #[.slice none 0 0] 39) = W at *
  obtain ⟨nb, hnb⟩ : ∃ nb, nb = w.heap.size + 1 := ⟨_, rfl⟩
  rw [← hnb] at hn ⊢
  obtain ⟨mb, hmb⟩ : ∃ mb, mb = w.heap.size := ⟨_, rfl⟩
  rw [← hmb] at hm ⊢
  have Hnb := hide (And.intro hnb hmb)
  clear hnb hmb
  refine hal.mono ?_
  rintro e w1 ⟨S, db, rfl, t1, hS, hdb, hb⟩
  have hn1 := t1.same hn (fun h => h)
  have hm1 := t1.same hm (fun h => h)
  have hnW : nb < W.heap.size := (Array.getElem?_eq_some_iff.1 hn).1
  have hmW : mb < W.heap.size := (Array.getElem?_eq_some_iff.1 hm).1
  have hNM : NM mb nb W.heap.size most [] w1 := ⟨hm1, _, hn1, ⟨rfl, .inl ⟨rfl, rfl⟩⟩, fun j hj => by simp [Value.ownBlock] at hj⟩
  have hrun := go_out (unhide HB) hb ((unhide HG).quiet t1) (fun j q => ⟨by have := q.2; have := (unhide Hnb).1; omega, fun r => by have := q.2; have := (unhide Hnb).1; omega⟩) hNM (more_near W.heap.size mb nb most hmW hnW) t1.size hS hdb (fun j q => by rw [q]; exact hnW)
  clear hal hb hNM hn1 hm1 hn hm
  go_wp2_with fail
  refine hrun.mono ?_
  rintro e w2 ⟨rfl, t2, L, R, hv, h2, ⟨_, x, hx, hD, hown⟩, h3⟩
  have hR := hide (h3.near (fairF (unhide HB)))
  have n0 : w2.cell? ⟨nb, 0, none⟩ = some x := cell_obj hx 0
  have T2 : Turn (fun _ => False) w w2 := (((tb.then t1).mono (fun _ q => q.elim)).then t2).fresh (fun j q => by
    have h := unhide Hnb; have := tb.size
    rcases q with q | q <;> omega)
  have hown2 : Hid (∀ j, x.ownBlock = some j → w.heap.size ≤ j) := hide (fun j hj => Nat.le_trans tb.size (hown j hj))
  clear h3 hrun t2 t1 h2 hx hown
  go_wp2_with fail
  go_ret
  exact ⟨x, R, rfl, hD, unhide hown2, unhide hR, T2⟩

set_option maxHeartbeats 16000000 in
theorem Dist_ok {w : World} {G n : Nat} {F : Nat → Prop} {l : List Ar} (hg : GraphAt w G F n l) (hB : BoundedN (n : Int) l) (a b : Int) (ha : I32 a) (hb : I32 b) :
    Calls Try.prog 16 #[.pointer (some ⟨G, 0, none⟩), .agg #[.int .i32 a, .int .i32 b]] w fun e w' => ∃ d, e = .returned (.int .i64 d) ∧ IsD n (goesF l) a b d ∧ Turn (fun _ => False) w w' := by
  have hra : -2147483648 ≤ a ∧ a ≤ 2147483647 := by unfold I32 at ha; simp [Lit.wf, IntKind.min, IntKind.max, IntKind.signed, IntKind.bits] at ha; omega
  have hrb : -2147483648 ≤ b ∧ b ≤ 2147483647 := by unfold I32 at hb; simp [Lit.wf, IntKind.min, IntKind.max, IntKind.signed, IntKind.bits] at hb; omega
  have hwa : IntKind.i64.wrap a = a := by rw [IntKind.wrap_i64]; omega
  have hwb : IntKind.i64.wrap b = b := by rw [IntKind.wrap_i64]; omega
  have ta := (Turn.refl (fun _ => False) w).alloc (.cells #[.int .i32 a, .int .i32 b] 26)
  have kb := heap_alloc_new w (.cells #[.int .i32 a, .int .i32 b] 26)
  have b0 : (w.alloc (.cells #[.int .i32 a, .int .i32 b] 26)).cell? ⟨w.heap.size, 0, none⟩ = some (.int .i32 a) := cell_obj kb 0
  have b1 : (w.alloc (.cells #[.int .i32 a, .int .i32 b] 26)).cell? ⟨w.heap.size, 1, none⟩ = some (.int .i32 b) := cell_obj kb 1
  have HG := hide hg
  have HB := hide hB
  clear hg hB ha hb hra hrb kb
  go_enter Try.func16, Try.ntmps16
  go_wp2_with fail
  generalize w.alloc (.cells #[.int .i32 a, .int .i32 b] 26) = W at *
  generalize w.heap.size = bx at *
  have tt := (Turn.refl (fun _ => False) W).alloc (.cells #[.int .i64 0] 3)
  have kt := heap_alloc_new W (.cells #[.int .i64 0] 3)
  have d0 := tt.cell b0 (fun h => h)
  have d1 := tt.cell b1 (fun h => h)
  have c0 : (W.alloc (.cells #[.int .i64 0] 3)).cell? ⟨W.heap.size, 0, none⟩ = some (.int .i64 0) := cell_obj kt 0
  have z0 : (W.alloc (.cells #[.int .i64 0] 3)).frozen? ⟨W.heap.size, 0, none⟩ = false := frozen_obj kt 0
  go_region
  have tW : Turn (fun _ => False) w (W.alloc (.cells #[.int .i64 b] 3)).drew := (ta.alloc _).drew
  have kt2 : (W.alloc (.cells #[.int .i64 b] 3)).drew.heap[W.heap.size]? = some (.cells #[.int .i64 b] 3 (0, 0)) := heap_alloc_new W (.cells #[.int .i64 b] 3)
  clear tt kt d0 d1 c0 z0 b0 b1 ta
  generalize (W.alloc (.cells #[.int .i64 b] 3)).drew = W2 at *
  generalize W.heap.size = tb at *
  have hg2 := (unhide HG).quiet tW
  have s0 : W2.cell? ⟨tb, 0, none⟩ = some (.int .i64 b) := cell_obj kt2 0
  have htb : tb < W2.heap.size := (Array.getElem?_eq_some_iff.1 kt2).1
  have hnd := nodes_ask W2.drew G n l (hg2.turn (Turn.refl (fun _ => False) W2).drew (fun _ _ h => h))
  have hno := snode_walk W2.drew b (n : Int)
  have td := (Turn.refl (fun _ => False) W2).drew
  have kt3 : W2.drew.heap[tb]? = some (.cells #[.int .i64 b] 3 (0, 0)) := kt2
  have hal := along_walk (hg2.turn td (fun _ _ h => h)) (unhide HB) a
  have hgl := hide ((hg2.below).turn td (fun _ _ h => h))
  by_cases hb : 0 ≤ b ∧ b < n
  · rw [decide_eq_true hb] at hno
    obtain ⟨t, rfl⟩ : ∃ t : Nat, b = t := ⟨b.toNat, by omega⟩
    have hb1 : t < n := by omega
    have Hb := hide hb
    clear hb
    go_wp2_with fail
    go_region_held3 (fun u => u.cell? ⟨tb, 0, none⟩ = some (.int .i64 (t : Int))) (first | exact s0 | go_keep)
      (first
      | (go_at_call 31; refine hnd.mono ?_; rintro e w' ⟨rfl, hw'⟩; obtain rfl := hw'.symm)
      | (go_at_call 33; refine hno.mono ?_; rintro e w' ⟨rfl, hw'⟩; obtain rfl := hw'.symm))
    rotate_left
    all_goals try exact absurd rfl (by assumption)
    go_wp2_with fail
    refine hal.mono ?_
    rintro e w3 ⟨S, db, rfl, t3, hS, hdb, hbg⟩
    have kt4 := t3.same kt3 (fun h => h)
    have hrun := go_out (unhide HB) hbg ((unhide hgl).quiet t3) (fun j q => ⟨q.2, fun r => r⟩) kt4 (more_until W2.drew.heap.size tb t htb) t3.size hS hdb (fun j q => q.elim)
    clear hal hbg hnd hno kt2 kt3 s0
    go_wp2_with fail
    refine hrun.mono ?_
    rintro e w4 ⟨rfl, t4, L, R, hv, h2, kt5, h3⟩
    obtain ⟨d, hd, hD⟩ := h3.until (fairF (unhide HB)) (unhide Hb).1 (unhide Hb).2
    rw [Int.toNat_natCast] at hd
    have T4 : Turn (fun _ => False) w w4 := ((((tW.then td).then t3).mono (fun _ q => q.elim)).then t4).fresh (fun j q => by
      have := tW.size
      rcases q with q | q
      · exact Nat.le_trans this q
      · exact q.elim)
    have c2 : w4.cell? ⟨S, 2, none⟩ = some (.slice (some ⟨db, 0, none⟩) n n) := cell_obj h2.1 2
    have ct : w4.cell? ⟨tb, 0, none⟩ = some (.int .i64 (t : Int)) := cell_obj kt5 0
    have cd := (h2.2.at hd).1
    have hti : (t : Int) < (n : Int) := by omega
    have ht0 : (0 : Int) ≤ (t : Int) := by omega
    have HD := hide hD
    clear h3 hrun t4 t3 h2 kt4 kt5 hD tW td hgl
    go_wp2_with fail
    go_region
    go_wp2
    go_ret
    exact ⟨d, rfl, unhide HD, T4.drew⟩
  · rw [decide_eq_false hb] at hno
    have HD := hide (isD_out (s := a) (fairF (unhide HB)) hb)
    clear hb hal hgl
    go_wp2_with fail
    go_region_held3 (fun u => u.cell? ⟨tb, 0, none⟩ = some (.int .i64 b)) (first | exact s0 | go_keep)
      (first
      | (go_at_call 31; refine hnd.mono ?_; rintro e w' ⟨rfl, hw'⟩; obtain rfl := hw'.symm)
      | (go_at_call 33; refine hno.mono ?_; rintro e w' ⟨rfl, hw'⟩; obtain rfl := hw'.symm))
    rotate_left
    all_goals try exact absurd rfl (by assumption)
    go_wp2_with fail
    go_ret
    exact ⟨INF, rfl, unhide HD, tW.then td⟩

/- a nil graph -/
set_option maxHeartbeats 4000000 in
theorem along_nil (w : World) (v : Int) :
    Calls Try.prog 27 #[.pointer none, .int .i64 v] w fun e w' => ∃ S db, e = .returned (.pointer (some ⟨S, 0, none⟩)) ∧ Turn (fun _ => False) w w' ∧ Begun w' w.heap.size S db 0 (.func (.func 46) #[.pointer none] #[]) (.func (.func 47) #[] #[]) (fun _ _ _ => False) v := by
  have hst := start_walk (fun _ _ _ => False) w 0 v (.func 46) (.func 47) #[.pointer none] #[] (by omega)
  go_enter Try.func27, Try.ntmps27
  go_wp2_with fail
  refine (nodes_nil w).mono ?_
  rintro e w1 ⟨rfl, hw⟩
  obtain rfl := hw.symm
  go_wp2_with fail
  refine hst.mono ?_
  rintro e w2 ⟨S, db, rfl, t, _, _, h⟩
  go_wp2_with fail
  go_ret
  exact ⟨S, db, rfl, t, h⟩
theorem nd_len {w : World} {b : Nat} {L : List Int} {n : Nat} (h : ND w b n L) : L.length = n := h.1
set_option maxHeartbeats 4000000 in
theorem From_nil (w : World) (v : Int) : Calls Try.prog 12 #[.pointer none, .int .i64 v] w fun e w' => ∃ b, e = .returned (.slice (some ⟨b, 0, none⟩) 0 0) ∧ Turn (fun _ => False) w w' := by
  have hal := along_nil w v
  have hst := start_walk (fun _ _ _ => False) w 0 v (.func 21) (.func 32) #[.pointer none] #[] (by omega)
  go_enter Try.func12, Try.ntmps12
  go_wp2_with fail
  first
  | refine hal.mono ?_
    rintro e w1 ⟨S, db, rfl, t1, hb⟩
  | refine (nodes_nil w).mono ?_
    rintro e w' ⟨rfl, hw⟩
    obtain rfl := hw.symm
    go_wp2_with fail
    refine hst.mono ?_
    rintro e w1 ⟨S, db, rfl, t1, _, _, hb⟩
  rcases hb with ⟨h0, h1, _⟩ | ⟨_, hb⟩
  · exact absurd h1 (by omega)
  have hrun := run_none (f := 29) (caps := #[]) hb
  have c0 := cell_obj hb.1 2
  simp only [List.getElem?_toArray, List.getElem?_cons_zero, List.getElem?_cons_succ] at c0
  clear hal hst hb
  go_wp2_with fail
  refine hrun.mono ?_
  rintro e w2 ⟨rfl, t2⟩
  have c2 := t2.cell c0 (fun h => h)
  clear c0 hrun
  go_wp2_with fail
  go_ret
  exact ⟨db, rfl, t1.then t2⟩
set_option maxHeartbeats 4000000 in
theorem To_nil (w : World) (v : Int) : Calls Try.prog 14 #[.pointer none, .int .i64 v] w fun e w' => ∃ b, e = .returned (.slice (some ⟨b, 0, none⟩) 0 0) ∧ Turn (fun _ => False) w w' := by
  have hal := along_nil w v
  have hst := start_walk (fun _ _ _ => False) w 0 v (.func 21) (.func 32) #[.pointer none] #[] (by omega)
  go_enter Try.func14, Try.ntmps14
  go_wp2_with fail
  first
  | refine hal.mono ?_
    rintro e w1 ⟨S, db, rfl, t1, hb⟩
  | refine (nodes_nil w).mono ?_
    rintro e w' ⟨rfl, hw⟩
    obtain rfl := hw.symm
    go_wp2_with fail
    refine hst.mono ?_
    rintro e w1 ⟨S, db, rfl, t1, _, _, hb⟩
  rcases hb with ⟨h0, h1, _⟩ | ⟨_, hb⟩
  · exact absurd h1 (by omega)
  have hrun := run_none (f := 29) (caps := #[]) hb
  have c0 := cell_obj hb.1 2
  simp only [List.getElem?_toArray, List.getElem?_cons_zero, List.getElem?_cons_succ] at c0
  clear hal hst hb
  go_wp2_with fail
  refine hrun.mono ?_
  rintro e w2 ⟨rfl, t2⟩
  have c2 := t2.cell c0 (fun h => h)
  clear c0 hrun
  go_wp2_with fail
  go_ret
  exact ⟨db, rfl, t1.then t2⟩
set_option maxHeartbeats 4000000 in
theorem swithin_nil (w : World) (v most : Int) : Calls Try.prog 19 #[.pointer none, .int .i64 v, .int .i64 most] w fun e w' => e = .returned (.slice none 0 0) ∧ Turn (fun _ => False) w w' := by
  have tb := ((Turn.refl (fun _ => False) w).alloc (.cells #[.int .i64 most] 2)).alloc (.cells #[.slice none 0 0] 39)
  have hn := heap_alloc_new (w.alloc (.cells #[.int .i64 most] 2)) (.cells #[.slice none 0 0] 39)
  rw [alloc_size] at hn
  have hal := along_nil ((w.alloc (.cells #[.int .i64 most] 2)).alloc (.cells #[.slice none 0 0] 39)) v
  go_enter Try.func19, Try.ntmps19
  go_wp2_with fail
  generalize (w.alloc (.cells #[.int .i64 most] 2)).alloc (.cells #[.slice none 0 0] 39) = W at *
  generalize w.heap.size + 1 = nb at *
  refine hal.mono ?_
  rintro e w1 ⟨S, db, rfl, t1, hb⟩
  rcases hb with ⟨h0, h1, _⟩ | ⟨_, hb⟩
  · exact absurd h1 (by omega)
  have hrun := run_none (f := 37) (caps := #[.pointer (some ⟨w.heap.size, 0, none⟩), .pointer (some ⟨nb, 0, none⟩)]) hb
  have hn1 := t1.same hn (fun h => h)
  clear hal hb hn
  go_wp2_with fail
  refine hrun.mono ?_
  rintro e w2 ⟨rfl, t2⟩
  have n0 : w2.cell? ⟨nb, 0, none⟩ = some (.slice none 0 0) := cell_obj (t2.same hn1 (fun h => h)) 0
  clear hrun hn1
  go_wp2_with fail
  go_ret
  exact ⟨rfl, (tb.then t1).then t2⟩
set_option maxHeartbeats 4000000 in
theorem sdist_nil (w : World) (a b : Int) (ha : I32 a) (hb : I32 b) : Calls Try.prog 16 #[.pointer none, .agg #[.int .i32 a, .int .i32 b]] w fun e w' => e = .returned (.int .i64 INF) ∧ Turn (fun _ => False) w w' := by
  have hra : -2147483648 ≤ a ∧ a ≤ 2147483647 := by unfold I32 at ha; simp [Lit.wf, IntKind.min, IntKind.max, IntKind.signed, IntKind.bits] at ha; omega
  have hrb : -2147483648 ≤ b ∧ b ≤ 2147483647 := by unfold I32 at hb; simp [Lit.wf, IntKind.min, IntKind.max, IntKind.signed, IntKind.bits] at hb; omega
  have hwa : IntKind.i64.wrap a = a := by rw [IntKind.wrap_i64]; omega
  have hwb : IntKind.i64.wrap b = b := by rw [IntKind.wrap_i64]; omega
  have ta := (Turn.refl (fun _ => False) w).alloc (.cells #[.int .i32 a, .int .i32 b] 26)
  have kb := heap_alloc_new w (.cells #[.int .i32 a, .int .i32 b] 26)
  have b0 : (w.alloc (.cells #[.int .i32 a, .int .i32 b] 26)).cell? ⟨w.heap.size, 0, none⟩ = some (.int .i32 a) := cell_obj kb 0
  have b1 : (w.alloc (.cells #[.int .i32 a, .int .i32 b] 26)).cell? ⟨w.heap.size, 1, none⟩ = some (.int .i32 b) := cell_obj kb 1
  clear ha hb hra hrb kb
  go_enter Try.func16, Try.ntmps16
  go_wp2_with fail
  generalize w.alloc (.cells #[.int .i32 a, .int .i32 b] 26) = W at *
  generalize w.heap.size = bx at *
  have tt := (Turn.refl (fun _ => False) W).alloc (.cells #[.int .i64 0] 3)
  have kt := heap_alloc_new W (.cells #[.int .i64 0] 3)
  have d0 := tt.cell b0 (fun h => h)
  have d1 := tt.cell b1 (fun h => h)
  have c0 : (W.alloc (.cells #[.int .i64 0] 3)).cell? ⟨W.heap.size, 0, none⟩ = some (.int .i64 0) := cell_obj kt 0
  have z0 : (W.alloc (.cells #[.int .i64 0] 3)).frozen? ⟨W.heap.size, 0, none⟩ = false := frozen_obj kt 0
  go_region
  have tW : Turn (fun _ => False) w (W.alloc (.cells #[.int .i64 b] 3)).drew := (ta.alloc _).drew
  have kt2 : (W.alloc (.cells #[.int .i64 b] 3)).drew.heap[W.heap.size]? = some (.cells #[.int .i64 b] 3 (0, 0)) := heap_alloc_new W (.cells #[.int .i64 b] 3)
  clear tt kt d0 d1 c0 z0 b0 b1 ta
  generalize (W.alloc (.cells #[.int .i64 b] 3)).drew = W2 at *
  generalize W.heap.size = tb at *
  have s0 : W2.cell? ⟨tb, 0, none⟩ = some (.int .i64 b) := cell_obj kt2 0
  have hnd := nodes_nil W2.drew
  have hno := snode_walk W2.drew b 0
  rw [decide_eq_false (by omega)] at hno
  go_wp2_with fail
  go_region_held3 (fun u => u.cell? ⟨tb, 0, none⟩ = some (.int .i64 b)) (first | exact s0 | go_keep)
    (first
    | (go_at_call 31; refine hnd.mono ?_; rintro e w' ⟨rfl, hw'⟩; obtain rfl := hw'.symm)
    | (go_at_call 33; refine hno.mono ?_; rintro e w' ⟨rfl, hw'⟩; obtain rfl := hw'.symm))
  rotate_left
  all_goals try exact absurd rfl (by assumption)
  go_wp2_with fail
  go_ret
  exact ⟨rfl, tW.drew⟩
end Go.Proofs.Ytombpfpfeebnpaa
