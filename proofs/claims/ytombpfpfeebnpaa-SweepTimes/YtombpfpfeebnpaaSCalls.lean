/- From, To, Dist and Within of a graph. -/
import Derived.Test.YtombpfpfeebnpaaSStart
namespace Go.Proofs.Ytombpfpfeebnpaa
open Go.RowKit Go.Maps
set_option linter.unusedVariables false
set_option linter.unusedSimpArgs false
set_option maxRecDepth 100000

theorem GraphAt.below {F : Nat → Prop} {w : World} {G N : Nat} {l : List Ar} (h : GraphAt w G F N l) : GraphAt w G (fun j => F j ∧ j < w.heap.size) N l := by
  obtain ⟨oa, os, ia, is, m, k, h1, h2, ⟨S, h3, h3'⟩, h4, ⟨S', h5, h5'⟩, h6, a, b, c, d, e, f⟩ := h.told
  obtain ⟨_, q2⟩ := h2.lt
  obtain ⟨_, q3⟩ := h3.lt
  obtain ⟨_, q4⟩ := h4.lt
  obtain ⟨_, q5⟩ := h5.lt
  obtain ⟨_, _, q6⟩ := h6.lt
  exact ⟨oa, os, ia, is, m, k, h1, h2, ⟨S, h3, h3'⟩, h4, ⟨S', h5, h5'⟩, h6, ⟨a, (Array.getElem?_eq_some_iff.1 h1).1⟩, ⟨b, (Array.getElem?_eq_some_iff.1 q2).1⟩, ⟨c, (Array.getElem?_eq_some_iff.1 q3).1⟩, ⟨d, (Array.getElem?_eq_some_iff.1 q4).1⟩, ⟨e, (Array.getElem?_eq_some_iff.1 q5).1⟩, ⟨f, (Array.getElem?_eq_some_iff.1 q6).1⟩⟩
theorem GraphAt.more {F H : Nat → Prop} {w : World} {G N : Nat} {l : List Ar} (h : GraphAt w G F N l) (hH : ∀ j, F j → H j) : GraphAt w G H N l := by
  obtain ⟨oa, os, ia, is, m, k, h1, h2, h3, h4, h5, h6, a, b, c, d, e, f⟩ := h.told
  exact ⟨oa, os, ia, is, m, k, h1, h2, h3, h4, h5, h6, hH _ a, hH _ b, hH _ c, hH _ d, hH _ e, hH _ f⟩

/-- what a search that has run leaves -/
def Ran (n : Nat) (E : Goes) (v : Int) (go : It → Bool) (L : List Int) (R : List It) : Prop :=
  (0 ≤ v ∧ v < n ∧ ∃ T, Dij n E v L T R E ∧ (∀ y ∈ R, go y = true) ∧ (T = [] ∨ ∃ x, IsMin T x ∧ go x = false)) ∨ (¬ (0 ≤ v ∧ v < n) ∧ L = List.replicate n INF ∧ R = [])

theorem go_out {w : World} {s0 S db n G : Nat} {F MB : Nat → Prop} {l : List Ar} {M : List It → World → Prop} {v : Int} {f : Nat} {caps : Array Value} {go : It → Bool} (hB : BoundedN (n : Int) l)
    (hb : Begun w s0 S db n (.func (.func 46) #[.pointer (some ⟨G, 0, none⟩)] #[]) (.func (.func 47) #[] #[]) (goesF l) v) (hg : GraphAt w G F n l) (hF : ∀ j, F j → j < s0 ∧ ¬ MB j) (hm : M [] w) (hM : MoreOK f caps s0 MB M go) (hs0 : s0 ≤ w.heap.size) (hS : s0 ≤ S) (hdb : s0 ≤ db) (hMB : ∀ j, MB j → j < s0) :
    Calls Try.prog 28 #[.pointer (some ⟨S, 0, none⟩), .func (.func f) #[] caps] w fun e w' => e = .returned (.tuple #[]) ∧ Turn (fun j => s0 ≤ j ∨ MB j) w w' ∧ ∃ L R hv, SrAt w' S (.func (.func 46) #[.pointer (some ⟨G, 0, none⟩)] #[]) (.func (.func 47) #[] #[]) db n hv L ∧ M R w' ∧ Ran n (goesF l) v go L R := by
  rcases hb with ⟨h1, h2, H, L, T, h3, h4, h5⟩ | ⟨h1, h2⟩
  · refine (run_out (L := L) (T := T) (H := H) hB ⟨h3, h4, hg.more hF, hm, h5⟩ hM hs0 hS hdb hMB).mono ?_
    rintro e w' ⟨rfl, t, L', T', R', q1, q2, q3, q4, q5⟩
    exact ⟨rfl, t, L', R', _, q1, q2, .inl ⟨h1, h2, T', q3, q4, q5⟩⟩
  · refine (run_none h2).mono ?_
    rintro e w' ⟨rfl, t⟩
    exact ⟨rfl, t.mono (fun _ q => q.elim), _, [], _, h2.turn t (fun q => q) (fun q => q), hM.turn _ _ _ _ hm t (fun _ q => q.elim), .inr ⟨h1, rfl, rfl⟩⟩
theorem go_in {w : World} {s0 S db n G : Nat} {F MB : Nat → Prop} {l : List Ar} {M : List It → World → Prop} {v : Int} {f : Nat} {caps : Array Value} {go : It → Bool} (hB : BoundedN (n : Int) l)
    (hb : Begun w s0 S db n (.func (.func 21) #[.pointer (some ⟨G, 0, none⟩)] #[]) (.func (.func 32) #[] #[]) (goesB l) v) (hg : GraphAt w G F n l) (hF : ∀ j, F j → j < s0 ∧ ¬ MB j) (hm : M [] w) (hM : MoreOK f caps s0 MB M go) (hs0 : s0 ≤ w.heap.size) (hS : s0 ≤ S) (hdb : s0 ≤ db) (hMB : ∀ j, MB j → j < s0) :
    Calls Try.prog 28 #[.pointer (some ⟨S, 0, none⟩), .func (.func f) #[] caps] w fun e w' => e = .returned (.tuple #[]) ∧ Turn (fun j => s0 ≤ j ∨ MB j) w w' ∧ ∃ L R hv, SrAt w' S (.func (.func 21) #[.pointer (some ⟨G, 0, none⟩)] #[]) (.func (.func 32) #[] #[]) db n hv L ∧ M R w' ∧ Ran n (goesB l) v go L R := by
  rcases hb with ⟨h1, h2, H, L, T, h3, h4, h5⟩ | ⟨h1, h2⟩
  · refine (run_in (L := L) (T := T) (H := H) hB ⟨h3, h4, hg.more hF, hm, h5⟩ hM hs0 hS hdb hMB).mono ?_
    rintro e w' ⟨rfl, t, L', T', R', q1, q2, q3, q4, q5⟩
    exact ⟨rfl, t, L', R', _, q1, q2, .inl ⟨h1, h2, T', q3, q4, q5⟩⟩
  · refine (run_none h2).mono ?_
    rintro e w' ⟨rfl, t⟩
    exact ⟨rfl, t.mono (fun _ q => q.elim), _, [], _, h2.turn t (fun q => q) (fun q => q), hM.turn _ _ _ _ hm t (fun _ q => q.elim), .inr ⟨h1, rfl, rfl⟩⟩
theorem Ran.all {n : Nat} {E : Goes} {v : Int} {L : List Int} {R : List It} (hE : Fair n E) (h : Ran n E v (fun _ => true) L R) : IsDs n E v L := by
  rcases h with ⟨_, _, T, h1, _, rfl | ⟨x, _, h2⟩⟩ | ⟨h1, rfl, rfl⟩
  · exact h1.all hE
  · cases h2
  · exact isDs_none hE h1
theorem Ran.until {n : Nat} {E : Goes} {v to : Int} {L : List Int} {R : List It} (hE : Fair n E) (h : Ran n E v (fun x => decide ((x.1 : Int) ≠ to)) L R) (h0 : 0 ≤ to) (h1 : to < n) : ∃ d, L[to.toNat]? = some d ∧ IsD n E v to d := by
  obtain ⟨t, rfl⟩ : ∃ t : Nat, to = t := ⟨to.toNat, by omega⟩
  rw [Int.toNat_natCast]
  rcases h with ⟨_, _, T, h2, _, rfl | ⟨x, h3, h4⟩⟩ | ⟨h2, rfl, rfl⟩
  · have := h2.all hE
    have hl : t < L.length := by rw [this.1]; omega
    exact ⟨L[t], by simp [hl], this.2 t _ (by simp [hl])⟩
  · have hx : x.1 = t := by
      have h4' : decide ((x.1 : Int) ≠ (t : Int)) = false := h4
      rw [decide_eq_false_iff_not] at h4'; omega
    have := h2.isD_next hE h3.1 h3.2
    have h5 := ((h2.heap x).1 h3.1).1
    rw [hx] at this h5
    exact ⟨x.2, h5, this⟩
  · exact ⟨INF, by rw [List.getElem?_replicate, if_pos (by omega)], isD_none hE h2⟩
theorem Ran.near {n : Nat} {E : Goes} {v most : Int} {L : List Int} {R : List It} (hE : Fair n E) (h : Ran n E v (fun x => decide (x.2 ≤ most)) L R) : Near n E v most R := by
  rcases h with ⟨_, _, T, h2, h3, h4⟩ | ⟨h2, rfl, rfl⟩
  · refine h2.near_stop hE (fun y hy => by simpa using h3 y hy) (fun z hz => ?_)
    rcases h4 with rfl | ⟨x, h5, h6⟩
    · simp at hz
    · have h7 := h5.2 z hz
      unfold bef at h7
      have h6' : decide (x.2 ≤ most) = false := h6
      rw [decide_eq_false_iff_not] at h6'
      omega
  · exact near_none hE h2

set_option maxHeartbeats 4000000 in
theorem along_walk {w : World} {G n : Nat} {F : Nat → Prop} {l : List Ar} (hg : GraphAt w G F n l) (hB : BoundedN (n : Int) l) (v : Int) :
    Calls Try.prog 27 #[.pointer (some ⟨G, 0, none⟩), .int .i64 v] w fun e w' => ∃ S db, e = .returned (.pointer (some ⟨S, 0, none⟩)) ∧ Turn (fun _ => False) w w' ∧ w.heap.size ≤ S ∧ w.heap.size ≤ db ∧ Begun w' w.heap.size S db n (.func (.func 46) #[.pointer (some ⟨G, 0, none⟩)] #[]) (.func (.func 47) #[] #[]) (goesF l) v := by
  have hnd := nodes_ask w G n l hg
  have hst := start_walk (goesF l) w n v (.func 46) (.func 47) #[.pointer (some ⟨G, 0, none⟩)] #[] (by have := hB.2.1; omega)
  clear hg hB
  go_enter Try.func27, Try.ntmps27
  go_wp2_with fail
  refine hnd.mono ?_
  rintro e w1 ⟨rfl, hw⟩
  obtain rfl := hw.symm
  go_wp2_with fail
  refine hst.mono ?_
  rintro e w2 ⟨S, db, rfl, h⟩
  go_wp2_with fail
  go_ret
  exact ⟨S, db, rfl, h⟩
set_option maxHeartbeats 4000000 in
theorem From_ok {w : World} {G n : Nat} {F : Nat → Prop} {l : List Ar} (hg : GraphAt w G F n l) (hB : BoundedN (n : Int) l) (v : Int) :
    Calls Try.prog 12 #[.pointer (some ⟨G, 0, none⟩), .int .i64 v] w fun e w' => ∃ b L, e = .returned (.slice (some ⟨b, 0, none⟩) n n) ∧ ND w' b n L ∧ w.heap.size ≤ b ∧ IsDs n (goesF l) v L ∧ Turn (fun _ => False) w w' := by
  have hal := along_walk hg hB v
  have HG := hide hg
  have HB := hide hB
  clear hg hB
  go_enter Try.func12, Try.ntmps12
  go_wp2_with fail
  refine hal.mono ?_
  rintro e w1 ⟨S, db, rfl, t1, hS, hdb, hb⟩
  have hrun := go_out (unhide HB) hb (((unhide HG).below).quiet t1) (fun j q => ⟨q.2, fun r => r⟩) trivial (more_all w.heap.size) t1.size hS hdb (fun _ q => q.elim)
  clear hal hb
  go_wp2_with fail
  refine hrun.mono ?_
  rintro e w2 ⟨rfl, t2, L, R, hv, h2, _, h3⟩
  have hL := hide (h3.all (fairF (unhide HB)))
  have c2 : w2.cell? ⟨S, 2, none⟩ = some (.slice (some ⟨db, 0, none⟩) n n) := cell_obj h2.1 2
  have hN := h2.2
  have T2 : Turn (fun _ => False) w w2 := ((t1.mono (fun _ q => q.elim)).then t2).fresh (fun j q => q.elim (fun q => q) (fun q => q.elim))
  clear h3 hrun t2 t1 h2
  go_wp2_with fail
  go_ret
  exact ⟨db, L, rfl, hN, hdb, unhide hL, T2⟩
set_option maxHeartbeats 4000000 in
theorem To_ok {w : World} {G n : Nat} {F : Nat → Prop} {l : List Ar} (hg : GraphAt w G F n l) (hB : BoundedN (n : Int) l) (v : Int) :
    Calls Try.prog 14 #[.pointer (some ⟨G, 0, none⟩), .int .i64 v] w fun e w' => ∃ b L, e = .returned (.slice (some ⟨b, 0, none⟩) n n) ∧ ND w' b n L ∧ w.heap.size ≤ b ∧ IsDs n (goesB l) v L ∧ Turn (fun _ => False) w w' := by
  have hnd := nodes_ask w G n l hg
  have hst := start_walk (goesB l) w n v (.func 21) (.func 32) #[.pointer (some ⟨G, 0, none⟩)] #[] (by have := hB.2.1; omega)
  have HG := hide hg
  have HB := hide hB
  clear hg hB
  go_enter Try.func14, Try.ntmps14
  go_wp2_with fail
  refine hnd.mono ?_
  rintro e w0 ⟨rfl, hw⟩
  obtain rfl := hw.symm
  go_wp2_with fail
  refine hst.mono ?_
  rintro e w1 ⟨S, db, rfl, t1, hS, hdb, hb⟩
  have hrun := go_in (unhide HB) hb (((unhide HG).below).quiet t1) (fun j q => ⟨q.2, fun r => r⟩) trivial (more_all w.heap.size) t1.size hS hdb (fun _ q => q.elim)
  clear hst hb hnd
  go_wp2_with fail
  refine hrun.mono ?_
  rintro e w2 ⟨rfl, t2, L, R, hv, h2, _, h3⟩
  have hL := hide (h3.all (fairB (unhide HB)))
  have c2 : w2.cell? ⟨S, 2, none⟩ = some (.slice (some ⟨db, 0, none⟩) n n) := cell_obj h2.1 2
  have hN := h2.2
  have T2 : Turn (fun _ => False) w w2 := ((t1.mono (fun _ q => q.elim)).then t2).fresh (fun j q => q.elim (fun q => q) (fun q => q.elim))
  clear h3 hrun t2 t1 h2
  go_wp2_with fail
  go_ret
  exact ⟨db, L, rfl, hN, hdb, unhide hL, T2⟩
end Go.Proofs.Ytombpfpfeebnpaa
