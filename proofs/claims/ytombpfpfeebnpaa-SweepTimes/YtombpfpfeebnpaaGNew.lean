/- A graph made of a network. -/
import Derived.Test.YtombpfpfeebnpaaGMap
import Derived.Test.YtombpfpfeebnpaaGRise
import Derived.Test.YtombpfpfeebnpaaGAwake
import Derived.Deep.RegionHeld3
namespace Go.Proofs.Ytombpfpfeebnpaa
open Go.RowKit Go.Maps
set_option linter.unusedVariables false
set_option linter.unusedSimpArgs false
set_option maxRecDepth 100000

theorem flt_gat (ke : Ar → Int) (l : List Ar) {v : Nat} : ∀ n, v < n → flt ke (gat ke l n) v = flt ke l v
  | 0, h => by omega
  | n + 1, h => by
    rw [gat_succ]
    unfold flt
    rw [List.filter_append]
    by_cases e : v = n
    · subst e
      have h1 : (gat ke l v).filter (fun a => decide (ke a = (v : Int))) = [] := by
        rw [List.filter_eq_nil_iff]
        intro a ha
        obtain ⟨_, u, hu, hk⟩ := gat_mem.1 ha
        simp only [decide_eq_true_eq]; omega
      have h2 : (l.filter (fun a => decide (ke a = (v : Int)))).filter (fun a => decide (ke a = (v : Int))) = l.filter (fun a => decide (ke a = (v : Int))) := by
        rw [List.filter_filter]; simp
      rw [h1, h2, List.nil_append]
    · have h2 : (l.filter (fun a => decide (ke a = (n : Int)))).filter (fun a => decide (ke a = (v : Int))) = [] := by
        rw [List.filter_eq_nil_iff]
        intro a ha
        rw [List.mem_filter, decide_eq_true_eq] at ha
        simp only [decide_eq_true_eq]; omega
      rw [h2, List.append_nil]
      exact flt_gat ke l n (by omega)
/-- the arcs by both ends -/
def both (l : List Ar) (n : Nat) : List Ar := gat keF (gat keT l n) n
theorem ok_keys {n : Nat} {l : List Ar} (h : BoundedN (n : Int) l) : (∀ a ∈ l, 0 ≤ keT a ∧ keT a < (n : Int)) ∧ ∀ a ∈ l, 0 ≤ keF a ∧ keF a < (n : Int) := by
  obtain ⟨_, _, _, h⟩ := h
  refine ⟨fun a ha => ?_, fun a ha => ?_⟩
  · have := h a ha; unfold okA at this; unfold keT; omega
  · have := h a ha; unfold okA at this; unfold keF; omega
theorem mid_keys {n : Nat} {l : List Ar} (h : BoundedN (n : Int) l) : ∀ a ∈ gat keT l n, 0 ≤ keF a ∧ keF a < (n : Int) := fun a ha => (ok_keys h).2 a (gat_mem.1 ha).1
theorem both_perm {n : Nat} {l : List Ar} (h : BoundedN (n : Int) l) : (both l n).Perm l := (gat_perm keF _ n (mid_keys h)).trans (gat_perm keT l n (ok_keys h).1)
theorem both_sorted (l : List Ar) (n : Nat) : (both l n).Pairwise leA := by
  have h0 : l.Pairwise (fun _ _ => True) := List.pairwise_iff_getElem.2 (fun _ _ _ _ _ => trivial)
  have h1 := (gat_pairwise keT l h0 n).imp (S := fun a b => keT a ≤ keT b) (fun {a b} h => by omega)
  refine (gat_pairwise keF _ h1 n).imp (fun {a b} h => ?_)
  unfold leA ltA
  unfold keF keT at h
  omega
theorem both_lt {n : Nat} {l : List Ar} (h : BoundedN (n : Int) l) : (both l n).Pairwise ltA ↔ Dist l :=
  ⟨fun hp => (dist_perm (both_perm h)).1 (lt_dist hp), fun hd => sorted_dist (both_sorted l n) ((dist_perm (both_perm h)).2 hd)⟩
theorem both_sort {n : Nat} {l : List Ar} (h : BoundedN (n : Int) l) (hd : Dist l) : both l n = sortA l :=
  lt_unique ((both_perm h).trans (perm_sort l).symm) ((both_lt h).2 hd) (sort_dist hd)
theorem both_len {n : Nat} {l : List Ar} (h : BoundedN (n : Int) l) : (both l n).length = l.length := (both_perm h).length_eq
theorem both_keys {n : Nat} {l : List Ar} (h : BoundedN (n : Int) l) : ∀ a ∈ both l n, 0 ≤ keT a ∧ keT a < (n : Int) := fun a ha => (ok_keys h).1 a ((both_perm h).mem_iff.1 ha)

/-- a graph in memory, of n nodes and these arcs; its blocks are of F -/
structure GraphAt (w : World) (G : Nat) (F : Nat → Prop) (n : Nat) (l : List Ar) : Prop where
  told : ∃ oa os ia is m k, w.heap[G]? = some (.cells #[.int .i64 (n : Int), .slice (some ⟨oa, 0, none⟩) l.length l.length, .slice (some ⟨os, 0, none⟩) (n + 1) (n + 1), .slice (some ⟨ia, 0, none⟩) l.length l.length, .slice (some ⟨is, 0, none⟩) (n + 1) (n + 1), .map (some m)] 79 (0, 0)) ∧
    OAn w oa l.length (both l n) ∧ (∃ S, OIn w os (n + 1) S ∧ Starts keF (gat keT l n) n S) ∧ OAn w ia l.length (gat keT (both l n) n) ∧ (∃ S, OIn w is (n + 1) S ∧ Starts keT (both l n) n S) ∧ WMap w m k l ∧ F G ∧ F oa ∧ F os ∧ F ia ∧ F is ∧ F m
theorem GraphAt.turn {F H : Nat → Prop} {w w' : World} {G n : Nat} {l : List Ar} (h : GraphAt w G F n l) (t : Turn H w w') (hn : ∀ j, F j → ¬ H j) : GraphAt w' G F n l := by
  obtain ⟨oa, os, ia, is, m, k, h1, h2, ⟨S, h3, h3'⟩, h4, ⟨S', h5, h5'⟩, h6, a, b, c, d, e, f⟩ := h.told
  exact ⟨oa, os, ia, is, m, k, t.same h1 (hn _ a), h2.turn t (hn _ b), ⟨S, h3.turn t (hn _ c), h3'⟩, h4.turn t (hn _ d), ⟨S', h5.turn t (hn _ e), h5'⟩, h6.turn t (hn _ f), a, b, c, d, e, f⟩
theorem GraphAt.quiet {F : Nat → Prop} {w w' : World} {G n : Nat} {l : List Ar} (h : GraphAt w G F n l) (t : Turn (fun _ => False) w w') : GraphAt w' G F n l := h.turn t (fun _ _ h => h)

set_option maxHeartbeats 8000000 in
theorem new_bad (B : Nat → Prop) (w : World) (n : Int) (v : Value) (l : List Ar) (hr : AR B w v l) (hbad : ¬ MayA n l) :
    Calls Try.prog 24 #[.agg #[.int .i64 n, v]] w fun e w' => e = .returned (.tuple #[.pointer none, .int .i64 1]) ∧ Turn (fun _ => False) w w' := by
  obtain ⟨a, c, rfl⟩ := hr.slice
  have T0 := (Turn.refl (fun _ => False) w).alloc (.cells #[.int .i64 n, .slice a l.length c] 24)
  have hR := hr.quiet T0
  have hb := heap_alloc_new w (.cells #[.int .i64 n, .slice a l.length c] 24)
  have Hb := bounded_walk B _ n _ l hR
  by_cases h1 : BoundedN n l
  · rw [decide_eq_true h1] at Hb
    obtain ⟨N, rfl⟩ : ∃ N : Nat, n = N := ⟨n.toNat, by have := h1.1; omega⟩
    have hN := h1.2.1
    have hL := h1.2.2.1
    have Hg1 := fun u (t : Turn (fun _ => False) _ u) => gather_to B u _ l N (hR.quiet t) (by omega) hL (ok_keys h1).1
    have hd : decide ((both l N).Pairwise ltA) = false := decide_eq_false (fun h => hbad ⟨h1, (both_lt h1).1 h⟩)
    have hml : (gat keT l N).length = l.length := gat_total keT l N (ok_keys h1).1
    have HB := hide h1
    clear hbad hr hR h1
    go_enter Try.func24, Try.ntmps24
    go_wp2_with fail
    generalize w.alloc (.cells #[.int .i64 (N : Int), .slice a l.length c] 24) = W at *
    generalize w.heap.size = b at *
    refine Hb.mono ?_
    rintro e w1 ⟨rfl, t1⟩
    have hb1 := t1.same hb (fun h => h)
    have T1 := T0.then t1
    have f0 : w1.cell? ⟨b, 0, none⟩ = some (.int .i64 (N : Int)) := cell_obj hb1 0
    have f1 : w1.cell? ⟨b, 1, none⟩ = some (.slice a l.length c) := cell_obj hb1 1
    have Hg := Hg1 _ t1
    clear Hb Hg1 hb t1 T0
    go_wp2_with fail
    refine Hg.mono ?_
    rintro e w2 ⟨ga, gs, rfl, G2, t2, _, _⟩
    have tX := (Turn.refl (fun _ => False) w2).alloc (.cells #[.slice (some ⟨ga, 0, none⟩) l.length l.length, .slice (some ⟨gs, 0, none⟩) (N + 1) (N + 1)] 76)
    have lb := heap_alloc_new w2 (.cells #[.slice (some ⟨ga, 0, none⟩) l.length l.length, .slice (some ⟨gs, 0, none⟩) (N + 1) (N + 1)] 76)
    have G3 := G2.turn tX (fun h => h) (fun h => h)
    have hb3 := tX.same (t2.same hb1 (fun h => h)) (fun h => h)
    have T3 := (T1.then t2).then tX
    have hA3 := G3.arcs.2.ar
    have Hg := gather_from _ _ _ (gat keT l N) N hA3 (by omega) (by omega) (mid_keys (unhide HB))
    rw [hml] at Hg
    have k0 : (w2.alloc (.cells #[.slice (some ⟨ga, 0, none⟩) l.length l.length, .slice (some ⟨gs, 0, none⟩) (N + 1) (N + 1)] 76)).cell? ⟨b, 0, none⟩ = some (.int .i64 (N : Int)) := cell_obj hb3 0
    have hbw : b < w2.heap.size := (Array.getElem?_eq_some_iff.1 (t2.same hb1 (fun h => h))).1
    clear f0 f1 hb1 T1 t2 tX G2 G3 hA3
    go_wp2_with fail
    refine Hg.mono ?_
    rintro e w4 ⟨oa, os, rfl, G4, t4, _, _⟩
    have hOl := G4.arcs
    rw [hml] at hOl
    rw [show gat keF (gat keT l N) N = both l N from rfl] at hOl
    have hA4 := hOl.2.ar.quiet ((Turn.refl (fun _ => False) w4).alloc (.cells #[.slice (some ⟨oa, 0, none⟩) l.length l.length, .slice (some ⟨os, 0, none⟩) (N + 1) (N + 1)] 76))
    have HrM := rising_walk _ _ _ (both l N) hA4
    rw [hd] at HrM
    have T4 := (T3.then t4).alloc (.cells #[.slice (some ⟨oa, 0, none⟩) l.length l.length, .slice (some ⟨os, 0, none⟩) (N + 1) (N + 1)] 76)
    clear Hg hd hml G4 hOl hA4 T3 t4 k0 hb3 lb
    go_wp2_with fail
    refine HrM.mono ?_
    rintro e w5 ⟨rfl, t5⟩
    go_wp2
    go_ret2
    exact ⟨rfl, T4.then t5⟩
  · rw [decide_eq_false h1] at Hb
    clear hbad hr hR hb
    go_enter Try.func24, Try.ntmps24
    go_wp2_with fail
    generalize w.alloc (.cells #[.int .i64 n, .slice a l.length c] 24) = W at *
    generalize w.heap.size = b at *
    refine Hb.mono ?_
    rintro e w1 ⟨rfl, t1⟩
    go_wp2
    go_ret2
    exact ⟨rfl, T0.then t1⟩
end Go.Proofs.Ytombpfpfeebnpaa
