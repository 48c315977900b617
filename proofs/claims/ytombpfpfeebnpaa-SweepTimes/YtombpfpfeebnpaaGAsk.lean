/- What a graph answers. -/
import Derived.Test.YtombpfpfeebnpaaGNew
namespace Go.Proofs.Ytombpfpfeebnpaa
open Go.RowKit Go.Maps
set_option linter.unusedVariables false
set_option linter.unusedSimpArgs false
set_option maxRecDepth 100000

set_option maxHeartbeats 4000000 in
theorem of_walk (w : World) (G o ga gs N m : Nat) (L : List Ar) (S : List Int) (u' p q : Nat) (c0 : w.cell? ⟨G, o, none⟩ = some (.slice (some ⟨ga, 0, none⟩) m m)) (c1 : w.cell? ⟨G, o + 1, none⟩ = some (.slice (some ⟨gs, 0, none⟩) (N + 1) (N + 1)))
    (hL : OAn w ga m L) (hS : OIn w gs (N + 1) S) (hp : S[u']? = some (p : Int)) (hq : S[u' + 1]? = some (q : Int)) (hpq : p ≤ q) (hqm : q ≤ m) (hu : u' < N) (hm : m ≤ 4194304) (hN : N ≤ 4194304) :
    Calls Try.prog 39 #[.pointer (some ⟨G, o, none⟩), .int .i64 (u' : Int)] w fun e w' => ∃ x, e = .returned x ∧ OA w' x ((L.take q).drop p) ∧ Turn (fun _ => False) w w' ∧ ∀ j, x.ownBlock = some j → w.heap.size ≤ j := by
  obtain ⟨d0, _⟩ := hS.at hp
  obtain ⟨d1, _⟩ := hS.at hq
  have hA : AR any w (.slice (some ⟨ga, 0, none⟩) m m) L := hL.2.ar.mono (fun _ _ => trivial)
  obtain ⟨x, hx, hX⟩ := ar_mid (ki := .i32) (kj := .i32) hA p q hpq (by rw [hL.1]; exact hqm)
  have hx2 : ∀ u : World, (Instr.slice 22 (.slice (some ⟨ga, 0, none⟩) m m) (some (.int .i32 (p : Int))) (some (.int .i32 (q : Int))) none).run Try.prog u = .ok x u := hx
  have hXl : ((L.take q).drop p).length ≤ 5000000000000 := by rw [List.length_drop, List.length_take, hL.1]; omega
  have Hc := clone_arcs any w.drew x _ (hX.turn (Turn.refl (fun _ => False) w).drew (fun _ _ h => h)) hXl
  have hw1 : IntKind.i64.wrap ((u' : Int) + 1) = (u' : Int) + 1 := by rw [IntKind.wrap_i64]; omega
  have hpi : (0 : Int) ≤ (p : Int) := by omega
  have hpqi : (p : Int) ≤ (q : Int) := by omega
  have hqmi : (q : Int) ≤ (m : Int) := by omega
  have hui : (0 : Int) ≤ (u' : Int) := by omega
  have hui1 : (0 : Int) ≤ (u' : Int) + 1 := by omega
  have hui2 : (u' : Int) < (N : Int) := by omega
  have hu1 : (u' : Int) < (N : Int) + 1 := by omega
  have hu2 : (u' : Int) + 1 < (N : Int) + 1 := by omega
  generalize (L.take q).drop p = R at *
  clear hA hx hp hq hL hS hX hXl
  go_enter Try.func39, Try.ntmps39
  go_wp2_with fail
  go_region_held3 (fun u => u.cell? ⟨G, o, none⟩ = some (.slice (some ⟨ga, 0, none⟩) m m) ∧ u.cell? ⟨G, o + 1, none⟩ = some (.slice (some ⟨gs, 0, none⟩) (N + 1) (N + 1)) ∧ u.cell? ⟨gs, u', none⟩ = some (.int .i32 (p : Int)) ∧ u.cell? ⟨gs, u' + 1, none⟩ = some (.int .i32 (q : Int))) (first | exact ⟨c0, c1, d0, d1⟩ | exact ⟨k0, k1, k2, k3⟩ | go_keep)
    (first
    | (go_at_call 53; refine Hc.mono ?_; rintro e w1 ⟨y, rfl, OY, t1, own⟩; have k0 := t1.cell (show w.drew.cell? ⟨G, o, none⟩ = _ from c0) (fun h => h); have k1 := t1.cell (show w.drew.cell? ⟨G, o + 1, none⟩ = _ from c1) (fun h => h); have k2 := t1.cell (show w.drew.cell? ⟨gs, u', none⟩ = _ from d0) (fun h => h); have k3 := t1.cell (show w.drew.cell? ⟨gs, u' + 1, none⟩ = _ from d1) (fun h => h)))
  all_goals
    go_wp2
    go_ret
    exact ⟨y, rfl, OY, ((Turn.refl _ w).drew).then t1, own⟩

theorem GraphAt.obj {F : Nat → Prop} {w : World} {G N : Nat} {l : List Ar} (h : GraphAt w G F N l) : ∃ oa os ia is m, w.heap[G]? = some (.cells #[.int .i64 (N : Int), .slice (some ⟨oa, 0, none⟩) l.length l.length, .slice (some ⟨os, 0, none⟩) (N + 1) (N + 1), .slice (some ⟨ia, 0, none⟩) l.length l.length, .slice (some ⟨is, 0, none⟩) (N + 1) (N + 1), .map (some m)] 79 (0, 0)) := by
  obtain ⟨oa, os, ia, is, m, k, h1, _⟩ := h.told
  exact ⟨oa, os, ia, is, m, h1⟩
set_option maxHeartbeats 1000000 in
theorem nodes_ask {F : Nat → Prop} (w : World) (G N : Nat) (l : List Ar) (h : GraphAt w G F N l) : Calls Try.prog 31 #[.pointer (some ⟨G, 0, none⟩)] w fun e w' => e = .returned (.int .i64 (N : Int)) ∧ w' = w := by
  obtain ⟨oa, os, ia, is, m, hG⟩ := h.obj
  have g0 : w.cell? ⟨G, 0, none⟩ = some (.int .i64 (N : Int)) := cell_obj hG 0
  clear h hG
  go_enter Try.func31, Try.ntmps31
  go_wp2
  go_ret
  exact ⟨rfl, rfl⟩
/-- the arcs of one end's node, of those by both ends -/
def ends (ke : Ar → Int) (l : List Ar) (N : Nat) (v : Int) : List Ar := (both l N).filter (fun a => decide (ke a = v))
theorem out_slice {N u : Nat} (l : List Ar) (hu : u < N) : ((both l N).take (gat keF (gat keT l N) (u + 1)).length).drop (gat keF (gat keT l N) u).length = ends keF l N (u : Int) := by
  unfold both
  rw [gat_slice keF _ hu, ← flt_gat keF (gat keT l N) N hu]
  rfl
theorem in_slice {N u : Nat} (l : List Ar) (hu : u < N) : ((gat keT (both l N) N).take (gat keT (both l N) (u + 1)).length).drop (gat keT (both l N) u).length = ends keT l N (u : Int) := by
  rw [gat_slice keT _ hu]
  rfl
theorem ends_none {ke : Ar → Int} {l : List Ar} {N : Nat} {v : Int} (h : ∀ a ∈ both l N, 0 ≤ ke a ∧ ke a < (N : Int)) (hv : ¬ (0 ≤ v ∧ v < N)) : ends ke l N v = [] := by
  unfold ends
  rw [List.filter_eq_nil_iff]
  intro a ha
  have := h a ha
  simp only [decide_eq_true_eq]
  omega
set_option maxHeartbeats 4000000 in
theorem Out_ask {F : Nat → Prop} (w : World) (G N : Nat) (l : List Ar) (h : GraphAt w G F N l) (hB : BoundedN (N : Int) l) (v : Int) :
    Calls Try.prog 46 #[.pointer (some ⟨G, 0, none⟩), .int .i64 v] w fun e w' => ∃ x, e = .returned x ∧ OA w' x (ends keF l N v) ∧ Turn (fun _ => False) w w' ∧ ∀ j, x.ownBlock = some j → w.heap.size ≤ j := by
  have Hn := nodes_ask w G N l h
  have hN := hB.2.1
  have hL := hB.2.2.1
  by_cases hv : 0 ≤ v ∧ v < (N : Int)
  · obtain ⟨u, rfl⟩ : ∃ u : Nat, v = u := ⟨v.toNat, by omega⟩
    have hu : u < N := by omega
    have Hi := node_yes w (u : Int) (N : Int) hv
    obtain ⟨oa, os, ia, is, m, k, hG, hO, ⟨S, hS, hSS⟩, hI, ⟨S', hS', hSS'⟩, _⟩ := h.told
    have Ho : Calls Try.prog 39 #[.pointer (some ⟨G, 1, none⟩), .int .i64 (u : Int)] w fun e w' => ∃ x, e = .returned x ∧ OA w' x (ends keF l N (u : Int)) ∧ Turn (fun _ => False) w w' ∧ ∀ j, x.ownBlock = some j → w.heap.size ≤ j := by
      have h1 := of_walk w G 1 oa os N l.length (both l N) S u _ _ (cell_obj hG 1) (cell_obj hG 2) hO hS (hSS.2 u (by omega)) (hSS.2 (u + 1) (by omega)) (gat_mono keF _ (by omega)) (by
        have q1 := gat_mono keF (gat keT l N) (show u + 1 ≤ N by omega)
        have q2 := both_len hB
        unfold both at q2
        omega) hu hL (by omega)
      rw [out_slice l hu] at h1
      exact h1
    clear h hB hG hO hS hSS hI hS' hSS' hv
    go_enter Try.func46, Try.ntmps46
    go_wp2_with fail
    refine Hn.mono ?_
    rintro e w1 ⟨rfl, rfl⟩
    go_wp2_with fail
    refine Hi.mono ?_
    rintro e w2 ⟨rfl, rfl⟩
    go_wp2_with fail
    refine Ho.mono ?_
    rintro e w3 ⟨x, rfl, O3, t3, own3⟩
    go_wp2
    go_ret
    exact ⟨x, rfl, O3, t3, own3⟩
  · have Hi := node_no w v (N : Int) hv
    have he : ends keF l N v = [] := ends_none (fun a ha => (ok_keys hB).2 a ((both_perm hB).mem_iff.1 ha)) hv
    have He := hide he
    clear h hB hv he
    go_enter Try.func46, Try.ntmps46
    go_wp2_with fail
    refine Hn.mono ?_
    rintro e w1 ⟨rfl, rfl⟩
    go_wp2_with fail
    refine Hi.mono ?_
    rintro e w2 ⟨rfl, rfl⟩
    go_wp2
    go_ret
    exact ⟨_, rfl, by rw [unhide He]; exact oa_none _, Turn.refl _ _, fun j hj => by simp [Value.ownBlock] at hj⟩
set_option maxHeartbeats 4000000 in
theorem In_ask {F : Nat → Prop} (w : World) (G N : Nat) (l : List Ar) (h : GraphAt w G F N l) (hB : BoundedN (N : Int) l) (v : Int) :
    Calls Try.prog 21 #[.pointer (some ⟨G, 0, none⟩), .int .i64 v] w fun e w' => ∃ x, e = .returned x ∧ OA w' x (ends keT l N v) ∧ Turn (fun _ => False) w w' ∧ ∀ j, x.ownBlock = some j → w.heap.size ≤ j := by
  have Hn := nodes_ask w G N l h
  have hN := hB.2.1
  have hL := hB.2.2.1
  by_cases hv : 0 ≤ v ∧ v < (N : Int)
  · obtain ⟨u, rfl⟩ : ∃ u : Nat, v = u := ⟨v.toNat, by omega⟩
    have hu : u < N := by omega
    have Hi := node_yes w (u : Int) (N : Int) hv
    obtain ⟨oa, os, ia, is, m, k, hG, hO, ⟨S, hS, hSS⟩, hI, ⟨S', hS', hSS'⟩, _⟩ := h.told
    have Ho : Calls Try.prog 39 #[.pointer (some ⟨G, 3, none⟩), .int .i64 (u : Int)] w fun e w' => ∃ x, e = .returned x ∧ OA w' x (ends keT l N (u : Int)) ∧ Turn (fun _ => False) w w' ∧ ∀ j, x.ownBlock = some j → w.heap.size ≤ j := by
      have h1 := of_walk w G 3 ia is N l.length (gat keT (both l N) N) S' u _ _ (cell_obj hG 3) (cell_obj hG 4) hI hS' (hSS'.2 u (by omega)) (hSS'.2 (u + 1) (by omega)) (gat_mono keT _ (by omega)) (by
        have q1 := gat_mono keT (both l N) (show u + 1 ≤ N by omega)
        have q2 := both_len hB
        have q3 := gat_total keT (both l N) N (both_keys hB)
        omega) hu hL (by omega)
      rw [in_slice l hu] at h1
      exact h1
    clear h hB hG hO hS hSS hI hS' hSS' hv
    go_enter Try.func21, Try.ntmps21
    go_wp2_with fail
    refine Hn.mono ?_
    rintro e w1 ⟨rfl, rfl⟩
    go_wp2_with fail
    refine Hi.mono ?_
    rintro e w2 ⟨rfl, rfl⟩
    go_wp2_with fail
    refine Ho.mono ?_
    rintro e w3 ⟨x, rfl, O3, t3, own3⟩
    go_wp2
    go_ret
    exact ⟨x, rfl, O3, t3, own3⟩
  · have Hi := node_no w v (N : Int) hv
    have he : ends keT l N v = [] := ends_none (both_keys hB) hv
    have He := hide he
    clear h hB hv he
    go_enter Try.func21, Try.ntmps21
    go_wp2_with fail
    refine Hn.mono ?_
    rintro e w1 ⟨rfl, rfl⟩
    go_wp2_with fail
    refine Hi.mono ?_
    rintro e w2 ⟨rfl, rfl⟩
    go_wp2
    go_ret
    exact ⟨_, rfl, by rw [unhide He]; exact oa_none _, Turn.refl _ _, fun j hj => by simp [Value.ownBlock] at hj⟩

/-- a weight is none or an arc's -/
theorem wOf_range {n : Int} {l : List Ar} (hB : BoundedN n l) (hd : Dist l) (a b : Int) : 0 ≤ wOf l a b ∧ wOf l a b ≤ 1048576 := by
  obtain ⟨h1, _⟩ := weight_of l.length l rfl hd a b
  rw [h1]
  unfold refW
  cases hf : l.find? (fun x => decide (x.1 = a ∧ x.2.1 = b)) with
  | none => simp
  | some x =>
    have := hB.2.2.2 x (List.mem_of_find?_eq_some hf)
    unfold okA at this
    simp only
    omega
end Go.Proofs.Ytombpfpfeebnpaa
