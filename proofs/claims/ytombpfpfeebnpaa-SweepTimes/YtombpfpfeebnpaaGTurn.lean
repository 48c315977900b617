/- A network with all arcs the other way, plain. -/
import Derived.Test.YtombpfpfeebnpaaGAsk
namespace Go.Proofs.Ytombpfpfeebnpaa
open Go.RowKit Go.Maps
set_option linter.unusedVariables false
set_option linter.unusedSimpArgs false

def flip (a : Ar) : Ar := (a.2.1, a.1, a.2.2)
def flips (l : List Ar) : List Ar := l.map flip
theorem flips_len (l : List Ar) : (flips l).length = l.length := by simp [flips]
theorem flips_at {l : List Ar} {k : Nat} {x : Ar} (h : l[k]? = some x) : (flips l)[k]? = some (flip x) := by simp [flips, h]
theorem flips_more {l : List Ar} {k : Nat} {x : Ar} (h : l[k]? = some x) : flips (l.take (k + 1)) = flips (l.take k) ++ [flip x] := by
  unfold flips
  rw [List.take_add_one, h]; simp
theorem flip_may {n : Int} {l : List Ar} (h : MayA n l) : MayA n (flips l) := by
  obtain ⟨⟨h1, h2, h3, h4⟩, h5⟩ := h
  refine ⟨⟨h1, h2, by rw [flips_len]; exact h3, fun a ha => ?_⟩, ?_⟩
  · unfold flips at ha
    obtain ⟨x, hx, rfl⟩ := List.mem_map.1 ha
    have := h4 x hx
    unfold okA at this ⊢
    unfold flip
    simp only
    omega
  · unfold Dist flips at *
    rw [List.map_map]
    unfold List.Nodup at *
    rw [List.pairwise_map] at h5 ⊢
    refine h5.imp (fun {a b} hne e => hne ?_)
    simp only [Function.comp, flip, keyA, Prod.mk.injEq] at e ⊢
    exact ⟨e.2, e.1⟩
/-- what ends at a node is what began there -/
theorem flip_ends {N : Nat} {l : List Ar} (h : MayA (N : Int) l) (v : Int) : ends keT (flips l) N v = flips (ends keF l N v) := by
  have h' := flip_may h
  refine lt_unique ?_ ?_ ?_
  · unfold ends
    refine ((both_perm h'.1).filter _).trans ?_
    have p := ((both_perm h.1).filter (fun a => decide (keF a = v))).map flip
    refine List.Perm.trans ?_ p.symm
    have : (flips l).filter (fun a => decide (keT a = v)) = (l.filter (fun a => decide (keF a = v))).map flip := by
      unfold flips
      rw [List.filter_map]
      rfl
    rw [this]
  · unfold ends
    exact ((both_lt h'.1).2 h'.2).filter _
  · unfold flips ends
    rw [List.pairwise_map]
    refine ((((both_lt h.1).2 h.2).filter (fun a => decide (keF a = v))).imp_of_mem (fun {a b} ha hb hab => ?_))
    rw [List.mem_filter, decide_eq_true_eq] at ha hb
    unfold ltA at hab ⊢
    unfold flip
    unfold keF at ha hb
    simp only
    omega
theorem ends_mem {ke : Ar → Int} {N : Nat} {l : List Ar} (h : BoundedN (N : Int) l) {v : Int} {a : Ar} (ha : a ∈ ends ke l N v) : a ∈ l := by
  unfold ends at ha
  exact (both_perm h).mem_iff.1 (List.mem_filter.1 ha).1
/-- the weight of an arc -/
theorem refW_of {l : List Ar} (hd : Dist l) {x : Ar} (hx : x ∈ l) : refW l x.1 x.2.1 = (x.2.2, true) := by
  unfold refW
  have : l.find? (fun y => decide (y.1 = x.1 ∧ y.2.1 = x.2.1)) = some x := by
    cases hf : l.find? (fun y => decide (y.1 = x.1 ∧ y.2.1 = x.2.1)) with
    | none =>
      rw [List.find?_eq_none] at hf
      exact absurd (decide_eq_true ⟨rfl, rfl⟩) (hf x hx)
    | some y =>
      have h1 := List.mem_of_find?_eq_some hf
      have h2 := List.find?_some hf
      simp only [decide_eq_true_eq] at h2
      congr 1
      unfold Dist List.Nodup at hd
      rw [List.pairwise_map] at hd
      obtain ⟨i, hi, rfl⟩ := List.mem_iff_getElem.1 h1
      obtain ⟨j, hj, rfl⟩ := List.mem_iff_getElem.1 hx
      rcases Nat.lt_trichotomy i j with h | h | h
      · exact absurd (by unfold keyA; rw [h2.1, h2.2]) (List.pairwise_iff_getElem.1 hd i j hi hj h)
      · subst h; rfl
      · exact absurd (by unfold keyA; rw [h2.1, h2.2]) (List.pairwise_iff_getElem.1 hd j i hj hi h)
  rw [this]
theorem flip_weight {N : Nat} {l : List Ar} (h : MayA (N : Int) l) {x : Ar} (hx : x ∈ l) : refW (flips l) x.2.1 x.1 = (x.2.2, true) := by
  have := refW_of (flip_may h).2 (x := flip x) (List.mem_map.2 ⟨x, hx, rfl⟩)
  exact this
/-- how many arcs the nodes below a place have -/
theorem ends_sum (ke : Ar → Int) (l : List Ar) (N u : Nat) : (gat ke (both l N) (u + 1)).length = (gat ke (both l N) u).length + (ends ke l N (u : Int)).length := gat_len ke (both l N) u
theorem ends_all_F {N : Nat} {l : List Ar} (h : BoundedN (N : Int) l) : (gat keF (both l N) N).length = l.length := by
  rw [gat_total keF (both l N) N (fun a ha => (ok_keys h).2 a ((both_perm h).mem_iff.1 ha)), both_len h]
theorem ends_all_T {N : Nat} {l : List Ar} (h : BoundedN (N : Int) l) : (gat keT (both l N) N).length = l.length := by
  rw [gat_total keT (both l N) N (both_keys h), both_len h]
end Go.Proofs.Ytombpfpfeebnpaa
