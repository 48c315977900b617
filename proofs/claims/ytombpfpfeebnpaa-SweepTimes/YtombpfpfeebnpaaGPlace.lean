/- Gathering, plain: the arcs by rising nodes at one of their ends, those of one node in their order. -/
import Derived.Test.YtombpfpfeebnpaaPack2
namespace Go.Proofs.Ytombpfpfeebnpaa
set_option linter.unusedVariables false
set_option linter.unusedSimpArgs false

/-- the arcs whose end is this node -/
def flt (ke : Ar → Int) (l : List Ar) (v : Nat) : List Ar := l.filter (fun a => decide (ke a = (v : Int)))
/-- the arcs of the nodes below a place -/
def gat (ke : Ar → Int) (l : List Ar) : Nat → List Ar
  | 0 => []
  | v + 1 => gat ke l v ++ flt ke l v
theorem gat_succ (ke : Ar → Int) (l : List Ar) (v : Nat) : gat ke l (v + 1) = gat ke l v ++ flt ke l v := rfl
theorem gat_len (ke : Ar → Int) (l : List Ar) (v : Nat) : (gat ke l (v + 1)).length = (gat ke l v).length + (flt ke l v).length := by rw [gat_succ, List.length_append]
theorem gat_mono (ke : Ar → Int) (l : List Ar) {u v : Nat} (h : u ≤ v) : (gat ke l u).length ≤ (gat ke l v).length := by
  induction v with
  | zero => obtain rfl : u = 0 := by omega
            exact Nat.le_refl _
  | succ v ih =>
    by_cases e : u = v + 1
    · rw [e]; exact Nat.le_refl _
    · have := ih (by omega)
      have := gat_len ke l v
      omega
theorem gat_at (ke : Ar → Int) (l : List Ar) {v n j : Nat} (hv : v < n) (hj : j < (flt ke l v).length) : (gat ke l n)[(gat ke l v).length + j]? = (flt ke l v)[j]? := by
  induction n with
  | zero => omega
  | succ n ih =>
    rw [gat_succ]
    by_cases e : v = n
    · subst e
      rw [List.getElem?_append_right (by omega), Nat.add_sub_cancel_left]
    · have h1 := gat_mono ke l (show v + 1 ≤ n by omega)
      have h2 := gat_len ke l v
      rw [List.getElem?_append_left (by omega)]
      exact ih (by omega)
theorem gat_form (ke : Ar → Int) (l : List Ar) {n p : Nat} (hp : p < (gat ke l n).length) : ∃ v j, v < n ∧ j < (flt ke l v).length ∧ p = (gat ke l v).length + j := by
  induction n with
  | zero => simp [gat] at hp
  | succ n ih =>
    by_cases h : p < (gat ke l n).length
    · obtain ⟨v, j, h1, h2, h3⟩ := ih h
      exact ⟨v, j, by omega, h2, h3⟩
    · have := gat_len ke l n
      exact ⟨n, p - (gat ke l n).length, by omega, by omega, by omega⟩
theorem gat_mem {ke : Ar → Int} {l : List Ar} {n : Nat} {a : Ar} : a ∈ gat ke l n ↔ a ∈ l ∧ ∃ v, v < n ∧ ke a = (v : Int) := by
  induction n with
  | zero => simp [gat]
  | succ n ih =>
    rw [gat_succ, List.mem_append, ih]
    unfold flt
    rw [List.mem_filter, decide_eq_true_eq]
    constructor
    · rintro (⟨h, v, h1, h2⟩ | ⟨h, h2⟩)
      · exact ⟨h, v, by omega, h2⟩
      · exact ⟨h, n, by omega, h2⟩
    · rintro ⟨h, v, h1, h2⟩
      by_cases e : v = n
      · subst e; exact .inr ⟨h, h2⟩
      · exact .inl ⟨h, v, by omega, h2⟩
theorem perm_split (p q : Ar → Bool) (l : List Ar) (h : ∀ a ∈ l, ¬ (p a = true ∧ q a = true)) : (l.filter p ++ l.filter q).Perm (l.filter (fun a => p a || q a)) := by
  induction l with
  | nil => simp
  | cons a l ih =>
    have ih := ih (fun x hx => h x (by simp [hx]))
    have ha := h a (by simp)
    by_cases h1 : p a = true
    · have h2 : q a = false := by simpa [h1] using ha
      simp only [List.filter_cons, h1, h2, Bool.or_false, if_true, List.cons_append]
      simpa using ih.cons a
    · have h1' : p a = false := by simpa using h1
      by_cases h2 : q a = true
      · simp only [List.filter_cons, h1', h2, Bool.or_true, if_true]
        simp only [Bool.false_eq_true, if_false]
        exact (List.perm_middle).trans (ih.cons a)
      · have h2' : q a = false := by simpa using h2
        simp only [List.filter_cons, h1', h2', Bool.or_false, Bool.false_eq_true, if_false]
        exact ih
theorem gat_perm_below (ke : Ar → Int) (l : List Ar) (h : ∀ a ∈ l, 0 ≤ ke a) : ∀ n : Nat, (gat ke l n).Perm (l.filter (fun a => decide (ke a < (n : Int))))
  | 0 => by
    have : l.filter (fun a => decide (ke a < ((0 : Nat) : Int))) = [] := by
      rw [List.filter_eq_nil_iff]
      intro a ha
      have := h a ha
      simp
      omega
    rw [this]; exact List.Perm.refl _
  | n + 1 => by
    rw [gat_succ]
    refine ((gat_perm_below ke l h n).append_right (flt ke l n)).trans ?_
    unfold flt
    refine (perm_split _ _ l (fun a ha => ?_)).trans ?_
    · simp only [decide_eq_true_eq]; omega
    · have : l.filter (fun a => decide (ke a < (n : Int)) || decide (ke a = (n : Int))) = l.filter (fun a => decide (ke a < ((n + 1 : Nat) : Int))) := by
        apply List.filter_congr
        intro a _
        rw [← Bool.decide_or, decide_eq_decide]
        omega
      rw [this]
theorem gat_perm (ke : Ar → Int) (l : List Ar) (n : Nat) (h : ∀ a ∈ l, 0 ≤ ke a ∧ ke a < (n : Int)) : (gat ke l n).Perm l := by
  refine (gat_perm_below ke l (fun a ha => (h a ha).1) n).trans ?_
  have : l.filter (fun a => decide (ke a < (n : Int))) = l := by
    rw [List.filter_eq_self]
    intro a ha
    simp [(h a ha).2]
  rw [this]
theorem gat_total (ke : Ar → Int) (l : List Ar) (n : Nat) (h : ∀ a ∈ l, 0 ≤ ke a ∧ ke a < (n : Int)) : (gat ke l n).length = l.length := (gat_perm ke l n h).length_eq
theorem flt_key {ke : Ar → Int} {l : List Ar} {v : Nat} {a : Ar} (h : a ∈ flt ke l v) : ke a = (v : Int) := by
  unfold flt at h
  rw [List.mem_filter, decide_eq_true_eq] at h
  exact h.2
/-- gathered: by rising keys; of one key, as they were -/
theorem gat_pairwise {R : Ar → Ar → Prop} (ke : Ar → Int) (l : List Ar) (h : l.Pairwise R) : ∀ n, (gat ke l n).Pairwise (fun a b => ke a < ke b ∨ ke a = ke b ∧ R a b)
  | 0 => List.Pairwise.nil
  | n + 1 => by
    rw [gat_succ, List.pairwise_append]
    refine ⟨gat_pairwise ke l h n, ?_, ?_⟩
    · refine ((h.filter _).imp_of_mem (fun {a b} ha hb hab => ?_))
      have h1 := flt_key (l := l) (v := n) ha
      have h2 := flt_key (l := l) (v := n) hb
      exact .inr ⟨by omega, hab⟩
    · intro a ha b hb
      obtain ⟨_, v, hv, hk⟩ := gat_mem.1 ha
      have := flt_key hb
      exact .inl (by omega)
theorem flt_take {ke : Ar → Int} {l : List Ar} {i v : Nat} {a : Ar} (h : l[i]? = some a) : flt ke (l.take (i + 1)) v = flt ke (l.take i) v ++ (if ke a = (v : Int) then [a] else []) := by
  unfold flt
  rw [List.take_add_one, h, List.filter_append]
  by_cases hk : ke a = (v : Int)
  · simp [hk]
  · simp [hk]
theorem flt_prefix {ke : Ar → Int} {l : List Ar} {i v : Nat} {a : Ar} (h : l[i]? = some a) (hk : ke a = (v : Int)) : (flt ke l v)[(flt ke (l.take i) v).length]? = some a := by
  obtain ⟨hi, rfl⟩ := List.getElem?_eq_some_iff.1 h
  have e : l = l.take i ++ l[i] :: l.drop (i + 1) := by simp
  have : flt ke l v = flt ke (l.take i) v ++ l[i] :: flt ke (l.drop (i + 1)) v := by
    conv => lhs; rw [e]
    unfold flt
    rw [List.filter_append, List.filter_cons, if_pos (by simp [hk])]
  rw [this, List.getElem?_append_right (Nat.le_refl _)]
  simp
theorem flt_short (ke : Ar → Int) (l : List Ar) (i v : Nat) : (flt ke (l.take i) v).length ≤ (flt ke l v).length := by
  have e : l = l.take i ++ l.drop i := by simp
  have : flt ke l v = flt ke (l.take i) v ++ flt ke (l.drop i) v := by
    conv => lhs; rw [e]
    unfold flt
    rw [List.filter_append]
  rw [this, List.length_append]; omega
theorem flt_len (ke : Ar → Int) (l : List Ar) (v : Nat) : (flt ke l v).length ≤ l.length := List.length_filter_le _ _

/-- what is placed so far -/
structure Placed (ke : Ar → Int) (l : List Ar) (n i : Nat) (O : List Ar) (X : List Int) : Prop where
  ol : O.length = l.length
  xl : X.length = n + 1
  next : ∀ v, v < n → X[v]? = some (((gat ke l v).length + (flt ke (l.take i) v).length : Nat) : Int)
  here : ∀ v j, v < n → j < (flt ke (l.take i) v).length → O[(gat ke l v).length + j]? = (flt ke l v)[j]?
theorem Placed.step {ke : Ar → Int} {l : List Ar} {n i : Nat} {O : List Ar} {X : List Int} (h : Placed ke l n i O X) (hk : ∀ a ∈ l, 0 ≤ ke a ∧ ke a < (n : Int)) {a : Ar} (ha : l[i]? = some a) :
    ∃ (v p : Nat), ke a = (v : Int) ∧ v < n ∧ X[v]? = some (p : Int) ∧ p < l.length ∧ Placed ke l n (i + 1) (O.set p a) (X.set v ((p : Int) + 1)) := by
  obtain ⟨h0, h1⟩ := hk a (List.mem_of_getElem? ha)
  obtain ⟨v, hv⟩ : ∃ v : Nat, ke a = v := ⟨(ke a).toNat, by omega⟩
  have hvn : v < n := by omega
  have hat := flt_prefix ha hv
  have hlt := (List.getElem?_eq_some_iff.1 hat).1
  have hg1 := gat_len ke l v
  have hg2 := gat_mono ke l (show v + 1 ≤ n by omega)
  have hg3 := gat_total ke l n hk
  refine ⟨v, _, hv, hvn, h.next v hvn, by omega, by rw [List.length_set]; exact h.ol, by rw [List.length_set]; exact h.xl, fun u hu => ?_, fun u j hu hj => ?_⟩
  · rw [flt_take ha, List.getElem?_set]
    by_cases e : v = u
    · subst e
      rw [if_pos rfl, if_pos (by rw [h.xl]; omega), if_pos hv]
      simp only [List.length_append, List.length_cons, List.length_nil]
      congr 1
    · rw [if_neg e, if_neg (by rw [hv]; omega), h.next u hu]; simp
  · rw [flt_take ha] at hj
    rw [List.getElem?_set]
    by_cases e : (gat ke l v).length + (flt ke (l.take i) v).length = (gat ke l u).length + j
    · rw [if_pos e, if_pos (by rw [h.ol]; omega)]
      have hu' : u = v := by
        rcases Nat.lt_trichotomy u v with h' | h' | h'
        · exfalso
          have q1 := gat_mono ke l (show u + 1 ≤ v by omega)
          have q2 := gat_len ke l u
          rw [if_neg (by rw [hv]; omega), List.append_nil] at hj
          have := flt_short ke l i u
          omega
        · exact h'
        · exfalso
          have q1 := gat_mono ke l (show v + 1 ≤ u by omega)
          omega
      subst hu'
      obtain rfl : j = (flt ke (l.take i) u).length := by omega
      exact hat.symm
    · rw [if_neg e]
      refine h.here u j hu ?_
      by_cases hu' : ke a = (u : Int)
      · rw [if_pos hu'] at hj
        obtain rfl : u = v := by omega
        simp only [List.length_append, List.length_cons, List.length_nil] at hj
        omega
      · rw [if_neg hu', List.append_nil] at hj; exact hj
theorem Placed.all {ke : Ar → Int} {l : List Ar} {n : Nat} {O : List Ar} {X : List Int} (h : Placed ke l n l.length O X) (hk : ∀ a ∈ l, 0 ≤ ke a ∧ ke a < (n : Int)) : O = gat ke l n := by
  have hg := gat_total ke l n hk
  apply List.ext_getElem?
  intro p
  by_cases hp : p < l.length
  · obtain ⟨v, j, h1, h2, rfl⟩ := gat_form ke l (n := n) (p := p) (by omega)
    rw [gat_at ke l h1 h2]
    refine h.here v j h1 ?_
    rw [List.take_length]; exact h2
  · rw [List.getElem?_eq_none (by rw [h.ol]; omega), List.getElem?_eq_none (by omega)]
/-- how many arcs end at each node, so far -/
structure Counted (ke : Ar → Int) (l : List Ar) (n i : Nat) (S : List Int) : Prop where
  len : S.length = n + 1
  zero : S[0]? = some 0
  at_ : ∀ v, v < n → S[v + 1]? = some (((flt ke (l.take i) v).length : Nat) : Int)
theorem Counted.step {ke : Ar → Int} {l : List Ar} {n i : Nat} {S : List Int} (h : Counted ke l n i S) (hk : ∀ a ∈ l, 0 ≤ ke a ∧ ke a < (n : Int)) {a : Ar} (ha : l[i]? = some a) :
    ∃ (v c : Nat), ke a = (v : Int) ∧ v < n ∧ S[v + 1]? = some (c : Int) ∧ c < l.length ∧ Counted ke l n (i + 1) (S.set (v + 1) ((c : Int) + 1)) := by
  obtain ⟨h0, h1⟩ := hk a (List.mem_of_getElem? ha)
  obtain ⟨v, hv⟩ : ∃ v : Nat, ke a = v := ⟨(ke a).toNat, by omega⟩
  have hvn : v < n := by omega
  have hat := flt_prefix ha hv
  have hlt := (List.getElem?_eq_some_iff.1 hat).1
  have := flt_len ke l v
  refine ⟨v, _, hv, hvn, h.at_ v hvn, by omega, by rw [List.length_set]; exact h.len, ?_, fun u hu => ?_⟩
  · rw [List.getElem?_set_ne (by omega)]; exact h.zero
  · rw [flt_take ha, List.getElem?_set]
    by_cases e : v = u
    · subst e
      rw [if_pos rfl, if_pos (by rw [h.len]; omega), if_pos hv]
      simp only [List.length_append, List.length_cons, List.length_nil]
      congr 1
    · rw [if_neg (by omega), if_neg (by rw [hv]; omega), h.at_ u hu]; simp
/-- the first places, up to a node -/
structure Summed (ke : Ar → Int) (l : List Ar) (n v : Nat) (S : List Int) : Prop where
  len : S.length = n + 1
  low : ∀ u, u ≤ v → S[u]? = some (((gat ke l u).length : Nat) : Int)
  high : ∀ u, v ≤ u → u < n → S[u + 1]? = some (((flt ke l u).length : Nat) : Int)
theorem Counted.summed {ke : Ar → Int} {l : List Ar} {n : Nat} {S : List Int} (h : Counted ke l n l.length S) : Summed ke l n 0 S :=
  ⟨h.len, fun u hu => by obtain rfl : u = 0 := by omega
                         exact h.zero, fun u _ hu => by have := h.at_ u hu; rwa [List.take_length] at this⟩
theorem Summed.step {ke : Ar → Int} {l : List Ar} {n v : Nat} {S : List Int} (h : Summed ke l n v S) (hv : v < n) : ∃ a b : Nat, S[v]? = some (a : Int) ∧ S[v + 1]? = some (b : Int) ∧ a + b = (gat ke l (v + 1)).length ∧ Summed ke l n (v + 1) (S.set (v + 1) ((b : Int) + (a : Int))) := by
  refine ⟨_, _, h.low v (Nat.le_refl _), h.high v (Nat.le_refl _) hv, (gat_len ke l v).symm, by rw [List.length_set]; exact h.len, fun u hu => ?_, fun u hu hn => ?_⟩
  · by_cases e : u = v + 1
    · subst e
      rw [List.getElem?_set_self (by rw [h.len]; omega), gat_len]
      congr 1; omega
    · rw [List.getElem?_set_ne (by omega)]; exact h.low u (by omega)
  · rw [List.getElem?_set_ne (by omega)]; exact h.high u (by omega) hn
/-- the places where each node's arcs begin -/
def Starts (ke : Ar → Int) (l : List Ar) (n : Nat) (S : List Int) : Prop := S.length = n + 1 ∧ ∀ u, u ≤ n → S[u]? = some (((gat ke l u).length : Nat) : Int)
theorem Starts.placed {ke : Ar → Int} {l : List Ar} {n : Nat} {S : List Int} (h : Starts ke l n S) (O : List Ar) (hO : O.length = l.length) : Placed ke l n 0 O S :=
  ⟨hO, h.1, fun v hv => by rw [h.2 v (by omega)]; simp [flt], fun v j hv hj => by simp [flt] at hj⟩
/-- one node's arcs, between two places -/
theorem gat_slice (ke : Ar → Int) (l : List Ar) {v n : Nat} (hv : v < n) : ((gat ke l n).take (gat ke l (v + 1)).length).drop (gat ke l v).length = flt ke l v := by
  have key : ∀ n, v < n → ∃ r, gat ke l n = gat ke l v ++ flt ke l v ++ r := by
    intro n
    induction n with
    | zero => intro h; omega
    | succ n ih =>
      intro h
      by_cases e : v = n
      · subst e; exact ⟨[], by rw [gat_succ, List.append_nil]⟩
      · obtain ⟨r, hr⟩ := ih (by omega)
        exact ⟨r ++ flt ke l n, by rw [gat_succ, hr, List.append_assoc]⟩
  obtain ⟨r, hr⟩ := key n hv
  rw [hr, gat_succ, List.take_left, List.drop_left]
end Go.Proofs.Ytombpfpfeebnpaa
