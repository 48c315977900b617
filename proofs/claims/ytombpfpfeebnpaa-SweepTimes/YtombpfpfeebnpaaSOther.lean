/- Networks that are a little otherwise: an arc more; all weights so many times greater. Plain. -/
import Derived.Test.YtombpfpfeebnpaaSBell
namespace Go.Proofs.Ytombpfpfeebnpaa
set_option linter.unusedVariables false
set_option linter.unusedSimpArgs false

theorem Walk.widen {n : Nat} {E E' : Goes} {s u y : Int} (hs : ∀ u t x, E u t x → E' u t x) (h : Walk n E s u y) : Walk n E' s u y := by
  induction h with
  | none h1 h2 => exact .none h1 h2
  | more _ ha ih => exact .more ih (hs _ _ _ ha)
/-- with more arcs no distance is greater -/
theorem IsD.widen {n : Nat} {E E' : Goes} {s u d e : Int} (hs : ∀ u t x, E u t x → E' u t x) (h : IsD n E s u d) (k : IsD n E' s u e) : e ≤ d := by
  by_cases h1 : d < INF
  · exact k.least _ ((h.walk h1).widen hs)
  · have := k.le; omega
/-- a way where there is an arc more goes without it, or by it -/
theorem Walk.either {n : Nat} {E E' : Goes} {f t0 x0 s u y : Int} (hE : Fair n E') (hs : ∀ u t x, E' u t x → E u t x ∨ (u = f ∧ t = t0 ∧ x = x0)) (h : Walk n E' s u y) :
    Walk n E s u y ∨ ∃ y1 y2, Walk n E' s f y1 ∧ Walk n E' t0 u y2 ∧ y = y1 + x0 + y2 := by
  induction h with
  | none h1 h2 => exact .inl (.none h1 h2)
  | more hw ha ih =>
    have hr := hE _ _ _ ha
    rcases ih with ih | ⟨y1, y2, h1, h2, rfl⟩
    · rcases hs _ _ _ ha with h | ⟨rfl, rfl, rfl⟩
      · exact .inl (.more ih h)
      · exact .inr ⟨_, 0, hw, .none hr.2.2.1 hr.2.2.2.1, by omega⟩
    · exact .inr ⟨y1, _, h1, .more h2 ha, by omega⟩
/-- what got less goes by the arc -/
theorem IsD.by_it {n : Nat} {E E' : Goes} {f t0 x0 s u d e p q : Int} (hE : Fair n E') (hs : ∀ u t x, E' u t x → E u t x ∨ (u = f ∧ t = t0 ∧ x = x0)) (h0 : E' f t0 x0)
    (h : IsD n E s u d) (k : IsD n E' s u e) (hp : IsD n E' s f p) (hq : IsD n E' t0 u q) (hlt : e < d) : e = p + x0 + q := by
  have h1 := h.le
  have hx := hE _ _ _ h0
  rcases (k.walk (by omega)).either hE hs with hw | ⟨y1, y2, w1, w2, he⟩
  · have := h.least _ hw; omega
  · have h2 := hp.least _ w1
    have h3 := hq.least _ w2
    have n1 := w1.nonneg hE
    have n2 := w2.nonneg hE
    have h4 := k.least _ ((Walk.more (hp.walk (by omega)) h0).join (hq.walk (by omega)))
    omega
/-- all weights k times greater -/
theorem Walk.times {n : Nat} {E E' : Goes} {k s u y : Int} (hs : ∀ u t x, E u t x → E' u t (x * k)) (h : Walk n E s u y) : Walk n E' s u (y * k) := by
  induction h with
  | none h1 h2 => rw [Int.zero_mul]; exact .none h1 h2
  | more _ ha ih => rw [Int.add_mul]; exact .more ih (hs _ _ _ ha)
theorem Walk.part {n : Nat} {E E' : Goes} {k s u y : Int} (hs : ∀ u t x, E' u t x → ∃ x0, E u t x0 ∧ x = x0 * k) (h : Walk n E' s u y) : ∃ y0, Walk n E s u y0 ∧ y = y0 * k := by
  induction h with
  | none h1 h2 => exact ⟨0, .none h1 h2, by rw [Int.zero_mul]⟩
  | more _ ha ih =>
    obtain ⟨y0, h1, rfl⟩ := ih
    obtain ⟨x0, h2, rfl⟩ := hs _ _ _ ha
    exact ⟨_, .more h1 h2, by rw [Int.add_mul]⟩
/-- by so many times the distance is greater -/
theorem IsD.times {n : Nat} {E E' : Goes} {k s u d e m : Int} (hE : Fair n E) (hs : ∀ u t x, E u t x → E' u t (x * k)) (hb : ∀ u t x, E' u t x → ∃ x0, E u t x0 ∧ x = x0 * k) (hk : 1 ≤ k) (hm : d < INF → d * k < INF)
    (h : IsD n E s u d) (j : IsD n E' s u e) : (d < INF → e = d * k) ∧ (d = INF → e = INF) := by
  have hup : ∀ a b : Int, 0 ≤ a → a ≤ b → a * k ≤ b * k := fun a b _ hab => Int.mul_le_mul_of_nonneg_right hab (by omega)
  constructor
  · intro h1
    have h2 := j.least _ ((h.walk h1).times hs)
    have h3 := hm h1
    obtain ⟨y0, h4, rfl⟩ := (j.walk (by omega)).part hb
    have h5 := hup d y0 h.ge (h.least _ h4)
    omega
  · intro h1
    have h2 := j.le
    by_cases h3 : e < INF
    · obtain ⟨y0, h4, rfl⟩ := (j.walk h3).part hb
      have h5 := h.least _ h4
      have h6 := Int.mul_le_mul_of_nonneg_left (c := y0) hk (h4.nonneg hE).1
      omega
    · omega
/-- what is near, with all weights so many times greater -/
theorem Near.times {n : Nat} {E E' : Goes} {k s most : Int} {R : List It} (hE : Fair n E) (hs : ∀ u t x, E u t x → E' u t (x * k)) (hb : ∀ u t x, E' u t x → ∃ x0, E u t x0 ∧ x = x0 * k) (hk : 1 ≤ k) (hm : ∀ u d, IsD n E s u d → d < INF → d * k < INF) (hE' : Fair n E')
    (h : Near n E s most R) : Near n E' s (most * k) (R.map (fun y => (y.1, y.2 * k))) := by
  have hup : ∀ a b : Int, a < b → a * k < b * k := fun a b hab => Int.mul_lt_mul_of_pos_right hab (by omega)
  have hup2 : ∀ a b : Int, a ≤ b → a * k ≤ b * k := fun a b hab => Int.mul_le_mul_of_nonneg_right hab (by omega)
  refine ⟨?_, ?_, ?_⟩
  · rw [List.pairwise_map]
    refine h.sort.imp (fun {a b} hab => ?_)
    unfold bef at *
    simp only
    rcases hab with h1 | ⟨h1, h2⟩
    · exact .inl (hup _ _ h1)
    · exact .inr ⟨by rw [h1], h2⟩
  · intro y hy
    obtain ⟨z, hz, rfl⟩ := List.mem_map.1 hy
    obtain ⟨h1, h2, h3, h4⟩ := h.near z hz
    obtain ⟨e, he⟩ := isD_exists hE' s (z.1 : Int)
    have h5 := (IsD.times (m := 0) hE hs hb hk (hm _ _ h2) h2 he).1 h3
    subst h5
    exact ⟨h1, he, hm _ _ h2 h3, hup2 _ _ h4⟩
  · intro u d hu hd h1 h2
    obtain ⟨d0, h0⟩ := isD_exists hE s (u : Int)
    have h5 := IsD.times (m := 0) hE hs hb hk (hm _ _ h0) h0 hd
    have h6 := h0.le
    by_cases h7 : d0 < INF
    · have h8 := h5.1 h7
      subst h8
      have h9 : d0 ≤ most := Decidable.byContradiction (fun hc => by have := hup most d0 (by omega); omega)
      exact List.mem_map.2 ⟨(u, d0), h.all u d0 hu h0 h7 h9, rfl⟩
    · have h8 := h5.2 (by omega); omega
end Go.Proofs.Ytombpfpfeebnpaa
