/- The map of weights: pairs of nodes to int32, told key by key. -/
import Derived.Test.YtombpfpfeebnpaaGGath
import Derived.Maps.OwnSet
import Derived.DeepKeys4
import Derived.WideKeyPair
import Derived.WideKeyEntry
namespace Go.Proofs.Ytombpfpfeebnpaa
open Go.RowKit Go.Maps
set_option linter.unusedVariables false
set_option linter.unusedSimpArgs false
set_option maxRecDepth 100000

theorem mLaid : laidOutB Try.prog = true := by kernel_rfl
theorem mLawP : Keyed Try.prog 26 := Keyed.of_law (deep_law_laid mLaid (m := 3) (by omega) (of_decide_eq_true (by kernel_rfl)) (by kernel_rfl) (by rw [Try.underlying26]))
/-- a number that an int32 holds -/
def I32 (a : Int) : Prop := (Lit.int .i32 a).wf = true
theorem i32_of {a : Int} (h0 : -2147483648 ≤ a) (h1 : a ≤ 2147483647) : I32 a := by unfold I32; simp [Lit.wf, IntKind.min, IntKind.max, IntKind.signed, IntKind.bits]; omega
/-- what two numbers read as, as a key -/
def kl (a b : Int) : Lit := .string (keyBytes [.int .i32 a, .int .i32 b])
theorem keyOf_two {P : Program} {k e : TypeId} {q : IntKind} {f0 f1 : Field} (hu : P.underlying k = some (.struct #[f0, f1])) (he : P.underlying e = some (.int q)) (hk : P.keyType k = true) (hc : P.cellsOf k = 2) (hc1 : P.cellsOf e = 1)
    (t0 : f0.type = e) (t1 : f1.type = e) (o0 : f0.offset = 0) (o1 : f1.offset = 1) (n0 : (f0.name != "_") = true) (n1 : (f1.name != "_") = true) (hm : ∃ m, P.types.size = m + 1) {a b : Int} (wa : (Lit.int q a).wf = true) (wb : (Lit.int q b).wf = true) :
    keyOf P k (.agg #[.int q a, .int q b]) = some (.string (keyBytes [.int q a, .int q b])) := by
  obtain ⟨m, hm⟩ := hm
  unfold keyOf
  simp only [hu]
  rw [if_pos (by simp [hk, Value.formed, hu, hc]), hm]
  unfold Program.keyLits
  simp only [hu, Value.cells]
  rw [if_pos (by simp [hc, n0, n1])]
  simp only [List.mapM_cons, List.mapM_nil, t0, t1, o0, o1, hc1]
  unfold Program.keyLits
  simp [he, wa, wb]
theorem keyOf_P {a b : Int} (wa : I32 a) (wb : I32 b) : keyOf Try.prog 26 (.agg #[.int .i32 a, .int .i32 b]) = some (kl a b) :=
  keyOf_two Try.underlying26 Try.underlying21 (by kernel_rfl) (by kernel_rfl) (by kernel_rfl) rfl rfl rfl rfl (by decide) (by decide) ⟨Try.prog.types.size - 1, by have : 0 < Try.prog.types.size := of_decide_eq_true (by kernel_rfl); omega⟩ wa wb
theorem kl_inj {a b c d : Int} (wa : I32 a) (wb : I32 b) (wc : I32 c) (wd : I32 d) (h : kl a b = kl c d) : a = c ∧ b = d := by
  have h1 := keyOf_P wa wb
  have h2 := keyOf_P wc wd
  rw [← h] at h2
  have := mLawP.inj h1 h2
  simpa using this
theorem kl_key (a b : Int) : WideAt.IsKeyLit (kl a b) := trivial
theorem mZero (w : World) : (zeroValue 21).run Try.prog w = .ok (.int .i32 0) w := by kernel_rfl
theorem Turn.map {F : Nat → Prop} {H : Type} {w w' : World} {P : Program} {k : TypeId} {R : Value → Option (DataW H × List MemPlace)} {b n : Nat} {D : DataW H} (h : Turn F w w') (ho : w.ownsMap P k R b n D) (hn : ¬ F b) : w'.ownsMap P k R b n D := by
  obtain ⟨es, clock, hb, F', hs, hD⟩ := ho
  exact ⟨es, clock, h.same hb hn, F', hs, hD⟩
theorem owns_new {w : World} {k : TypeId} {R : Value → Option (DataW Unit × List MemPlace)} {b : Nat} (h : w.heap[b]? = some (.map #[] 0)) : w.ownsMap Try.prog k R b 0 (.map []) :=
  ⟨#[], 0, h, ⟨by simp, MapKept.stamped_empty 0, by simp⟩, Nat.le_refl _, rfl⟩
/-- what stands at each key -/
def Tells (D : DataW Unit) (f : Int → Int → Int) : Prop := Maps.IsMap D ∧ ∀ a b, I32 a → I32 b → D.atKey (kl a b) (.lit (.int .i32 0)) = .lit (.int .i32 (f a b))
/-- and which keys are there -/
def Haves (D : DataW Unit) (p : Int → Int → Bool) : Prop := ∀ a b, I32 a → I32 b → Maps.has D (kl a b) = p a b
def upd {α : Type} (f : Int → Int → α) (a b : Int) (x : α) : Int → Int → α := fun a' b' => if a' = a ∧ b' = b then x else f a' b'
theorem kl_ne {a b c d : Int} (wa : I32 a) (wb : I32 b) (wc : I32 c) (wd : I32 d) (h : ¬ (c = a ∧ d = b)) : kl c d ≠ kl a b := fun e => h (kl_inj wc wd wa wb e)
theorem Tells.put {D : DataW Unit} {f : Int → Int → Int} (h : Tells D f) {a b : Int} (wa : I32 a) (wb : I32 b) (x : Int) : Tells (D.put (kl a b) (.lit (.int .i32 x))) (upd f a b x) := by
  refine ⟨h.1.put _ _, fun c d wc wd => ?_⟩
  unfold upd
  split
  · rename_i e
    obtain ⟨rfl, rfl⟩ := e
    rw [Maps.atKey_put_same h.1 (kl_key _ _)]
  · rename_i e
    rw [Maps.atKey_put_other (kl_ne wa wb wc wd e)]
    exact h.2 c d wc wd
theorem Haves.put {D : DataW Unit} {p : Int → Int → Bool} (hD : Maps.IsMap D) (h : Haves D p) {a b : Int} (wa : I32 a) (wb : I32 b) (x : DataW Unit) : Haves (D.put (kl a b) x) (upd p a b true) := by
  intro c d wc wd
  unfold upd
  split
  · rename_i e
    obtain ⟨rfl, rfl⟩ := e
    rw [Maps.has_put_same hD (kl_key _ _)]
  · rename_i e
    rw [Maps.has_put_other (kl_ne wa wb wc wd e)]
    exact h c d wc wd
/-- the weights of arcs, laid one behind the other -/
def wOf (l : List Ar) : Int → Int → Int := l.foldl (fun f x => upd f x.1 x.2.1 x.2.2) (fun _ _ => 0)
def kOf (l : List Ar) : Int → Int → Bool := l.foldl (fun f x => upd f x.1 x.2.1 true) (fun _ _ => false)
theorem wOf_more (l : List Ar) (x : Ar) : wOf (l ++ [x]) = upd (wOf l) x.1 x.2.1 x.2.2 := by simp [wOf]
theorem kOf_more (l : List Ar) (x : Ar) : kOf (l ++ [x]) = upd (kOf l) x.1 x.2.1 true := by simp [kOf]
/-- the first arc of these ends -/
def refW (l : List Ar) (a b : Int) : Int × Bool :=
  match l.find? (fun x => decide (x.1 = a ∧ x.2.1 = b)) with
  | some x => (x.2.2, true)
  | none => (0, false)
theorem dist_last {l : List Ar} {x : Ar} (h : Dist (l ++ [x])) : Dist l ∧ ∀ y ∈ l, keyA y ≠ keyA x := by
  unfold Dist at *
  rw [List.map_append, List.nodup_append] at h
  refine ⟨h.1, fun y hy e => ?_⟩
  exact h.2.2 (keyA y) (List.mem_map.2 ⟨y, hy, rfl⟩) (keyA x) (by simp) e
theorem weight_of : ∀ (n : Nat) (l : List Ar), l.length = n → Dist l → ∀ a b, wOf l a b = (refW l a b).1 ∧ kOf l a b = (refW l a b).2
  | 0, l, h, _, a, b => by
    obtain rfl := List.eq_nil_of_length_eq_zero h
    exact ⟨rfl, rfl⟩
  | n + 1, l, h, hd, a, b => by
    rcases List.eq_nil_or_concat l with rfl | ⟨L, x, hx⟩
    · simp at h
    rw [List.concat_eq_append] at hx
    subst hx
    obtain ⟨hd1, hd2⟩ := dist_last hd
    obtain ⟨i1, i2⟩ := weight_of n L (by simpa using h) hd1 a b
    rw [wOf_more, kOf_more]
    unfold upd refW
    rw [List.find?_append]
    by_cases e : a = x.1 ∧ b = x.2.1
    · rw [if_pos e, if_pos e]
      have hn : L.find? (fun x => decide (x.1 = a ∧ x.2.1 = b)) = none := by
        rw [List.find?_eq_none]
        intro y hy
        have := hd2 y hy
        unfold keyA at this
        simp only [decide_eq_true_eq]
        intro e2
        apply this
        rw [e2.1, e2.2, e.1, e.2]
      rw [hn]
      simp [e]
    · rw [if_neg e, if_neg e, i1, i2]
      unfold refW
      have hx : [x].find? (fun x => decide (x.1 = a ∧ x.2.1 = b)) = none := by
        rw [List.find?_eq_none]
        intro y hy
        simp only [List.mem_singleton] at hy
        subst hy
        simp only [decide_eq_true_eq]
        exact fun e2 => e ⟨e2.1.symm, e2.2.symm⟩
      rw [hx]
      cases L.find? (fun x => decide (x.1 = a ∧ x.2.1 = b)) <;> exact ⟨rfl, rfl⟩
/-- the map in memory -/
def WMap (w : World) (m : Nat) (k : Nat) (l : List Ar) : Prop := ∃ D, w.ownsMap Try.prog 26 (plainElem Try.prog 21) m k D ∧ Tells D (wOf l) ∧ Haves D (kOf l)
theorem WMap.turn {F : Nat → Prop} {w w' : World} {m k : Nat} {l : List Ar} (h : WMap w m k l) (t : Turn F w w') (hn : ¬ F m) : WMap w' m k l := by
  obtain ⟨D, h1, h2, h3⟩ := h
  exact ⟨D, t.map h1 hn, h2, h3⟩
theorem wmap_new {w : World} {m : Nat} (h : w.heap[m]? = some (.map #[] 0)) : WMap w m 0 [] :=
  ⟨.map [], owns_new h, ⟨⟨_, rfl⟩, fun a b _ _ => rfl⟩, fun a b _ _ => rfl⟩
theorem WMap.lt {w : World} {m k : Nat} {l : List Ar} (h : WMap w m k l) : ∃ es c, w.heap[m]? = some (.map es c) := by
  obtain ⟨D, ⟨es, clock, hb, _⟩, _⟩ := h
  exact ⟨es, clock, hb⟩
/-- a weight laid -/
theorem WMap.put {w : World} {m k : Nat} {l : List Ar} (h : WMap w m k l) (hk : k < 5000000) (x : Ar) (h1 : I32 x.1) (h2 : I32 x.2.1) (h3 : I32 x.2.2) :
    ∃ w', (Instr.mapUpdate 77 (.map (some m)) (.agg #[.int .i32 x.1, .int .i32 x.2.1]) (.int .i32 x.2.2)).run Try.prog w = .ok () w' ∧ WMap w' m (k + 1) (l ++ [x]) ∧ Turn (fun j => j = m) w w' := by
  obtain ⟨D, ho, ht, hh⟩ := h
  obtain ⟨w4, hu, o4, g4⟩ := World.ownsMap.update (w := w) ho mLawP Try.underlying77 (by unfold maxLen; omega) (keyOf_P h1 h2) (plainElem_int Try.underlying21 h3)
  refine ⟨w4, hu, ⟨_, o4, ?_, ?_⟩, Turn.grown g4 (fun j e => by cases e; rfl)⟩
  · rw [wOf_more]; exact ht.put h1 h2 _
  · rw [kOf_more]; exact hh.put ht.1 h1 h2 _
/-- a weight looked up -/
theorem WMap.look {w : World} {m k : Nat} {l : List Ar} (h : WMap w m k l) {a b : Int} (wa : I32 a) (wb : I32 b) :
    (Instr.lookup 77 (.map (some m)) (.agg #[.int .i32 a, .int .i32 b]) true).run Try.prog w = .ok (.tuple #[.int .i32 (wOf l a b), .bool (kOf l a b)]) w := by
  obtain ⟨D, ho, ht, hh⟩ := h
  obtain ⟨v, ps, hl, hv⟩ := World.ownsMap.look_ok (w := w) ho mLawP Try.underlying77 (mZero _) (plainElem_int (H := Unit) Try.underlying21 (by decide)) (keyOf_P wa wb)
  rw [ht.2 a b wa wb] at hv
  obtain ⟨c, rfl, hc, _⟩ := plainElem_int_inv Try.underlying21 hv
  have ec : c = wOf l a b := by simp at hc; exact hc.1.symm
  rw [hh a b wa wb] at hl
  subst ec
  exact hl
end Go.Proofs.Ytombpfpfeebnpaa
