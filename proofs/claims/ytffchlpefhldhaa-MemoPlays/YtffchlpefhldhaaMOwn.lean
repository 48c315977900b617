/- Worlds that turn at some blocks alone; a slice that owns its row from some place on; a map told by what stands at each key. -/
import Derived.Test.YtffchlpefhldhaaMKeys
import Derived.WideKeyEntry
import Derived.ArgAppend
import Derived.Maps.OwnOps
namespace Go.Proofs.Ytffchlpefhldhaa
open Go.RowKit Go.Maps
set_option linter.unusedVariables false

theorem hide {p : Prop} (h : p) : Hid p := h
theorem unhide {p : Prop} (h : Hid p) : p := h
theorem ret_int {k : IntKind} {a b : Int} (h : a = b) : Ending.returned (.int k a) = .returned (.int k b) := by rw [h]
theorem ret_bool {a b : Bool} (h : a = b) : Ending.returned (.bool a) = .returned (.bool b) := by rw [h]

/-- whatever block is none of F is as it was -/
structure Turn (F : Nat → Prop) (w w' : World) : Prop where
  os : w'.os = w.os
  tape : w'.tape = w.tape
  output : w'.output = w.output
  size : w.heap.size ≤ w'.heap.size
  block : ∀ k, k < w.heap.size → ¬ F k → w'.heap[k]? = w.heap[k]?

theorem Turn.refl (F : Nat → Prop) (w : World) : Turn F w w := ⟨rfl, rfl, rfl, Nat.le_refl _, fun _ _ _ => rfl⟩
theorem Turn.trans {F G : Nat → Prop} {a b c : World} (h : Turn F a b) (k : Turn G b c) (hG : ∀ j, G j → F j ∨ a.heap.size ≤ j) : Turn F a c :=
  ⟨k.os.trans h.os, k.tape.trans h.tape, k.output.trans h.output, Nat.le_trans h.size k.size, fun i hi hn => (k.block i (Nat.lt_of_lt_of_le hi h.size) (fun hg => by rcases hG i hg with h' | h'; exact hn h'; omega)).trans (h.block i hi hn)⟩
theorem Turn.then {F : Nat → Prop} {a b c : World} (h : Turn F a b) (k : Turn F b c) : Turn F a c := h.trans k (fun _ => .inl)
theorem Turn.mono {F G : Nat → Prop} {w w' : World} (h : Turn F w w') (hG : ∀ j, F j → G j) : Turn G w w' := ⟨h.os, h.tape, h.output, h.size, fun k hk hn => h.block k hk (fun hf => hn (hG k hf))⟩
theorem Turn.grown {F : Nat → Prop} {w w' : World} {row : Option Nat} (hg : w.grownBy w' row) (hr : ∀ k, row = some k → F k) : Turn F w w' :=
  ⟨hg.os, hg.tape, hg.output, hg.size, fun k hk hn => hg.block k hk (fun e => hn (hr k e.symm))⟩
theorem Turn.alloc {F : Nat → Prop} {a w : World} (h : Turn F a w) (o : Obj) : Turn F a (w.alloc o) :=
  h.trans (G := fun _ => False) (Turn.grown (World.grownBy_alloc w o none) (fun k e => by cases e)) (fun _ hf => hf.elim)
theorem Turn.drew {F : Nat → Prop} {a w : World} (h : Turn F a w) : Turn F a w.drew := ⟨h.os, h.tape, h.output, h.size, h.block⟩
theorem Turn.drewN {F : Nat → Prop} {a w : World} (h : Turn F a w) (n : Nat) : Turn F a (w.drewN n) := by
  induction n with
  | zero => exact h
  | succ n ih => exact ih.drew
theorem Turn.undrew {F : Nat → Prop} {w w' : World} (h : Turn F w.drew w') : Turn F w w' := ⟨h.os, h.tape, h.output, h.size, h.block⟩
theorem Turn.setCell {F : Nat → Prop} {a w : World} (h : Turn F a w) {p : Addr} (hp : F p.block ∨ a.heap.size ≤ p.block) (u : Value) : Turn F a (w.setCell p u) :=
  h.trans (G := fun j => j = p.block) ⟨rfl, rfl, rfl, by simp [World.setCell], fun k hk hn => Below.heap_setCell _ _ _ _ hn⟩ (fun j hj => by subst hj; exact hp)
theorem Turn.below {F : Nat → Prop} {w w' : World} {B : Nat} (h : Turn F w w') (hF : ∀ k, F k → B ≤ k) (hB : B ≤ w.heap.size) : Below B w w' :=
  ⟨h.os, h.tape, h.output, h.size, fun k hk => h.block k (by omega) (fun hf => by have := hF k hf; omega)⟩
theorem Turn.same {F : Nat → Prop} {w w' : World} (h : Turn F w w') {k : Nat} {o : Obj} (hk : w.heap[k]? = some o) (hn : ¬ F k) : w'.heap[k]? = some o :=
  (h.block k (Array.getElem?_eq_some_iff.1 hk).1 hn).trans hk
theorem Turn.cell {F : Nat → Prop} {w w' : World} (h : Turn F w w') {a : Addr} {v : Value} (hk : w.cell? a = some v) (hn : ¬ F a.block) : w'.cell? a = some v :=
  (World.cell?_of_block (w := w) (h.block a.block (World.block_lt_of_cell? _ _ hk) hn)).trans hk
theorem Turn.map {F : Nat → Prop} {H : Type} {w w' : World} {P : Program} {k : TypeId} {R : Value → Option (DataW H × List MemPlace)} {b n : Nat} {D : DataW H} (h : Turn F w w') (ho : w.ownsMap P k R b n D) (hn : ¬ F b) : w'.ownsMap P k R b n D := by
  obtain ⟨es, clock, hb, F', hs, hD⟩ := ho
  exact ⟨es, clock, h.same hb hn, F', hs, hD⟩

/-- a slice that owns its row from a place on, its spare room too -/
def OwnSl (w : World) (e : TypeId) (s : Nat) (v : Value) (n : Nat) (xs : List Value) : Prop :=
  xs.length = n * s ∧ ((v = .slice none 0 0 ∧ n = 0) ∨
    ∃ g off cap cur, v = .slice (some ⟨g, off, none⟩) n cap ∧ w.heap[g]? = some (.cells cur e (0, 0)) ∧ n ≤ cap ∧ cap ≤ maxLen ∧ off + cap * s ≤ cur.size ∧ (cur.toList.drop off).take (n * s) = xs)

theorem OwnSl.lt {w : World} {e : TypeId} {s : Nat} {v : Value} {n : Nat} {xs : List Value} (h : OwnSl w e s v n xs) : ∀ k, v.ownBlock = some k → ∃ cur, w.heap[k]? = some (.cells cur e (0, 0)) := by
  intro k hk
  rcases h.2 with ⟨rfl, _⟩ | ⟨g, off, cap, cur, rfl, hg, _⟩
  · simp [Value.ownBlock] at hk
  · simp [Value.ownBlock] at hk
    subst hk
    exact ⟨cur, hg⟩
theorem OwnSl.kept {w w' : World} {e : TypeId} {s : Nat} {v : Value} {n : Nat} {xs : List Value} (h : OwnSl w e s v n xs) (hb : ∀ k, v.ownBlock = some k → w'.heap[k]? = w.heap[k]?) : OwnSl w' e s v n xs := by
  refine ⟨h.1, ?_⟩
  rcases h.2 with hn | ⟨g, off, cap, cur, rfl, hg, rest⟩
  · exact .inl hn
  · exact .inr ⟨g, off, cap, cur, rfl, (hb g rfl).trans hg, rest⟩
theorem OwnSl.turn {F : Nat → Prop} {w w' : World} {e : TypeId} {s : Nat} {v : Value} {n : Nat} {xs : List Value} (h : OwnSl w e s v n xs) (ht : Turn F w w') (hn : ∀ k, v.ownBlock = some k → ¬ F k) : OwnSl w' e s v n xs :=
  h.kept (fun k hk => by obtain ⟨cur, hc⟩ := h.lt k hk; exact ht.block k (Array.getElem?_eq_some_iff.1 hc).1 (hn k hk))
theorem OwnSl.of_owns {w : World} {base : Nat} {e : TypeId} {s : Nat} {v : Value} {n : Nat} {xs : List Value} (h : w.ownsRow base e s v n xs) : OwnSl w e s v n xs := by
  refine ⟨h.1, ?_⟩
  rcases h.2 with hn | ⟨g, cap, cur, hv, _, hg, h1, h2, h3, h4⟩
  · exact .inl hn
  · exact .inr ⟨g, 0, cap, cur, hv, hg, h1, h2, by omega, by simpa using h4⟩
theorem OwnSl.cells {w : World} {e : TypeId} {s n g off cap : Nat} {xs : List Value} (h : OwnSl w e s (.slice (some ⟨g, off, none⟩) n cap) n xs) : ∀ j u, xs[j]? = some u → w.cell? ⟨g, off + j, none⟩ = some u := by
  intro j u hu
  rcases h.2 with ⟨hv, _⟩ | ⟨g', off', cap', cur, hv, hg, _, _, _, ht⟩
  · simp at hv
  · simp only [Value.slice.injEq, Option.some.injEq, Addr.mk.injEq, and_true, true_and] at hv
    obtain ⟨⟨rfl, rfl⟩, rfl⟩ := hv
    rw [cell_of_row w g (off + j) cur e (0, 0) hg]
    rw [← ht, List.getElem?_take, List.getElem?_drop] at hu
    split at hu
    · simpa using hu
    · cases hu

theorem cell_some {w : World} {g j : Nat} {cur : Array Value} {e : TypeId} (hg : w.heap[g]? = some (.cells cur e (0, 0))) (hj : j < cur.size) : (w.cell? ⟨g, j, none⟩).isSome = true ∧ w.frozen? ⟨g, j, none⟩ = false := by
  rw [cell_of_row w g j cur e (0, 0) hg]
  refine ⟨by simp [hj], ?_⟩
  simp [World.frozen?, hg]

/-- a write of neighbouring cells into a row -/
theorem heap_setCells {g : Nat} {e : TypeId} : ∀ (vs : List Value) (o : Nat) (w : World) (cur : Array Value), w.heap[g]? = some (.cells cur e (0, 0)) → o + vs.length ≤ cur.size →
    ∃ cur', (w.setCells g o vs).heap[g]? = some (.cells cur' e (0, 0)) ∧ cur'.size = cur.size ∧ ∀ j, cur'[j]? = if o ≤ j ∧ j < o + vs.length then vs[j - o]? else cur[j]?
  | [], o, w, cur, h, _ => ⟨cur, h, rfl, fun j => by rw [if_neg (by simp)]⟩
  | v :: vs, o, w, cur, h, hl => by
    have h1 : (w.setCell ⟨g, o, none⟩ v).heap[g]? = some (.cells (cur.setIfInBounds o v) e (0, 0)) := by
      have hlt := (Array.getElem?_eq_some_iff.1 h).1
      have h' := (Array.getElem?_eq_some_iff.1 h).2
      show (w.heap.modify g _)[g]? = _
      rw [Array.getElem?_eq_getElem (by rw [Array.size_modify]; exact hlt), Array.getElem_modify_self, h']
      rfl
    obtain ⟨cur', a1, a2, a3⟩ := heap_setCells vs (o + 1) (w.setCell ⟨g, o, none⟩ v) _ h1 (by simp at hl ⊢; omega)
    refine ⟨cur', a1, by simpa using a2, fun j => ?_⟩
    rw [a3 j]
    simp at hl
    by_cases hj : j = o
    · subst hj
      rw [if_neg (by omega), if_pos (by simp)]
      simp [show j < cur.size by omega]
    · by_cases hj2 : o + 1 ≤ j ∧ j < o + 1 + vs.length
      · rw [if_pos hj2, if_pos (by simp; omega)]
        rw [show j - o = (j - (o + 1)) + 1 by omega, List.getElem?_cons_succ]
      · rw [if_neg hj2, if_neg (by simp; omega)]
        simp [show ¬ o = j by omega]

theorem grown_setCell (w : World) (p : Addr) (u : Value) : w.grownBy (w.setCell p u) (some p.block) :=
  ⟨rfl, rfl, rfl, by simp [World.setCell], fun k hk hn => Below.heap_setCell _ _ _ _ (fun e => hn (by rw [e]))⟩
theorem grown_setCells (g : Nat) : ∀ (vs : List Value) (o : Nat) (w : World), w.grownBy (w.setCells g o vs) (some g)
  | [], _, w => ⟨rfl, rfl, rfl, Nat.le_refl _, fun _ _ _ => rfl⟩
  | v :: vs, o, w => by
    have h1 := grown_setCell w ⟨g, o, none⟩ v
    have h2 := grown_setCells g vs (o + 1) (w.setCell ⟨g, o, none⟩ v)
    exact ⟨h2.os.trans h1.os, h2.tape.trans h1.tape, h2.output.trans h1.output, Nat.le_trans h1.size h2.size, fun k hk hn => (h2.block k (Nat.lt_of_lt_of_le hk h1.size) hn).trans (h1.block k hk hn)⟩

/-- append onto such a slice -/
theorem run_append_sl {P : Program} {w : World} {t ty e : TypeId} {i : TypeInfo} {z : Value} {size bytes : Nat} (ht : P.underlying t = some (.slice e)) (hi : P.info? e = some i) (hz : i.zero = some z)
    (hsize : i.size = size) (hby : i.bytes = bytes) (hzs : z.cells.size = size) (hsz : 0 < size) {v : Value} {n : Nat} {xs : List Value} (h : OwnSl w e size v n xs)
    (a : Addr) (m c : Nat) (news : List Value) (hl : news.length = m * size) (hnews : ∀ j u, news[j]? = some u → w.cell? (a.add j) = some u) (h1 : ∀ u ∈ news, u.oneCell' = true) (hm : n + m ≤ maxLen) (hb : (n + m) * bytes ≤ 140737488355328) (hm0 : 0 < m) :
    ∃ g off cap w', (Builtin.append_ #[t, t] ty #[v, .slice (some a) m c]).run P w = .ok (.slice (some ⟨g, off, none⟩) (n + m) cap) w' ∧ OwnSl w' e size (.slice (some ⟨g, off, none⟩) (n + m) cap) (n + m) (xs ++ news) ∧ w.grownBy w' v.ownBlock ∧ (v.ownBlock = some g ∨ w.heap.size ≤ g) := by
  have form : ∀ {w' : World} {v' : Value}, w'.ownsRow w.heap.size e size v' (n + m) (xs ++ news) → ∃ g off cap, v' = .slice (some ⟨g, off, none⟩) (n + m) cap ∧ w.heap.size ≤ g := by
    intro w' v' ho
    rcases ho.2 with ⟨_, h0⟩ | ⟨g, cap, cur, rfl, hb, _⟩
    · omega
    · exact ⟨g, 0, cap, rfl, hb⟩
  rcases h.2 with ⟨rfl, rfl⟩ | ⟨g, off, cap, cur, rfl, hg, hnc, hcm, hfit, htk⟩
  · obtain rfl : xs = [] := List.eq_nil_of_length_eq_zero (by simpa using h.1)
    obtain ⟨v', w', hrun, r1, r2, _⟩ := run_append_own (P := P) w w.heap.size t ty e i z size bytes ht hi hz hsize hby hzs hsz (.slice none 0 0) 0 [] (World.ownsRow_nil w _ e size) a m c news hl hnews h1 hm hb (Nat.le_refl _)
    obtain ⟨g, off, cap, rfl, hge⟩ := form r1
    exact ⟨g, off, cap, w', hrun, OwnSl.of_owns r1, r2, .inr hge⟩
  · by_cases hr : n + m ≤ cap
    · subst hsize
      have hsp : n * i.size + news.length ≤ cap * i.size := by rw [hl, ← Nat.add_mul]; exact Nat.mul_le_mul_right _ hr
      have hrun := run_append_room_cells (P := P) w t ty e i ht hi g off n cap a m c news hl hnews h1 hr (fun j hj => (cell_some hg (by omega)).1) (fun j hj => (cell_some hg (by omega)).2)
      obtain ⟨cur', c1, c2, c3⟩ := heap_setCells news (off + n * i.size) w cur hg (by omega)
      refine ⟨g, off, cap, _, hrun, ⟨by rw [List.length_append, h.1, hl, Nat.add_mul], .inr ⟨g, off, cap, cur', rfl, c1, hr, hcm, by omega, ?_⟩⟩, grown_setCells g _ _ w, .inl rfl⟩
      · apply List.ext_getElem?
        intro j
        have hxl := h.1
        rw [List.getElem?_take, List.getElem?_drop]
        split
        · rename_i hj
          rw [show cur'.toList[off + j]? = cur'[off + j]? by simp, c3]
          have htk' : ∀ q, q < n * i.size → cur[off + q]? = xs[q]? := by
            intro q hq
            rw [← htk, List.getElem?_take, if_pos hq, List.getElem?_drop]
            simp
          by_cases hj2 : j < n * i.size
          · rw [if_neg (by omega), List.getElem?_append_left (by omega), htk' j hj2]
          · rw [Nat.add_mul] at hj
            rw [if_pos (by omega), List.getElem?_append_right (by omega), hxl, show off + j - (off + n * i.size) = j - n * i.size by omega]
        · rename_i hj
          rw [Nat.add_mul] at hj
          rw [List.getElem?_eq_none (by rw [List.length_append]; omega)]
    · obtain ⟨v', w', hrun, r1, r2⟩ := run_append_arg_grows (P := P) w t ty e i z size bytes ht hi hz hsize hby hzs hsz ⟨g, off, none⟩ n cap xs h.1 (fun j u hj => by rw [Addr.add_lit]; exact h.cells j u hj) a m c news hl hnews (by omega) hm hb
      obtain ⟨g', off', cap', rfl, hge⟩ := form r1
      exact ⟨g', off', cap', w', hrun, OwnSl.of_owns r1, ⟨r2.os, r2.tape, r2.output, r2.size, fun k hk _ => r2.block k hk (by simp)⟩, .inr hge⟩

/-- what stands at each key of a map of whole numbers -/
def Tells (D : DataW Unit) (f : Int → Int → Int) : Prop := Maps.IsMap D ∧ ∀ a b, I32 a → I32 b → D.atKey (kl a b) (.lit (.int .i64 0)) = .lit (.int .i64 (f a b))
/-- and which keys are there -/
def Haves (D : DataW Unit) (p : Int → Int → Bool) : Prop := ∀ a b, I32 a → I32 b → Maps.has D (kl a b) = p a b
def upd {α : Type} (f : Int → Int → α) (a b : Int) (x : α) : Int → Int → α := fun a' b' => if a' = a ∧ b' = b then x else f a' b'

theorem kl_ne {a b c d : Int} (wa : I32 a) (wb : I32 b) (wc : I32 c) (wd : I32 d) (h : ¬ (c = a ∧ d = b)) : kl c d ≠ kl a b := fun e => h (kl_inj wc wd wa wb e)
theorem Tells.put {D : DataW Unit} {f : Int → Int → Int} (h : Tells D f) {a b : Int} (wa : I32 a) (wb : I32 b) (x : Int) : Tells (D.put (kl a b) (.lit (.int .i64 x))) (upd f a b x) := by
  refine ⟨h.1.put _ _, fun c d wc wd => ?_⟩
  unfold upd
  split
  · rename_i e
    obtain ⟨rfl, rfl⟩ := e
    rw [Maps.atKey_put_same h.1 (kl_key _ _)]
  · rename_i e
    rw [Maps.atKey_put_other (kl_ne wa wb wc wd e)]
    exact h.2 c d wc wd
theorem Tells.del {D : DataW Unit} {f : Int → Int → Int} (h : Tells D f) {a b : Int} (wa : I32 a) (wb : I32 b) : Tells (D.del (kl a b)) (upd f a b 0) := by
  refine ⟨h.1.del _, fun c d wc wd => ?_⟩
  unfold upd
  split
  · rename_i e
    obtain ⟨rfl, rfl⟩ := e
    rw [Maps.atKey_del_same]
  · rename_i e
    rw [Maps.atKey_del_other (kl_ne wa wb wc wd e)]
    exact h.2 c d wc wd
theorem Haves.put {D : DataW Unit} {p : Int → Int → Bool} (hD : Maps.IsMap D) (h : Haves D p) {a b : Int} (wa : I32 a) (wb : I32 b) (x : DataW Unit) : Haves (D.put (kl a b) x) (upd p a b true) := by
  intro c d wc wd
  unfold upd
  split
  · rename_i e
    obtain ⟨rfl, rfl⟩ := e
    rw [Maps.has_put_same hD (kl_key _ _)]
  · rename_i e
    rw [Maps.has_put_other (kl_ne wa wb wc wd e)]
    exact h c d wc wd
theorem Haves.del {D : DataW Unit} {p : Int → Int → Bool} (h : Haves D p) {a b : Int} (wa : I32 a) (wb : I32 b) : Haves (D.del (kl a b)) (upd p a b false) := by
  intro c d wc wd
  unfold upd
  split
  · rename_i e
    obtain ⟨rfl, rfl⟩ := e
    rw [Maps.has_del_same]
  · rename_i e
    rw [Maps.has_del_other (kl_ne wa wb wc wd e)]
    exact h c d wc wd
theorem upd_upd {α : Type} (f : Int → Int → α) (a b : Int) (x y : α) : upd (upd f a b x) a b y = upd f a b y := by
  funext c d; unfold upd; split <;> simp_all
theorem upd_self {α : Type} (f : Int → Int → α) (a b : Int) : upd f a b (f a b) = f := by
  funext c d; unfold upd; split
  · rename_i e; rw [e.1, e.2]
  · rfl
end Go.Proofs.Ytffchlpefhldhaa
