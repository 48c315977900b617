/- A segment more, a record more. -/
import Derived.Test.YthikiahhochjmaaGreatDoorJSettle
namespace Go.Proofs.YthikiahhochjmaaGreatDoor
open Go.RowKit Go.Maps
set_option linter.unusedVariables false
set_option linter.unusedSimpArgs false

/-- append, of which the run is known, in a region that draws -/
theorem step_append_run {P : Program} {ops : Array Oper} {o : Oper} {a : Act} {w : World} {K : Act → World → Prop} {Q : Exit → Act → World → Prop} {E : Prop}
    (hg : o.guard = none) (s x : Operand) (t : TypeId) (hop : o.op = Op.call { callee := Callee.builtin Builtin.append, args := #[s, x], argTypes := #[t, t] }) (v xv v' : Value) (w' : World) (hs : a.eval s = v) (hx : a.eval x = xv)
    (hrun : (Builtin.append_ #[t, t] o.type #[v, xv]).run P w = .ok v' w') (hK : K (a.put o.dst v') w') :
    if Region.wanted o (yielded ops a.tmps) = true then Oper.wp P o a w K Q else E := by
  have hw : Region.wanted o (yielded ops a.tmps) = true := by simp [Region.wanted, hg]
  rw [if_pos hw]
  unfold Oper.wp
  simp [execOp, hop, resolve, invoke, builtin, hs, hx, hrun, Result.andThen]
  exact hK

/-- a block of one kind is none of another one's -/
theorem OwnSl.other {w : World} {e e' : TypeId} {s s' n n' : Nat} {v v' : Value} {xs xs' : List Value} (h : OwnSl w e s v n xs) (h' : OwnSl w e' s' v' n' xs') (he : e ≠ e') : ∀ k, v.ownBlock = some k → ¬ v'.ownBlock = some k := by
  intro k hk hk'
  obtain ⟨c1, h1⟩ := h.lt k hk
  obtain ⟨c2, h2⟩ := h'.lt k hk'
  rw [h1] at h2
  cases h2
  exact he rfl
theorem Recs.blocks {F G : Nat → Prop} {w w' : World} {v : Value} {zss : List (List Int)} (h : Recs w G v zss) (T : Turn F w w') (hv : ∀ k, v.ownBlock = some k → ¬ F k)
    (hu : ∀ (u : Value) (n : Nat) (xs : List Value), OwnSl w 5 1 u n xs → ∀ k, u.ownBlock = some k → G k → ¬ F k) : Recs w' G v zss := by
  obtain ⟨vs, h1, h2, h3, h4⟩ := h
  exact ⟨vs, h1.turn T hv, h2, h3, fun i u z hu' hz => ⟨(h4 i u z hu' hz).1.turn T (fun k hk => hu u _ _ (h4 i u z hu' hz).1 k hk ((h4 i u z hu' hz).2 k hk)), (h4 i u z hu' hz).2⟩⟩

/-- what has been made since -/
def Plus (G : Nat → Prop) (w : World) (x : Value) : Nat → Prop := fun j => G j ∨ x.ownBlock = some j ∨ w.heap.size ≤ j
theorem recs_push {w : World} {G : Nat → Prop} {v rv : Value} {zss : List (List Int)} {z : List Int} (h : Recs w G v zss) (hx : OwnSl w 5 1 rv z.length (z.map (Value.int .u8))) (B : Nat)
    (hB : w.heap[B]? = some (.cells #[rv] 33 (0, 0))) (hm : zss.length ≤ 1000000) :
    ∃ v' w2, (Builtin.append_ #[29, 29] 29 #[v, .slice (some ⟨B, 0, none⟩) 1 1]).run Tryz.prog w = .ok v' w2 ∧ Recs w2 (Plus G w rv) v' (zss ++ [z]) ∧ Turn (fun j => v.ownBlock = some j) w w2 ∧ (∀ j, v'.ownBlock = some j → v.ownBlock = some j ∨ w.heap.size ≤ j) := by
  obtain ⟨i0, hi, hz0, hz1, hz2⟩ := info_parts info_sl
  obtain ⟨vs, h1, h2, h3, h4⟩ := h
  have hs : Src 1 w (.slice (some ⟨B, 0, none⟩) 1 1) 1 [rv] := ⟨rfl, .inr ⟨_, _, rfl, by omega, fun j u hu => by
    have hj : j = 0 := by
      have := (List.getElem?_eq_some_iff.1 hu).1
      simp at this; exact this
    subst hj
    simp at hu; subst hu
    rw [Addr.add_lit]
    exact cell_obj hB 0⟩⟩
  obtain ⟨ax, cx, hxv⟩ := hx.form
  obtain ⟨v', w2, r1, r2, r3, r4⟩ := append_src (P := Tryz.prog) (ty := 29) Tryz.underlying29 hi hz0 hz1 hz2 rfl (by omega) h1 hs (fun u hu => by simp at hu; subst hu; rw [hxv]; rfl) (by unfold maxLen; omega) (by omega)
  have keep : ∀ (u : Value) (y : List Int), OwnSl w 5 1 u y.length (y.map (Value.int .u8)) → OwnSl w2 5 1 u y.length (y.map (Value.int .u8)) := fun u y hu => hu.turn r3 (hu.other h1 (by decide))
  refine ⟨v', w2, r1, ⟨vs ++ [rv], by simpa using r2, fun j hj => ?_, by simp [h3], fun i u y hu hy => ?_⟩, r3, r4⟩
  · rcases r4 j hj with h | h
    · exact .inl (h2 j h)
    · exact .inr (.inr h)
  · by_cases hlt : i < vs.length
    · rw [List.getElem?_append_left hlt] at hu
      rw [List.getElem?_append_left (by omega)] at hy
      have := h4 i u y hu hy
      exact ⟨keep u y this.1, fun j hj => .inl (this.2 j hj)⟩
    · rw [List.getElem?_append_right (by omega)] at hu
      rw [List.getElem?_append_right (by omega)] at hy
      have hi0 : i - vs.length = 0 := by
        rcases Nat.eq_zero_or_pos (i - vs.length) with h | h
        · exact h
        · rw [List.getElem?_eq_none (by simp; omega)] at hu; cases hu
      rw [hi0] at hu
      rw [show i - zss.length = 0 by omega] at hy
      simp at hu hy
      subst hu hy
      exact ⟨keep _ _ hx, fun j hj => .inr (.inl hj)⟩

/-- a segment behind those that are there -/
theorem segs_push {w : World} {G G2 : Nat → Prop} {sv : Value} {E : List Seg} {e : Seg} (h : SegM w G sv E) (hx : Recs w G2 e.v e.recs) (hap : ∀ x ∈ E, ∀ j, x.v.ownBlock = some j → e.v.ownBlock ≠ some j) (B : Nat)
    (hB : w.heap[B]? = some (.cells #[.int .u64 (e.first : Int), e.v] 82 (0, 0))) (hm : E.length ≤ 1000000) :
    ∃ sv' w2, (Builtin.append_ #[77, 77] 77 #[sv, .slice (some ⟨B, 0, none⟩) 1 1]).run Tryz.prog w = .ok sv' w2 ∧ SegM w2 (fun j => G j ∨ G2 j ∨ w.heap.size ≤ j) sv' (E ++ [e]) ∧ Turn (fun j => sv.ownBlock = some j) w w2 := by
  obtain ⟨i0, hi, hz0, hz1, hz2⟩ := info_parts info_seg
  have hs : Src 2 w (.slice (some ⟨B, 0, none⟩) 1 1) 1 e.cells := ⟨rfl, .inr ⟨_, _, rfl, by omega, fun j u hu => by
    rw [Addr.add_lit, Nat.zero_add]
    have := cell_obj hB j
    rw [this]
    have hj := (List.getElem?_eq_some_iff.1 hu).1
    simp only [Seg.cells, List.length_cons, List.length_nil] at hj
    match j, hj with
    | 0, _ => simpa [Seg.cells] using hu
    | 1, _ => simpa [Seg.cells] using hu⟩⟩
  obtain ⟨ra, rc, hv⟩ := hx.slice
  obtain ⟨sv', w2, r1, r2, r3, r4⟩ := append_src (P := Tryz.prog) (ty := 77) Tryz.underlying77 hi hz0 hz1 hz2 rfl (by omega) h.own hs (fun u hu => by
    simp only [Seg.cells, List.mem_cons, List.not_mem_nil, or_false] at hu
    rcases hu with rfl | rfl
    · rfl
    · rw [hv]; rfl) (by unfold maxLen; omega) (by omega)
  have hu : ∀ (u : Value) (n : Nat) (xs : List Value), OwnSl w 5 1 u n xs → ∀ k, u.ownBlock = some k → ¬ sv.ownBlock = some k := fun u n xs ho => ho.other h.own (by decide)
  have keep : ∀ {G' : Nat → Prop} {v : Value} {zss : List (List Int)}, Recs w G' v zss → Recs w2 G' v zss := fun hr => by
    have hr' := hr
    obtain ⟨vs, h1, _⟩ := hr'
    exact hr.blocks r3 (h1.other h.own (by decide)) (fun u n xs ho k hk _ => hu u n xs ho k hk)
  refine ⟨sv', w2, r1, ⟨?_, fun j hj => ?_, fun x hx' => ?_, ?_⟩, r3⟩
  · rw [List.length_append, cellsS_append]
    have : cellsS [e] = e.cells := by simp [cellsS]
    rw [this]
    exact r2
  · rcases r4 j hj with h' | h'
    · exact .inl (h.blk j h')
    · exact .inr (.inr h')
  · rcases List.mem_append.1 hx' with hx' | hx'
    · exact (keep (h.recs x hx')).mono (fun j hj _ => .inl hj)
    · simp at hx'; subst hx'
      exact (keep hx).mono (fun j hj _ => .inr (.inl hj))
  · rw [List.pairwise_append]
    exact ⟨h.apart, List.pairwise_singleton _ _, fun x hx' y hy => by simp at hy; subst hy; exact hap x hx'⟩

/-- a journal's segments, others in their place -/
theorem jmem_segs {w : World} {G : Nat → Prop} {J D : Nat} {sv sv' : Value} {E' : List Seg} {most settled : Nat} {down : Bool} (X' : Jn)
    (ho : w.heap[J]? = some (.cells #[.pointer (some ⟨D, 0, none⟩), .int .i64 (most : Int), sv, .int .i64 (settled : Int), .bool down] 79 (0, 0))) (hs : SegM w G sv' E') (hJ : G J)
    (hX : X' = ⟨most, E'.map Seg.sg, settled, down⟩) :
    JMem (w.setCell ⟨J, 2, none⟩ sv') G J D sv' E' X' ∧ Turn (fun b => b = J) w (w.setCell ⟨J, 2, none⟩ sv') := by
  have t : Turn (fun b => b = J) w (w.setCell ⟨J, 2, none⟩ sv') := (Turn.refl (fun b => b = J) w).setCell (p := ⟨J, 2, none⟩) (.inl rfl) sv'
  have ho' := heap_setCell_obj (j := 2) ho sv'
  have hneB : ∀ {e : TypeId} {s n : Nat} {v : Value} {xs : List Value}, OwnSl w e s v n xs → e ≠ 79 → ∀ k, v.ownBlock = some k → ¬ k = J := fun h he k hk => h.neObj ho he k hk
  subst hX
  refine ⟨⟨ho', hJ, ⟨hs.own.turn t (hneB hs.own (by decide)), hs.blk, fun e he => ?_, hs.apart⟩, rfl⟩, t⟩
  obtain ⟨vs, h1, h2, h3, h4⟩ := hs.recs e he
  exact ⟨vs, h1.turn t (hneB h1 (by decide)), h2, h3, fun i u z hu hz => ⟨(h4 i u z hu hz).1.turn t (hneB (h4 i u z hu hz).1 (by decide)), (h4 i u z hu hz).2⟩⟩

/-- a journal and its disk, put together -/
theorem jat_mk {w : World} {H F G : Nat → Prop} {J D : Nat} {sv : Value} {E : List Seg} {X : Jn} {S : Dk} (d : DAt w D F S) (m : JMem w G J D sv E X) (hn : ∀ j, F j → G j → j < w.heap.size → False)
    (hF : ∀ j, F j → j < w.heap.size → H j) (hG : ∀ j, G j → j < w.heap.size → H j) : JAt w H J D X S :=
  ⟨fun j => F j ∧ j < w.heap.size, fun j => G j ∧ j < w.heap.size, sv, E, d.mono (fun j hj hl => ⟨hj, hl⟩), m.mono (fun j hj hl => ⟨hj, hl⟩), fun j hf hg => hn j hf.1 hg.1 hf.2, fun j hj => ⟨hF j hj.1 hj.2, hj.2⟩, fun j hj => ⟨hG j hj.1 hj.2, hj.2⟩⟩
theorem recs_one {w : World} {G : Nat → Prop} {rv : Value} {z : List Int} (B : Nat) (hB : w.heap[B]? = some (.cells #[rv] 33 (0, 0))) (hx : OwnSl w 5 1 rv z.length (z.map (Value.int .u8))) (h1 : G B) (h2 : ∀ j, rv.ownBlock = some j → G j) :
    Recs w G (.slice (some ⟨B, 0, none⟩) 1 1) [z] := by
  refine ⟨[rv], ⟨rfl, .inr ⟨B, 0, 1, _, rfl, hB, Nat.le_refl _, by unfold maxLen; omega, by simp, rfl⟩⟩, fun j hj => ?_, rfl, fun i u y hu hy => ?_⟩
  · simp [Value.ownBlock] at hj; subst hj; exact h1
  · match i, hu, hy with
    | 0, hu, hy => simp at hu hy; subst hu hy; exact ⟨hx, h2⟩
    | i + 1, hu, _ => simp at hu

theorem cellsS_set (E' : List Seg) (e : Seg) (v : Value) (rs : List (List Int)) : (cellsS (E' ++ [e])).set (E'.length * 2 + 1) v = cellsS (E' ++ [⟨e.first, v, rs⟩]) := by
  rw [cellsS_append, cellsS_append, List.set_append_right _ _ (by rw [cellsS_len]; omega), cellsS_len]
  congr 1
  rw [show E'.length * 2 + 1 - E'.length * 2 = 1 by omega]
  simp [cellsS, Seg.cells]
/-- the last segment's records, others in their place -/
theorem segs_more {w w2 : World} {G G' : Nat → Prop} {sv v' : Value} {E' : List Seg} {e : Seg} {rs : List (List Int)} {g off cap : Nat} (h : SegM w G sv (E' ++ [e])) (t : Turn (fun j => e.v.ownBlock = some j) w w2) (hr : Recs w2 G' v' rs) (hG' : ∀ j, G j → G' j)
    (hv' : ∀ j, v'.ownBlock = some j → e.v.ownBlock = some j ∨ w.heap.size ≤ j) (hsv : sv = .slice (some ⟨g, off, none⟩) (E'.length + 1) cap) :
    SegM (w2.setCell ⟨g, off + (E'.length * 2 + 1), none⟩ v') G' sv (E' ++ [⟨e.first, v', rs⟩]) ∧ w2.frozen? ⟨g, off + (E'.length * 2 + 1), none⟩ = false ∧ Turn (fun j => j = g) w2 (w2.setCell ⟨g, off + (E'.length * 2 + 1), none⟩ v') := by
  have hre := h.recs e (by simp)
  have hev := hre.blk
  have hsg : ∀ k, sv.ownBlock = some k → ¬ e.v.ownBlock = some k := fun k hk he => by
    obtain ⟨cur, hc⟩ := h.own.lt k hk
    obtain ⟨_, cur', hc'⟩ := hev k he
    rw [hc] at hc'
    simp at hc'
  have ho := h.own.turn t hsg
  have hlen : (E' ++ [e]).length = E'.length + 1 := by simp
  subst hsv
  rw [hlen] at ho
  have hst := ho.set (E'.length * 2 + 1) (by omega) v'
  rw [cellsS_set E' e v' rs] at hst
  have ts : Turn (fun j => j = g) w2 (w2.setCell ⟨g, off + (E'.length * 2 + 1), none⟩ v') := (Turn.refl (fun j => j = g) w2).setCell (p := ⟨g, off + (E'.length * 2 + 1), none⟩) (.inl rfl) v'
  have notg : ∀ {e' : TypeId} {s n : Nat} {u : Value} {xs : List Value}, OwnSl w2 e' s u n xs → e' ≠ 82 → ∀ k, u.ownBlock = some k → ¬ k = g := fun h' he k hk hg => by
    subst hg
    exact h'.other ho he k hk rfl
  have keep : ∀ {G2 : Nat → Prop} {u : Value} {zss : List (List Int)}, Recs w2 G2 u zss → Recs (w2.setCell ⟨g, off + (E'.length * 2 + 1), none⟩ v') G2 u zss := fun hq => by
    have hq' := hq
    obtain ⟨vs, h1, _⟩ := hq'
    exact hq.blocks ts (notg h1 (by decide)) (fun u n xs ho' k hk _ => notg ho' (by decide) k hk)
  refine ⟨⟨?_, fun j hj => hG' j (h.blk j hj), fun x hx => ?_, ?_⟩, hst.2, ts⟩
  · rw [show (E' ++ [(⟨e.first, v', rs⟩ : Seg)]).length = E'.length + 1 by simp]
    exact hst.1
  · rcases List.mem_append.1 hx with hx | hx
    · have hx0 := h.recs x (by simp [hx])
      have hap := h.apart
      rw [List.pairwise_append] at hap
      have hxe := hap.2.2 x hx e (by simp)
      refine keep ((hx0.blocks t (fun k hk he => hxe k hk he) (fun u n xs ho' k hk _ he => ?_)).mono (fun j hj _ => hG' j hj))
      obtain ⟨cur, hc⟩ := ho'.lt k hk
      obtain ⟨_, cur', hc'⟩ := hev k he
      rw [hc] at hc'
      simp at hc'
    · simp at hx; subst hx
      exact keep hr
  · have hap := h.apart
    rw [List.pairwise_append] at hap ⊢
    refine ⟨hap.1, List.pairwise_singleton _ _, fun x hx y hy j hj hj' => ?_⟩
    simp at hy; subst hy
    rcases hv' j hj' with q | q
    · exact hap.2.2 x hx e (by simp) j hj q
    · obtain ⟨_, cur, hc⟩ := (h.recs x (by simp [hx])).blk j hj
      have := (Array.getElem?_eq_some_iff.1 hc).1
      omega
end Go.Proofs.YthikiahhochjmaaGreatDoor
