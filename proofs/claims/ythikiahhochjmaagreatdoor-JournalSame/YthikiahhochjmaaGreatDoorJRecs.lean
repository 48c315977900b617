/- Records. -/
import Derived.Test.YthikiahhochjmaaGreatDoorJTrim
namespace Go.Proofs.YthikiahhochjmaaGreatDoor
open Go.RowKit Go.Maps
set_option linter.unusedVariables false
set_option linter.unusedSimpArgs false

/-- the list of bytes at a place -/
theorem Recs.at {w : World} {G : Nat → Prop} {v : Value} {zss : List (List Int)} (h : Recs w G v zss) (i : Nat) (z : List Int) (hz : zss[i]? = some z) :
    ∃ g off cap u, v = .slice (some ⟨g, off, none⟩) zss.length cap ∧ G g ∧ w.cell? ⟨g, off + i, none⟩ = some u ∧ OwnSl w 5 1 u z.length (z.map (Value.int .u8)) ∧ ∀ j, u.ownBlock = some j → G j := by
  obtain ⟨vs, h1, h2, h3, h4⟩ := h
  have hi : i < zss.length := (List.getElem?_eq_some_iff.1 hz).1
  have hu : vs[i]? = some (vs[i]'(by omega)) := List.getElem?_eq_getElem _
  have := h4 i (vs[i]'(by omega)) z hu hz
  have h1' := h1
  rcases h1.2 with ⟨rfl, h0⟩ | ⟨g, off, cap, cur, rfl, _⟩
  · omega
  · exact ⟨g, off, cap, _, by rw [h3], h2 g rfl, h1'.cells i _ hu, this.1, this.2⟩
theorem recsOf_len {l : List Sg} (h : ∀ s ∈ l, s.recs.length ≤ 1000000) : (recsOf l).length ≤ l.length * 1000000 := by
  induction l with
  | nil => simp [recsOf]
  | cons a r ih =>
    have h1 := h a (by simp)
    have h2 := ih (fun s hs => h s (by simp [hs]))
    simp only [recsOf, List.flatMap_cons, List.length_append, List.length_cons] at *
    omega
theorem recsOf_take {E : List Seg} {k : Nat} {e : Seg} (h : E[k]? = some e) : recsOf ((E.map Seg.sg).take (k + 1)) = recsOf ((E.map Seg.sg).take k) ++ e.recs := by
  have hk : k < (E.map Seg.sg).length := by simpa using (List.getElem?_eq_some_iff.1 h).1
  rw [List.take_succ_eq_append_getElem hk]
  have : (E.map Seg.sg)[k] = e.sg := by
    have := (List.getElem?_eq_some_iff.1 h).2
    simp [this]
  rw [this]
  simp [recsOf, Seg.sg]

set_option maxRecDepth 100000 in
set_option maxHeartbeats 4000000 in
theorem records_j (w : World) (H : Nat → Prop) (J D : Nat) (X : Jn) (S : Dk) (h : JAt w H J D X S) (fit : Fit X) (hz : ∀ s ∈ X.segs, ∀ b ∈ s.recs, b.length ≤ 1099511627776) :
    Calls Tryz.prog 20 #[.pointer (some ⟨J, 0, none⟩)] w fun e w' => ∃ x, e = .returned x ∧ Lists w' w.heap.size x (recsOf X.segs) ∧ Turn (fun _ => False) w w' := by
  obtain ⟨F, G, sv, E, d, m, hn, hF, hG⟩ := h
  have c2 : w.cell? ⟨J, 2, none⟩ = some sv := cell_obj m.obj 2
  have hXE := m.segs
  obtain ⟨hE, hEl⟩ := fit.seg hXE
  obtain ⟨sa, sc, hsv, hat⟩ := m.seg.r
  subst hsv
  have hrecs := m.seg.recs
  have hzE : ∀ e ∈ E, ∀ b ∈ e.recs, b.length ≤ 1099511627776 := fun e he => hz e.sg (by rw [hXE]; exact List.mem_map.2 ⟨e, he, rfl⟩)
  have hlen : ∀ k, (recsOf ((E.map Seg.sg).take k)).length ≤ 1000000000000 := fun k => by
    have h1 := recsOf_len (l := (E.map Seg.sg).take k) (fun s hs => by
      obtain ⟨e, he, rfl⟩ := List.mem_map.1 (List.mem_of_mem_take hs)
      exact (hE e he).2)
    have h2 : ((E.map Seg.sg).take k).length ≤ 1000000 := by rw [List.length_take, List.length_map]; omega
    have h3 := Nat.mul_le_mul_right 1000000 h2
    omega
  rw [hXE]
  clear m d hz hF hG hn
  go_enter Tryz.func20, Tryz.ntmps20
  go_wp2_with fail
  go_loopw [3, 15] (fun all i wr => ∃ k : Nat, i = .int .i64 (k : Int) ∧ k ≤ E.length ∧ Lists wr w.heap.size all (recsOf ((E.map Seg.sg).take k)) ∧ Turn (fun _ => False) w wr) (fun _ i _ => E.length - (intOf i).toNat)
  case atStart => exact ⟨0, rfl, Nat.zero_le _, by simpa [recsOf] using lists_none w w.heap.size, Turn.refl _ _⟩
  case round =>
    obtain ⟨k, rfl, hk, hL, hT⟩ := hrel
    by_cases hlt : k < E.length
    · obtain ⟨e, he⟩ : ∃ e, E[k]? = some e := ⟨E[k], List.getElem?_eq_getElem _⟩
      obtain ⟨g, off, hxa, hgG, q0, q1⟩ := hat k e he
      have heE : e ∈ E := List.mem_of_getElem? he
      have hre := hrecs e heE
      have hrl := (hE e heE).2
      obtain ⟨ra, rc, hv⟩ := hre.slice
      have p0 := hT.cell q0 id
      have p1 := hT.cell q1 id
      rw [hv] at p1
      subst hxa
      obtain ⟨la, lc, hlv⟩ := hL.slice
      have hnext := recsOf_take he
      have hlk := hlen (k + 1)
      rw [hnext] at hlk
      have Hnext := hide hnext
      have TA : Turn (fun _ => False) wr (wr.alloc (.cells #[.int .u64 (e.first : Int), .slice ra e.recs.length rc] 82)) := (Turn.refl _ wr).alloc _
      have kA := heap_alloc_new wr (.cells #[.int .u64 (e.first : Int), .slice ra e.recs.length rc] 82)
      have hTA := hT.then TA
      have hLA := hL.turn TA (fun _ _ h => h)
      clear he q0 q1 hnext hlen
      go_wp2_with fail
      go_loopw [3, 22] (fun all2 i2 wq => ∃ q : Nat, i2 = .int .i64 (q : Int) ∧ q ≤ e.recs.length ∧ Lists wq w.heap.size all2 (recsOf ((E.map Seg.sg).take k) ++ e.recs.take q) ∧ Turn (fun _ => False) w wq) (fun _ i2 _ => e.recs.length - (intOf i2).toNat)
      case atStart => exact ⟨0, rfl, Nat.zero_le _, by simpa using hLA, hTA⟩
      case round =>
        obtain ⟨q, rfl, hq, hL2, hT2⟩ := hrel
        by_cases hlq : q < e.recs.length
        · obtain ⟨z, hzq⟩ : ∃ z, e.recs[q]? = some z := ⟨e.recs[q], List.getElem?_eq_getElem _⟩
          obtain ⟨g2, off2, cap2, u, hv2, hgG2, c3, ho, hug⟩ := hre.at q z hzq
          rw [hv] at hv2
          simp only [Value.slice.injEq, true_and] at hv2
          obtain ⟨rfl, rfl⟩ := hv2
          obtain ⟨ua, uc, rfl⟩ := ho.form
          have p3 := hT2.cell c3 id
          have ho2 := ho.turn hT2 (fun _ _ h => h)
          obtain ⟨l2, k2, hl2⟩ := hL2.slice
          have hzl := hzE e heE z (List.mem_of_getElem? hzq)
          have htk : e.recs.take (q + 1) = e.recs.take q ++ [z] := by
            rw [List.take_succ_eq_append_getElem hlq]
            have := (List.getElem?_eq_some_iff.1 hzq).2
            simp [this]
          have hcap : (recsOf ((E.map Seg.sg).take k) ++ e.recs.take q).length ≤ 1099511627776 := by
            rw [List.length_append, List.length_take]
            rw [List.length_append] at hlk
            omega
          have Htk := hide htk
          clear hzq c3 htk
          obtain ⟨nn, hnn⟩ : ∃ nn, nn = (recsOf ((E.map Seg.sg).take k) ++ e.recs.take q).length := ⟨_, rfl⟩
          rw [← hnn] at hl2
          clear hnn
          subst hl2
          go_wp2_with fail
          refine (clone_walk _ _ z _ (row_of_sl ho2) (by omega)).mono ?_
          rintro y w1 ⟨x, rfl, hx, hf, T1⟩
          have hL3 := hL2.turn T1 (fun _ _ h => h)
          have hT3 := hT2.then T1
          obtain ⟨v2, w2, hrun, hL4, hT4⟩ := Lists.push hT3 rfl hL3 hx (fun j hj => Nat.le_trans hT2.size (hf j hj)) hcap
          obtain ⟨xa, xc, rfl⟩ := hx.form
          have Hcap := hide hcap
          clear hcap
          go_wp2_with (at_builtin; refine list_append_run rfl _ _ 29 rfl _ _ _ _ rfl rfl hrun ?_)
          exact ⟨⟨q + 1, by go_num, by omega, by rw [unhide Htk, ← List.append_assoc]; exact hL4, hT4⟩, by simp [intOf]; omega⟩
        · have hqe : q = e.recs.length := by omega
          rw [hqe, List.take_length] at hL2
          rw [← unhide Hnext] at hL2
          clear Hnext hlk
          go_wp2
          exact ⟨⟨k + 1, by go_num, by omega, hL2, hT2⟩, by simp [intOf]; omega⟩
    · have hke : (E.map Seg.sg).take k = E.map Seg.sg := List.take_of_length_le (by rw [List.length_map]; omega)
      rw [hke] at hL
      clear hlen hke hat
      obtain ⟨la, lc, hlv⟩ := hL.slice
      go_wp2
      go_ret
      exact ⟨_, rfl, hL, hT⟩
end Go.Proofs.YthikiahhochjmaaGreatDoor
