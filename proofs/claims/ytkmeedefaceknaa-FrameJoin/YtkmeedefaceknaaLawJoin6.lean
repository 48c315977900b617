/- What is scanned of frames, with others behind, is what is scanned of both. -/
import Derived.Test.YtkmeedefaceknaaFJoin
namespace Go.Proofs.Ytkmeedefaceknaa
open Go.RowKit Go.Maps
set_option linter.unusedVariables false
set_option linter.unusedSimpArgs false

/-- an element of a list that was made, and one that was handed in, of the same bytes -/
def Pair6 (w : World) (g i g' i' : Nat) : Prop := ∃ a c a' c' n n' z, w.cell? ⟨g, i, none⟩ = some (.slice a n c) ∧ w.cell? ⟨g', i', none⟩ = some (.slice a' n' c') ∧ Row .u8 any w (.slice a n c) z ∧ Row .u8 any w (.slice a' n' c') z
theorem Pair6.turn {w w' : World} {g i g' i' : Nat} (h : Pair6 w g i g' i') (T : Turn (fun _ => False) w w') : Pair6 w' g i g' i' := by
  obtain ⟨a, c, a', c', n, n', z, h1, h2, h3, h4⟩ := h
  exact ⟨a, c, a', c', n, n', z, T.cell h1 (fun h => h), T.cell h2 (fun h => h), h3.turn T (fun _ _ h => h), h4.turn T (fun _ _ h => h)⟩

set_option maxHeartbeats 4000000 in
theorem FrameJoin_law (w : World) (va : Value) (ls : List (List Int)) (ha : BArgs w va ls) (vb : Value) (bs : List (List Int)) (hb : BArgs w vb bs) :
    Calls Try.prog 8 #[va, vb] w fun e w' => e = .returned (.bool true) ∧ Below w.heap.size w w' := by
  obtain ⟨a0, ca0, rfl⟩ := ha.form
  obtain ⟨b0, cb0, rfl⟩ := hb.form
  go_enter Try.func8, Try.ntmps8
  go_wp2_with fail
  refine (awake_walk _).mono ?_
  rintro e w1 ⟨rfl, k1⟩
  have ha1 := ha.below k1
  have hb1 := hb.below k1
  go_wp2_with fail
  refine (packed_walk _ _ _ ha1).mono ?_
  rintro e w2 ⟨hP, T2⟩
  have ha2 := ha1.turn T2
  have hb2 := hb1.turn T2
  have B2 := below_then k1 T2.all
  have hna : min ls.length 20 ≤ ls.length := Nat.min_le_left _ _
  have hna2 : min ls.length 20 ≤ 20 := Nat.min_le_right _ _
  generalize hNa : min ls.length 20 = na at *
  clear hNa ha1 hb1 ha hb
  rcases hP with rfl | ⟨x2, rfl, ho2, hf2, hs2⟩
  · clear ha2 T2 k1 hna hna2
    go_wp2_with fail
    refine (packed_walk _ _ _ hb2).mono ?_
    rintro e w3 ⟨hP, T3⟩
    have B3 := below_then B2 T3.all
    rcases hP with rfl | ⟨x3, rfl, ho3, hf3, hs3⟩
    · clear hb2 T3
      go_wp2
      go_ret
      exact ⟨rfl, B3⟩
    · obtain ⟨p3, q3, rfl⟩ := ho3.form
      clear hb2 T3 ho3 hf3 hs3
      go_wp2
      go_ret
      exact ⟨rfl, B3⟩
  obtain ⟨p2, q2, rfl⟩ := ho2.form
  go_wp2_with fail
  refine (packed_walk _ _ _ hb2).mono ?_
  rintro e w3 ⟨hP, T3⟩
  have ha3 := ha2.turn T3
  have hb3 := hb2.turn T3
  have ho23 := ho2.turn T3 (fun _ _ h => h)
  have B3 := below_then B2 T3.all
  have hnb : min bs.length 20 ≤ bs.length := Nat.min_le_left _ _
  have hnb2 : min bs.length 20 ≤ 20 := Nat.min_le_right _ _
  generalize hNb : min bs.length 20 = nb at *
  clear hNb ha2 hb2 ho2 k1 B2 T2 T3
  rcases hP with rfl | ⟨x3, rfl, ho3, hf3, hs3⟩
  · clear ha3 hb3 ho23 hf2 hs2 hna hna2
    go_wp2
    go_ret
    exact ⟨rfl, B3⟩
  obtain ⟨p3, q3, rfl⟩ := ho3.form
  have hl2 := small_len hs2
  have hl3 := small_len hs3
  have hby2 : Bytes (frames (ls.take na)) := frames_bytes (fun z hz => ha3.bytes z (List.mem_of_mem_take hz))
  have hby3 : Bytes (frames (bs.take nb)) := frames_bytes (fun z hz => hb3.bytes z (List.mem_of_mem_take hz))
  have hsc : scanT (frames (ls.take na) ++ frames (bs.take nb)) = (ls.take na ++ bs.take nb, (frames (ls.take na)).length + (frames (bs.take nb)).length, 0) := by
    have hall : ∀ b ∈ ls.take na ++ bs.take nb, b.length ≤ 1048576 := fun b hb => by
      rcases List.mem_append.1 hb with h | h
      · have := hs2 b h; unfold Small at this; omega
      · have := hs3 b h; unfold Small at this; omega
    have := scan_whole _ hall
    rw [frames_append, List.length_append] at this
    exact this
  have hta : (ls.take na).length = na := by rw [List.length_take]; omega
  have htb : (bs.take nb).length = nb := by rw [List.length_take]; omega
  clear hs2 hs3
  have hga : ∀ i, i < na → (ls.take na ++ bs.take nb)[i]? = some (ls.getD i []) := fun i hi => by
    rw [List.getElem?_append_left (by omega), List.getElem?_take, if_pos hi]; simp [show i < ls.length by omega]
  have hgb : ∀ i, i < nb → (ls.take na ++ bs.take nb)[na + i]? = some (bs.getD i []) := fun i hi => by
    rw [List.getElem?_append_right (by omega), hta, Nat.add_sub_cancel_left, List.getElem?_take, if_pos hi]; simp [show i < bs.length by omega]
  have hlab : (ls.take na ++ bs.take nb).length = na + nb := by rw [List.length_append, hta, htb]
  clear hta htb
  generalize ls.take na ++ bs.take nb = L at *
  generalize frames (ls.take na) = X at *
  generalize frames (bs.take nb) = Y at *
  go_wp2_with fail
  refine (copy_walk _ _ X _ (row_of_sl ho23) (by omega)).mono ?_
  rintro e w4 ⟨x4, rfl, ho4, hf4, T4⟩
  have ha4 := ha3.turn T4
  have hb4 := hb3.turn T4
  have ho34 := ho3.turn T4 (fun _ _ h => h)
  obtain ⟨p4, q4, rfl⟩ := ho4.form
  obtain ⟨x5, w5, hrun, ho5, hf5, T5⟩ := push T4 ho4 hf4 (OwnSl.src ho34) (by omega)
  have ha5 := ha3.turn T5
  have hb5 := hb3.turn T5
  have B5 := below_then B3 T5.all
  clear ha4 hb4 ha3 hb3 ho34 ho3 ho23 ho4 T4 T5 hf2 hf3 hf4 B3
  have hXY : (X ++ Y).length ≤ 1099511627776 := by rw [List.length_append]; omega
  go_wp2_with (first | (at_builtin; refine list_append_run rfl _ _ 22 rfl _ _ _ _ rfl rfl hrun ?_) | fail)
  refine (Scan_walk _ _ (X ++ Y) _ (hby2.append hby3) hXY (row_of_sl ho5)).mono ?_
  rw [hsc]
  rintro e w6 ⟨x6, rfl, hL6, T6⟩
  change Lists w6 _ x6 L at hL6
  have ha6 := ha5.turn T6
  have hb6 := hb5.turn T6
  have B6 := below_then B5 T6.all
  obtain ⟨p6, q6, rfl⟩ := hL6.slice
  clear hrun ho5 hf5 ha5 hb5 T6 B5 hXY hsc hby2 hby3
  have HA : Hid (∀ i, i < na → ∃ g o g' o', p6 = some ⟨g, o, none⟩ ∧ a0 = some ⟨g', o', none⟩ ∧ Pair6 w6 g (o + i) g' (o' + i)) := hide fun i hi => by
    obtain ⟨g, o, cp, u, e1, h1, h2, _⟩ := hL6.at i (by omega)
    obtain ⟨g', o', cp', u', e2, h3, h4⟩ := ha6.cell i (by omega)
    have hz : L[i]'(by omega) = ls.getD i [] := by have := hga i hi; rw [List.getElem?_eq_getElem (by omega)] at this; exact Option.some.inj this
    rw [hz] at h2
    simp only [Value.slice.injEq] at e1 e2
    have r2 := (row_of_sl h2).mono (B' := any) (fun _ _ => trivial)
    obtain ⟨s1, s2, rfl⟩ := r2.slice
    obtain ⟨s3, s4, rfl⟩ := h4.slice
    exact ⟨g, o, g', o', e1.1, e2.1, _, _, _, _, _, _, _, h1, h3, r2, h4⟩
  have HB : Hid (∀ i, i < nb → ∃ g o g' o', p6 = some ⟨g, o, none⟩ ∧ b0 = some ⟨g', o', none⟩ ∧ Pair6 w6 g (o + (na + i)) g' (o' + i)) := hide fun i hi => by
    obtain ⟨g, o, cp, u, e1, h1, h2, _⟩ := hL6.at (na + i) (by omega)
    obtain ⟨g', o', cp', u', e2, h3, h4⟩ := hb6.cell i (by omega)
    have hz : L[na + i]'(by omega) = bs.getD i [] := by have := hgb i hi; rw [List.getElem?_eq_getElem (by omega)] at this; exact Option.some.inj this
    rw [hz] at h2
    simp only [Value.slice.injEq] at e1 e2
    have r2 := (row_of_sl h2).mono (B' := any) (fun _ _ => trivial)
    obtain ⟨s1, s2, rfl⟩ := r2.slice
    obtain ⟨s3, s4, rfl⟩ := h4.slice
    exact ⟨g, o, g', o', e1.1, e2.1, _, _, _, _, _, _, _, h1, h3, r2, h4⟩
  have hla := ha6.len
  have hlb := hb6.len
  unfold maxLen at hla hlb
  rw [hlab]
  clear hL6 ha6 hb6 hga hgb hlab
  generalize X.length = xl at *
  generalize Y.length = yl at *
  generalize ls.length = al at *
  generalize bs.length = bl at *
  go_wp2_with fail
  go_loopw [14] (fun i wr => ∃ k : Nat, k ≤ na ∧ i = .int .i64 (k : Int) ∧ Turn (fun _ => False) w6 wr) (fun i _ => na - (intOf i).toNat)
  case atStart => exact ⟨0, Nat.zero_le _, rfl, Turn.refl _ _⟩
  case round =>
    obtain ⟨k, hk, rfl, hT⟩ := hrel
    by_cases hlt : k < na
    · obtain ⟨g, o, g', o', rfl, rfl, hp⟩ := unhide HA k hlt
      obtain ⟨s1, s2, s3, s4, n1, n2, z, q1, q2, q3, q4⟩ := hp.turn hT
      have r3 := fun m => q3.turn ((Turn.refl (fun _ => False) wr).drewN m) (fun _ _ h => h)
      have r4 := fun m => q4.turn ((Turn.refl (fun _ => False) wr).drewN m) (fun _ _ h => h)
      clear q3 q4
      go_wp2
      go_quiet ((go_at_call 13; exact Calls.quiet_of_same (bytes_walk any any _ _ z _ (r3 _) (r4 _))))
      go_wp2
      exact ⟨⟨k + 1, by omega, by go_num, hT.drewN nq⟩, by simp [intOf]; omega⟩
    · go_wp2_with fail
      go_loopw [15] (fun i wr2 => ∃ k2 : Nat, k2 ≤ nb ∧ i = .int .i64 (k2 : Int) ∧ Turn (fun _ => False) w6 wr2) (fun i _ => nb - (intOf i).toNat)
      case atStart => exact ⟨0, Nat.zero_le _, rfl, hT⟩
      case round =>
        clear hT
        obtain ⟨k2, hk2, rfl, hT⟩ := hrel
        by_cases hlt2 : k2 < nb
        · obtain ⟨g, o, g', o', rfl, rfl, hp⟩ := unhide HB k2 hlt2
          obtain ⟨s1, s2, s3, s4, n1, n2, z, q1, q2, q3, q4⟩ := hp.turn hT
          have r3 := fun m => q3.turn ((Turn.refl (fun _ => False) wr).drewN m) (fun _ _ h => h)
          have r4 := fun m => q4.turn ((Turn.refl (fun _ => False) wr).drewN m) (fun _ _ h => h)
          have hwrap : IntKind.i64.wrap ((na : Int) + (k2 : Int)) = (na : Int) + (k2 : Int) := by rw [IntKind.wrap_i64]; omega
          clear q3 q4
          go_wp2
          go_quiet ((go_at_call 13; exact Calls.quiet_of_same (bytes_walk any any _ _ z _ (r3 _) (r4 _))))
          go_wp2
          exact ⟨⟨k2 + 1, by omega, by go_num, hT.drewN nq⟩, by simp [intOf]; omega⟩
        · go_wp2
          go_ret
          exact ⟨rfl, below_then B6 hT.all⟩
end Go.Proofs.Ytkmeedefaceknaa
