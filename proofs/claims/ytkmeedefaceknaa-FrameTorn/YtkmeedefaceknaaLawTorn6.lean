/- Of frames, one behind the other, of which a beginning stays, and noughts behind it, Scan answers just those that are whole; without a fault. -/
import Derived.Test.YtkmeedefaceknaaFTorn
namespace Go.Proofs.Ytkmeedefaceknaa
open Go.RowKit Go.Maps
set_option linter.unusedVariables false
set_option linter.unusedSimpArgs false

/-- an element of a list that was made, and one that was handed in, of the same bytes -/
def Pair6 (w : World) (g i g' i' : Nat) : Prop := ∃ a c a' c' n n' z, w.cell? ⟨g, i, none⟩ = some (.slice a n c) ∧ w.cell? ⟨g', i', none⟩ = some (.slice a' n' c') ∧ Row .u8 any w (.slice a n c) z ∧ Row .u8 any w (.slice a' n' c') z
theorem Pair6.turn {w w' : World} {g i g' i' : Nat} (h : Pair6 w g i g' i') (T : Turn (fun _ => False) w w') : Pair6 w' g i g' i' := by
  obtain ⟨a, c, a', c', n, n', z, h1, h2, h3, h4⟩ := h
  exact ⟨a, c, a', c', n, n', z, T.cell h1 (fun h => h), T.cell h2 (fun h => h), h3.turn T (fun _ _ h => h), h4.turn T (fun _ _ h => h)⟩

theorem shiftE {ae : Option Addr} {W : World} {zss : List (List Int)} {k q : Nat} (h : ∀ j, j < k → ∃ g o, ae = some ⟨g, o, none⟩ ∧ W.cell? ⟨g, o + j, none⟩ = some (.int .i64 ((upTo zss (j + 1) : Nat) : Int))) (hq : q ≤ k) :
    0 < q → ∃ g o, ae = some ⟨g, o, none⟩ ∧ W.cell? ⟨g, o + (q - 1), none⟩ = some (.int .i64 ((upTo zss q : Nat) : Int)) := fun h0 => by
  obtain ⟨g, o, e1, e2⟩ := h (q - 1) (by omega)
  rw [show q - 1 + 1 = q by omega] at e2
  exact ⟨g, o, e1, e2⟩
theorem endAt {ae : Option Addr} {W w8 : World} {zss : List (List Int)} {q : Nat} (h : 0 < q → ∃ g o, ae = some ⟨g, o, none⟩ ∧ W.cell? ⟨g, o + (q - 1), none⟩ = some (.int .i64 ((upTo zss q : Nat) : Int))) (T : Turn (fun _ => False) W w8) :
    (q = 0 ∧ upTo zss q = 0) ∨ (∃ p, q = p + 1 ∧ ∃ g o, ae = some ⟨g, o, none⟩ ∧ w8.cell? ⟨g, o + p, none⟩ = some (.int .i64 ((upTo zss q : Nat) : Int))) := by
  by_cases h0 : q = 0
  · exact .inl ⟨h0, by rw [h0]; rfl⟩
  · obtain ⟨g, o, e1, e2⟩ := h (by omega)
    exact .inr ⟨q - 1, by omega, g, o, e1, T.cell e2 (fun h => h)⟩

set_option maxRecDepth 4000 in
set_option maxHeartbeats 8000000 in
theorem FrameTorn_law (w : World) (v : Value) (zss : List (List Int)) (h : BArgs w v zss) (cut : Int) (hcut : (Lit.int .i64 cut).wf = true) (nou : Int) (hnou : (Lit.int .i64 nou).wf = true) :
    Calls Try.prog 6 #[v, .int .i64 cut, .int .i64 nou] w fun e w' => e = .returned (.bool true) ∧ Below w.heap.size w w' := by
  obtain ⟨a0, c0, rfl⟩ := h.form
  clear hcut hnou
  go_enter Try.func6, Try.ntmps6
  go_wp2_with fail
  refine (awake_walk _).mono ?_
  rintro e w1 ⟨rfl, k1⟩
  have h1 := h.below k1
  have hlen := h.len
  unfold maxLen at hlen
  clear h
  go_wp2_with fail
  go_loopw [7, 8, 9] (fun s en i wr => ∃ k : Nat, k ≤ zss.length ∧ k ≤ 20 ∧ i = .int .i64 (k : Int) ∧ OwnSl wr 5 1 s (frames (zss.take k)).length ((frames (zss.take k)).map (Value.int .u8)) ∧ (∀ j, s.ownBlock = some j → w1.heap.size ≤ j) ∧ OwnSl wr 3 1 en k (endsOf zss k) ∧ (∀ j, en.ownBlock = some j → w1.heap.size ≤ j) ∧ Turn (fun _ => False) w1 wr ∧ (frames (zss.take k)).length ≤ 1200000 ∧ Hid (∀ z ∈ zss.take k, z.length ≤ 1048576)) (fun _ _ i _ => 20 - (intOf i).toNat)
  case atStart => exact ⟨0, by omega, by omega, rfl, ⟨by simp [frames], .inl ⟨rfl, rfl⟩⟩, fun j hj => by simp [Value.ownBlock] at hj, ⟨rfl, .inl ⟨rfl, rfl⟩⟩, fun j hj => by simp [Value.ownBlock] at hj, Turn.refl _ _, by simp [frames], hide (fun z hz => by simp at hz)⟩
  case round =>
    obtain ⟨k, hk, hk2, rfl, ho, hf, hoe, hfe, hT, hbl, hS⟩ := hrel
    obtain ⟨as0, cs0, rfl⟩ := ho.form
    obtain ⟨ae0, ce0, rfl⟩ := hoe.form
    by_cases hlt : k < zss.length ∧ k < 20
    · obtain ⟨hlt, hlt2⟩ := hlt
      obtain ⟨g, off, c, u, hv, hu1, hu2⟩ := (h1.turn hT).cell k hlt
      simp only [Value.slice.injEq, true_and] at hv
      obtain ⟨rfl, rfl⟩ := hv
      have hB := h1.bytes _ (mem_getD hlt)
      have htk := frames_take zss k hlt
      have hmore : (zss.getD k []).length ≤ 1048576 → Hid (∀ z ∈ zss.take (k + 1), z.length ≤ 1048576) := fun h => by
        refine hide fun z hz => ?_
        rw [take_more zss k hlt] at hz
        rcases List.mem_append.1 hz with hz | hz
        · exact unhide hS z hz
        · simp only [List.mem_singleton] at hz; subst hz; exact h
      generalize zss.getD k [] = z at *
      obtain ⟨au, cu, rfl⟩ := hu2.slice
      have Htk := hide htk
      have H1 := hide h1
      clear htk h1
      go_wp2_with fail
      refine (Pack_walk any _ z _ hB hu2).mono ?_
      rintro e w2 ⟨x, rfl, hox, hfx, T2⟩
      have hT2 := hT.then T2
      have ho2 := ho.turn T2 (fun _ _ h => h)
      have hoe2 := hoe.turn T2 (fun _ _ h => h)
      have B2 := below_then k1 hT2.all
      have hzl := hu2.len
      unfold maxLen at hzl
      by_cases hbig : 1048576 < z.length
      · have hC : packC z = 4 := by unfold packC; rw [if_pos hbig]
        rw [hC]
        obtain ⟨ax, cx, rfl⟩ := hox.form
        clear hox hfx ho ho2 hf hT T2 hS hmore hu1 hu2 Htk hoe hoe2 hfe
        go_wp2
        go_ret
        exact ⟨rfl, B2⟩
      · have hC : packC z = 0 := by unfold packC; rw [if_neg hbig]
        have hD : packD z = packB z := by unfold packD; rw [if_neg hbig]
        rw [hC]
        rw [hD] at hox
        have hPl := packB_len z
        obtain ⟨ax, cx, rfl⟩ := hox.form
        by_cases hfull : 65536 < (frames (zss.take k)).length
        · clear hox hfx ho ho2 hf hT T2 hS hmore hu1 hu2 Htk hoe hoe2 hfe hC hD hPl
          generalize (frames (zss.take k)).length = fl at *
          generalize (packB z).length = pl at *
          go_wp2
          go_ret
          exact ⟨rfl, B2⟩
        · obtain ⟨v3, w3, hrun, ho3, hf3, T3, T3b⟩ := push2 hT2 ho2 hf (OwnSl.src hox) (by omega)
          have hoe3 := hoe2.apart ho2 (by decide) T3b
          rw [← unhide Htk] at ho3
          obtain ⟨a3, c3, rfl⟩ := ho3.form
          obtain ⟨v4, w4, hrun4, hoe4, hfe4, T4, T4b⟩ := pushEnd ((frames (zss.take (k + 1))).length : Int) T3 hoe3 hfe (by omega)
          have ho4 := ho3.apart hoe3 (by decide) T4b
          have hoe4' : OwnSl w4 3 1 v4 (k + 1) (endsOf zss (k + 1)) := by rw [endsOf_succ]; exact hoe4
          have hnl : (frames (zss.take (k + 1))).length ≤ 1200000 := by rw [unhide Htk, List.length_append]; omega
          have Ho4 := hide ho4
          have Hoe4 := hide hoe4'
          have hS2 := hmore (by omega)
          clear hox hfx ho ho2 ho3 ho4 hf hT hT2 T2 T3 T3b T4b hS hmore hu1 hu2 Htk hoe hoe2 hoe3 hoe4 hoe4' hfe hPl hC hD B2
          have Hnl := hide hnl
          have Hgoal : Hid ((frames (zss.take (k + 1))).length ≤ 1200000 ∧ OwnSl w4 5 1 (.slice a3 (frames (zss.take (k + 1))).length c3) (frames (zss.take (k + 1))).length ((frames (zss.take (k + 1))).map (Value.int .u8))) := hide ⟨hnl, unhide Ho4⟩
          clear Ho4 Hnl hbl
          generalize hel : (frames (zss.take (k + 1))).length = el at hrun hrun4 hnl
          generalize hfl : (frames (zss.take k)).length = fl at *
          have Hel := hide hel
          have Hf3 := hide hf3
          have Hfe4 := hide hfe4
          clear hf3 hfe4 hB hzl
          clear hel hfl
          generalize (packB z).length = pl at *
          go_wp2_with (at_builtin; first | refine list_append_run rfl _ _ 22 rfl _ _ _ _ rfl rfl hrun ?_ | refine list_append_run rfl _ _ 38 rfl _ _ _ _ rfl rfl hrun4 ?_)
          rw [← unhide Hel]
          exact ⟨⟨k + 1, by omega, by omega, by go_num, (unhide Hgoal).2, unhide Hf3, unhide Hoe4, unhide Hfe4, T4, (unhide Hgoal).1, hS2⟩, by simp [intOf]; omega⟩
    · have hcase : zss.length ≤ k ∨ (k < zss.length ∧ 20 ≤ k) := by omega
      clear hlt
      obtain ⟨fl, hfl⟩ : ∃ fl, (frames (zss.take k)).length = fl := ⟨_, rfl⟩
      rw [hfl] at ho hbl hf
      rw [hfl]
      obtain ⟨n, hn, hcn⟩ := rem_to cut (fl + 1) (by omega) (by omega)
      obtain ⟨m0, hm0, hnn⟩ := rem_to nou 64 (by omega) (by omega)
      have Hcn : Hid (wrap64 ((IntKind.u64.wrap cut).tmod ((fl : Int) + 1)) = (n : Int)) := by
        have e : ((fl + 1 : Nat) : Int) = (fl : Int) + 1 := by omega
        rw [e] at hcn
        exact hcn
      have Hnn : Hid (wrap64 ((IntKind.u64.wrap nou).tmod 64) = (m0 : Int)) := hnn
      obtain ⟨W, hW⟩ : ∃ W : World, W = wr := ⟨_, rfl⟩
      subst hW
      have HE : Hid (∀ j, j < k → ∃ g o, ae0 = some ⟨g, o, none⟩ ∧ W.cell? ⟨g, o + j, none⟩ = some (.int .i64 ((upTo zss (j + 1) : Nat) : Int))) := hide fun j hj => by
        have hoe' := hoe
        rcases hoe.2 with ⟨hv, h0⟩ | ⟨g, o, cap, cur, hv, _⟩
        · omega
        · simp only [Value.slice.injEq, true_and] at hv
          obtain ⟨rfl, rfl⟩ := hv
          exact ⟨g, o, rfl, hoe'.cells j _ (endsOf_at zss hj)⟩
      obtain ⟨i0, hi, hz0, hz1, hz2⟩ := info_parts info_u8
      obtain ⟨xb, hxrun, hxsrc, _⟩ := cutS_to (ki := .i64) Try.underlying22 hi hz1 ho n (by omega)
      have hTl : ((frames (zss.take k)).take n).length = n := by rw [List.length_take, hfl]; omega
      have hTb : Bytes ((frames (zss.take k)).take n) := fun x hx => frames_bytes (fun z hz => h1.bytes z (List.mem_of_mem_take hz)) x (List.mem_of_mem_take hx)
      have hxs : Src 1 W xb ((frames (zss.take k)).take n).length (((frames (zss.take k)).take n).map (Value.int .u8)) := by
        rw [Nat.mul_one, ← List.map_take] at hxsrc
        rw [hTl]
        exact hxsrc
      obtain ⟨v5, w5, hrun5, ho5, hf5, T5⟩ := push (Turn.refl _ W) (v := .slice none 0 0) (xs := []) ⟨rfl, .inl ⟨rfl, rfl⟩⟩ (fun j hj => by simp [Value.ownBlock] at hj) hxs (by rw [hTl]; simp; omega)
      rw [List.nil_append, hTl] at ho5
      have Hsc : Hid (∀ q d, q ≤ k → upTo zss q ≤ n → (q = k ∨ n < upTo zss (q + 1)) → n + d ≤ fl → scanT ((frames (zss.take k)).take n ++ List.replicate d 0) = (zss.take q, upTo zss q, 0)) := hide fun q d h1 h2 h3 h4 => scan_cut zss k n d q hk (unhide hS) h1 h2 h3 (by unfold upTo; rw [hfl]; exact h4)
      have hW := h1.turn hT
      have B5 := below_then k1 hT.all
      have HT := hide hTb
      have HTl := hide hTl
      clear hcn hnn hxsrc hxs hTb hTl h1 hT ho hf hoe hfe hfl hS k1 hi hz0 hz1 hz2
      generalize (frames (zss.take k)).take n = Z at *
      rcases hcase with hc0 | ⟨hc0, hc1⟩
      all_goals
        go_wp2_with fail
        rw [unhide Hcn]
        go_loopw [13] (fun i wr2 => ∃ q : Nat, q ≤ k ∧ i = .int .i64 (q : Int) ∧ wr2 = W ∧ upTo zss q ≤ n) (fun i _ => k - (intOf i).toNat)
        case atStart => exact ⟨0, by omega, rfl, rfl, by rw [upTo_zero]; omega⟩
        case round =>
          obtain ⟨q, hq, rfl, rfl, hqn⟩ := hrel
          by_cases hgo : q < k ∧ upTo zss (q + 1) ≤ n
          · obtain ⟨hgo, hgo2⟩ := hgo
            obtain ⟨g, o, rfl, hcell⟩ := unhide HE q hgo
            have Hgo2 := hide hgo2
            clear hxrun hrun5 ho5 hf5 T5 hqn
            generalize hU : upTo zss (q + 1) = U at hcell hgo2
            clear hU
            go_wp2
            exact ⟨⟨q + 1, by omega, by go_num, by first | rfl | trivial, unhide Hgo2⟩, by simp [intOf]; omega⟩
          · have hout : q = k ∨ (q < k ∧ n < upTo zss (q + 1)) := by omega
            have Hout : Hid (q = k ∨ n < upTo zss (q + 1)) := hide (by omega)
            have Hqn := hide hqn
            clear hgo hqn
            have hout2 : q = k ∨ (q < k ∧ ∃ g o U, ae0 = some ⟨g, o, none⟩ ∧ wr.cell? ⟨g, o + q, none⟩ = some (.int .i64 ((U : Nat) : Int)) ∧ n < U) := by
              rcases hout with h | ⟨h, h'⟩
              · exact .inl h
              · obtain ⟨g, o, e1, e2⟩ := unhide HE q h
                exact .inr ⟨h, g, o, _, e1, e2, h'⟩
            clear hout
            obtain ⟨a5, c5, rfl⟩ := ho5.form
            obtain ⟨W, hW⟩ : ∃ W : World, W = wr := ⟨_, rfl⟩
            subst hW
            rcases hout2 with h2 | ⟨h2, g, o, U, hae, hcell, hU⟩
            all_goals
              try subst hae
              try subst h2
              go_wp2_with (at_builtin; refine list_append_run rfl _ _ 22 rfl _ _ _ _ rfl rfl hrun5 ?_)
              rw [unhide Hnn]
              try clear h2
              try clear hcell
              try clear hU
              clear hxrun hrun5
              go_loopw [14, 15] (fun t i wr3 => ∃ m d : Nat, i = .int .i64 (m : Int) ∧ m < 64 ∧ n + d ≤ fl ∧ OwnSl wr3 5 1 t (n + d) ((Z ++ List.replicate d 0).map (Value.int .u8)) ∧ (∀ j, t.ownBlock = some j → W.heap.size ≤ j) ∧ Turn (fun _ => False) W wr3) (fun _ i _ => (intOf i).toNat)
              case atStart => exact ⟨m0, 0, rfl, by omega, by omega, by simpa using ho5, hf5, T5⟩
              case round =>
                clear ho5 hf5 T5
                obtain ⟨m, d, rfl, hm, hd, ho, hf, hT⟩ := hrel
                obtain ⟨a6, c6, rfl⟩ := ho.form
                by_cases hgo : 0 < m ∧ n + d < fl
                · obtain ⟨hgo, hgo2⟩ := hgo
                  have hl : (Z ++ List.replicate d 0).length = n + d := by have := ho.1; simpa using this
                  have TA := (Turn.refl (fun _ => False) wr).alloc (.cells #[.int .u8 0] 5)
                  have hoA := ho.turn TA (fun _ _ h => h)
                  rw [← hl] at hoA
                  obtain ⟨v7, w7, hrun7, ho7, hf7, T7⟩ := push (hT.then TA) hoA (by rw [hl]; exact hf) (src_one wr 0) (by rw [hl]; simp; omega)
                  rw [hl] at hrun7
                  have ho8 : OwnSl w7 5 1 v7 (n + (d + 1)) ((Z ++ List.replicate (d + 1) 0).map (Value.int .u8)) := by
                    have e1 : Z ++ List.replicate d 0 ++ [0] = Z ++ List.replicate (d + 1) 0 := by rw [List.replicate_succ', List.append_assoc]
                    have e2 : (Z ++ List.replicate d 0 ++ [0]).length = n + (d + 1) := by rw [List.length_append, hl]; rfl
                    rw [e2, e1] at ho7
                    exact ho7
                  have Ho8 := hide ho8
                  clear ho ho7 ho8 hoA TA hl hf hT
                  go_wp2_with (at_builtin; refine list_append_run rfl _ _ 22 rfl _ _ _ _ rfl rfl hrun7 ?_)
                  exact ⟨⟨m - 1, d + 1, by go_num, by omega, by omega, unhide Ho8, hf7, T7⟩, by simp [intOf]; omega⟩
                · have hout : m = 0 ∨ (0 < m ∧ ¬ (n + d < fl)) := by omega
                  clear hgo
                  have hsc := unhide Hsc q d hq (unhide Hqn) (by first | exact unhide Hout | exact .inl rfl) hd
                  have hby : Bytes (Z ++ List.replicate d 0) := fun x hx => by
                    rcases List.mem_append.1 hx with hx | hx
                    · exact unhide HT x hx
                    · have := List.eq_of_mem_replicate hx; omega
                  have hl : (Z ++ List.replicate d 0).length = n + d := by have := ho.1; simpa using this
                  have hrow := row_of_sl (ys := Z ++ List.replicate d 0) (by rw [hl]; exact ho)
                  have hYl : (Z ++ List.replicate d 0).length ≤ 1099511627776 := by omega
                  have HU := hide (shiftE (unhide HE) hq)
                  clear ho hf hl
                  generalize Z ++ List.replicate d 0 = Y at *
                  rcases hout with rfl | ⟨hx1, hx2⟩
                  all_goals
                    go_wp2_with fail
                    refine (Scan_walk _ _ Y _ hby hYl hrow).mono ?_
                    rw [hsc]
                    rintro e w8 ⟨x8, rfl, hL8, T8⟩
                    change Lists w8 _ x8 (zss.take q) at hL8
                    have hT8 := hT.then T8
                    have hB8 := hW.turn hT8
                    have B8 := below_then B5 hT8.all
                    obtain ⟨p8, q8, rfl⟩ := hL8.slice
                    have hlq : (zss.take q).length = q := by rw [List.length_take]; omega
                    have HA : Hid (∀ i, i < q → ∃ g o g' o', p8 = some ⟨g, o, none⟩ ∧ a0 = some ⟨g', o', none⟩ ∧ Pair6 w8 g (o + i) g' (o' + i)) := hide fun i hi => by
                      obtain ⟨g, o, cp, u, e1, h1, h2, _⟩ := hL8.at i (by omega)
                      obtain ⟨g', o', cp', u', e2, h3, h4⟩ := hB8.cell i (by omega)
                      have hz : (zss.take q)[i]'(by omega) = zss.getD i [] := by simp [show i < zss.length by omega]
                      rw [hz] at h2
                      simp only [Value.slice.injEq] at e1 e2
                      have r2 := (row_of_sl h2).mono (B' := any) (fun _ _ => trivial)
                      obtain ⟨s1, s2, rfl⟩ := r2.slice
                      obtain ⟨s3, s4, rfl⟩ := h4.slice
                      exact ⟨g, o, g', o', e1.1, e2.1, _, _, _, _, _, _, _, h1, h3, r2, h4⟩
                    have hq2 := endAt (unhide HU) hT8
                    rw [hlq]
                    have hUl : upTo zss q ≤ n := unhide Hqn
                    clear hL8 T8 hT8 hB8 hlq hsc hby hYl hrow hT
                    have Hq2 := hide hq2
                    clear hq2
                    rcases unhide Hq2 with ⟨h0, hu⟩ | ⟨p, hp, g8, o8, hae, hc⟩
                    · rw [hu]
                      subst h0
                      clear hu hUl
                      go_wp2_with fail
                      go_loopw [19] (fun i wr4 => i = .int .i64 0 ∧ wr4 = w8) (fun i _ => 0)
                      case atStart => exact ⟨rfl, rfl⟩
                      case round =>
                        obtain ⟨rfl, rfl⟩ := hrel
                        go_wp2
                        go_ret
                        exact ⟨rfl, B8⟩
                    · clear Hq2
                      cases hae
                      generalize upTo zss q = U at hc hUl ⊢
                      subst hp
                      go_wp2_with fail
                      clear hc hUl
                      go_loopw [19] (fun i wr4 => ∃ j : Nat, j ≤ p + 1 ∧ i = .int .i64 (j : Int) ∧ Turn (fun _ => False) w8 wr4) (fun i _ => p + 1 - (intOf i).toNat)
                      case atStart => exact ⟨0, by omega, rfl, Turn.refl _ _⟩
                      case round =>
                        obtain ⟨j, hj, rfl, hT9⟩ := hrel
                        by_cases hjq : j < p + 1
                        · obtain ⟨gx, ox, gy, oy, rfl, rfl, hp⟩ := unhide HA j hjq
                          obtain ⟨ax, cx, ay, cy, n1, n2, z, q1, q2, q3, q4⟩ := hp.turn hT9
                          have r3 := fun m => q3.turn ((Turn.refl (fun _ => False) wr).drewN m) (fun _ _ h => h)
                          have r4 := fun m => q4.turn ((Turn.refl (fun _ => False) wr).drewN m) (fun _ _ h => h)
                          clear q3 q4 hp
                          go_wp2
                          go_quiet ((go_at_call 13; exact Calls.quiet_of_same (bytes_walk any any _ _ z _ (r3 _) (r4 _))))
                          go_wp2
                          exact ⟨⟨j + 1, by omega, by go_num, hT9.drewN nq⟩, by simp [intOf]; omega⟩
                        · go_wp2
                          go_ret
                          exact ⟨rfl, below_then B8 hT9.all⟩
end Go.Proofs.Ytkmeedefaceknaa
