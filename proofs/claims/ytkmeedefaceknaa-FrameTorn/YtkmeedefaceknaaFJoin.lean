/- The law's own frames, one behind the other. -/
import Derived.Test.YtkmeedefaceknaaFArg
namespace Go.Proofs.Ytkmeedefaceknaa
open Go.RowKit Go.Maps
set_option linter.unusedVariables false
set_option linter.unusedSimpArgs false

def Small (z : List Int) : Prop := z.length + 10 ≤ 65536
/-- what the law packs: frames, or none -/
def Packed (w w' : World) (zss : List (List Int)) (n : Nat) (e : Ending) : Prop :=
  e = .returned (.tuple #[.slice none 0 0, .int .i64 0, .bool false]) ∨
    ∃ x, e = .returned (.tuple #[x, .int .i64 (n : Int), .bool true]) ∧ OwnSl w' 5 1 x (frames (zss.take n)).length ((frames (zss.take n)).map (Value.int .u8)) ∧ (∀ j, x.ownBlock = some j → w.heap.size ≤ j) ∧ ∀ z ∈ zss.take n, Small z

theorem small_len {zss : List (List Int)} : ∀ {k : Nat}, (∀ z ∈ zss.take k, Small z) → (frames (zss.take k)).length ≤ 65536 * k
  | 0, _ => by simp [frames]
  | k + 1, h => by
    by_cases hk : k < zss.length
    · rw [take_more zss k hk] at h
      have h1 := small_len (zss := zss) (k := k) (fun z hz => h z (List.mem_append_left _ hz))
      have h2 : Small (zss.getD k []) := h _ (by simp)
      rw [frames_take zss k hk, List.length_append, packB_len]
      unfold Small at h2
      omega
    · rw [List.take_of_length_le (by omega)] at h ⊢
      have h1 := small_len (zss := zss) (k := k) (fun z hz => h z (List.mem_of_mem_take hz))
      rw [List.take_of_length_le (by omega)] at h1
      omega

theorem min_twenty (N : Nat) (u : World) : (Builtin.min_ #[3, 3] 3 #[.int .i64 (N : Int), .int .i64 20]).run Try.prog u = .ok (.int .i64 ((min N 20 : Nat) : Int)) u := by
  have e1 : (if (20 : Int) < (N : Int) then (20 : Int) else (N : Int)) = ((min N 20 : Nat) : Int) := by split <;> omega
  simp only [Builtin.min_, List.foldlM, Builtin.min2, pure_bind, e1]
  rfl

set_option maxHeartbeats 2000000 in
theorem packed_some (w : World) (g off c : Nat) (zss : List (List Int)) (n : Nat) (hn : n = min zss.length 20) (hlen : zss.length ≤ maxLen) (hcell : ∀ i, i < zss.length → ∃ u, w.cell? ⟨g, off + i, none⟩ = some u ∧ Row .u8 any w u (zss.getD i [])) (hby : ∀ z ∈ zss, Bytes z) :
    Calls Try.prog 21 #[.slice (some ⟨g, off, none⟩) zss.length c] w fun e w' => Packed w w' zss n e ∧ Turn (fun _ => False) w w' := by
  unfold maxLen at hlen
  have hmin := min_twenty zss.length
  rw [← hn] at hmin
  have Hcell := hide hcell
  have Hby := hide hby
  have hnl : n ≤ zss.length ∧ n ≤ 20 := by omega
  clear hcell hby hn
  go_enter Try.func21, Try.ntmps21
  go_wp2_with fail
  go_loopw [5, 7] (fun s i wr => ∃ k : Nat, k ≤ n ∧ i = .int .i64 (k : Int) ∧ OwnSl wr 5 1 s (frames (zss.take k)).length ((frames (zss.take k)).map (Value.int .u8)) ∧ (∀ j, s.ownBlock = some j → w.heap.size ≤ j) ∧ Turn (fun _ => False) w wr ∧ Hid (∀ z ∈ zss.take k, Small z)) (fun _ i _ => n - (intOf i).toNat)
  case atStart => exact ⟨0, by omega, rfl, ⟨by simp [frames], .inl ⟨rfl, rfl⟩⟩, fun j hj => by simp [Value.ownBlock] at hj, Turn.refl _ _, hide (fun z hz => by simp at hz)⟩
  case round =>
    obtain ⟨k, hk, rfl, ho, hf, hT, hS⟩ := hrel
    obtain ⟨as0, cs0, rfl⟩ := ho.form
    by_cases hlt : k < n
    · have hkz : k < zss.length := by omega
      obtain ⟨u, hu1, hu2⟩ := unhide Hcell k hkz
      have hB := unhide Hby _ (mem_getD hkz)
      have hu3 := hT.cell hu1 (fun h => h)
      have hu4 := hu2.turn hT (fun _ _ h => h)
      have hsl := small_len (unhide hS)
      have htk := frames_take zss k hkz
      have hmore : Small (zss.getD k []) → Hid (∀ z ∈ zss.take (k + 1), Small z) := fun h => by
        refine hide fun z hz => ?_
        rw [take_more zss k hkz] at hz
        rcases List.mem_append.1 hz with hz | hz
        · exact unhide hS z hz
        · simp only [List.mem_singleton] at hz; subst hz; exact h
      generalize zss.getD k [] = z at *
      obtain ⟨au, cu, rfl⟩ := hu2.slice
      have Htk := hide htk
      clear hu1 hu2 htk
      go_wp2_with fail
      refine (Pack_walk any _ z _ hB hu4).mono ?_
      rintro e w1 ⟨x, rfl, hox, hfx, T1⟩
      have hT1 := hT.then T1
      have ho1 := ho.turn T1 (fun _ _ h => h)
      have hzl := hu4.len
      unfold maxLen at hzl
      by_cases hbig : 1048576 < z.length
      · have hC : packC z = 4 := by unfold packC; rw [if_pos hbig]
        rw [hC]
        clear hox hfx ho ho1 hf hT T1 hS hmore hu3 hu4 Htk
        go_wp2
        go_ret3
        exact ⟨.inl rfl, hT1⟩
      · have hC : packC z = 0 := by unfold packC; rw [if_neg hbig]
        have hD : packD z = packB z := by unfold packD; rw [if_neg hbig]
        rw [hC]
        rw [hD] at hox
        have hPl := packB_len z
        obtain ⟨ax, cx, rfl⟩ := hox.form
        by_cases hsm : Small z
        · have hs2 : z.length + 10 ≤ 65536 := hsm
          obtain ⟨v2, w2, hrun, ho2, hf2, T2⟩ := push hT1 ho1 hf (OwnSl.src hox) (by omega)
          rw [← unhide Htk] at ho2
          have Ho2 := hide ho2
          have hS2 := hmore hsm
          have HPl := hide hPl
          have hPs : (packB z).length ≤ 65536 := by omega
          clear hox hfx ho ho1 hf hT hT1 T1 hS hmore hu3 hu4 Htk ho2 hsm hPl hsl
          generalize (packB z).length = pl at *
          go_wp2_with (at_builtin; refine list_append_run rfl _ _ 22 rfl _ _ _ _ rfl rfl hrun ?_)
          exact ⟨⟨k + 1, by omega, by go_num, unhide Ho2, hf2, T2, hS2⟩, by simp [intOf]; omega⟩
        · have hs2 : 65536 < (packB z).length := by unfold Small at hsm; omega
          clear hox hfx ho ho1 hf hT T1 hS hmore hu3 hu4 Htk hsm hPl hsl hD hC
          generalize (packB z).length = pl at *
          go_wp2
          go_ret3
          exact ⟨.inl rfl, hT1⟩
    · have hkn : k = n := by omega
      subst hkn
      have Ho := hide ho
      clear ho
      go_wp2
      go_ret3
      exact ⟨.inr ⟨_, rfl, unhide Ho, hf, unhide hS⟩, hT⟩

set_option maxHeartbeats 400000 in
theorem packed_none (w : World) (a : Option Addr) (c : Nat) :
    Calls Try.prog 21 #[.slice a 0 c] w fun e w' => e = .returned (.tuple #[.slice none 0 0, .int .i64 0, .bool true]) ∧ w' = w := by
  have hmin : ∀ u : World, (Builtin.min_ #[3, 3] 3 #[.int .i64 0, .int .i64 20]).run Try.prog u = .ok (.int .i64 0) u := fun u => min_twenty 0 u
  go_enter Try.func21, Try.ntmps21
  go_wp2
  refine wp_loop_rounds 1 ?_; rw [rounds_succ]
  go_wp2
  go_ret3
  exact ⟨rfl, rfl⟩
theorem packed_walk (w : World) (v : Value) (zss : List (List Int)) (h : BArgs w v zss) :
    Calls Try.prog 21 #[v] w fun e w' => Packed w w' zss (min zss.length 20) e ∧ Turn (fun _ => False) w w' := by
  by_cases h0 : 0 < zss.length
  · obtain ⟨g, off, c, rfl, hc⟩ := h.at h0
    exact packed_some w g off c zss _ rfl h.len hc h.bytes
  · obtain ⟨a, c, rfl⟩ := h.form
    have hz : zss = [] := List.eq_nil_of_length_eq_zero (by omega)
    subst hz
    refine (packed_none w a c).mono ?_
    rintro e w' ⟨rfl, rfl⟩
    exact ⟨.inr ⟨_, rfl, ⟨rfl, .inl ⟨rfl, rfl⟩⟩, fun j hj => by simp [Value.ownBlock] at hj, fun z hz => by simp at hz⟩, Turn.refl _ _⟩
theorem scan_whole (l : List (List Int)) (h : ∀ b ∈ l, b.length ≤ 1048576) : scanT (frames l) = (l, (frames l).length, 0) := by
  have := scan_frames l [] h
  rw [List.append_nil, scan_end (b := []) (by left; rfl)] at this
  simpa using this
end Go.Proofs.Ytkmeedefaceknaa
