/- Open. -/
import Derived.Test.YthikiahhochjmaaGreatDoorJMend
namespace Go.Proofs.YthikiahhochjmaaGreatDoor
open Go.RowKit Go.Maps Go.Sort
set_option linter.unusedVariables false
set_option linter.unusedSimpArgs false

/-- what is found is small -/
theorem findF_facts {S : Dk} (hw : Well S) (hsz : S.size ≤ 1000000) : ∀ (l : List Nm) (all : List Sg) (en : Nat × Nat), (∀ n ∈ l, markB n = true → ∀ v, numOf n = some v → v < 100) → (∀ s ∈ all, s.first < 100 ∧ s.recs.length ≤ 1000000) →
    (∀ s ∈ (findF S l all en).2.1, s.first < 100 ∧ s.recs.length ≤ 1000000) ∧ (findF S l all en).2.1.length ≤ all.length + l.length ∧ ((findF S l all en).2.1 = [] → (findF S l all en).2.2 = (0, 0) ∨ (all = [] ∧ (findF S l all en).2.2 = en))
  | [], all, en, _, h => ⟨h, by simp [findF], fun h0 => .inr ⟨h0, rfl⟩⟩
  | n :: r, all, en, hf, h => by
    rw [findF_step]
    have bad : ∀ c : Int, (∀ s ∈ ((c, ([] : List Sg), 0, 0) : Int × List Sg × Nat × Nat).2.1, s.first < 100 ∧ s.recs.length ≤ 1000000) ∧ ((c, ([] : List Sg), 0, 0) : Int × List Sg × Nat × Nat).2.1.length ≤ all.length + (n :: r).length ∧ (((c, ([] : List Sg), 0, 0) : Int × List Sg × Nat × Nat).2.1 = [] → ((c, ([] : List Sg), 0, 0) : Int × List Sg × Nat × Nat).2.2 = (0, 0) ∨ (all = [] ∧ ((c, ([] : List Sg), 0, 0) : Int × List Sg × Nat × Nat).2.2 = en)) :=
      fun c => ⟨by simp, by simp, fun _ => .inl rfl⟩
    split
    · rename_i hm
      cases hno : numOf n with
      | none => exact bad 12
      | some f =>
        simp only
        split
        · exact bad 12
        · split
          · exact bad _
          · have hr := readG_len hw f
            have ih := findF_facts hw hsz r (all ++ [⟨f, (readG S f).2.1⟩]) (readG S f).2.2 (fun m hm' => hf m (by simp [hm'])) (fun s hs => by
              rcases List.mem_append.1 hs with hs | hs
              · exact h s hs
              · simp at hs; subst hs; exact ⟨hf n (by simp) hm f hno, by simp only; omega⟩)
            refine ⟨ih.1, by have := ih.2.1; simp at this ⊢; omega, fun h0 => ?_⟩
            rcases ih.2.2 h0 with q | q
            · exact .inl q
            · simp at q
    · have ih := findF_facts hw hsz r all en (fun m hm' => hf m (by simp [hm'])) h
      exact ⟨ih.1, by have := ih.2.1; simp at this ⊢; omega, ih.2.2⟩
theorem findJ_facts {S : Dk} (hw : Well S) (hsz : S.size ≤ 1000000) (hf : ∀ n ∈ namesL S, markB n = true → ∀ v, numOf n = some v → v < 100) :
    (∀ s ∈ (findJ S).2.1, s.first < 100 ∧ s.recs.length ≤ 1000000) ∧ (findJ S).2.1.length ≤ 64 ∧ ((findJ S).2.1 = [] → (findJ S).2.2.2 = 0) := by
  have hnl : (namesL S).length ≤ 64 := by
    have := hw.files
    unfold namesL; split
    · simp
    · rw [List.length_map]; exact this
  unfold findJ
  split
  · exact ⟨by simp, by simp, fun _ => rfl⟩
  · have := findF_facts hw hsz (namesL S) [] (0, 0) hf (by simp)
    refine ⟨this.1, by have := this.2.1; simp at this; omega, fun h0 => ?_⟩
    rcases this.2.2 h0 with q | q
    · rw [q]
    · rw [q.2]

set_option maxHeartbeats 400000 in
theorem open_nil (w : World) (z : Int) : Calls Tryz.prog 24 #[.pointer none, .int .i64 z] w fun e w' => e = .returned (.tuple #[.pointer none, .int .i64 2]) ∧ w' = w := by
  go_enter Tryz.func24, Tryz.ntmps24
  go_wp2
  go_ret2
  exact ⟨rfl, rfl⟩
set_option maxHeartbeats 400000 in
theorem open_arg (w : World) (D : Nat) (z : Int) (hz : z < 1 ∨ 1000 < z) : Calls Tryz.prog 24 #[.pointer (some ⟨D, 0, none⟩), .int .i64 z] w fun e w' => e = .returned (.tuple #[.pointer none, .int .i64 1]) ∧ w' = w := by
  by_cases h1 : z < 1
  · go_enter Tryz.func24, Tryz.ntmps24
    go_wp2
    go_ret2
    exact ⟨rfl, rfl⟩
  · have h2 : 1000 < z := by omega
    go_enter Tryz.func24, Tryz.ntmps24
    go_wp2
    go_ret2
    exact ⟨rfl, rfl⟩

/-- what Open leaves: the journal and its disk, or the disk alone -/
def Opened (w w' : World) (F : Nat → Prop) (D most : Nat) (S : Dk) (p : Value) : Prop :=
  ((openJ S).1 = 0 ∧ ∃ J, p = .pointer (some ⟨J, 0, none⟩) ∧ w.heap.size ≤ J ∧ JAt w' (NF w F) J D (newX most (openJ S).2.1) (openJ S).2.2) ∨ ((openJ S).1 ≠ 0 ∧ p = .pointer none ∧ DAt w' D (NF w F) (openJ S).2.2)
set_option maxRecDepth 100000 in
set_option maxHeartbeats 4000000 in
theorem open_j (w : World) (F : Nat → Prop) (D most : Nat) (S : Dk) (d : DAt w D F S) (hby : ∀ x ∈ S.fs, Bytes x.d) (hsz : S.size ≤ 1000000) (hN : Numbers w (namesL S)) (hf : ∀ n ∈ namesL S, markB n = true → ∀ v, numOf n = some v → v < 100) (h1 : 1 ≤ most) (h2 : most ≤ 1000) :
    Calls Tryz.prog 24 #[.pointer (some ⟨D, 0, none⟩), .int .i64 (most : Int)] w fun e w' => ∃ p, e = .returned (.tuple #[p, .int .i64 (openJ S).1]) ∧ Turn F w w' ∧ Opened w w' F D most S p := by
  obtain ⟨hf1, hf2, hf3⟩ := findJ_facts d.well hsz hf
  have hfi := find_j w F D S d hby hsz hN hf
  have m1 : (1 : Int) ≤ (most : Int) := by omega
  have m2 : (most : Int) ≤ 1000 := by omega
  unfold Opened
  by_cases hc : (findJ S).1 = 0
  · have ej : openJ S = mendJ S (findJ S).2.1 (findJ S).2.2 := by unfold openJ; rw [if_neg (by rw [hc]; simp)]
    rw [ej]
    rw [hc] at hfi
    clear ej hc
    generalize hfs : (findJ S).2.1 = fs at *
    generalize hwh : (findJ S).2.2 = en at *
    clear hfs hwh
    obtain ⟨e1, e2⟩ := en
    simp only at hfi hf3
    go_enter Tryz.func24, Tryz.ntmps24
    go_wp2_with fail
    refine hfi.mono ?_
    rintro y w1 ⟨sv, E, rfl, hS, hEs, t1⟩
    subst hEs
    have s1 := t1.size
    have tA : Turn (fun _ => False) w1 (w1.alloc (.cells #[.int .i64 (e1 : Int), .int .i64 (e2 : Int)] 90)) := (Turn.refl _ w1).alloc _
    have dA := ((d.mono (G := fun j => F j ∧ j < w.heap.size) (fun j hj hl => ⟨hj, hl⟩)).turn t1 (fun _ _ _ h => h)).turn tA (fun _ _ _ h => h)
    have mA := (hS.mono (G' := fun j => w.heap.size ≤ j ∧ j < w1.heap.size) (fun j hj hl => ⟨hj, hl⟩)).turn tA (fun _ _ h => h)
    have zA : (w1.alloc (.cells #[.int .i64 (e1 : Int), .int .i64 (e2 : Int)] 90)).heap.size = w1.heap.size + 1 := by simp
    have hme := mend_j _ _ _ D S sv E (e1, e2) dA mA (fun j hj hg => by have := hj.2; omega) (fun e he => hf1 e.sg (List.mem_map.2 ⟨e, he, rfl⟩)) (by rw [List.length_map] at hf2; omega) (fun h0 => hf3 (by rw [h0]; rfl)) (fun j hj => by have := hj.2; omega)
    obtain ⟨sa, sc, hsv⟩ := hS.slice
    subst hsv
    clear hfi hS
    generalize hM : mendJ S (E.map Seg.sg) (e1, e2) = M at *
    have HM := hide hM
    clear hM
    obtain ⟨mc, ms, md⟩ := M
    dsimp only at hme
    go_wp2_with fail
    refine hme.mono ?_
    rintro y w3 ⟨x, E2, rfl, m3, hE2, d3, t3⟩
    have s3 := t3.size
    rw [zA] at s3
    obtain ⟨xa, xc, hxv⟩ := m3.slice
    subst hxv
    have T3 : Turn F w w3 := (((t1.then tA).mono (fun _ h => h.elim)).trans t3 (fun j hj => .inl hj.1))
    have hNF : ∀ j, NF (w1.alloc (.cells #[.int .i64 (e1 : Int), .int .i64 (e2 : Int)] 90)) (fun j => F j ∧ j < w.heap.size) j → NF w F j := by
      rintro j (hj | hj)
      · exact .inl hj.1
      · rw [zA] at hj; exact .inr (by omega)
    by_cases hz : mc = 0
    · have Hz := hide hz
      rw [hz]
      have tB : Turn (fun _ => False) w3 (w3.alloc (.cells #[.pointer (some ⟨D, 0, none⟩), .int .i64 (most : Int), .slice xa E2.length xc, .int .i64 0, .bool false] 79)) := (Turn.refl _ w3).alloc _
      have kB := heap_alloc_new w3 (.cells #[.pointer (some ⟨D, 0, none⟩), .int .i64 (most : Int), .slice xa E2.length xc, .int .i64 0, .bool false] 79)
      have mJ : JMem (w3.alloc (.cells #[.pointer (some ⟨D, 0, none⟩), .int .i64 (most : Int), .slice xa E2.length xc, .int .i64 0, .bool false] 79)) (fun j => (w.heap.size ≤ j ∧ j < w1.heap.size) ∨ j = w3.heap.size) w3.heap.size D (.slice xa E2.length xc) E2 (newX most ms) :=
        ⟨kB, .inr rfl, (m3.turn tB (fun _ _ h => h)).mono (fun j hj _ => .inl hj), hE2.symm⟩
      have J3 := jat_mk (H := NF w F) ((d3.mono (G := fun j => NF (w1.alloc (.cells #[.int .i64 (e1 : Int), .int .i64 (e2 : Int)] 90)) (fun j => F j ∧ j < w.heap.size) j ∧ j < w3.heap.size) (fun j hj hl => ⟨hj, hl⟩)).turn tB (fun _ _ _ h => h)) mJ (fun j hj hg _ => by
        obtain ⟨q, q'⟩ := hj
        rcases q with q | q
        · rcases hg with hg | hg
          · have := q.2; omega
          · omega
        · rw [zA] at q
          rcases hg with hg | hg <;> omega) (fun j hj _ => hNF j hj.1) (fun j hj _ => by
        rcases hj with hj | hj
        · exact .inr hj.1
        · exact .inr (by omega))
      have T4 := T3.alloc (.cells #[.pointer (some ⟨D, 0, none⟩), .int .i64 (most : Int), .slice xa E2.length xc, .int .i64 0, .bool false] 79)
      have hle : w.heap.size ≤ w3.heap.size := T3.size
      have HJ := hide J3
      have HT := hide T4
      clear J3 T4 mJ kB tB m3 d3 mA dA hme
      go_wp2
      go_ret2
      rw [unhide HM, unhide Hz]
      exact ⟨_, rfl, unhide HT, .inl ⟨rfl, _, rfl, hle, unhide HJ⟩⟩
    · have hne : (mc != 0) = true := by simpa using hz
      have d4 := d3.mono (G := NF w F) (fun j hj _ => hNF j hj)
      have HD := hide d4
      have Hz := hide hz
      clear d3 d4 m3 mA dA hme hz
      go_wp2
      go_ret2
      rw [unhide HM]
      exact ⟨_, rfl, T3, .inr ⟨unhide Hz, rfl, unhide HD⟩⟩
  · have ej : openJ S = ((findJ S).1, [], S) := by unfold openJ; rw [if_pos hc]
    rw [ej]
    have hne : ((findJ S).1 != 0) = true := by simpa using hc
    have Hz := hide hc
    clear ej hc hf1 hf2 hf3
    generalize (findJ S).1 = fc at *
    generalize (findJ S).2.2.1 = e1 at *
    generalize (findJ S).2.2.2 = e2 at *
    go_enter Tryz.func24, Tryz.ntmps24
    go_wp2_with fail
    refine hfi.mono ?_
    rintro y w1 ⟨sv, E, rfl, hS, hEs, t1⟩
    obtain ⟨sa, sc, hsv⟩ := hS.slice
    subst hsv
    have tA := t1.alloc (.cells #[.int .i64 (e1 : Int), .int .i64 (e2 : Int)] 90)
    have dA := d.turn tA (fun _ _ _ h => h)
    have HD := hide (And.intro tA (dA.mono (G := NF w F) (fun j hj _ => .inl hj)))
    clear hS tA dA d hfi
    go_wp2
    go_ret2
    exact ⟨_, rfl, (unhide HD).1.mono (fun _ h => h.elim), .inr ⟨unhide Hz, rfl, (unhide HD).2⟩⟩
end Go.Proofs.YthikiahhochjmaaGreatDoor
