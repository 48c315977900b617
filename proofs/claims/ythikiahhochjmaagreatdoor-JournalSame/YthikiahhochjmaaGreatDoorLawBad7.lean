/- JournalBad. -/
import Derived.Test.YthikiahhochjmaaGreatDoorJBadQ
namespace Go.Proofs.YthikiahhochjmaaGreatDoor
open Go.RowKit Go.Maps Go.Sort
set_option linter.unusedVariables false
set_option linter.unusedSimpArgs false

def badRecs (k : Nat) : List (List Int) := (List.range k).map fun (q : Nat) => [(q : Int), 7]
theorem badRecs_more (k : Nat) : badRecs (k + 1) = badRecs k ++ [[(k : Int), 7]] := by simp [badRecs, List.range_succ]
theorem badRecs_two (k : Nat) (h : 2 ≤ k) : ∃ r, badRecs k = [0, 7] :: [1, 7] :: r := by
  obtain ⟨j, rfl⟩ : ∃ j, k = j + 2 := ⟨k - 2, by omega⟩
  refine ⟨(List.range j).map (fun q => [((q + 2 : Nat) : Int), 7]), ?_⟩
  unfold badRecs
  rw [Nat.add_comm j 2, List.range_add, List.map_append, List.map_map]
  simp only [List.range_succ, List.range_zero, List.nil_append, List.map_append, List.map_cons, List.map_nil, List.cons_append, Function.comp_def]
  simp [Nat.add_comm]
theorem badRecs_bytes (k : Nat) (h : k ≤ 100) : ∀ b ∈ badRecs k, Bytes b := by
  intro b hb
  unfold badRecs at hb
  obtain ⟨q, hq, rfl⟩ := List.mem_map.1 hb
  have := List.mem_range.1 hq
  intro x hx
  simp at hx
  rcases hx with rfl | rfl <;> omega
/-- what stands between two appends -/
def BadAt (wr : World) (w : World) (T J D i : Nat) (X : Jn) (S : Dk) (H : Nat → Prop) : Prop :=
  JAt wr H J D X S ∧ Grown 2 2 i X S ∧ recsOf X.segs = badRecs i ∧ (∀ j, H j → w.heap.size ≤ j ∧ j ≠ T) ∧ wr.heap[T]? = some (.cells (TruthB D J 2) 32) ∧ Turn (fun j => w.heap.size ≤ j) w wr

theorem size_remove (S : Dk) (n : Nm) : (removeS S n).size = S.size := by
  unfold removeS
  split
  · rfl
  · split
    · rfl
    · split <;> exact hitS_room S
theorem size_cut (S : Dk) (n : Nm) (z : Int) : (cutS S n z).size = S.size := by
  unfold cutS
  split
  · rfl
  · split
    · rfl
    · split
      · rfl
      · split <;> exact hitS_room S
theorem size_append (S : Dk) (n : Nm) (b : List Int) : (appendS S n b).size = S.size := by
  unfold appendS
  split
  · rfl
  · split
    · rfl
    · exact hitS_room (appS S n b)
theorem open_12 (w : World) (F : Nat → Prop) (D : Nat) (S : Dk) (d : DAt w D F S) (hby : FsBytes S) (hsz : S.size ≤ 1000000) (hN : Numbers w (namesL S) ∧ ∀ x ∈ namesL S, markB x = true → ∀ v, numOf x = some v → v < 100) (ho : openJ S = (12, [], S)) :
    Calls Tryz.prog 24 #[.pointer (some ⟨D, 0, none⟩), .int .i64 2] w fun e w' => e = .returned (.tuple #[.pointer none, .int .i64 12]) ∧ Turn F w w' := by
  refine (open_j w F D 2 S d hby hsz hN.1 hN.2 (by decide) (by decide)).mono ?_
  rintro e w' ⟨p, rfl, t, h⟩
  rw [ho]
  rcases h with ⟨h0, _⟩ | ⟨_, rfl, _⟩
  · rw [ho] at h0; exact absurd (show (12 : Int) = 0 from h0) (by decide)
  · exact ⟨rfl, t⟩
theorem open_0 (w : World) (F : Nat → Prop) (D : Nat) (S : Dk) (segs : List Sg) (d : DAt w D F S) (hby : FsBytes S) (hsz : S.size ≤ 1000000) (hN : Numbers w (namesL S) ∧ ∀ x ∈ namesL S, markB x = true → ∀ v, numOf x = some v → v < 100) (ho : openJ S = (0, segs, S)) :
    Calls Tryz.prog 24 #[.pointer (some ⟨D, 0, none⟩), .int .i64 2] w fun e w' => ∃ J, e = .returned (.tuple #[.pointer (some ⟨J, 0, none⟩), .int .i64 0]) ∧ Turn F w w' ∧ JAt w' (NF w F) J D (newX 2 segs) S := by
  refine (open_j w F D 2 S d hby hsz hN.1 hN.2 (by decide) (by decide)).mono ?_
  rintro e w' ⟨p, rfl, t, h⟩
  rw [ho]
  rcases h with ⟨_, J, rfl, _, h⟩ | ⟨h0, _⟩
  · rw [ho] at h; exact ⟨J, rfl, t, h⟩
  · rw [ho] at h0; exact absurd rfl h0
theorem five_number (u : World) : Calls Tryz.prog 65 #[.string ⟨([108, 53] : Nm).toArray⟩] u fun e w' => e = .returned (numR [108, 53]) ∧ Turn (fun _ => False) u w' :=
  number_len ⟨#[108, 53]⟩ (by decide) (by decide) u
theorem ex_parse (n : Nm) : Lib.parseUintB 64 (120 :: n) = .«syntax» := by
  unfold Lib.parseUintB
  rw [if_neg (by simp)]
  unfold Lib.parseUintM
  simp
theorem ex_mark (n : Nm) : markB (120 :: n) = false := by simp [markB, Lib.hasPrefix, List.isPrefixOf]
theorem ex_cat (s : ByteArray) : ((⟨#[120]⟩ : ByteArray) ++ s).data.toList = 120 :: s.data.toList := by simp [ByteArray.data_append]
theorem ex_size (s : ByteArray) (h : s.size ≤ 140737488351232) : ((⟨#[120]⟩ : ByteArray) ++ s).size ≤ maxLen := by rw [ByteArray.size_append]; show 1 + s.size ≤ _; unfold maxLen; omega
theorem ex_len (s : ByteArray) (h : s.size ≤ 140737488351232) : s.data.toList.length + 1 ≤ maxLen := by
  have e : s.data.toList.length = s.size := rfl
  rw [e]; unfold maxLen; omega
theorem ex_trim (n : Nm) : trimL (120 :: n) = 120 :: n := by simp [trimL, Lib.trimPrefix, Lib.hasPrefix, List.isPrefixOf]
theorem ex_number (n : Nm) (hn : n.length + 1 ≤ maxLen) (ev : Value) (u : World) (hv : u.cell? ⟨1, 0, none⟩ = some ev) (hev : ev = .nilIface ∨ ∃ te pe, ev = .iface te pe) : Calls Tryz.prog 65 #[.string ⟨(120 :: n).toArray⟩] u fun e w' => e = .returned (numR (120 :: n)) ∧ Turn (fun _ => False) u w' := by
  have hd : (⟨(120 :: n).toArray⟩ : ByteArray).data.toList = 120 :: n := rfl
  by_cases h : (trimL (120 :: n)).length = 10
  · exact number_bad ⟨(120 :: n).toArray⟩ h (by rw [hd, ex_trim]; exact ex_parse n) ev u hv hev
  · exact number_len ⟨(120 :: n).toArray⟩ h (by show (120 :: n).toArray.size ≤ _; simpa using hn) u

set_option maxRecDepth 100000 in
set_option maxHeartbeats 1000000 in
theorem bad_law (w : World) (a0 a1 : Int) (s : ByteArray) (hs : s.size ≤ 140737488351232) (ev : Value) (hv : w.cell? ⟨1, 0, none⟩ = some ev) (hev : ev = .nilIface ∨ ∃ te pe, ev = .iface te pe) :
    Calls Tryz.prog 5 #[.int .i64 a0, .int .i64 a1, .string s] w fun e w' => e = .returned (.bool true) ∧ Turn (fun _ => False) w w' := by
  obtain ⟨n0, hn0, en0⟩ := rem9 a0 8 (by decide) (by decide)
  obtain ⟨c, hc, ec⟩ := rem9 a1 4 (by decide) (by decide)
  have en : wrap64 (3 + wrap64 ((IntKind.u64.wrap a0).tmod 8)) = ((n0 + 3 : Nat) : Int) := by
    rw [show ((8 : Nat) : Int) = 8 from rfl] at en0
    rw [en0]; unfold wrap64; omega
  rw [show ((4 : Nat) : Int) = 4 from rfl] at ec
  have En := hide en
  have Ec := hide ec
  clear en0 ec en
  have hbg := begin_t w 2 (by decide) (by decide)
  go_enter Tryz.func5, Tryz.ntmps5
  go_wp2_with fail
  refine hbg.mono ?_
  rintro e w1 ⟨T, J, D, rfl, t1, hT, k1, J1⟩
  go_wp2_with fail
  rw [unhide En]
  generalize hk : n0 + 3 = k at *
  have hk3 : 3 ≤ k := by omega
  have hk10 : k ≤ 10 := by omega
  generalize wrap64 ((IntKind.u64.wrap a0).tmod 8) = x1
  generalize (IntKind.u64.wrap a0).tmod 8 = x2
  generalize IntKind.u64.wrap a0 = x3
  refine (awake_j _).mono ?_
  rintro e w2 ⟨rfl, t2⟩
  have lt1 := (Array.getElem?_eq_some_iff.1 k1).1
  have k2 := t2.same k1 (fun h => h)
  have J2 := J1.same t2
  have T2 := (t1.then t2)
  have HS : BadAt w2 w T J D 0 (newX 2 []) (newS 262144) (fun j => w.heap.size ≤ j ∧ j ≠ T) := ⟨J2, grown_new 2 2, rfl, fun j h => h, k2, T2.mono (fun _ h => h.elim)⟩
  clear t1 t2 k1 J1 k2 J2 T2 hbg
  go_wp2_with fail
  go_loopw [9] (fun i wr => ∃ (q : Nat) (X : Jn) (S : Dk) (H : Nat → Prop), i = .int .i64 (q : Int) ∧ q ≤ k ∧ BadAt wr w T J D q X S H) (fun i _ => k - (intOf i).toNat)
  case atStart => exact ⟨0, _, _, _, rfl, by omega, HS⟩
  case round =>
    obtain ⟨q, X, S, H, rfl, hq, hS⟩ := hrel
    by_cases hlt : q < k
    · obtain ⟨hJ, hG, hR, hH, kT, hT0⟩ := hS
      have hk40 : q < 40 := by omega
      have q1 : wr.cell? ⟨T, 1, none⟩ = some (.pointer (some ⟨J, 0, none⟩)) := cell_obj kT 1
      have tA : Turn (fun _ => False) wr (wr.alloc (.cells #[.int .u8 (q : Int), .int .u8 7] 5)) := (Turn.refl _ wr).alloc _
      have hr := row_marked wr [(q : Int), 7] 5 (0, 0) (by simp [maxLen])
      have ha := append_j _ H _ J D X S _ [(q : Int), 7] (hJ.same tA) (hG.fit (by omega) (by omega)) (by intro x hx; simp at hx; omega) hr (by rw [hG.next]; omega)
      have hg := grown_more (b := [(q : Int), 7]) hG (by decide) hk40 (by decide) (by simp)
      rw [hg.1] at ha
      have kA := tA.same kT (fun h => h)
      have zA := tA.size
      have zT := (Array.getElem?_eq_some_iff.1 kT).1
      have zw := hT0.size
      have HG := hide (And.intro hg.2.1 (hg.2.2.trans (by rw [hR, ← badRecs_more])))
      have H0 := hide (And.intro hT0 (And.intro tA (And.intro hH kA)))
      clear hr hJ hG hH kT hT0 hg kA tA hR
      go_wp2_with (go_at_call 15; refine ha.mono ?_; rintro e w3 ⟨rfl, t3, J3⟩)
      obtain ⟨hT0, tA, hH, kA⟩ := unhide H0
      refine ⟨⟨q + 1, _, _, NF (wr.alloc (.cells #[.int .u8 (q : Int), .int .u8 7] 5)) H, by go_num, by omega, J3, (unhide HG).1, (unhide HG).2, ?_, ?_, ?_⟩, by simp [intOf]; omega⟩
      · rintro j (hj | hj)
        · exact hH j hj
        · have h1 : w.heap.size ≤ j := by omega
          exact ⟨h1, by omega⟩
      · exact t3.same kA (fun h => (hH T h).2 rfl)
      · exact (hT0.trans tA (fun _ h => h.elim)).trans t3 (fun j hj => by have := (hH j hj).1; exact .inl this)
    · have hqk : q = k := by omega
      subst hqk
      obtain ⟨hJ, hG, hR, hH, kT, hT0⟩ := hS
      have q0 : wr.cell? ⟨T, 0, none⟩ = some (.pointer (some ⟨D, 0, none⟩)) := cell_obj kT 0
      have zT := (Array.getElem?_eq_some_iff.1 kT).1
      have zw := hT0.size
      obtain ⟨F, d, hF⟩ := disk_of hJ
      have HA := hide (And.intro hG (And.intro hR (And.intro hH (And.intro kT (And.intro hT0 (And.intro d hF))))))
      clear hJ hG hR hH kT hT0 d hF
      have kc := fun (w : World) (C : Array Value) (n c : Nat) => Lib.run_convert_bytes_const (P := Tryz.prog) w 33 5 C n c Tryz.underlying33 Tryz.underlying5
      have hcc : c = 0 ∨ c = 1 ∨ c = 2 ∨ c = 3 := by omega
      rcases hcc with rfl | rfl | rfl | rfl
      · have ec : wrap64 ((IntKind.u64.wrap a1).tmod 4) = 0 := unhide Ec
        by_cases h5 : q < 5
        · obtain ⟨_, _, _, _, hT0, _⟩ := unhide HA
          go_wp2
          go_ret
          exact ⟨rfl, hT0.fresh (Nat.le_refl _)⟩
        · obtain ⟨hG, hR, hH, kT, hT0, d, hF⟩ := unhide HA
          obtain ⟨b1, b2⟩ := bad_gone hG (by decide) (by omega)
          obtain ⟨m, hh⟩ := hG.hold
          have hrm := Remove_walk wr D F S ⟨#[108, 48, 48, 48, 48, 48, 48, 48, 48, 48, 50]⟩ (by decide) d
          rw [show (⟨#[108, 48, 48, 48, 48, 48, 48, 48, 48, 48, 50]⟩ : ByteArray).data.toList = nameS 2 by rw [name_two 2 (by decide)]; rfl, b1] at hrm
          have hby := bytes_remove (nameS 2) (hold_bytes hh (by rw [hR]; exact badRecs_bytes q (by omega)))
          have hN := fun u : World => numbers_in (w := u) hh (low_hundred hG (by omega)) (names_remove S (nameS 2)) (fun v hv => number_ok 2 (by decide) v) (fun _ v hv => by rw [num_nameS 2 (by decide)] at hv; cases hv; decide)
          have hsz : (removeS S (nameS 2)).size ≤ 1000000 := by rw [size_remove, hG.room]; decide
          have HB := hide (And.intro hby (And.intro hN (And.intro hsz b2)))
          have HC := hide (And.intro hH (And.intro kT (And.intro hT0 hF)))
          clear hG hR hH kT hT0 d hF b1 b2 hh hby hN hsz
          generalize removeS S (nameS 2) = S2 at *
          go_wp2_with fail
          refine hrm.mono ?_
          rintro e w3 ⟨rfl, t3, d3⟩
          obtain ⟨hH, kT, hT0, hF⟩ := unhide HC
          obtain ⟨hby, hN, hsz, ho⟩ := unhide HB
          have k3 := t3.same kT (fun h => (hH T (hF T h)).2 rfl)
          have q3 : w3.cell? ⟨T, 0, none⟩ = some (.pointer (some ⟨D, 0, none⟩)) := cell_obj k3 0
          have hop := open_12 w3 _ D S2 d3 hby hsz (hN w3) ho
          have T3 := hT0.trans t3 (fun j hj => .inl (hH j (hF j hj)).1)
          have z3 := t3.size
          have HD := hide (And.intro T3 (And.intro hH hF))
          clear hH kT hT0 hF hby hN hsz ho k3 T3 d3 t3 hrm
          go_wp2_with fail
          refine hop.mono ?_
          rintro e w4 ⟨rfl, t4⟩
          go_wp2
          go_ret
          obtain ⟨T3, hH, hF⟩ := unhide HD
          exact ⟨rfl, (T3.trans t4 (fun j hj => by
            rcases hj with hj | hj
            · exact .inl (hH j (hF j hj)).1
            · exact .inl (by omega))).fresh (Nat.le_refl _)⟩
      · have ec : wrap64 ((IntKind.u64.wrap a1).tmod 4) = 1 := unhide Ec
        obtain ⟨hG, hR, hH, kT, hT0, d, hF⟩ := unhide HA
        obtain ⟨r0, hr0⟩ := badRecs_two q (by omega)
        obtain ⟨b1, b2⟩ := bad_cut hG (by omega) (hR.trans hr0) rfl rfl
        obtain ⟨m, hh⟩ := hG.hold
        have hrm := Cut_walk wr D F S ⟨#[108, 48, 48, 48, 48, 48, 48, 48, 48, 48, 48]⟩ 15 (by decide) d
        rw [show (⟨#[108, 48, 48, 48, 48, 48, 48, 48, 48, 48, 48]⟩ : ByteArray).data.toList = nameS 0 by rw [name_two 0 (by decide)]; rfl, b1] at hrm
        have hby := bytes_cut (nameS 0) 15 (hold_bytes hh (by rw [hR]; exact badRecs_bytes q (by omega)))
        have hN := fun u : World => numbers_in (w := u) hh (low_hundred hG (by omega)) (names_cut S (nameS 0) 15) (fun v hv => number_ok 0 (by decide) v) (fun _ v hv => by rw [num_nameS 0 (by decide)] at hv; cases hv; decide)
        have hsz : (cutS S (nameS 0) 15).size ≤ 1000000 := by rw [size_cut, hG.room]; decide
        have HB := hide (And.intro hby (And.intro hN (And.intro hsz b2)))
        have HC := hide (And.intro hH (And.intro kT (And.intro hT0 hF)))
        clear hG hR hH kT hT0 d hF b1 b2 hh hby hN hsz
        generalize cutS S (nameS 0) 15 = S2 at *
        go_wp2_with fail
        refine hrm.mono ?_
        rintro e w3 ⟨rfl, t3, d3⟩
        obtain ⟨hH, kT, hT0, hF⟩ := unhide HC
        obtain ⟨hby, hN, hsz, ho⟩ := unhide HB
        have k3 := t3.same kT (fun h => (hH T (hF T h)).2 rfl)
        have q3 : w3.cell? ⟨T, 0, none⟩ = some (.pointer (some ⟨D, 0, none⟩)) := cell_obj k3 0
        have hop := open_12 w3 _ D S2 d3 hby hsz (hN w3) ho
        have T3 := hT0.trans t3 (fun j hj => .inl (hH j (hF j hj)).1)
        have z3 := t3.size
        have HD := hide (And.intro T3 (And.intro hH hF))
        clear hH kT hT0 hF hby hN hsz ho k3 T3 d3 t3 hrm
        go_wp2_with fail
        refine hop.mono ?_
        rintro e w4 ⟨rfl, t4⟩
        go_wp2
        go_ret
        obtain ⟨T3, hH, hF⟩ := unhide HD
        exact ⟨rfl, (T3.trans t4 (fun j hj => by
          rcases hj with hj | hj
          · exact .inl (hH j (hF j hj)).1
          · exact .inl (by omega))).fresh (Nat.le_refl _)⟩
      · have ec : wrap64 ((IntKind.u64.wrap a1).tmod 4) = 2 := unhide Ec
        obtain ⟨hG, hR, hH, kT, hT0, d, hF⟩ := unhide HA
        obtain ⟨b1, b2⟩ := bad_five hG (by omega) (by decide)
        obtain ⟨m, hh⟩ := hG.hold
        have tA : Turn (fun _ => False) wr (wr.alloc (.cells #[.int .u8 120] 5 (1, 2))) := (Turn.refl _ wr).alloc _
        have hrm := Append_walk (wr.alloc (.cells #[.int .u8 120] 5 (1, 2))) D F _ S ⟨#[108, 53]⟩ _ [120] (by decide) (d.turn tA (fun _ _ _ h => h)) (row_marked wr [120] 5 (1, 2) (by decide))
        rw [show (⟨#[108, 53]⟩ : ByteArray).data.toList = [108, 53] from rfl, b1] at hrm
        have hby := bytes_append [108, 53] (b := [120]) (by intro x hx; simp at hx; omega) (hold_bytes hh (by rw [hR]; exact badRecs_bytes q (by omega)))
        have hN := fun u : World => numbers_in (w := u) hh (low_hundred hG (by omega)) (names_append S [108, 53] [120]) (fun v hv => five_number v) (fun _ v hv => by rw [show numOf [108, 53] = none by decide] at hv; cases hv)
        have hsz : (appendS S [108, 53] [120]).size ≤ 1000000 := by rw [size_append, hG.room]; decide
        have kT := tA.same kT (fun h => h)
        have hT0 := hT0.trans tA (fun _ h => h.elim)
        have zA := tA.size
        clear tA
        have HB := hide (And.intro hby (And.intro hN (And.intro hsz b2)))
        have HC := hide (And.intro hH (And.intro kT (And.intro hT0 hF)))
        clear hG hR hH kT hT0 d hF b1 b2 hh hby hN hsz
        generalize appendS S [108, 53] [120] = S2 at *
        go_wp2_with fail
        refine hrm.mono ?_
        rintro e w3 ⟨rfl, t3, d3⟩
        obtain ⟨hH, kT, hT0, hF⟩ := unhide HC
        obtain ⟨hby, hN, hsz, ho⟩ := unhide HB
        have k3 := t3.same kT (fun h => (hH T (hF T h)).2 rfl)
        have q3 : w3.cell? ⟨T, 0, none⟩ = some (.pointer (some ⟨D, 0, none⟩)) := cell_obj k3 0
        have hop := open_12 w3 _ D S2 d3 hby hsz (hN w3) ho
        have T3 := hT0.trans t3 (fun j hj => .inl (hH j (hF j hj)).1)
        have z3 := t3.size
        have HD := hide (And.intro T3 (And.intro hH hF))
        clear hH kT hT0 hF hby hN hsz ho k3 T3 d3 t3 hrm
        go_wp2_with fail
        refine hop.mono ?_
        rintro e w4 ⟨rfl, t4⟩
        go_wp2
        go_ret
        obtain ⟨T3, hH, hF⟩ := unhide HD
        exact ⟨rfl, (T3.trans t4 (fun j hj => by
          rcases hj with hj | hj
          · exact .inl (hH j (hF j hj)).1
          · exact .inl (by omega))).fresh (Nat.le_refl _)⟩
      · have ec : wrap64 ((IntKind.u64.wrap a1).tmod 4) = 3 := unhide Ec
        obtain ⟨hG, hR, hH, kT, hT0, d, hF⟩ := unhide HA
        obtain ⟨m, hh⟩ := hG.hold
        obtain ⟨b1, b2⟩ := open_other s.data.toList hG (by omega) (by decide)
        have hw1 : 1 < w.heap.size := World.block_lt_of_cell? w _ hv
        have tA : Turn (fun _ => False) wr (wr.alloc (.cells #[.int .u8 120] 5 (1, 2))) := (Turn.refl _ wr).alloc _
        have hcs : ((⟨#[120]⟩ : ByteArray) ++ s).data.toList = 120 :: s.data.toList := ex_cat s
        have hsz0 : ((⟨#[120]⟩ : ByteArray) ++ s).size ≤ maxLen := ex_size s hs
        have hrm := Append_walk (wr.alloc (.cells #[.int .u8 120] 5 (1, 2))) D F _ S ((⟨#[120]⟩ : ByteArray) ++ s) _ [120] hsz0 (d.turn tA (fun _ _ _ h => h)) (row_marked wr [120] 5 (1, 2) (by decide))
        rw [hcs] at hrm
        have hby := bytes_append (120 :: s.data.toList) (b := [120]) (by intro x hx; simp at hx; omega) (hold_bytes hh (by rw [hR]; exact badRecs_bytes q (by omega)))
        have hN := fun (u : World) (hu : u.cell? ⟨1, 0, none⟩ = some ev) => numbers_in (w := u) hh (low_hundred hG (by omega)) (names_append S (120 :: s.data.toList) [120]) (fun v hv => ex_number s.data.toList (ex_len s hs) ev v (hv.cell hu (fun h => h)) hev) (fun hm => by rw [ex_mark] at hm; cases hm)
        have hsz : (appendS S (120 :: s.data.toList) [120]).size ≤ 1000000 := by rw [size_append, hG.room]; decide
        have hnx : nextOf X.segs = q := hG.next
        have hft : Fit (newX 2 X.segs) := by
          have := hG.fit (by omega) (by omega)
          exact ⟨this.first, this.segs, Nat.zero_le _, by simp [newX]⟩
        have kT := tA.same kT (fun h => h)
        have hT0 := hT0.trans tA (fun _ h => h.elim)
        have zA := tA.size
        have hss : (⟨#[120]⟩ : ByteArray).size = 1 := rfl
        have HB := hide (And.intro hby (And.intro hN (And.intro hsz (And.intro b2 (And.intro hnx hft)))))
        have HC := hide (And.intro hH (And.intro kT (And.intro hT0 hF)))
        clear hG hR hH kT hT0 d hF b2 hh hby hN hsz tA hcs hsz0 hnx hft
        generalize appendS S (120 :: s.data.toList) [120] = S2 at *
        generalize appendC S (120 :: s.data.toList) [120] = ac at *
        go_wp2_with fail
        refine hrm.mono ?_
        rintro e w3 ⟨rfl, t3, d3⟩
        obtain ⟨hH, kT, hT0, hF⟩ := unhide HC
        obtain ⟨hby, hN, hsz, ho, hnx, hft⟩ := unhide HB
        have k3 := t3.same kT (fun h => (hH T (hF T h)).2 rfl)
        have q3 : w3.cell? ⟨T, 0, none⟩ = some (.pointer (some ⟨D, 0, none⟩)) := cell_obj k3 0
        have T3 := hT0.trans t3 (fun j hj => .inl (hH j (hF j hj)).1)
        have hop := open_0 w3 _ D S2 X.segs d3 hby hsz (hN w3 (T3.cell hv (fun h => by simp only at h; omega))) ho
        have z3 := t3.size
        have HD := hide (And.intro T3 (And.intro hH (And.intro hF (And.intro hnx hft))))
        clear hH kT hT0 hF hby hN hsz ho k3 T3 d3 t3 hrm hnx hft
        go_wp2_with fail
        refine hop.mono ?_
        rintro e w4 ⟨J2, rfl, t4, J4⟩
        obtain ⟨T3, hH, hF, hnx, hft⟩ := unhide HD
        have hne := next_jat w4 _ J2 D _ _ J4 hft
        rw [show (newX 2 X.segs).segs = X.segs from rfl, hnx] at hne
        clear T3 hH hF hnx hft J4
        rcases b1 with rfl | rfl
        all_goals
          go_wp2_with (go_at_call 25; refine hne.mono ?_; rintro e w5 ⟨rfl, t5⟩)
          go_ret
          obtain ⟨T3, hH, hF, hnx, hft⟩ := unhide HD
          exact ⟨rfl, ((T3.trans t4 (fun j hj => by
            rcases hj with hj | hj
            · exact .inl (hH j (hF j hj)).1
            · exact .inl (by omega))).trans t5 (fun _ h => h.elim)).fresh (Nat.le_refl _)⟩
theorem JournalBad_law (w : World) (a0 : Int) (w0 : (Lit.int .i64 a0).wf = true) (a1 : Int) (w1 : (Lit.int .i64 a1).wf = true) (s : ByteArray) (ws : s.size ≤ maxLen) (hs : s.size ≤ 140737488351232) (ev : Value) (hv : w.cell? ⟨1, 0, none⟩ = some ev) (hev : ev = .nilIface ∨ ∃ te pe, ev = .iface te pe) :
    Calls Tryz.prog 5 #[.int .i64 a0, .int .i64 a1, .string s] w fun e w' => e = .returned (.bool true) ∧ Below w.heap.size w w' :=
  (bad_law w a0 a1 s hs ev hv hev).mono (fun e w' h => ⟨h.1, h.2.bel⟩)
end Go.Proofs.YthikiahhochjmaaGreatDoor
