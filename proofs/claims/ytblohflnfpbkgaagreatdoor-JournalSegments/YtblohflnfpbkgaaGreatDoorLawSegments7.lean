/- JournalSegments. -/
import Derived.Test.YtblohflnfpbkgaaGreatDoorJGrown
namespace Go.Proofs.YtblohflnfpbkgaaGreatDoor
open Go.RowKit Go.Maps Go.Sort
set_option linter.unusedVariables false
set_option linter.unusedSimpArgs false

/-- what stands between two appends -/
def SegAt (wr : World) (w : World) (T J D m n i : Nat) (X : Jn) (S : Dk) (H : Nat → Prop) : Prop :=
  JAt wr H J D X S ∧ Grown 1 m i X S ∧ (∀ j, H j → w.heap.size ≤ j ∧ j ≠ T) ∧ wr.heap[T]? = some (.cells (TruthB D J m) 32) ∧ Turn (fun j => w.heap.size ≤ j) w wr

theorem segs_bytes (z : Nat) (h : z < 100) : (⟨#[108, 48, 48, 48, 48, 48, 48, 48, 48]⟩ : ByteArray) ++ strOfNums [(48 : Int) + (z : Int) / 10, (48 : Int) + (z : Int) % 10] = nameB z := by
  have h1 : ((48 : Int) + (z : Int) / 10).toNat = 48 + z / 10 := by omega
  have h2 : ((48 : Int) + (z : Int) % 10).toNat = 48 + z % 10 := by omega
  have e : nameB z = ⟨(nameS z).toArray⟩ := rfl
  rw [e, name_two z h]
  simp only [strOfNums, List.map_cons, List.map_nil, h1, h2]
  rfl
theorem segs_conv (wr : World) (a b : Int) : (convert 33 9 (.slice (some ⟨wr.heap.size, 0, none⟩) 2 2)).run Tryz.prog (wr.alloc (.cells #[.int .u8 a, .int .u8 b] 5)).drew = .ok (.string (strOfNums [a, b])) (wr.alloc (.cells #[.int .u8 a, .int .u8 b] 5)).drew := by
  have := (row_marked wr [a, b] 5 (0, 0) (by simp [maxLen])).turn (F := fun _ => False) ((Turn.refl _ _).drew) (fun _ _ h => h)
  exact conv_row this
set_option maxRecDepth 100000 in
set_option maxHeartbeats 400000 in
theorem segments_law (w : World) (a0 a1 a2 : Int) (h2 : -9223372036854775808 ≤ a2 ∧ a2 ≤ 9223372036854775807) :
    Calls Tryz.prog 4 #[.int .i64 a0, .int .i64 a1, .int .i64 a2] w fun e w' => e = .returned (.bool true) ∧ Turn (fun _ => False) w w' := by
  obtain ⟨m0, hm0, em0⟩ := rem9 a0 9 (by decide) (by decide)
  obtain ⟨n, hn, en⟩ := rem9 a1 40 (by decide) (by decide)
  have em : wrap64 (1 + wrap64 ((IntKind.u64.wrap a0).tmod 9)) = ((m0 + 1 : Nat) : Int) := by
    rw [show ((9 : Nat) : Int) = 9 from rfl] at em0
    rw [em0]; unfold wrap64; omega
  rw [show ((40 : Nat) : Int) = 40 from rfl] at en
  have Em := hide em
  have En := hide en
  clear em0 em en
  go_enter Tryz.func4, Tryz.ntmps4
  go_wp2_with fail
  rw [unhide Em, unhide En]
  generalize hm : m0 + 1 = m at *
  have hm1 : 1 ≤ m := by omega
  have hm9 : m ≤ 9 := by omega
  generalize wrap64 ((IntKind.u64.wrap a0).tmod 9) = x1
  generalize (IntKind.u64.wrap a0).tmod 9 = x2
  generalize IntKind.u64.wrap a0 = x3
  generalize (IntKind.u64.wrap a1).tmod 40 = x4
  generalize IntKind.u64.wrap a1 = x5
  refine (begin_t w m hm1 (by omega)).mono ?_
  rintro e w1 ⟨T, J, D, rfl, t1, hT, k1, J1⟩
  go_wp2_with fail
  refine (awake_j _).mono ?_
  rintro e w2 ⟨rfl, t2⟩
  have lt1 := (Array.getElem?_eq_some_iff.1 k1).1
  have k2 := t2.same k1 (fun h => h)
  have J2 := J1.same t2
  have T2 := (t1.then t2)
  have HS : SegAt w2 w T J D m n 0 (newX m []) (newS 262144) (fun j => w.heap.size ≤ j ∧ j ≠ T) := ⟨J2, grown_new 1 m, fun j h => h, k2, T2.mono (fun _ h => h.elim)⟩
  clear t1 t2 k1 J1 k2 J2 T2
  go_wp2_with fail
  go_loopw [8] (fun i wr => ∃ (k : Nat) (X : Jn) (S : Dk) (H : Nat → Prop), i = .int .i64 (k : Int) ∧ k ≤ n ∧ SegAt wr w T J D m n k X S H) (fun i _ => n - (intOf i).toNat)
  case atStart => exact ⟨0, _, _, _, rfl, by omega, HS⟩
  case round =>
    obtain ⟨k, X, S, H, rfl, hk, hS⟩ := hrel
    by_cases hlt : k < n
    · obtain ⟨hJ, hG, hH, kT, hT0⟩ := hS
      have hk40 : k < 40 := by omega
      have q1 : wr.cell? ⟨T, 1, none⟩ = some (.pointer (some ⟨J, 0, none⟩)) := cell_obj kT 1
      have tA : Turn (fun _ => False) wr (wr.alloc (.cells #[.int .u8 (k : Int)] 5)) := (Turn.refl _ wr).alloc _
      have hr := row_marked wr [(k : Int)] 5 (0, 0) (by simp [maxLen])
      have ha := append_j _ H _ J D X S _ [(k : Int)] (hJ.same tA) (hG.fit (by omega) (by omega)) (by intro x hx; simp at hx; omega) hr (by rw [hG.next]; omega)
      have hg := grown_more (b := [(k : Int)]) hG hm1 hk40 (by decide) (by simp)
      rw [hg.1] at ha
      have kA := tA.same kT (fun h => h)
      have zA := tA.size
      have zT := (Array.getElem?_eq_some_iff.1 kT).1
      have zw := hT0.size
      have HG := hide hg.2.1
      have H0 := hide (And.intro hT0 (And.intro tA (And.intro hH kA)))
      clear hr hJ hG hH kT hT0 hg kA tA
      go_wp2_with (go_at_call 15; refine ha.mono ?_; rintro e w3 ⟨rfl, t3, J3⟩)
      obtain ⟨hT0, tA, hH, kA⟩ := unhide H0
      refine ⟨⟨k + 1, _, _, NF (wr.alloc (.cells #[.int .u8 (k : Int)] 5)) H, by go_num, by omega, J3, unhide HG, ?_, ?_, ?_⟩, by simp [intOf]; omega⟩
      · rintro j (hj | hj)
        · exact hH j hj
        · have h1 : w.heap.size ≤ j := by omega
          exact ⟨h1, by omega⟩
      · exact t3.same kA (fun h => (hH T h).2 rfl)
      · exact (hT0.trans tA (fun _ h => h.elim)).trans t3 (fun j hj => by have := (hH j hj).1; exact .inl this)
    · have hkn : k = n := by omega
      subst hkn
      obtain ⟨hJ, hG, hH, kT, hT0⟩ := hS
      have hlen := ev_len hm1 hG.ev
      rw [hG.next] at hlen
      have q0 : wr.cell? ⟨T, 0, none⟩ = some (.pointer (some ⟨D, 0, none⟩)) := cell_obj kT 0
      have hna := names_jat wr H J D X S hJ
      rw [(grown_names hG).1, (grown_names hG).2] at hna
      have zT := (Array.getElem?_eq_some_iff.1 kT).1
      have zw := hT0.size
      have HG := hide hG
      have H0 := hide (And.intro hT0 (And.intro hJ (And.intro hH kT)))
      clear hJ hG hH kT hT0
      have hfl := seg_le (by obtain ⟨q, hq⟩ := (unhide HG).hold; exact hq.ch)
      rw [(unhide HG).next] at hfl
      have hdv : ((k : Int) + (m : Int) - 1) / (m : Int) = ((X.segs.length : Nat) : Int) := by
        rw [show (k : Int) + (m : Int) - 1 = ((k + m - 1 : Nat) : Int) by omega, ← Int.natCast_ediv, ← hlen]
      go_wp2_with fail
      rw [hdv]
      refine hna.mono ?_
      rintro e w3 ⟨v, rfl, hv, t3⟩
      obtain ⟨hT0, hJ, hH, kT⟩ := unhide H0
      have hJ3 := hJ.same t3
      have hsg := segments_jat w3 H J D X S hJ3
      have k3 := t3.same kT (fun h => h)
      have q1 : w3.cell? ⟨T, 1, none⟩ = some (.pointer (some ⟨J, 0, none⟩)) := cell_obj k3 1
      have ho := OwnSl.of_owns hv
      obtain ⟨va, vc, rfl⟩ := ho.form
      have hnl : ((X.segs.map (fun s => nameS s.first)).map encStr).length = X.segs.length := by simp
      rw [List.length_map] at ho ⊢
      have HO := hide ho
      have T3 := hT0.trans t3 (fun _ h => h.elim)
      have H0 := hide (And.intro T3 (And.intro hJ3 (And.intro hH k3)))
      have z3 := t3.size
      clear hna ho hv t3 hT0 hJ kT hH hJ3 k3 T3 hdv q0 hlen
      generalize hfe : X.segs.length = fl at *
      go_wp2_with (go_at_call 17; refine hsg.mono ?_; rintro e w4 ⟨rfl, hw⟩; have hw := hw.symm; subst hw)
      go_loopw [12] (fun i wq => ∃ (q : Nat), i = .int .i64 (q : Int) ∧ q ≤ fl ∧ Turn (fun _ => False) w3 wq) (fun i _ => fl - (intOf i).toNat)
      case atStart => exact ⟨0, rfl, by omega, Turn.refl _ _⟩
      case round =>
        obtain ⟨q, rfl, hq, tq⟩ := hrel
        by_cases hql : q < fl
        · have hnm := ev_name (unhide HG).ev (q := q) (by omega)
          obtain ⟨g, off, hva, hc⟩ : ∃ g off, va = some ⟨g, off, none⟩ ∧ w3.cell? ⟨g, off + q, none⟩ = some (encStr (nameS (q * m))) := by
            have ho := unhide HO
            rcases ho.2 with ⟨hv, h0⟩ | ⟨g, off, cap, cur, hv, _⟩
            · omega
            · cases hv
              exact ⟨g, off, rfl, ho.cells q _ (by rw [List.getElem?_map, hnm]; rfl)⟩
          subst hva
          have hqm : q * m < 100 := by
            obtain ⟨kk, hkk⟩ := (unhide HG).hold
            have := (unhide HG).ev q X.segs[q] (by simp)
            have h3 := (unhide HG).fit (by omega) (by omega)
            have h4 := (h3.first X.segs[q] (List.getElem_mem _)).1
            omega
          have hc' := tq.cell hc (fun h => h)
          have hmul : (q : Int) * (m : Int) = ((q * m : Nat) : Int) := (Int.natCast_mul q m).symm
          generalize hz : q * m = z at *
          have hcv3 := segs_conv wr ((48 : Int) + (z : Int) / 10) ((48 : Int) + (z : Int) % 10)
          have hcd : wr.drew.cell? ⟨g, off + q, none⟩ = some (.string (nameB z)) := hc'
          have hcat := segs_bytes z hqm
          have htl : (strOfNums [(48 : Int) + (z : Int) / 10, (48 : Int) + (z : Int) % 10]).size = 2 := by rw [strOfNums_size]; rfl
          have hCs : (⟨#[108, 48, 48, 48, 48, 48, 48, 48, 48]⟩ : ByteArray).size = 9 := by decide
          generalize strOfNums [(48 : Int) + (z : Int) / 10, (48 : Int) + (z : Int) % 10] = tl at *
          have hz3 : z < 100 := hqm
          have hmw := hide (show wrap64 ((q : Int) * (m : Int)) = (z : Int) by rw [hmul]; unfold wrap64; omega)
          have hq0 : (0 : Int) ≤ (q : Int) := by omega
          have hq1 : (q : Int) < (fl : Int) := by omega
          have tqa := (tq.alloc (.cells #[.int .u8 ((48 : Int) + (z : Int) / 10), .int .u8 ((48 : Int) + (z : Int) % 10)] 5)).drew
          clear hz hnm hmul hc hc' hqm
          generalize nameB z = NM at *
          have hck : ∀ o, (wr.alloc o).drew.cell? ⟨g, off + q, none⟩ = some (.string NM) := fun o => ((Turn.refl (fun _ => False) wr.drew).alloc o).cell hcd id
          go_wp2_with fail
          rw [unhide hmw]
          generalize (⟨#[108, 48, 48, 48, 48, 48, 48, 48, 48]⟩ : ByteArray) = CC at *
          go_region
          go_wp2
          exact ⟨⟨q + 1, by go_num, by omega, tqa⟩, by simp [intOf]; omega⟩
        · have hqf : q = fl := by omega
          subst hqf
          obtain ⟨hT3, hJ3, hH, k3⟩ := unhide H0
          have kq := tq.same k3 (fun h => h)
          have q2 : wr.cell? ⟨T, 1, none⟩ = some (.pointer (some ⟨J, 0, none⟩)) := cell_obj kq 1
          obtain ⟨f, hf, ef⟩ := rem9 a2 (k + 1) (by omega) (by omega)
          rw [show ((k + 1 : Nat) : Int) = (k : Int) + 1 by omega] at ef
          have ht := trim_j wr H J D X S f (hJ3.same tq) ((unhide HG).fit (by omega) (by omega))
          obtain ⟨g1, g2, g3, g4, g5, g6, g7, g8, g9⟩ := grown_trim (n := f) (unhide HG) hm1 (by omega) (by omega) (by omega)
          rw [g1] at ht
          rw [hfe] at g3 g5 g6
          have hB : ∀ s ∈ (trimJ X S f).2.1.segs, ∀ b ∈ s.recs, b.length ≤ 1099511627776 := by
            rw [g8]
            intro s hs b hb
            have := (unhide HG).short b (List.mem_flatMap.2 ⟨s, List.mem_of_mem_drop hs, hb⟩)
            omega
          have Ht := hide (And.intro g3 (And.intro g4 (And.intro g5 (And.intro g7 (And.intro g2 hB)))))
          clear g1 g2 g3 g4 g5 g7 g8 g9 hB
          generalize (trimJ X S f).2.1 = X2 at *
          generalize (trimJ X S f).2.2 = S2 at *
          have Hk := hide (And.intro hT3 (And.intro hH kq))
          have z4 := tq.size
          have z5 := hT3.size
          clear hT3 hH k3 kq hJ3 HG HO H0 hsg
          go_wp2_with fail
          rw [ef]
          refine ht.mono ?_
          rintro e w4 ⟨rfl, t4, J4⟩
          obtain ⟨hT3, hH, kq⟩ := unhide Hk
          obtain ⟨g3, g4, g5, g7, g2, hB⟩ := unhide Ht
          have k4 := t4.same kq (fun h => (hH T h).2 rfl)
          have q4 : w4.cell? ⟨T, 1, none⟩ = some (.pointer (some ⟨J, 0, none⟩)) := cell_obj k4 1
          have hval : wrap64 (min (wrap64 ((f : Int) / (m : Int))) (max ((q : Int) - 1) 0) * (m : Int)) = ((min (f / m) (q - 1) * m : Nat) : Int) := by
            have h1 : f / m ≤ f := Nat.div_le_self f m
            have e1 : wrap64 ((f : Int) / (m : Int)) = ((f / m : Nat) : Int) := by
              rw [← Int.natCast_ediv]
              generalize f / m = fm at h1 ⊢
              unfold wrap64; omega
            rw [e1, show min ((f / m : Nat) : Int) (max ((q : Int) - 1) 0) = ((min (f / m) (q - 1) : Nat) : Int) by generalize f / m = fm; omega, ← Int.natCast_mul]
            generalize min (f / m) (q - 1) * m = cf at *
            unfold wrap64; omega
          have Hval := hide hval
          clear hval
          have z6 := t4.size
          have hfi := first_jat w4 _ J D X2 S2 J4
          rw [g3] at hfi
          have hre := records_j w4 _ J D X2 S2 J4 g2 hB
          have hk4 := hide (And.intro hT3 (And.intro hH (And.intro k4 (And.intro J4 t4))))
          clear hT3 hH kq k4 J4 t4 ht Ht Hk
          go_wp2_with fail
          rw [unhide Hval]
          clear Hval
          generalize min (f / m) (q - 1) * m = cf at *
          have hcut : ((k : Int) - (cf : Int)) = ((k - cf : Nat) : Int) := by omega
          refine hfi.mono ?_
          rintro e w5 ⟨rfl, hw⟩
          have hw := hw.symm
          subst hw
          go_wp2_with fail
          refine hre.mono ?_
          rintro e w6 ⟨x, rfl, hL, t6⟩
          obtain ⟨xa, xc, rfl⟩ := hL.slice
          obtain ⟨hT3, hH, k4, J4, t4⟩ := unhide hk4
          have J6 := J4.same t6
          have k6 := t6.same k4 (fun h => h)
          have q6 : w6.cell? ⟨T, 1, none⟩ = some (.pointer (some ⟨J, 0, none⟩)) := cell_obj k6 1
          have hti := trim_j w6 _ J D X2 S2 (k + 1) J6 g2
          rw [trim_above g7 (by rw [g4]; omega), show ((k + 1 : Nat) : Int) = (k : Int) + 1 by omega] at hti
          have z6 := t6.size
          have HH := hide (And.intro hT3 (And.intro hH (And.intro t4 t6)))
          clear hT3 hH k4 J4 t4 k6 t6 hk4 J6 hfi hre hL
          rw [g5]
          go_wp2_with fail
          refine hti.mono ?_
          rintro e w7 ⟨rfl, t7, J7⟩
          go_wp2
          go_ret
          obtain ⟨hT3, hH, t4, t6⟩ := unhide HH
          have TT : Turn (fun j => w.heap.size ≤ j) w w7 := (((hT3.trans tq (fun _ h => h.elim)).trans t4 (fun j hj => .inl (hH j hj).1)).trans t6 (fun _ h => h.elim)).trans t7 (fun j hj => by
            rcases hj with hj | hj
            · exact .inl (hH j hj).1
            · exact .inl (by omega))
          exact ⟨rfl, TT.fresh (Nat.le_refl _)⟩
theorem JournalSegments_law (w : World) (a0 : Int) (w0 : (Lit.int .i64 a0).wf = true) (a1 : Int) (w1 : (Lit.int .i64 a1).wf = true) (a2 : Int) (w2 : (Lit.int .i64 a2).wf = true) :
    Calls Tryz.prog 4 #[.int .i64 a0, .int .i64 a1, .int .i64 a2] w fun e w' => e = .returned (.bool true) ∧ Below w.heap.size w w' :=
  (segments_law w a0 a1 a2 (wf_i64 w2)).mono (fun e w' h => ⟨h.1, h.2.bel⟩)
end Go.Proofs.YtblohflnfpbkgaaGreatDoor
