/- Sums and what is less; nodes; the small closures of a search; a search in memory. -/
import Derived.Test.YtombpfpfeebnpaaSMul
import Derived.Test.YtombpfpfeebnpaaHAwake
import Derived.Test.YtombpfpfeebnpaaGAsk
namespace Go.Proofs.Ytombpfpfeebnpaa
open Go.RowKit Go.Maps
set_option linter.unusedVariables false
set_option linter.unusedSimpArgs false
set_option maxRecDepth 100000

set_option maxHeartbeats 1000000 in
theorem add_walk (a b : Int) (w : World) (ha : 0 ≤ a) (ha2 : a ≤ INF) (hb : 0 ≤ b) (hb2 : b ≤ INF) :
    Calls Try.prog 50 #[.int .i64 a, .int .i64 b] w fun e w' => e = .returned (.int .i64 (min (a + b) INF)) ∧ w' = w := by
  have ha2' : a ≤ 1152921504606846976 := ha2
  have hb2' : b ≤ 1152921504606846976 := hb2
  clear ha2 hb2
  have m1 : max a 0 = a := by omega
  have m2 : max b 0 = b := by omega
  have w1 : IntKind.i64.wrap (1152921504606846976 - a) = 1152921504606846976 - a := by rw [IntKind.wrap_i64]; omega
  have w2 : IntKind.i64.wrap (a + b) = a + b := by rw [IntKind.wrap_i64]; omega
  obtain ⟨M, hM⟩ : ∃ M, M = min (a + b) (1152921504606846976 : Int) := ⟨_, rfl⟩
  rw [show min (a + b) INF = M from hM.symm]
  have HM := hide hM
  clear hM
  by_cases h1 : 1152921504606846976 ≤ a
  · go_enter Try.func50, Try.ntmps50
    go_wp2
    go_ret
    exact ⟨ret_int (by have := unhide HM; omega), rfl⟩
  · by_cases h2 : 1152921504606846976 - a ≤ b
    · go_enter Try.func50, Try.ntmps50
      go_wp2
      go_ret
      exact ⟨ret_int (by have := unhide HM; omega), rfl⟩
    · go_enter Try.func50, Try.ntmps50
      go_wp2
      go_ret
      exact ⟨ret_int (by have := unhide HM; omega), rfl⟩
set_option maxHeartbeats 1000000 in
theorem nless_walk (a b : Int) (w : World) :
    Calls Try.prog 58 #[.int .i64 a, .int .i64 b] w fun e w' => e = .returned (.bool (decide (a < b ∧ a < INF))) ∧ w' = w := by
  obtain ⟨D, hD⟩ : ∃ D, D = decide (a < b ∧ a < (1152921504606846976 : Int)) := ⟨_, rfl⟩
  rw [show decide (a < b ∧ a < INF) = D from hD.symm]
  have HD := hide hD
  clear hD
  by_cases h1 : a < b
  · by_cases h2 : a < 1152921504606846976
    · go_enter Try.func58, Try.ntmps58
      go_wp2
      go_ret
      exact ⟨ret_bool (by rw [unhide HD]; exact (decide_eq_true (by omega)).symm), rfl⟩
    · go_enter Try.func58, Try.ntmps58
      go_wp2
      go_ret
      exact ⟨ret_bool (by rw [unhide HD]; exact (decide_eq_false (by omega)).symm), rfl⟩
  · go_enter Try.func58, Try.ntmps58
    go_wp2
    go_ret
    exact ⟨ret_bool (by rw [unhide HD]; exact (decide_eq_false (by omega)).symm), rfl⟩
set_option maxHeartbeats 1000000 in
theorem snode_walk (w : World) (v n : Int) : Calls Try.prog 33 #[.int .i64 v, .int .i64 n] w fun e w' => e = .returned (.bool (decide (0 ≤ v ∧ v < n))) ∧ w' = w := by
  obtain ⟨D, hD⟩ : ∃ D, D = decide (0 ≤ v ∧ v < n) := ⟨_, rfl⟩
  rw [← hD]
  have HD := hide hD
  clear hD
  by_cases h0 : 0 ≤ v
  · by_cases h1 : v < n
    · go_enter Try.func33, Try.ntmps33
      go_wp2
      go_ret
      exact ⟨ret_bool (by rw [unhide HD]; exact (decide_eq_true (by omega)).symm), rfl⟩
    · go_enter Try.func33, Try.ntmps33
      go_wp2
      go_ret
      exact ⟨ret_bool (by rw [unhide HD]; exact (decide_eq_false (by omega)).symm), rfl⟩
  · go_enter Try.func33, Try.ntmps33
    go_wp2
    go_ret
    exact ⟨ret_bool (by rw [unhide HD]; exact (decide_eq_false (by omega)).symm), rfl⟩

/-- a search in memory: how it goes on, how far each node is, what is next -/
def SrAt (w : World) (S : Nat) (av ev : Value) (db n : Nat) (hv : Value) (L : List Int) : Prop :=
  w.heap[S]? = some (.cells #[av, ev, .slice (some ⟨db, 0, none⟩) n n, hv] 66 (0, 0)) ∧ ND w db n L
theorem SrAt.turn {F : Nat → Prop} {w w' : World} {S db n : Nat} {av ev hv : Value} {L : List Int} (h : SrAt w S av ev db n hv L) (t : Turn F w w') (h1 : ¬ F S) (h2 : ¬ F db) : SrAt w' S av ev db n hv L := ⟨t.same h.1 h1, h.2.turn t h2⟩

set_option maxHeartbeats 4000000 in
theorem see_walk {w : World} {S db n H : Nat} {av ev : Value} {L : List Int} {F : Nat → Prop} {T : List It} (hS : SrAt w S av ev db n (.pointer (some ⟨H, 0, none⟩)) L) (hh : HAt w H n F T) (hF : ∀ j, w.heap.size ≤ j → F j) (hFS : ¬ F S) (hFd : ¬ F db)
    (t : Nat) (d old : Int) (htn : t < n) (hold : L[t]? = some old) (hin : d < old → old < INF → (t, old) ∈ T) (hout : INF ≤ old → ∀ r : Int, (t, r) ∉ T) :
    Calls Try.prog 49 #[.pointer (some ⟨S, 0, none⟩), .int .i64 (t : Int), .int .i64 d] w fun e w' => e = .returned (.tuple #[]) ∧ Turn (fun j => F j ∨ j = db) w w' ∧
      ((¬ (d < old ∧ d < INF) ∧ SrAt w' S av ev db n (.pointer (some ⟨H, 0, none⟩)) L ∧ HAt w' H n F T) ∨
       (d < old ∧ d < INF ∧ SrAt w' S av ev db n (.pointer (some ⟨H, 0, none⟩)) (L.set t d) ∧ ∃ T', HAt w' H n F T' ∧ ∀ u, u ∈ T' ↔ u = (t, d) ∨ u ∈ T ∧ u.1 ≠ t)) := by
  have hl := nless_walk d old w
  have c2 : w.cell? ⟨S, 2, none⟩ = some (.slice (some ⟨db, 0, none⟩) n n) := cell_obj hS.1 2
  obtain ⟨q0, z0⟩ := hS.2.at hold
  have ht0 : (0 : Int) ≤ (t : Int) := by omega
  have ht1 : (t : Int) < (n : Int) := by omega
  by_cases hd : d < old ∧ d < INF
  · obtain ⟨d1, d2⟩ := hd
    rw [decide_eq_true (show d < old ∧ d < INF from ⟨d1, d2⟩)] at hl
    have hSd : S ≠ db := by
      rintro rfl
      obtain ⟨cur, hc⟩ := hS.2.obj
      rw [hS.1] at hc; cases hc
    have t1 : Turn (fun j => j = db) w (w.setCell ⟨db, t, none⟩ (.int .i64 d)) := (Turn.refl (fun j => j = db) w).setCell (p := ⟨db, t, none⟩) (.inl rfl) _
    have hN := hS.2.put htn d
    have hS1 : SrAt (w.setCell ⟨db, t, none⟩ (.int .i64 d)) S av ev db n (.pointer (some ⟨H, 0, none⟩)) (L.set t d) := ⟨t1.same hS.1 hSd, hN⟩
    have hh1 : HAt (w.setCell ⟨db, t, none⟩ (.int .i64 d)) H n F T := hh.turn t1 (fun j hj e => hFd (by rw [← e]; exact hj))
    have c3 : (w.setCell ⟨db, t, none⟩ (.int .i64 d)).cell? ⟨S, 3, none⟩ = some (.pointer (some ⟨H, 0, none⟩)) := cell_obj hS1.1 3
    have hT1 : Turn (fun j => F j ∨ j = db) w (w.setCell ⟨db, t, none⟩ (.int .i64 d)) := t1.mono (fun j hj => .inr hj)
    by_cases ho : old < 1152921504606846976
    · have hlow := lower_ok hh1 t old d (hin d1 ho) (by omega)
      have HS := hide hS1
      have D := hide (And.intro d1 d2)
      clear hin hout hh hS hN t1 hh1 hS1 d1 d2
      go_enter Try.func49, Try.ntmps49
      go_wp2_with (first
        | (go_at_call 58; refine hl.mono ?_; rintro e w' ⟨rfl, hw'⟩; obtain rfl := hw'.symm)
        | (go_at_call 59; refine hlow.mono ?_; rintro e w3 ⟨rfl, t3, T', h3, h3', h3''⟩))
      go_end0
      exact ⟨rfl, hT1.then (t3.mono (fun j hj => .inl hj)), .inr ⟨(unhide D).1, (unhide D).2, (unhide HS).turn t3 hFS hFd, T', h3, h3''⟩⟩
    · have hI : INF ≤ old := by show (1152921504606846976 : Int) ≤ old; omega
      have hpush := push_ok hh1 (fun j hj => hF j (Nat.le_trans t1.size hj)) t d htn (hout hI)
      have Ho := hide (hout hI)
      clear hI
      have HS := hide hS1
      have D := hide (And.intro d1 d2)
      clear hin hout hh hS hN t1 hh1 hS1 d1 d2
      go_enter Try.func49, Try.ntmps49
      go_wp2_with (first
        | (go_at_call 58; refine hl.mono ?_; rintro e w' ⟨rfl, hw'⟩; obtain rfl := hw'.symm)
        | (go_at_call 60; refine hpush.mono ?_; rintro e w3 ⟨rfl, t3, T', h3, h3', h3''⟩))
      go_end0
      refine ⟨rfl, hT1.then (t3.mono (fun j hj => .inl hj)), .inr ⟨(unhide D).1, (unhide D).2, (unhide HS).turn t3 hFS hFd, T', h3, fun u => ?_⟩⟩
      rw [h3'' u]
      constructor
      · rintro (h | h)
        · exact .inl h
        · exact .inr ⟨h, fun e => unhide Ho u.2 (by rw [← e]; exact h)⟩
      · rintro (h | h)
        · exact .inl h
        · exact .inr h.1
  · rw [decide_eq_false hd] at hl
    have HS := hide hS
    have D := hide hd
    clear hin hout hS hd
    go_enter Try.func49, Try.ntmps49
    go_wp2_with (first
        | (go_at_call 58; refine hl.mono ?_; rintro e w' ⟨rfl, hw'⟩; obtain rfl := hw'.symm))
    exact bodyPost_ret (v := .tuple #[]) (by simp [results, Try.results49, go_sem]) rfl ⟨rfl, Turn.refl _ _, .inl ⟨unhide D, unhide HS, hh⟩⟩
end Go.Proofs.Ytombpfpfeebnpaa
