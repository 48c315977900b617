/- SlotsPlays: whatever is saved, wherever the disk is hit, falls, and keeps. -/
import Derived.Test.YtodnnblnchjeiaaVPlayO
import Derived.Test.YtodnnblnchjeiaaVEnvH
import Derived.Deep.RegionHeld3
import Derived.Test.YtodnnblnchjeiaaVFiles
namespace Go.Proofs.Ytodnnblnchjeiaa
open Go.RowKit Go.Maps
set_option linter.unusedVariables false
set_option linter.unusedSimpArgs false

/-- what stands between two operations -/
structure Stand (S : Dk) (x : Sl) (n : Nat) (L B : List Int) (dn : Bool) (i sz : Nat) : Prop where
  st : (dn = false ∧ x = ⟨n, L, false⟩ ∧ S.down = false ∧ Quiet S n L) ∨ (dn = true ∧ x = ⟨n, L, true⟩ ∧ S.down = true ∧ Fell S n L B ∧ Few (n + 1) B)
  few : Few n L
  num : n + dn.toNat ≤ i
  nil : n = 0 → L = []
  size : S.size = sz

theorem start_up (S : Dk) : (startS S).down = false ∧ (startS S).size = S.size := by
  unfold startS
  split <;> exact ⟨rfl, rfl⟩
/-- what is opened then -/
theorem stand_open {S S1 : Dk} {x : Sl} {m i sz : Nat} {L B : List Int} {dn : Bool} (h : Stand S x m L B dn i sz) (hS : S1 = S ∨ ∃ keep, S1 = crashS S keep) :
    ∃ m' R, Quiet (startS S1) m' R ∧ ((m' = m ∧ R = L) ∨ (m' = m + 1 ∧ R = B ∧ dn = true)) ∧ Few m' R ∧ m' ≤ i ∧ (m' = 0 → R = []) := by
  have hnum := h.num
  rcases h.st with ⟨rfl, _, hd, hq⟩ | ⟨rfl, _, hd, hf, fB⟩
  · refine ⟨m, L, ?_, .inl ⟨rfl, rfl⟩, h.few, by simp at hnum; exact hnum, h.nil⟩
    rcases hS with rfl | ⟨keep, rfl⟩
    · exact (start_quiet hq).1
    · exact (start_quiet (crash_quiet keep hq)).1
  · have key : Quiet (startS S1) m L ∨ Quiet (startS S1) (m + 1) B := by
      rcases hS with rfl | ⟨keep, rfl⟩
      · exact start_fell hf hd h.few fB
      · rcases crash_fell keep hf h.few fB with h | h
        · exact .inl (start_quiet h).1
        · exact .inr (start_quiet h).1
    simp at hnum
    rcases key with h1 | h1
    · exact ⟨m, L, h1, .inl ⟨rfl, rfl⟩, h.few, by omega, h.nil⟩
    · exact ⟨m + 1, B, h1, .inr ⟨rfl, rfl, rfl⟩, fB, hnum, fun h => by omega⟩
theorem stand_fresh {S1 : Dk} {m i sz : Nat} {R B : List Int} (hq : Quiet (startS S1) m R) (few : Few m R) (hm : m ≤ i) (h0 : m = 0 → R = []) (hz : S1.size = sz) : Stand (startS S1) ⟨m, R, false⟩ m R B false i sz :=
  ⟨.inl ⟨rfl, rfl, (start_up S1).1, hq⟩, few, by simpa using hm, h0, (start_up S1).2.trans hz⟩
theorem stand_arm {S : Dk} {x : Sl} {m i sz : Nat} {L B : List Int} {dn : Bool} (h : Stand S x m L B dn i sz) (z : Int) : Stand (armS S z) x m L B dn i sz := by
  refine ⟨?_, h.few, h.num, h.nil, h.size⟩
  rcases h.st with ⟨e, e2, hd, hq⟩ | ⟨e, e2, hd, hf, fB⟩
  · exact .inl ⟨e, e2, hd, quiet_fs hq rfl⟩
  · exact .inr ⟨e, e2, hd, fell_fs hf rfl, fB⟩
theorem stand_more {S : Dk} {x : Sl} {m i sz : Nat} {L B : List Int} {dn : Bool} (h : Stand S x m L B dn i sz) : Stand S x m L B dn (i + 1) sz := ⟨h.st, h.few, by have := h.num; omega, h.nil, h.size⟩

/-- what a save makes of it -/
theorem stand_save {S : Dk} {x : Sl} {m i sz : Nat} {L B b : List Int} {dn : Bool} (h : Stand S x m L B dn i sz) (hb : Few (m + 1) b) :
    (dn = true ∧ saveV x S b = (3, x, S)) ∨ (dn = false ∧ x = ⟨m, L, false⟩ ∧ SaveEnd S m L b (saveV x S b)) := by
  rcases h.st with ⟨e, rfl, hd, hq⟩ | ⟨e, rfl, hd, hf, fB⟩
  · exact .inr ⟨e, rfl, save_quiet hq hd h.few hb⟩
  · exact .inl ⟨e, save_down b (.inl rfl)⟩
theorem stand_n {S : Dk} {x : Sl} {m i sz : Nat} {L B : List Int} {dn : Bool} (h : Stand S x m L B dn i sz) : x.n = m := by
  rcases h.st with ⟨_, rfl, _⟩ | ⟨_, rfl, _⟩ <;> rfl
theorem row_block {k : IntKind} {w : World} {g n c : Nat} {zs : List Int} (h : Row k any w (.slice (some ⟨g, 0, none⟩) n c) zs) : Row k (fun b => b = g) w (.slice (some ⟨g, 0, none⟩) n c) zs := by
  rcases h with ⟨a, c', e, h1, h2, rfl⟩ | ⟨b, off, c', e, h1, h2, h3, h4⟩
  · exact .inl ⟨a, c', e, h1, h2, rfl⟩
  · have hb : b = g := by simp at e; exact e.1.1.symm
    exact .inr ⟨b, off, c', e, h1, h2, hb, h4⟩
theorem row_free {k : IntKind} {w : World} {g n c : Nat} {zs : List Int} (h : Row k any w (.slice (some ⟨g, 0, none⟩) n c) zs) (hf : Free w g) : Row k (fun b => b = g ∧ Free w b) w (.slice (some ⟨g, 0, none⟩) n c) zs := by
  rcases row_block h with ⟨a, c', e, h1, h2, rfl⟩ | ⟨b, off, c', e, h1, h2, h3, h4⟩
  · exact .inl ⟨a, c', e, h1, h2, rfl⟩
  · exact .inr ⟨b, off, c', e, h1, h2, ⟨h3, by rw [h3]; exact hf⟩, h4⟩

/-- the law's begin -/
theorem env_new (w w1 w2 w3 : World) (X sz : Nat) (t1 : Turn (fun _ => False) w w1) (tA : Turn (fun _ => False) w1 (w1.alloc (.cells #[.pointer (some ⟨w.heap.size, 0, none⟩)] 24)))
    (t2 : Turn (fun _ => False) (w1.alloc (.cells #[.pointer (some ⟨w.heap.size, 0, none⟩)] 24)) w2) (tB : Turn (fun _ => False) w2 (w2.alloc (.cells #[.pointer (some ⟨X, 0, none⟩)] 28)))
    (v2 : VAt w2 (NF (w1.alloc (.cells #[.pointer (some ⟨w.heap.size, 0, none⟩)] 24)) (fun j => w.heap.size ≤ j ∧ j < w1.heap.size)) X w.heap.size ⟨0, [], false⟩ (newS sz))
    (kA : w2.heap[w1.heap.size]? = some (.cells #[.pointer (some ⟨w.heap.size, 0, none⟩)] 24 (0, 0))) (kB : (w2.alloc (.cells #[.pointer (some ⟨X, 0, none⟩)] 28)).heap[w2.heap.size]? = some (.cells #[.pointer (some ⟨X, 0, none⟩)] 28 (0, 0)))
    (t3 : Turn (fun _ => False) (w2.alloc (.cells #[.pointer (some ⟨X, 0, none⟩)] 28)) w3) :
    Env w (((((w3.alloc (.cells #[.slice none 0 0] 32)).alloc (.cells #[.slice none 0 0] 32)).alloc (.cells #[.int .u64 0] 33)).alloc (.cells #[.bool false] 4)).alloc (.cells #[.bool false] 4))
      ⟨w1.heap.size, w2.heap.size, w3.heap.size, w3.heap.size + 1, w3.heap.size + 1 + 1, w3.heap.size + 1 + 1 + 1, w3.heap.size + 1 + 1 + 1 + 1⟩ ⟨w.heap.size, X, .slice none 0 0, .slice none 0 0, 0, false, false⟩ ⟨0, [], false⟩ (newS sz) [] [] := by
  have zA : (w1.alloc (.cells #[.pointer (some ⟨w.heap.size, 0, none⟩)] 24)).heap.size = w1.heap.size + 1 := by simp
  have zB : (w2.alloc (.cells #[.pointer (some ⟨X, 0, none⟩)] 28)).heap.size = w2.heap.size + 1 := by simp
  have s1 := t1.size
  have s2 := t2.size
  have s3 := t3.size
  have u1 : Turn (fun _ => False) w3 (w3.alloc (.cells #[.slice none 0 0] 32)) := (Turn.refl _ w3).alloc _
  have a1 := heap_alloc_new w3 (.cells #[.slice none 0 0] 32)
  have z1 : (w3.alloc (.cells #[.slice none 0 0] 32)).heap.size = w3.heap.size + 1 := by simp
  generalize w3.alloc (.cells #[.slice none 0 0] 32) = W1 at *
  have u2 : Turn (fun _ => False) W1 (W1.alloc (.cells #[.slice none 0 0] 32)) := (Turn.refl _ W1).alloc _
  have a2 := heap_alloc_new W1 (.cells #[.slice none 0 0] 32)
  have z2 : (W1.alloc (.cells #[.slice none 0 0] 32)).heap.size = w3.heap.size + 1 + 1 := by simp [z1]
  rw [z1] at a2
  generalize W1.alloc (.cells #[.slice none 0 0] 32) = W2 at *
  have u3 : Turn (fun _ => False) W2 (W2.alloc (.cells #[.int .u64 0] 33)) := (Turn.refl _ W2).alloc _
  have a3 := heap_alloc_new W2 (.cells #[.int .u64 0] 33)
  have z3 : (W2.alloc (.cells #[.int .u64 0] 33)).heap.size = w3.heap.size + 1 + 1 + 1 := by simp [z2]
  rw [z2] at a3
  generalize W2.alloc (.cells #[.int .u64 0] 33) = W3 at *
  have u4 : Turn (fun _ => False) W3 (W3.alloc (.cells #[.bool false] 4)) := (Turn.refl _ W3).alloc _
  have a4 := heap_alloc_new W3 (.cells #[.bool false] 4)
  have z4 : (W3.alloc (.cells #[.bool false] 4)).heap.size = w3.heap.size + 1 + 1 + 1 + 1 := by simp [z3]
  rw [z3] at a4
  generalize W3.alloc (.cells #[.bool false] 4) = W4 at *
  have u5 : Turn (fun _ => False) W4 (W4.alloc (.cells #[.bool false] 4)) := (Turn.refl _ W4).alloc _
  have a5 := heap_alloc_new W4 (.cells #[.bool false] 4)
  rw [z4] at a5
  generalize W4.alloc (.cells #[.bool false] 4) = W5 at *
  have u45 := u4.then u5
  have u35 := u3.then u45
  have u25 := u2.then u35
  have u15 := u1.then u25
  have uB := tB.then (t3.then u15)
  have f : ∀ {a b : World}, Turn (fun _ => False) a b → ∀ {k o}, a.heap[k]? = some o → b.heap[k]? = some o := fun T _ _ h => T.same h (fun h => h)
  have hs5 := u5.size
  refine ⟨?_, ⟨f uB kA, f (t3.then u15) kB, f u25 a1, f u35 a2, f u45 a3, f u5 a4, a5⟩, ?_, ⟨fun j => NF (w1.alloc (.cells #[.pointer (some ⟨w.heap.size, 0, none⟩)] 24)) (fun j => w.heap.size ≤ j ∧ j < w1.heap.size) j ∧ j < w2.heap.size, fun _ => False, (v2.mono (fun j hj hl => ⟨hj, hl⟩)).same uB, row_none _ _ _, row_none _ _ _, ?_, fun j hj => hj.elim⟩, ?_⟩
  · simp only [Vars.list, List.nodup_cons, List.mem_cons, List.not_mem_nil, or_false, not_or, List.nodup_nil, and_true, not_false_eq_true]
    omega
  · intro j hj
    simp only [Vars.list, List.mem_cons, List.not_mem_nil, or_false] at hj
    omega
  · rintro j ⟨hj, hl⟩
    refine ⟨by rcases hj with hj | hj <;> omega, by have := uB.size; omega, fun hv => ?_⟩
    simp only [Vars.list, List.mem_cons, List.not_mem_nil, or_false] at hv
    rcases hj with hj | hj <;> omega
  · exact (((t1.then tA).then t2).then uB).mono (fun _ h => h.elim)

set_option maxRecDepth 100000 in
set_option maxHeartbeats 32000000 in
theorem plays_walk (w : World) (a : Int) (lv : Value) (n : Nat) (K N : Nat → Int) (BV KV : Nat → Value) (Z Q : Nat → List Int) (hl : OpsIn w lv n K N BV KV Z Q) :
    Calls Try.prog 3 #[.int .i64 a, lv] w fun e w' => e = .returned (.bool true) ∧ Turn (fun _ => False) w w' := by
  obtain ⟨sz0, hsz, esz⟩ := rem_mod a 5000 (by decide) (by decide)
  rw [show ((5000 : Nat) : Int) = 5000 from rfl] at esz
  have esz2 : wrap64 (100 + wrap64 ((IntKind.u64.wrap a).tmod 5000)) = ((sz0 + 100 : Nat) : Int) := by rw [esz]; unfold wrap64; omega
  have Esz := hide esz2
  clear esz esz2
  obtain ⟨la, lc, rfl, hnm, hcells⟩ := hl.form
  have HL := hide hl
  have HC := hide hcells
  clear hl hcells
  generalize hsz2 : sz0 + 100 = sz at *
  have hs1 : 100 ≤ sz := by omega
  have hs2 : sz ≤ 5100 := by omega
  clear hsz2 hsz
  unfold maxLen at hnm
  have hnew := New_walk sz w (by omega) (by omega)
  go_enter Try.func3, Try.ntmps3
  go_wp2_with fail
  rw [unhide Esz]
  refine hnew.mono ?_
  rintro e w1 ⟨rfl, t1, d1⟩
  have tA : Turn (fun _ => False) w1 (w1.alloc (.cells #[.pointer (some ⟨w.heap.size, 0, none⟩)] 24)) := (Turn.refl _ w1).alloc _
  have kA := heap_alloc_new w1 (.cells #[.pointer (some ⟨w.heap.size, 0, none⟩)] 24)
  have cA : (w1.alloc (.cells #[.pointer (some ⟨w.heap.size, 0, none⟩)] 24)).cell? ⟨w1.heap.size, 0, none⟩ = some (.pointer (some ⟨w.heap.size, 0, none⟩)) := cell_obj kA 0
  have zA : (w1.alloc (.cells #[.pointer (some ⟨w.heap.size, 0, none⟩)] 24)).heap.size = w1.heap.size + 1 := by simp
  go_wp2_with fail
  refine (open_fine _ _ _ _ 0 [] ((d1.mono (G := fun j => w.heap.size ≤ j ∧ j < w1.heap.size) (fun j hj hl => ⟨hj, hl⟩)).turn tA (fun _ _ _ h => h)) (quiet_new sz) rfl (few_zero 0 (by decide))).mono ?_
  rintro e w2 ⟨X, rfl, t2, hX, v2⟩
  have kA2 := t2.same kA (fun h => h)
  have cA2 : w2.cell? ⟨w1.heap.size, 0, none⟩ = some (.pointer (some ⟨w.heap.size, 0, none⟩)) := cell_obj kA2 0
  have tB : Turn (fun _ => False) w2 (w2.alloc (.cells #[.pointer (some ⟨X, 0, none⟩)] 28)) := (Turn.refl _ w2).alloc _
  have kB := heap_alloc_new w2 (.cells #[.pointer (some ⟨X, 0, none⟩)] 28)
  have cB : (w2.alloc (.cells #[.pointer (some ⟨X, 0, none⟩)] 28)).cell? ⟨w2.heap.size, 0, none⟩ = some (.pointer (some ⟨X, 0, none⟩)) := cell_obj kB 0
  have cA3 := tB.cell cA2 (fun h => h)
  have zB : (w2.alloc (.cells #[.pointer (some ⟨X, 0, none⟩)] 28)).heap.size = w2.heap.size + 1 := by simp
  have HB := hide (And.intro t1 (And.intro tA (And.intro t2 (And.intro tB (And.intro v2 (And.intro kA2 kB))))))
  clear t1 tA t2 tB v2 kA kA2 kB d1 hnew
  go_wp2_with (first | (go_at_call 6; refine (awakeV _).mono ?_; rintro e w3 ⟨rfl, t3⟩; have cB3 := t3.cell cB (fun h => h); have cA4 := t3.cell cA3 (fun h => h)))
  obtain ⟨t1, tA, t2, tB, v2, kA2, kB⟩ := unhide HB
  have hE := env_new w w1 w2 w3 X sz t1 tA t2 tB v2 kA2 kB t3
  have hSt : Stand (newS sz) ⟨0, [], false⟩ 0 [] [] false 0 sz := ⟨.inl ⟨rfl, rfl, rfl, quiet_new sz⟩, few_zero 0 (by decide), by simp, fun _ => rfl, rfl⟩
  clear HB t1 tA t2 tB v2 kA2 kB t3 cA cB cA2 cA3 cB3 cA4 zA zB hX
  generalize (((((w3.alloc (.cells #[.slice none 0 0] 32)).alloc (.cells #[.slice none 0 0] 32)).alloc (.cells #[.int .u64 0] 33)).alloc (.cells #[.bool false] 4)).alloc (.cells #[.bool false] 4)) = W5 at *
  generalize w3.heap.size + 1 + 1 + 1 + 1 = vw at *
  generalize w3.heap.size + 1 + 1 + 1 = vu at *
  generalize w3.heap.size + 1 + 1 = vn at *
  generalize w3.heap.size + 1 = vx at *
  generalize w3.heap.size = vl at *
  generalize w2.heap.size = vs at *
  generalize w1.heap.size = vd at *
  go_loopw [15] (fun i wr => ∃ (k : Nat) (A : Vals) (x : Sl) (S : Dk) (m : Nat) (L B : List Int) (dn : Bool), i = .int .i64 (k : Int) ∧ k ≤ 60 ∧ Env w wr ⟨vd, vs, vl, vx, vn, vu, vw⟩ A x S L B ∧ A.n = m ∧ A.u = dn ∧ A.w = dn ∧ Stand S x m L B dn k sz) (fun i _ => 60 - (intOf i).toNat)
  case atStart => exact ⟨0, _, _, _, 0, [], [], false, rfl, by omega, hE, rfl, rfl, rfl, hSt⟩
  case round =>
    obtain ⟨k, A, x, S, m, L, B, dn, rfl, hk, hE, hAn, hAu, hAw, hSt⟩ := hrel
    by_cases hlt : k < n ∧ k < 60
    · obtain ⟨hlt, hk60⟩ := hlt
      obtain ⟨b, off, hla, c0, c1, c2, c3⟩ := unhide HC k hlt
      subst hla
      obtain ⟨rZ, rQ⟩ := (unhide HL).rows k hlt
      obtain ⟨hN, hQ⟩ := (unhide HL).size k hlt
      have hZ := (unhide HL).bytes k hlt
      generalize K k = kk at *
      generalize N k = nn at *
      generalize BV k = bv at *
      generalize KV k = kv at *
      generalize Z k = z at *
      generalize Q k = q at *
      obtain ⟨za, zc, rfl⟩ := rZ.slice
      obtain ⟨qa, qc, rfl⟩ := rQ.slice
      obtain ⟨H, M, hH⟩ := hE.get
      have T := hH.turn
      have gb := World.block_lt_of_cell? _ _ c0
      simp only at gb
      have d0 := T.cell c0 (fun h => by simp only at h; omega)
      have d1 := T.cell c1 (fun h => by simp only at h; omega)
      have d2 := T.cell c2 (fun h => by simp only at h; omega)
      have d3 := T.cell c3 (fun h => by simp only at h; omega)
      have s0 := T.size
      -- the operation's own copy
      have tO : Turn (fun _ => False) wr (wr.alloc (.cells #[.int .i64 kk, .int .i64 nn, .slice za z.length zc, .slice qa q.length qc] 40)) := (Turn.refl _ wr).alloc _
      have kO := heap_alloc_new wr (.cells #[.int .i64 kk, .int .i64 nn, .slice za z.length zc, .slice qa q.length qc] 40)
      have hO := hH.calm tO
      have rZ' := rZ.lt.turn hO.turn (fun b hb h => by have := hb.2; omega)
      have rQ' := rQ.lt.turn hO.turn (fun b hb h => by have := hb.2; omega)
      generalize hzl : z.length = zl at *
      generalize hql : q.length = ql at *
      have Hzl := hide hzl
      have Hql := hide hql
      clear hzl hql c0 c1 c2 c3 rZ rQ T hH hE
      have q0 : (wr.alloc (.cells #[.int .i64 kk, .int .i64 nn, .slice za zl zc, .slice qa ql qc] 40)).cell? ⟨vd, 0, none⟩ = some (.pointer (some ⟨A.D, 0, none⟩)) := cell_obj hO.cells.d 0
      have o0 : (wr.alloc (.cells #[.int .i64 kk, .int .i64 nn, .slice za zl zc, .slice qa ql qc] 40)).cell? ⟨wr.heap.size, 0, none⟩ = some (.int .i64 kk) := cell_obj kO 0
      have o1 : (wr.alloc (.cells #[.int .i64 kk, .int .i64 nn, .slice za zl zc, .slice qa ql qc] 40)).cell? ⟨wr.heap.size, 1, none⟩ = some (.int .i64 nn) := cell_obj kO 1
      have o2 : (wr.alloc (.cells #[.int .i64 kk, .int .i64 nn, .slice za zl zc, .slice qa ql qc] 40)).cell? ⟨wr.heap.size, 2, none⟩ = some (.slice za zl zc) := cell_obj kO 2
      have o3 : (wr.alloc (.cells #[.int .i64 kk, .int .i64 nn, .slice za zl zc, .slice qa ql qc] 40)).cell? ⟨wr.heap.size, 3, none⟩ = some (.slice qa ql qc) := cell_obj kO 3
      have HO := hide (And.intro hO (And.intro rZ' rQ'))
      have HSt := hide hSt
      clear hO rZ' rQ' kO tO hSt HL HC
      by_cases k1 : kk = 1
      · subst k1
        obtain ⟨hO, _, _⟩ := unhide HO
        have har := hO.v.call (fun F dd => (Arm_walk _ A.D F S nn hN dd).mono (fun e w' h => ⟨h.1, h.2.1, h.2.2.mono (fun j hj _ => .inl hj)⟩))
        clear hO
        go_wp2_with fail
        refine har.mono ?_
        rintro e w5 ⟨rfl, t5, v5⟩
        have fin := hide (((unhide HO).1.step t5 v5).env)
        clear har t5 v5
        go_wp2
        exact ⟨⟨k + 1, A, x, armS S nn, m, L, B, dn, by go_num, by omega, unhide fin, hAn, hAu, hAw, stand_more (stand_arm (unhide HSt) nn)⟩, by simp [intOf]; omega⟩
      by_cases k2 : kk = 2
      · subst k2
        obtain ⟨hO, _, rQ'⟩ := unhide HO
        have hcr := hO.v.call2 (fun F dd hF => Crash_walk _ A.D F _ S _ q dd rQ' (fun b hb hf => by have h1 := (hO.hH b (hF b hf)).1; have := hb.2; omega))
        clear hO rQ'
        go_wp2_with fail
        refine hcr.mono ?_
        rintro e w5 ⟨rfl, t5, v5⟩
        have h5 := (unhide HO).1.step t5 v5
        obtain ⟨m', R, hq, hm, few, hmi, h0⟩ := stand_open (unhide HSt) (.inr ⟨q, rfl⟩)
        have hop := open_p w w5 _ A x (crashS S q) m m' L B R h5.env hAn (start_up _).1 hq (by rcases hm with h | ⟨a, b, c⟩; exact .inl h; exact .inr ⟨a, b, hAu.trans c⟩) few (by have := (unhide HSt).few.2.2; have := (unhide HSt).num; omega) (unhide HSt).nil
        have hsf := stand_fresh (B := B) hq few (Nat.le_succ_of_le hmi) h0 (unhide HSt).size
        clear hcr h5 t5 v5 hq hm few hmi h0
        go_wp2_with fail
        refine hop.mono ?_
        rintro e w6 ⟨rfl, X6, lv6, h6⟩
        clear hop
        go_wp2
        exact ⟨⟨k + 1, _, _, _, m', R, B, false, by go_num, by omega, h6, rfl, rfl, rfl, hsf⟩, by simp [intOf]; omega⟩
      by_cases k3 : kk = 3
      · subst k3
        obtain ⟨m', R, hq, hm, few, hmi, h0⟩ := stand_open (unhide HSt) (.inl rfl)
        have hop := open_p w _ _ A x S m m' L B R (unhide HO).1.env hAn (start_up _).1 hq (by rcases hm with h | ⟨a, b, c⟩; exact .inl h; exact .inr ⟨a, b, hAu.trans c⟩) few (by have := (unhide HSt).few.2.2; have := (unhide HSt).num; omega) (unhide HSt).nil
        have hsf := stand_fresh (B := B) hq few (Nat.le_succ_of_le hmi) h0 (unhide HSt).size
        clear hq hm few hmi h0
        go_wp2_with fail
        refine hop.mono ?_
        rintro e w6 ⟨rfl, X6, lv6, h6⟩
        clear hop
        go_wp2
        exact ⟨⟨k + 1, _, _, _, m', R, B, false, by go_num, by omega, h6, rfl, rfl, rfl, hsf⟩, by simp [intOf]; omega⟩
      have e1 : (kk == 1) = false := by rw [beq_eq_false_iff_ne]; exact k1
      have e2 : (kk == 2) = false := by rw [beq_eq_false_iff_ne]; exact k2
      have e3 : (kk == 3) = false := by rw [beq_eq_false_iff_ne]; exact k3
      clear k1 k2 k3
      obtain ⟨hO, rZ', _⟩ := unhide HO
      obtain ⟨i0, hi, hz0, hz1, hz2⟩ := info_parts info_u8
      obtain ⟨x', hx', hrx⟩ := cut_to (P := Try.prog) (ki := .i64) Try.underlying32 hi hz1 rZ' (min 400 z.length) (by omega)
      have htk : z.take (min 400 z.length) = z.take 400 := by
        rcases Nat.le_total 400 z.length with h | h
        · rw [Nat.min_eq_left h]
        · rw [Nat.min_eq_right h, List.take_length, List.take_of_length_le h]
      rw [htk] at hrx
      obtain ⟨ba, bc, hbx, hcase⟩ : ∃ ba bc, Row .u8 (fun b => any b ∧ b < w.heap.size) (wr.alloc (.cells #[.int .i64 kk, .int .i64 nn, .slice za zl zc, .slice qa ql qc] 40)) (.slice ba (z.take 400).length bc) (z.take 400) ∧
          ((400 < zl ∧ ∀ u : World, (Instr.slice 32 (.slice za zl zc) none (some (.int .i64 400)) none).run Try.prog u = .ok (.slice ba (z.take 400).length bc) u) ∨ (zl ≤ 400 ∧ ba = za ∧ bc = zc ∧ (z.take 400).length = zl)) := by
        have hzl := unhide Hzl
        by_cases h : 400 < z.length
        · obtain ⟨ba, bc, rfl⟩ := hrx.slice
          exact ⟨ba, bc, hrx, .inl ⟨by omega, fun u => by have := hx' u; rw [show min 400 z.length = 400 by omega] at this; exact this⟩⟩
        · have ht : z.take 400 = z := List.take_of_length_le (by omega)
          refine ⟨za, zc, by rw [ht, hzl]; exact rZ', .inr ⟨by omega, rfl, rfl, by rw [ht]; exact hzl⟩⟩
      have hbb : Bytes (z.take 400) := fun y hy => hZ y (List.mem_of_mem_take hy)
      have hbl : (z.take 400).length ≤ 400 := by rw [List.length_take]; omega
      have hzlm : zl ≤ 9223372036854775807 := by have := rZ'.len; have h2 := unhide Hzl; unfold maxLen at this; omega
      clear hrx htk hx' rZ' hO hZ
      generalize z.take 400 = bb at *
      generalize hblq : bb.length = bl at *
      have Hbl := hide hblq
      clear hblq
      -- the walk up to Own
      have hown := own_any_u8 (.slice ba bl bc) bb 71 _ (by have := unhide Hbl; omega) (hbx.mono (fun _ _ => trivial))
      rw [show bb.length = bl from unhide Hbl] at hown
      have HBx := hide hbx
      clear hbx
      rcases hcase with ⟨h4, hsl⟩ | ⟨h4, hba, hbc, hzb⟩
      · skip
        go_wp2_with fail
        generalize wr.alloc (.cells #[.int .i64 kk, .int .i64 nn, .slice za zl zc, .slice qa ql qc] 40) = wO at *
        refine hown.mono ?_
        rintro e w1 ⟨rfl, hcl, bel, hfree⟩
        have hOe := (unhide HO).1
        have h1 := hOe.calm (Turn.of_below bel)
        have hin1 : Row .u8 any w1 (.slice (some ⟨wO.heap.size, 0, none⟩) bl (bl + 3)) bb := row_of_cells hcl (unhide Hbl).symm (by have := unhide Hbl; omega) (by unfold maxLen; omega)
        have gH : ¬ H wO.heap.size := fun h => by have := (hOe.hH _ h).2.1; omega
        have gM : ¬ M wO.heap.size := fun h => by have := (hOe.hM _ h).2.1; omega
        have gV : wO.heap.size ∉ Vars.list ⟨vd, vs, vl, vx, vn, vu, vw⟩ := fun h => by have := hOe.cells.lt _ h; omega
        have gw : w.heap.size ≤ wO.heap.size := hOe.turn.size
        have gl : wO.heap.size < w1.heap.size := by obtain ⟨cur, T, hc⟩ := hfree; exact (Array.getElem?_eq_some_iff.1 hc).1
        have hsv := saveV_w w1 H (fun j => j = wO.heap.size) A.X A.D x S _ bb h1.v (row_block hin1) (fun j hj _ => by rw [hj]; exact gH) hbb (by have := unhide Hbl; omega) (by rw [stand_n (unhide HSt)]; have := (unhide HSt).num; omega)
        have hres := stand_save (unhide HSt) (b := bb) ⟨hbb, by have := unhide Hbl; omega, by have := (unhide HSt).num; omega⟩
        generalize saveV x S bb = res at *
        obtain ⟨cd, x', S'⟩ := res
        have p1 : w1.cell? ⟨vs, 0, none⟩ = some (.pointer (some ⟨A.X, 0, none⟩)) := cell_obj h1.cells.s 0
        have HR := hide hres
        clear hres hOe
        go_wp2_with fail
        refine hsv.mono ?_
        rintro e w2 ⟨rfl, t2, v2⟩
        have h2 := h1.step t2 v2
        have hcl2 := hcl.turn t2 gH
        have bx2 : Row .u8 (fun b => any b ∧ b < w.heap.size) w2 (.slice ba bl bc) bb := ((unhide HBx).turn (Turn.of_below (F := fun _ => False) bel) (fun _ _ h => h)).turn t2 (fun b hb h => by have h1 := ((unhide HO).1.hH b h).1; have := hb.2; omega)
        have fr2 : Free w2 wO.heap.size := hfree.turn t2 gH
        have hin2 : Row .u8 any w2 (.slice (some ⟨wO.heap.size, 0, none⟩) bl (bl + 3)) bb := row_of_cells hcl2 (unhide Hbl).symm (by have := unhide Hbl; omega) (by unfold maxLen; omega)
        have hkp := kept_any_u8 wO.heap.size (.slice ba bl bc) bb 71 w2 (by have := unhide Hbl; omega) hcl2 (bx2.mono (fun _ _ => trivial))
        rw [show bb.length = bl from unhide Hbl] at hkp
        have H2 := hide (And.intro h2 (And.intro bx2 (And.intro fr2 hin2)))
        clear h2 bx2 fr2 hin2 hcl2 hcl hsv hown h1 hin1 t2 v2 hfree bel
        go_wp2_with fail
        refine hkp.mono ?_
        rintro e w3 ⟨rfl, nk, rfl⟩
        obtain ⟨h2, bx2, fr2, hin2⟩ := unhide H2
        have tD : Turn (fun _ => False) w2 (w2.drewN nk) := Turn.drewN (Turn.refl _ w2) nk
        have h3 := h2.calm tD
        have bx3 := bx2.turn tD (fun _ _ h => h)
        have hsp := spoil_any (fun j => j = wO.heap.size) _ bb (w2.drewN nk) (row_free (hin2.turn tD (fun _ _ h => h)) (fr2.turn tD (fun h => h)))
        have H3 := hide (And.intro h3 bx3)
        clear hkp h2 bx2 fr2 hin2 tD h3 bx3 H2
        go_wp2_with fail
        refine hsp.mono ?_
        rintro e w4 ⟨⟨vr, rfl⟩, t4⟩
        obtain ⟨h3, bx3⟩ := unhide H3
        have h4' := h3.away t4 (fun j hj => by
          subst hj
          refine ⟨gw, ?_, gM, gV⟩
          rintro ⟨hh | hh, _⟩
          · exact gH hh
          · omega)
        have bx4 := bx3.turn t4 (fun b hb h => by have := hb.2; omega)
        have p3 : w4.cell? ⟨vw, 0, none⟩ = some (.bool A.w) := cell_obj h4'.cells.w 0
        rw [hAw] at p3
        generalize (fun j => NF w1 H j ∧ j < w2.heap.size) = H4 at *
        have H4e := hide (And.intro h4' bx4)
        clear hsp h3 bx3 t4 H3 gH gM gV p1
        have hnum := (unhide HSt).num
        rcases unhide HR with ⟨rfl, hr⟩ | ⟨rfl, rfl, hr⟩
        · simp only [Prod.mk.injEq] at hr
          obtain ⟨rfl, rfl, rfl⟩ := hr
          clear h4' bx4
          go_wp2
          exact ⟨⟨k + 1, A, x', S', m, L, B, true, by go_num, by omega, (unhide H4e).1.env, hAn, hAu, hAw, stand_more (unhide HSt)⟩, by simp [intOf]; omega⟩
        have hnum' : m ≤ k := by simpa using hnum
        obtain ⟨hz, hr⟩ := hr
        have hz' : S'.size = sz := hz.trans (unhide HSt).size
        rcases hr with ⟨r1, r2, r3, r4, r5, r6⟩ | ⟨r1, r2, r3, r4⟩ | ⟨r1, r2, r3, r4, r5⟩
        · simp only at r1 r2
          subst r1 r2
          have k0 : w4.drew.cell? ⟨vn, 0, none⟩ = some (.int .u64 (A.n : Int)) := cell_obj h4'.cells.n 0
          rw [hAn] at k0
          have tD : Turn (fun _ => False) w4 w4.drew := (Turn.refl _ w4).drew
          have hcp := copy_walk _ _ bb w4.drew (bx4.turn tD (fun _ _ h => h)) (by have := unhide Hbl; omega)
          rw [show bb.length = bl from unhide Hbl] at hcp
          have hD := h4'.calm tD
          have s4d : w4.drew.heap.size = w4.heap.size := rfl
          have HD := hide hD
          have HQ := hide (And.intro r3 r4)
          clear h4' bx4 tD r3 r4 r5 r6
          go_wp2_with fail
          have hwr : IntKind.u64.wrap ((m : Int) + 1) = (m : Int) + 1 := by rw [IntKind.wrap_u64]; omega
          go_region_with (first
            | (go_at_call 17; refine hcp.mono ?_; rintro e w5 ⟨cv, rfl, o5, f5, t5⟩; obtain ⟨ca, cc, rfl⟩ := o5.form; have k5 := t5.cell k0 id; have h5 := (unhide HD).calm t5; have gl1 := frozen_obj h5.cells.l 0; have gl2 := cell_obj h5.cells.l 0; have cL := h5.cells.setL h5.nd (.slice ca bl cc); have gn1 := frozen_obj cL.n 0; have gn2 := cell_obj cL.n 0))
          all_goals
            have o5' : OwnSl w5 5 1 (.slice ca bl cc) bb.length (bb.map (Value.int .u8)) := by rw [show bb.length = bl from unhide Hbl]; exact o5
            have cN := cL.setN h5.nd (m + 1)
            have tL : Turn (fun j => j ∈ Vars.list ⟨vd, vs, vl, vx, vn, vu, vw⟩) w5 (w5.setCell ⟨vl, 0, none⟩ (.slice ca bl cc)) := turn_var (by simp [Vars.list]) _
            have tN := tL.then (turn_var (V := ⟨vd, vs, vl, vx, vn, vu, vw⟩) (r := vn) (by simp [Vars.list]) (.int .u64 ((m + 1 : Nat) : Int)))
            rw [show ((m + 1 : Nat) : Int) = (m : Int) + 1 by omega] at cN tN
            have hT := h5.put (A' := ⟨A.D, A.X, .slice ca bl cc, A.x, m + 1, A.u, A.w⟩) (M' := fun j => M j ∨ (w4.heap.size ≤ j ∧ j < w5.heap.size)) (L' := bb) (B' := B) tN cN rfl rfl ((row_of_sl o5').mono (fun b hb => .inr ⟨by have := f5 b hb; omega, by obtain ⟨cur, hc⟩ := o5'.lt b hb; exact (Array.getElem?_eq_some_iff.1 hc).1⟩)) (h5.r2.mono (fun b hb => .inl hb)) (fun j hj => by
              rcases hj with hj | hj
              · exact h5.hM j hj
              · have hDe := unhide HD
                exact ⟨by have := hDe.turn.size; omega, hj.2, fun hv => by have := hDe.cells.lt j hv; omega, fun hh => by have := (hDe.hH j hh).2.1; omega⟩)
            have hS : Stand S' ⟨m + 1, bb, false⟩ (m + 1) bb B false (k + 1) sz := ⟨.inl ⟨rfl, rfl, (unhide HQ).2, (unhide HQ).1⟩, ⟨hbb, by have := unhide Hbl; omega, by omega⟩, by simpa using hnum', fun h => by omega, hz'⟩
            clear o5 o5' f5 t5 h5 cL cN tL tN gl1 gl2 gn1 gn2 k5
            generalize (w5.setCell ⟨vl, 0, none⟩ (.slice ca bl cc)).setCell ⟨vn, 0, none⟩ (.int .u64 ((m : Int) + 1)) = wF at *
            have p9 : wF.cell? ⟨vs, 0, none⟩ = some (.pointer (some ⟨A.X, 0, none⟩)) := cell_obj hT.cells.s 0
            have hls := lastV_w wF _ _ _ _ _ hT.v (by have h1 := hS.few.2.1; show List.length bb ≤ _; omega) hS.nil
            have HT := hide hT
            have HS := hide hS
            clear hT hS
            go_wp2_with fail
            refine hls.mono ?_
            rintro e w7 ⟨xv, rfl, o7, f7, t7⟩
            have h7 := (unhide HT).calm t7
            have hby := bytes_walk _ _ _ _ bb w7 (row_of_sl o7) h7.r1
            have p10 := cell_obj h7.cells.n 0
            have p11 := cell_obj h7.cells.l 0
            have hsp2 := spoil_sl xv bb w7 o7
            obtain ⟨xa, xc, rfl⟩ := o7.form
            have s7 := t7.size
            have H7 := hide (And.intro h7 f7)
            have by3 : ∀ (P : Ending → World → Prop), P (.returned (.bool true)) w7 → Calls Try.prog 10 #[.slice xa (List.length bb) xc, (.slice ca bl cc)] w7 P := fun P hP => hby.mono (fun e w' h => by rw [h.1, h.2]; exact hP)
            clear hls o7 f7 t7 h7 hby
            generalize hql2 : List.length bb = ql2 at *
            clear hql2
            rw [show ((m + 1 : Nat) : Int) = (m : Int) + 1 by omega] at p10 ⊢
            rw [show decide (m + 1 ≠ 0) = true from decide_eq_true (by omega)]
            have e0 : (0 : Int) < (m : Int) + 1 := by omega
            go_wp2_with (first | (go_at_call 10; refine by3 _ ?_) | (go_at_call 16; refine hsp2.mono ?_; rintro e w8 ⟨⟨vr2, rfl⟩, t8⟩))
            obtain ⟨h7, f7⟩ := unhide H7
            have fin := hide ((h7.away t8 (fun j hj => by
              have h1 := f7 j hj
              have hT := unhide HT
              have h2 := hT.turn.size
              exact ⟨by omega, fun h => by have := (hT.hH j h).2.1; omega, fun h => by have := (hT.hM j h).2.1; omega, fun h => by have := hT.cells.lt j h; omega⟩)).env)
            exact ⟨⟨k + 1, _, ⟨m + 1, bb, false⟩, S', m + 1, bb, B, false, by go_num, by omega, unhide fin, rfl, hAu, hAw, unhide HS⟩, by simp [intOf]; omega⟩
        · simp only at r1 r2 r3
          subst r1 r2 r3
          obtain ⟨F6, d6, _⟩ := h4'.v.disk
          have hus := Used_walk w4 A.D F6 S' d6
          have hroom := h4'.v.well.room
          rw [show S'.size = sz from hz'] at hroom
          have hr4 : sz < used S'.fs + bl + 20 := by have h1 := (unhide Hbl); have h2 : S'.size = sz := hz'; omega
          have p8 := cell_obj h4'.cells.d 0
          clear d6 h4' bx4 r4
          generalize used S'.fs = U at *
          go_wp2_with (first | (go_at_call 18; refine hus.mono ?_; rintro e w6 ⟨rfl, t6⟩; have hT := (unhide H4e).1.calm t6; have p9 : w6.cell? ⟨vs, 0, none⟩ = some (.pointer (some ⟨A.X, 0, none⟩)) := cell_obj hT.cells.s 0))
          have hS := unhide HSt
          have hls := lastV_w w6 _ _ _ _ _ hT.v (by have h1 := hS.few.2.1; show List.length L ≤ _; omega) hS.nil
          have HT := hide hT
          have HS := hide hS
          clear hT hS
          go_wp2_with fail
          refine hls.mono ?_
          rintro e w7 ⟨xv, rfl, o7, f7, t7⟩
          have h7 := (unhide HT).calm t7
          have hby := bytes_walk _ _ _ _ L w7 (row_of_sl o7) h7.r1
          have p10 := cell_obj h7.cells.n 0
          have p11 := cell_obj h7.cells.l 0
          have hsp2 := spoil_sl xv L w7 o7
          obtain ⟨xa, xc, rfl⟩ := o7.form
          have s7 := t7.size
          have H7 := hide (And.intro h7 f7)
          have by3 : ∀ (P : Ending → World → Prop), P (.returned (.bool true)) w7 → Calls Try.prog 10 #[.slice xa (List.length L) xc, A.l] w7 P := fun P hP => hby.mono (fun e w' h => by rw [h.1, h.2]; exact hP)
          clear hls o7 f7 t7 h7 hby
          generalize hql2 : List.length L = ql2 at *
          clear hql2
          rw [hAn] at p10
          by_cases hm0 : m = 0
          · rw [hm0] at p10 ⊢
            go_wp2_with (first | (go_at_call 10; refine by3 _ ?_) | (go_at_call 16; refine hsp2.mono ?_; rintro e w8 ⟨⟨vr2, rfl⟩, t8⟩))
            obtain ⟨h7, f7⟩ := unhide H7
            have fin := hide ((h7.away t8 (fun j hj => by
              have h1 := f7 j hj
              have hT := unhide HT
              have h2 := hT.turn.size
              exact ⟨by omega, fun h => by have := (hT.hH j h).2.1; omega, fun h => by have := (hT.hM j h).2.1; omega, fun h => by have := hT.cells.lt j h; omega⟩)).env)
            exact ⟨⟨k + 1, A, ⟨m, L, false⟩, S', m, L, B, false, by go_num, by omega, unhide fin, hAn, hAu, hAw, stand_more (unhide HS)⟩, by simp [intOf]; omega⟩
          · have e0 : (0 : Int) < (m : Int) := by omega
            rw [show decide (m ≠ 0) = true from decide_eq_true hm0]
            go_wp2_with (first | (go_at_call 10; refine by3 _ ?_) | (go_at_call 16; refine hsp2.mono ?_; rintro e w8 ⟨⟨vr2, rfl⟩, t8⟩))
            obtain ⟨h7, f7⟩ := unhide H7
            have fin := hide ((h7.away t8 (fun j hj => by
              have h1 := f7 j hj
              have hT := unhide HT
              have h2 := hT.turn.size
              exact ⟨by omega, fun h => by have := (hT.hH j h).2.1; omega, fun h => by have := (hT.hM j h).2.1; omega, fun h => by have := hT.cells.lt j h; omega⟩)).env)
            exact ⟨⟨k + 1, A, ⟨m, L, false⟩, S', m, L, B, false, by go_num, by omega, unhide fin, hAn, hAu, hAw, stand_more (unhide HS)⟩, by simp [intOf]; omega⟩
        · simp only at r1 r2
          subst r1 r2
          have hcp := copy_walk _ _ bb w4 bx4 (by have := unhide Hbl; omega)
          rw [show bb.length = bl from unhide Hbl] at hcp
          have HE := hide (And.intro r3 r5)
          clear h4' bx4 r3 r4 r5
          go_wp2_with fail
          refine hcp.mono ?_
          rintro e w5 ⟨cv, rfl, o5, f5, t5⟩
          obtain ⟨h4', bx4⟩ := unhide H4e
          have h5 := h4'.calm t5
          obtain ⟨ca, cc, rfl⟩ := o5.form
          have s5 := t5.size
          have o5' : OwnSl w5 5 1 (.slice ca bl cc) bb.length (bb.map (Value.int .u8)) := by rw [show bb.length = bl from unhide Hbl]; exact o5
          have g1 := frozen_obj h5.cells.x 0
          have p5 := cell_obj h5.cells.x 0
          have cX := h5.cells.setX h5.nd (.slice ca bl cc)
          have tX : Turn (fun j => j ∈ Vars.list ⟨vd, vs, vl, vx, vn, vu, vw⟩) w5 (w5.setCell ⟨vx, 0, none⟩ (.slice ca bl cc)) := turn_var (by simp [Vars.list]) _
          have g2 := frozen_obj cX.u 0
          have p6 := cell_obj cX.u 0
          have cU := cX.setU h5.nd true
          have tU := tX.then (turn_var (V := ⟨vd, vs, vl, vx, vn, vu, vw⟩) (r := vu) (by simp [Vars.list]) (.bool true))
          have g3 := frozen_obj cU.w 0
          have p7 := cell_obj cU.w 0
          have cW := cU.setW h5.nd true
          have tW := tU.then (turn_var (V := ⟨vd, vs, vl, vx, vn, vu, vw⟩) (r := vw) (by simp [Vars.list]) (.bool true))
          have fin := h5.put (A' := ⟨A.D, A.X, A.l, .slice ca bl cc, A.n, true, true⟩) (M' := fun j => M j ∨ (w4.heap.size ≤ j ∧ j < w5.heap.size)) (L' := L) (B' := bb) tW cW rfl rfl (h5.r1.mono (fun b hb => .inl hb)) ((row_of_sl o5').mono (fun b hb => .inr ⟨f5 b hb, by obtain ⟨cur, hc⟩ := o5'.lt b hb; exact (Array.getElem?_eq_some_iff.1 hc).1⟩)) (fun j hj => by
            rcases hj with hj | hj
            · exact h5.hM j hj
            · exact ⟨by have := h4'.turn.size; omega, hj.2, fun hv => by have := h4'.cells.lt j hv; omega, fun hh => by have := (h4'.hH j hh).2.1; omega⟩)
          obtain ⟨F6, d6, _⟩ := fin.v.disk
          have hdn := Down_walk _ A.D F6 S' d6
          rw [show S'.down = true from (unhide HE).1] at hdn
          have p8 := cell_obj fin.cells.d 0
          have HF := hide (And.intro fin.env (unhide HE).2)
          clear hcp o5 o5' h5 h4' bx4 cX tX cU tU cW tW fin d6 f5 t5
          go_wp2_with (first | (go_at_call 19; refine hdn.mono ?_; rintro e w0 ⟨rfl, hw0⟩; have hw0 := hw0.symm; subst hw0))
          exact ⟨⟨k + 1, _, _, S', m, L, bb, true, by go_num, by omega, (unhide HF).1, hAn, rfl, rfl, ⟨.inr ⟨rfl, rfl, (unhide HE).1, (unhide HF).2, ⟨hbb, by have := unhide Hbl; omega, by omega⟩⟩, (unhide HSt).few, by simpa using hnum', (unhide HSt).nil, hz'⟩⟩, by simp [intOf]; omega⟩
      · subst hba hbc hzb
        go_wp2_with fail
        generalize wr.alloc (.cells #[.int .i64 kk, .int .i64 nn, .slice ba bl bc, .slice qa ql qc] 40) = wO at *
        refine hown.mono ?_
        rintro e w1 ⟨rfl, hcl, bel, hfree⟩
        have hOe := (unhide HO).1
        have h1 := hOe.calm (Turn.of_below bel)
        have hin1 : Row .u8 any w1 (.slice (some ⟨wO.heap.size, 0, none⟩) bl (bl + 3)) bb := row_of_cells hcl (unhide Hbl).symm (by have := unhide Hbl; omega) (by unfold maxLen; omega)
        have gH : ¬ H wO.heap.size := fun h => by have := (hOe.hH _ h).2.1; omega
        have gM : ¬ M wO.heap.size := fun h => by have := (hOe.hM _ h).2.1; omega
        have gV : wO.heap.size ∉ Vars.list ⟨vd, vs, vl, vx, vn, vu, vw⟩ := fun h => by have := hOe.cells.lt _ h; omega
        have gw : w.heap.size ≤ wO.heap.size := hOe.turn.size
        have gl : wO.heap.size < w1.heap.size := by obtain ⟨cur, T, hc⟩ := hfree; exact (Array.getElem?_eq_some_iff.1 hc).1
        have hsv := saveV_w w1 H (fun j => j = wO.heap.size) A.X A.D x S _ bb h1.v (row_block hin1) (fun j hj _ => by rw [hj]; exact gH) hbb (by have := unhide Hbl; omega) (by rw [stand_n (unhide HSt)]; have := (unhide HSt).num; omega)
        have hres := stand_save (unhide HSt) (b := bb) ⟨hbb, by have := unhide Hbl; omega, by have := (unhide HSt).num; omega⟩
        generalize saveV x S bb = res at *
        obtain ⟨cd, x', S'⟩ := res
        have p1 : w1.cell? ⟨vs, 0, none⟩ = some (.pointer (some ⟨A.X, 0, none⟩)) := cell_obj h1.cells.s 0
        have HR := hide hres
        clear hres hOe
        go_wp2_with fail
        refine hsv.mono ?_
        rintro e w2 ⟨rfl, t2, v2⟩
        have h2 := h1.step t2 v2
        have hcl2 := hcl.turn t2 gH
        have bx2 : Row .u8 (fun b => any b ∧ b < w.heap.size) w2 (.slice ba bl bc) bb := ((unhide HBx).turn (Turn.of_below (F := fun _ => False) bel) (fun _ _ h => h)).turn t2 (fun b hb h => by have h1 := ((unhide HO).1.hH b h).1; have := hb.2; omega)
        have fr2 : Free w2 wO.heap.size := hfree.turn t2 gH
        have hin2 : Row .u8 any w2 (.slice (some ⟨wO.heap.size, 0, none⟩) bl (bl + 3)) bb := row_of_cells hcl2 (unhide Hbl).symm (by have := unhide Hbl; omega) (by unfold maxLen; omega)
        have hkp := kept_any_u8 wO.heap.size (.slice ba bl bc) bb 71 w2 (by have := unhide Hbl; omega) hcl2 (bx2.mono (fun _ _ => trivial))
        rw [show bb.length = bl from unhide Hbl] at hkp
        have H2 := hide (And.intro h2 (And.intro bx2 (And.intro fr2 hin2)))
        clear h2 bx2 fr2 hin2 hcl2 hcl hsv hown h1 hin1 t2 v2 hfree bel
        go_wp2_with fail
        refine hkp.mono ?_
        rintro e w3 ⟨rfl, nk, rfl⟩
        obtain ⟨h2, bx2, fr2, hin2⟩ := unhide H2
        have tD : Turn (fun _ => False) w2 (w2.drewN nk) := Turn.drewN (Turn.refl _ w2) nk
        have h3 := h2.calm tD
        have bx3 := bx2.turn tD (fun _ _ h => h)
        have hsp := spoil_any (fun j => j = wO.heap.size) _ bb (w2.drewN nk) (row_free (hin2.turn tD (fun _ _ h => h)) (fr2.turn tD (fun h => h)))
        have H3 := hide (And.intro h3 bx3)
        clear hkp h2 bx2 fr2 hin2 tD h3 bx3 H2
        go_wp2_with fail
        refine hsp.mono ?_
        rintro e w4 ⟨⟨vr, rfl⟩, t4⟩
        obtain ⟨h3, bx3⟩ := unhide H3
        have h4' := h3.away t4 (fun j hj => by
          subst hj
          refine ⟨gw, ?_, gM, gV⟩
          rintro ⟨hh | hh, _⟩
          · exact gH hh
          · omega)
        have bx4 := bx3.turn t4 (fun b hb h => by have := hb.2; omega)
        have p3 : w4.cell? ⟨vw, 0, none⟩ = some (.bool A.w) := cell_obj h4'.cells.w 0
        rw [hAw] at p3
        generalize (fun j => NF w1 H j ∧ j < w2.heap.size) = H4 at *
        have H4e := hide (And.intro h4' bx4)
        clear hsp h3 bx3 t4 H3 gH gM gV p1
        have hnum := (unhide HSt).num
        rcases unhide HR with ⟨rfl, hr⟩ | ⟨rfl, rfl, hr⟩
        · simp only [Prod.mk.injEq] at hr
          obtain ⟨rfl, rfl, rfl⟩ := hr
          clear h4' bx4
          go_wp2
          exact ⟨⟨k + 1, A, x', S', m, L, B, true, by go_num, by omega, (unhide H4e).1.env, hAn, hAu, hAw, stand_more (unhide HSt)⟩, by simp [intOf]; omega⟩
        have hnum' : m ≤ k := by simpa using hnum
        obtain ⟨hz, hr⟩ := hr
        have hz' : S'.size = sz := hz.trans (unhide HSt).size
        rcases hr with ⟨r1, r2, r3, r4, r5, r6⟩ | ⟨r1, r2, r3, r4⟩ | ⟨r1, r2, r3, r4, r5⟩
        · simp only at r1 r2
          subst r1 r2
          have k0 : w4.drew.cell? ⟨vn, 0, none⟩ = some (.int .u64 (A.n : Int)) := cell_obj h4'.cells.n 0
          rw [hAn] at k0
          have tD : Turn (fun _ => False) w4 w4.drew := (Turn.refl _ w4).drew
          have hcp := copy_walk _ _ bb w4.drew (bx4.turn tD (fun _ _ h => h)) (by have := unhide Hbl; omega)
          rw [show bb.length = bl from unhide Hbl] at hcp
          have hD := h4'.calm tD
          have s4d : w4.drew.heap.size = w4.heap.size := rfl
          have HD := hide hD
          have HQ := hide (And.intro r3 r4)
          clear h4' bx4 tD r3 r4 r5 r6
          go_wp2_with fail
          have hwr : IntKind.u64.wrap ((m : Int) + 1) = (m : Int) + 1 := by rw [IntKind.wrap_u64]; omega
          go_region_with (first
            | (go_at_call 17; refine hcp.mono ?_; rintro e w5 ⟨cv, rfl, o5, f5, t5⟩; obtain ⟨ca, cc, rfl⟩ := o5.form; have k5 := t5.cell k0 id; have h5 := (unhide HD).calm t5; have gl1 := frozen_obj h5.cells.l 0; have gl2 := cell_obj h5.cells.l 0; have cL := h5.cells.setL h5.nd (.slice ca bl cc); have gn1 := frozen_obj cL.n 0; have gn2 := cell_obj cL.n 0))
          all_goals
            have o5' : OwnSl w5 5 1 (.slice ca bl cc) bb.length (bb.map (Value.int .u8)) := by rw [show bb.length = bl from unhide Hbl]; exact o5
            have cN := cL.setN h5.nd (m + 1)
            have tL : Turn (fun j => j ∈ Vars.list ⟨vd, vs, vl, vx, vn, vu, vw⟩) w5 (w5.setCell ⟨vl, 0, none⟩ (.slice ca bl cc)) := turn_var (by simp [Vars.list]) _
            have tN := tL.then (turn_var (V := ⟨vd, vs, vl, vx, vn, vu, vw⟩) (r := vn) (by simp [Vars.list]) (.int .u64 ((m + 1 : Nat) : Int)))
            rw [show ((m + 1 : Nat) : Int) = (m : Int) + 1 by omega] at cN tN
            have hT := h5.put (A' := ⟨A.D, A.X, .slice ca bl cc, A.x, m + 1, A.u, A.w⟩) (M' := fun j => M j ∨ (w4.heap.size ≤ j ∧ j < w5.heap.size)) (L' := bb) (B' := B) tN cN rfl rfl ((row_of_sl o5').mono (fun b hb => .inr ⟨by have := f5 b hb; omega, by obtain ⟨cur, hc⟩ := o5'.lt b hb; exact (Array.getElem?_eq_some_iff.1 hc).1⟩)) (h5.r2.mono (fun b hb => .inl hb)) (fun j hj => by
              rcases hj with hj | hj
              · exact h5.hM j hj
              · have hDe := unhide HD
                exact ⟨by have := hDe.turn.size; omega, hj.2, fun hv => by have := hDe.cells.lt j hv; omega, fun hh => by have := (hDe.hH j hh).2.1; omega⟩)
            have hS : Stand S' ⟨m + 1, bb, false⟩ (m + 1) bb B false (k + 1) sz := ⟨.inl ⟨rfl, rfl, (unhide HQ).2, (unhide HQ).1⟩, ⟨hbb, by have := unhide Hbl; omega, by omega⟩, by simpa using hnum', fun h => by omega, hz'⟩
            clear o5 o5' f5 t5 h5 cL cN tL tN gl1 gl2 gn1 gn2 k5
            generalize (w5.setCell ⟨vl, 0, none⟩ (.slice ca bl cc)).setCell ⟨vn, 0, none⟩ (.int .u64 ((m : Int) + 1)) = wF at *
            have p9 : wF.cell? ⟨vs, 0, none⟩ = some (.pointer (some ⟨A.X, 0, none⟩)) := cell_obj hT.cells.s 0
            have hls := lastV_w wF _ _ _ _ _ hT.v (by have h1 := hS.few.2.1; show List.length bb ≤ _; omega) hS.nil
            have HT := hide hT
            have HS := hide hS
            clear hT hS
            go_wp2_with fail
            refine hls.mono ?_
            rintro e w7 ⟨xv, rfl, o7, f7, t7⟩
            have h7 := (unhide HT).calm t7
            have hby := bytes_walk _ _ _ _ bb w7 (row_of_sl o7) h7.r1
            have p10 := cell_obj h7.cells.n 0
            have p11 := cell_obj h7.cells.l 0
            have hsp2 := spoil_sl xv bb w7 o7
            obtain ⟨xa, xc, rfl⟩ := o7.form
            have s7 := t7.size
            have H7 := hide (And.intro h7 f7)
            have by3 : ∀ (P : Ending → World → Prop), P (.returned (.bool true)) w7 → Calls Try.prog 10 #[.slice xa (List.length bb) xc, (.slice ca bl cc)] w7 P := fun P hP => hby.mono (fun e w' h => by rw [h.1, h.2]; exact hP)
            clear hls o7 f7 t7 h7 hby
            generalize hql2 : List.length bb = ql2 at *
            clear hql2
            rw [show ((m + 1 : Nat) : Int) = (m : Int) + 1 by omega] at p10 ⊢
            rw [show decide (m + 1 ≠ 0) = true from decide_eq_true (by omega)]
            have e0 : (0 : Int) < (m : Int) + 1 := by omega
            go_wp2_with (first | (go_at_call 10; refine by3 _ ?_) | (go_at_call 16; refine hsp2.mono ?_; rintro e w8 ⟨⟨vr2, rfl⟩, t8⟩))
            obtain ⟨h7, f7⟩ := unhide H7
            have fin := hide ((h7.away t8 (fun j hj => by
              have h1 := f7 j hj
              have hT := unhide HT
              have h2 := hT.turn.size
              exact ⟨by omega, fun h => by have := (hT.hH j h).2.1; omega, fun h => by have := (hT.hM j h).2.1; omega, fun h => by have := hT.cells.lt j h; omega⟩)).env)
            exact ⟨⟨k + 1, _, ⟨m + 1, bb, false⟩, S', m + 1, bb, B, false, by go_num, by omega, unhide fin, rfl, hAu, hAw, unhide HS⟩, by simp [intOf]; omega⟩
        · simp only at r1 r2 r3
          subst r1 r2 r3
          obtain ⟨F6, d6, _⟩ := h4'.v.disk
          have hus := Used_walk w4 A.D F6 S' d6
          have hroom := h4'.v.well.room
          rw [show S'.size = sz from hz'] at hroom
          have hr4 : sz < used S'.fs + bl + 20 := by have h1 := (unhide Hbl); have h2 : S'.size = sz := hz'; omega
          have p8 := cell_obj h4'.cells.d 0
          clear d6 h4' bx4 r4
          generalize used S'.fs = U at *
          go_wp2_with (first | (go_at_call 18; refine hus.mono ?_; rintro e w6 ⟨rfl, t6⟩; have hT := (unhide H4e).1.calm t6; have p9 : w6.cell? ⟨vs, 0, none⟩ = some (.pointer (some ⟨A.X, 0, none⟩)) := cell_obj hT.cells.s 0))
          have hS := unhide HSt
          have hls := lastV_w w6 _ _ _ _ _ hT.v (by have h1 := hS.few.2.1; show List.length L ≤ _; omega) hS.nil
          have HT := hide hT
          have HS := hide hS
          clear hT hS
          go_wp2_with fail
          refine hls.mono ?_
          rintro e w7 ⟨xv, rfl, o7, f7, t7⟩
          have h7 := (unhide HT).calm t7
          have hby := bytes_walk _ _ _ _ L w7 (row_of_sl o7) h7.r1
          have p10 := cell_obj h7.cells.n 0
          have p11 := cell_obj h7.cells.l 0
          have hsp2 := spoil_sl xv L w7 o7
          obtain ⟨xa, xc, rfl⟩ := o7.form
          have s7 := t7.size
          have H7 := hide (And.intro h7 f7)
          have by3 : ∀ (P : Ending → World → Prop), P (.returned (.bool true)) w7 → Calls Try.prog 10 #[.slice xa (List.length L) xc, A.l] w7 P := fun P hP => hby.mono (fun e w' h => by rw [h.1, h.2]; exact hP)
          clear hls o7 f7 t7 h7 hby
          generalize hql2 : List.length L = ql2 at *
          clear hql2
          rw [hAn] at p10
          by_cases hm0 : m = 0
          · rw [hm0] at p10 ⊢
            go_wp2_with (first | (go_at_call 10; refine by3 _ ?_) | (go_at_call 16; refine hsp2.mono ?_; rintro e w8 ⟨⟨vr2, rfl⟩, t8⟩))
            obtain ⟨h7, f7⟩ := unhide H7
            have fin := hide ((h7.away t8 (fun j hj => by
              have h1 := f7 j hj
              have hT := unhide HT
              have h2 := hT.turn.size
              exact ⟨by omega, fun h => by have := (hT.hH j h).2.1; omega, fun h => by have := (hT.hM j h).2.1; omega, fun h => by have := hT.cells.lt j h; omega⟩)).env)
            exact ⟨⟨k + 1, A, ⟨m, L, false⟩, S', m, L, B, false, by go_num, by omega, unhide fin, hAn, hAu, hAw, stand_more (unhide HS)⟩, by simp [intOf]; omega⟩
          · have e0 : (0 : Int) < (m : Int) := by omega
            rw [show decide (m ≠ 0) = true from decide_eq_true hm0]
            go_wp2_with (first | (go_at_call 10; refine by3 _ ?_) | (go_at_call 16; refine hsp2.mono ?_; rintro e w8 ⟨⟨vr2, rfl⟩, t8⟩))
            obtain ⟨h7, f7⟩ := unhide H7
            have fin := hide ((h7.away t8 (fun j hj => by
              have h1 := f7 j hj
              have hT := unhide HT
              have h2 := hT.turn.size
              exact ⟨by omega, fun h => by have := (hT.hH j h).2.1; omega, fun h => by have := (hT.hM j h).2.1; omega, fun h => by have := hT.cells.lt j h; omega⟩)).env)
            exact ⟨⟨k + 1, A, ⟨m, L, false⟩, S', m, L, B, false, by go_num, by omega, unhide fin, hAn, hAu, hAw, stand_more (unhide HS)⟩, by simp [intOf]; omega⟩
        · simp only at r1 r2
          subst r1 r2
          have hcp := copy_walk _ _ bb w4 bx4 (by have := unhide Hbl; omega)
          rw [show bb.length = bl from unhide Hbl] at hcp
          have HE := hide (And.intro r3 r5)
          clear h4' bx4 r3 r4 r5
          go_wp2_with fail
          refine hcp.mono ?_
          rintro e w5 ⟨cv, rfl, o5, f5, t5⟩
          obtain ⟨h4', bx4⟩ := unhide H4e
          have h5 := h4'.calm t5
          obtain ⟨ca, cc, rfl⟩ := o5.form
          have s5 := t5.size
          have o5' : OwnSl w5 5 1 (.slice ca bl cc) bb.length (bb.map (Value.int .u8)) := by rw [show bb.length = bl from unhide Hbl]; exact o5
          have g1 := frozen_obj h5.cells.x 0
          have p5 := cell_obj h5.cells.x 0
          have cX := h5.cells.setX h5.nd (.slice ca bl cc)
          have tX : Turn (fun j => j ∈ Vars.list ⟨vd, vs, vl, vx, vn, vu, vw⟩) w5 (w5.setCell ⟨vx, 0, none⟩ (.slice ca bl cc)) := turn_var (by simp [Vars.list]) _
          have g2 := frozen_obj cX.u 0
          have p6 := cell_obj cX.u 0
          have cU := cX.setU h5.nd true
          have tU := tX.then (turn_var (V := ⟨vd, vs, vl, vx, vn, vu, vw⟩) (r := vu) (by simp [Vars.list]) (.bool true))
          have g3 := frozen_obj cU.w 0
          have p7 := cell_obj cU.w 0
          have cW := cU.setW h5.nd true
          have tW := tU.then (turn_var (V := ⟨vd, vs, vl, vx, vn, vu, vw⟩) (r := vw) (by simp [Vars.list]) (.bool true))
          have fin := h5.put (A' := ⟨A.D, A.X, A.l, .slice ca bl cc, A.n, true, true⟩) (M' := fun j => M j ∨ (w4.heap.size ≤ j ∧ j < w5.heap.size)) (L' := L) (B' := bb) tW cW rfl rfl (h5.r1.mono (fun b hb => .inl hb)) ((row_of_sl o5').mono (fun b hb => .inr ⟨f5 b hb, by obtain ⟨cur, hc⟩ := o5'.lt b hb; exact (Array.getElem?_eq_some_iff.1 hc).1⟩)) (fun j hj => by
            rcases hj with hj | hj
            · exact h5.hM j hj
            · exact ⟨by have := h4'.turn.size; omega, hj.2, fun hv => by have := h4'.cells.lt j hv; omega, fun hh => by have := (h4'.hH j hh).2.1; omega⟩)
          obtain ⟨F6, d6, _⟩ := fin.v.disk
          have hdn := Down_walk _ A.D F6 S' d6
          rw [show S'.down = true from (unhide HE).1] at hdn
          have p8 := cell_obj fin.cells.d 0
          have HF := hide (And.intro fin.env (unhide HE).2)
          clear hcp o5 o5' h5 h4' bx4 cX tX cU tU cW tW fin d6 f5 t5
          go_wp2_with (first | (go_at_call 19; refine hdn.mono ?_; rintro e w0 ⟨rfl, hw0⟩; have hw0 := hw0.symm; subst hw0))
          exact ⟨⟨k + 1, _, _, S', m, L, bb, true, by go_num, by omega, (unhide HF).1, hAn, rfl, rfl, ⟨.inr ⟨rfl, rfl, (unhide HE).1, (unhide HF).2, ⟨hbb, by have := unhide Hbl; omega, by omega⟩⟩, (unhide HSt).few, by simpa using hnum', (unhide HSt).nil, hz'⟩⟩, by simp [intOf]; omega⟩
    · obtain ⟨H, M, hH⟩ := hE.get
      have q0 : wr.cell? ⟨vd, 0, none⟩ = some (.pointer (some ⟨A.D, 0, none⟩)) := cell_obj hH.cells.d 0
      have har := hH.v.call (fun F dd => (Arm_walk wr A.D F S 0 (by decide) dd).mono (fun e w' h => ⟨h.1, h.2.1, h.2.2.mono (fun j hj _ => .inl hj)⟩))
      have hst := stand_arm hSt 0
      have hend : ¬ k < n ∨ (k < n ∧ k = 60) := by omega
      have HH := hide hH
      clear hH hE hSt hlt HL HC
      rcases hend with h | ⟨h, rfl⟩
      all_goals
        go_wp2_with fail
        refine har.mono ?_
        rintro e w5 ⟨rfl, t5, v5⟩
        have h5 := (unhide HH).step t5 v5
        obtain ⟨m', R, hq, hm, few, hmi, h0⟩ := stand_open hst (.inl rfl)
        have hop := open_p w w5 _ A x (armS S 0) m m' L B R h5.env hAn (start_up _).1 hq (by rcases hm with h | ⟨a, b, c⟩; exact .inl h; exact .inr ⟨a, b, hAu.trans c⟩) few (by have := hst.few.2.2; omega) hst.nil
        clear har
        have h6n := HH
        clear HH h6n hst hq hm few hmi h0 t5 v5 h5
        go_wp2_with fail
        refine hop.mono ?_
        rintro e w6 ⟨rfl, X6, lv6, h6⟩
        clear hop
        go_wp2
        go_ret
        exact ⟨rfl, h6.turn.fresh (Nat.le_refl _)⟩
theorem SlotsPlays_law (w : World) (a : Int) (wa : (Lit.int .i64 a).wf = true) (lv : Value) (n : Nat) (K N : Nat → Int) (BV KV : Nat → Value) (Z Q : Nat → List Int) (hl : OpsIn w lv n K N BV KV Z Q) :
    Calls Try.prog 3 #[.int .i64 a, lv] w fun e w' => e = .returned (.bool true) ∧ Below w.heap.size w w' :=
  (plays_walk w a lv n K N BV KV Z Q hl).mono (fun e w' h => ⟨h.1, h.2.bel⟩)
end Go.Proofs.Ytodnnblnchjeiaa
