/- From a reading of a slice of operations to what the walk asks of it. -/
import Derived.Test.YthikiahhochjmaaGreatDoorJOps
import Derived.Test.YthikiahhochjmaaGreatDoorPack7
import Derived.Test.YthikiahhochjmaaGreatDoorBWf
import Derived.Test.YthikiahhochjmaaGreatDoorCLift
import Derived.Deep.Slices
namespace Go.Proofs.YthikiahhochjmaaGreatDoor
open Go.ChangeShapes Go.WideShapes Go.ChangeAt Go.RowKit
set_option linter.unusedVariables false

theorem weightsAll_mem {H : Type} {P : Program} {e : TypeId} : ∀ {l : List (DataW H)} {d : DataW H}, d ∈ l → ∀ n ∈ d.weights P e, n ∈ DataW.weightsAll P e l
  | x :: r, d, hd, n, hn => by
    simp only [DataW.weightsAll, List.mem_append]
    rcases List.mem_cons.1 hd with rfl | hd
    · exact .inl hn
    · exact .inr (weightsAll_mem hd n hn)

/-- a slice of integers, from its cells -/
theorem open_row_at {H : Type} {enc : TypeId × Value → H} {W : World} {t e : TypeId} {k : IntKind} {n8 fuel : Nat} {cs : List Value} {x : DataW H × List MemPlace}
    (ht : Tryz.prog.underlying t = some (.slice e)) (he : Tryz.prog.underlying e = some (.int k)) (hc : Tryz.prog.cellsOf e = 1) (hb : Tryz.prog.bytesOf e = n8)
    (h : DataW.trod enc Tryz.prog W 0 (fun _ => true) true fuel t cs = some x) :
    ∃ v zs, cs = [v] ∧ Row k any W v zs ∧ (∀ n ∈ zs, (Lit.int k n).wf = true) ∧ ((∀ n ∈ x.1.weights Tryz.prog t, n ≤ reachBytes) → zs.length * n8 ≤ 140737488351232) := by
  rcases open_ints ht he hc h with ⟨hcs, hx⟩ | ⟨y, l, c, zs, hcs, _, hl, hm, hz, hx, hcell, hwz⟩
  · exact ⟨_, [], hcs, .inl ⟨_, _, rfl, fun _ => rfl, Nat.zero_le _, rfl⟩, (fun n hn => by cases hn), fun _ => by simp⟩
  · have hz' : zs.length = c := by simpa using hz
    have hlen : (zs.take l).length = l := by rw [List.length_take]; omega
    refine ⟨_, zs.take l, hcs, ?_, fun n hn => hwz n (List.mem_of_mem_take hn), fun hsz => ?_⟩
    · by_cases h0 : l = 0
      · subst h0
        exact .inl ⟨_, _, rfl, (fun h => by cases h), hm, by simp⟩
      · obtain ⟨b, off, spot⟩ := y
        have hspot : spot = none := by simpa [Addr.add] using World.cell?_spot (hcell 0 (by omega))
        subst hspot
        refine .inr ⟨b, off, c, by rw [hlen], by omega, hm, trivial, fun i hi => ?_⟩
        rw [hlen] at hi
        have := hcell i (by omega)
        rw [show (zs.take l).getD i 0 = zs.getD i 0 by simp [hi]]
        by_cases h0i : i = 0
        · subst h0i; simpa [Addr.add] using this
        · simpa [Addr.add, h0i] using this
    · subst hx
      have hw := hsz (((lits (H := H) k (zs.take l)).length + (lits (H := H) k (zs.drop l)).length) * n8) (by simp [DataW.weights, ht, hb])
      simp only [lits, List.length_map, List.length_take, List.length_drop, reachBytes] at hw
      have hmin : min l zs.length = l := by omega
      rw [hmin] at hw
      rw [hlen]
      exact Nat.le_trans (Nat.mul_le_mul_right _ (Nat.le_add_right _ _)) hw

theorem four_cells {cs : List Value} (h : cs.length = 4) : ∃ c0 c1 c2 c3, cs = [c0, c1, c2, c3] := by
  match cs, h with
  | [c0, c1, c2, c3], _ => exact ⟨c0, c1, c2, c3, rfl⟩

/-- what one operation holds -/
structure OneOp where
  k : Int
  n : Int
  bv : Value
  kv : Value
  z : List Int
  q : List Int

/-- one operation, from its reading -/
theorem open_gop {H : Type} {enc : TypeId × Value → H} {W : World} {fuel : Nat} {cs : List Value} {x : DataW H × List MemPlace} (h : DataW.trod enc Tryz.prog W 0 (fun _ => true) true fuel 36 cs = some x) :
    ∃ o : OneOp, cs = [.int .i64 o.k, .int .i64 o.n, o.bv, o.kv] ∧ Row .u8 any W o.bv o.z ∧ Row .i64 any W o.kv o.q ∧ Bytes o.z ∧ (Lit.int .i64 o.n).wf = true ∧
      ((∀ n ∈ x.1.weights Tryz.prog 36, n ≤ reachBytes) → o.q.length * 8 ≤ 140737488351232 ∧ o.z.length ≤ 140737488351232) := by
  have hu := Tryz.underlying36
  obtain ⟨xs, n, _, hx, hl, hxl, hf⟩ := DataW.trod_struct hu h
  have ct : Tryz.prog.cellsOf 36 = 4 := by kernel_rfl
  have ci : Tryz.prog.cellsOf 3 = 1 := by kernel_rfl
  have cb : Tryz.prog.cellsOf 33 = 1 := by kernel_rfl
  have ck : Tryz.prog.cellsOf 34 = 1 := by kernel_rfl
  obtain ⟨c0, c1, c2, c3, rfl⟩ := four_cells (hl.trans ct)
  match xs, hxl with
  | [y0, y1, y2, y3], _ =>
    have e0 := hf 0 _ rfl
    have e1 := hf 1 _ rfl
    have e2 := hf 2 _ rfl
    have e3 := hf 3 _ rfl
    simp [ci, cb, ck] at e0 e1 e2 e3
    obtain ⟨k, r0, _, _⟩ := DataW.trod_int Tryz.underlying3 e0
    obtain ⟨m, r1, _, wm⟩ := DataW.trod_int Tryz.underlying3 e1
    obtain ⟨bv, z, r2, rb, wb, hz⟩ := open_row_at (n8 := 1) Tryz.underlying33 Tryz.underlying5 (by kernel_rfl) (by kernel_rfl) e2
    obtain ⟨kv, q, r3, rk, _, hq⟩ := open_row_at (n8 := 8) Tryz.underlying34 Tryz.underlying3 (by kernel_rfl) (by kernel_rfl) e3
    simp at r0 r1 r2 r3
    refine ⟨⟨k, m, bv, kv, z, q⟩, by rw [r0, r1, r2, r3], rb, rk, bytes_wf wb, wm, fun hsz => ⟨hq (fun n hn => hsz n ?_), by
      have := hz (fun n hn => hsz n (by
        rw [hx]
        simp only [DataW.weights, hu]
        exact DataW.weights_mem_each (j := 2) (t := 33) (d := y2.1) rfl rfl n hn))
      simpa using this⟩⟩
    rw [hx]
    simp only [DataW.weights, hu]
    exact DataW.weights_mem_each (j := 3) (t := 34) (d := y3.1) rfl rfl n hn

/-- a slice of operations that came in -/
theorem open_gops {H : Type} {enc : TypeId × Value → H} {W : World} {v : Value} {d : DataW H} {p : List MemPlace} (h : DataW.Trod enc Tryz.prog W 0 (fun _ => true) true 22 v d p) (hv : ∃ a l c, v = .slice a l c) :
    ∃ n K N BV KV Z Q, ∀ (ts : List TypeId) (ds : List (DataW H)) (j : Nat), (DataW.weightsEach Tryz.prog ts ds).all (· ≤ reachBytes) = true → ts[j]? = some 22 → ds[j]? = some d → OpsIn W v n K N BV KV Z Q := by
  obtain ⟨a, l, c, rfl⟩ := hv
  obtain ⟨fuel, hf⟩ := h
  have ce : Tryz.prog.cellsOf 36 = 4 := by kernel_rfl
  have none_case : ∀ (a : Option Addr) (c : Nat), ∀ (ts : List TypeId) (ds : List (DataW H)) (j : Nat), (DataW.weightsEach Tryz.prog ts ds).all (· ≤ reachBytes) = true → ts[j]? = some 22 → ds[j]? = some d → OpsIn W (.slice a 0 c) 0 (fun _ => 0) (fun _ => 0) (fun _ => .slice none 0 0) (fun _ => .slice none 0 0) (fun _ => []) (fun _ => []) :=
    fun a c ts ds j _ _ _ => ⟨⟨a, c, rfl, Nat.zero_le _, fun j hj => by omega⟩, fun j hj => by omega, fun j hj => by omega, fun j hj => by omega⟩
  rcases Deep.open_slice Tryz.underlying22 hf with ⟨h0, _⟩ | ⟨a', len, cap, m, n, D, Pl, h0, _, hl, hm, hmm, hxx, hx⟩
  · simp [Value.cells] at h0
    obtain ⟨rfl, rfl, rfl⟩ := h0
    exact ⟨0, _, _, _, _, _, _, none_case none 0⟩
  · simp [Value.cells] at h0
    obtain ⟨rfl, rfl, rfl⟩ := h0
    have hlm : l ≤ m := by rw [hmm]; simpa using hl
    by_cases h0 : l = 0
    · subst h0
      exact ⟨0, _, _, _, _, _, _, none_case _ _⟩
    simp only [Prod.mk.injEq] at hxx
    have each0 : ∀ i, i < l → ∃ o : OneOp, (W.cell? (a'.add (i * 4)) = some (.int .i64 o.k) ∧ W.cell? (a'.add (i * 4 + 1)) = some (.int .i64 o.n) ∧ W.cell? (a'.add (i * 4 + 2)) = some o.bv ∧ W.cell? (a'.add (i * 4 + 3)) = some o.kv) ∧
        Row .u8 any W o.bv o.z ∧ Row .i64 any W o.kv o.q ∧ Bytes o.z ∧ (Lit.int .i64 o.n).wf = true ∧ ((∀ n ∈ (D i).weights Tryz.prog 36, n ≤ reachBytes) → o.q.length * 8 ≤ 140737488351232 ∧ o.z.length ≤ 140737488351232) := by
      intro i hi
      obtain ⟨cs', h1, h2⟩ := hx i (by omega)
      rw [ce] at h1
      obtain ⟨o, rfl, rb, rk, hna, wn, hq⟩ := open_gop h2
      obtain ⟨_, _, hc⟩ := World.cells?_some h1
      have q0 := hc 0 (by omega)
      have q1 := hc 1 (by omega)
      have q2 := hc 2 (by omega)
      have q3 := hc 3 (by omega)
      rw [Deep.add_add] at q0 q1 q2 q3
      exact ⟨o, ⟨by simpa using q0, by simpa using q1, by simpa using q2, by simpa using q3⟩, rb, rk, hna, wn, hq⟩
    obtain ⟨b, off, spot⟩ := a'
    have hspot : spot = none := by
      obtain ⟨q, h1, _⟩ := each0 0 (by omega)
      simpa [Addr.add] using World.cell?_spot h1.1
    subst hspot
    haveI : Inhabited OneOp := ⟨⟨0, 0, .slice none 0 0, .slice none 0 0, [], []⟩⟩
    obtain ⟨q, hq⟩ := Deep.choose_lt each0
    refine ⟨l, fun i => (q i).k, fun i => (q i).n, fun i => (q i).bv, fun i => (q i).kv, fun i => (q i).z, fun i => (q i).q, fun ts ds j hsz hts hds => ⟨⟨_, c, rfl, by omega, fun i hi => ?_⟩, fun i hi => ⟨(hq i hi).2.1, (hq i hi).2.2.1⟩, fun i hi => ⟨?_, (hq i hi).2.2.2.2.2 (fun n hn => ?_)⟩, fun i hi => (hq i hi).2.2.2.1⟩⟩
    · obtain ⟨⟨g1, g2, g3, g4⟩, _⟩ := hq i hi
      rw [Addr.add_lit] at g1 g2 g3 g4
      exact ⟨b, off, rfl, g1, by rw [Nat.add_assoc]; exact g2, by rw [Nat.add_assoc]; exact g3, by rw [Nat.add_assoc]; exact g4⟩
    · exact (wf_i64 (hq i hi).2.2.2.2.1).2
    · have hmem : D i ∈ (List.range l).map D := List.mem_map.2 ⟨i, List.mem_range.2 hi, rfl⟩
      have hall := List.all_eq_true.1 hsz n (DataW.weights_mem_each hts hds n (by
        rw [hxx.1]
        simp only [DataW.weights, Tryz.underlying22]
        exact List.mem_cons_of_mem _ (List.mem_append.2 (.inl (weightsAll_mem hmem n hn)))))
      simpa using hall
end Go.Proofs.YthikiahhochjmaaGreatDoor
