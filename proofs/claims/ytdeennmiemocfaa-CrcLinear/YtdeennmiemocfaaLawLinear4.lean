/- Of three texts of one length, and what they are together, bit by bit, the sums go together likewise. -/
import Derived.Test.YtdeennmiemocfaaLawSums4
import Derived.Test.YtdeennmiemocfaaBAfter
namespace Go.Proofs.Ytdeennmiemocfaa
open Go.RowKit
set_option linter.unusedVariables false

theorem u8_mix (a b : Int) (h0 : 0 ≤ a ∧ a < 256) (h1 : 0 ≤ b ∧ b < 256) : bits .xor .u8 a b = ((a.toNat ^^^ b.toNat : Nat) : Int) := by
  obtain ⟨m, rfl⟩ := Int.eq_ofNat_of_zero_le h0.1
  obtain ⟨n, rfl⟩ := Int.eq_ofNat_of_zero_le h1.1
  rw [u8_xor_nat _ _ (by omega) (by omega)]; rfl
theorem xor_byte {a b : Nat} (ha : a < 256) (hb : b < 256) : a ^^^ b < 256 := Nat.xor_lt_two_pow (n := 8) ha hb
/-- three bytes together -/
def mix (x y z : Int) : Int := ((x.toNat ^^^ y.toNat ^^^ z.toNat : Nat) : Int)
theorem mix_bits3 (x y z : Int) (hx : 0 ≤ x ∧ x < 256) (hy : 0 ≤ y ∧ y < 256) (hz : 0 ≤ z ∧ z < 256) : bits .xor .u8 (bits .xor .u8 x y) z = mix x y z := by
  have : x.toNat ^^^ y.toNat < 256 := xor_byte (by omega) (by omega)
  rw [u8_mix x y hx hy, u8_mix _ z (by omega) hz]; rfl
/-- the first k of the first text mixed, the rest as it is -/
def mixed (k : Nat) (xs ys zs : List Int) : List Int := (List.range xs.length).map fun i => if i < k then mix (xs.getD i 0) (ys.getD i 0) (zs.getD i 0) else xs.getD i 0
theorem mixed_len (k : Nat) (xs ys zs : List Int) : (mixed k xs ys zs).length = xs.length := by simp [mixed]
theorem mixed_zero (xs ys zs : List Int) : mixed 0 xs ys zs = xs := by
  apply List.ext_getElem (mixed_len 0 xs ys zs)
  intro i h1 h2
  simp [mixed, h2]
theorem mixed_set (k : Nat) (xs ys zs : List Int) (hk : k < xs.length) : (mixed k xs ys zs).set k (mix (xs.getD k 0) (ys.getD k 0) (zs.getD k 0)) = mixed (k + 1) xs ys zs := by
  apply List.ext_getElem (by simp [mixed])
  intro i h1 h2
  by_cases e : i = k
  · subst e
    simp [mixed]
  · rw [List.getElem_set_ne (by omega)]
    simp only [mixed, List.getElem_map, List.getElem_range]
    by_cases h : i < k
    · rw [if_pos h, if_pos (by omega)]
    · rw [if_neg h, if_neg (by omega)]
theorem mixed_getD (k : Nat) (xs ys zs : List Int) (hk : k < xs.length) : (mixed k xs ys zs).getD k 0 = xs.getD k 0 := by
  simp [mixed, hk]
theorem mixed_all (xs ys zs : List Int) (h1 : xs.length = ys.length) (h2 : xs.length = zs.length) : nat (mixed xs.length xs ys zs) = List.zipWith (· ^^^ ·) (List.zipWith (· ^^^ ·) (nat xs) (nat ys)) (nat zs) := by
  apply List.ext_getElem (by simp [mixed, nat]; omega)
  intro i h3 h4
  have hi : i < xs.length := by simpa [nat, mixed] using h3
  have hy : i < ys.length := by omega
  have hz : i < zs.length := by omega
  simp [nat, mixed, mix, hi, hy, hz]
theorem mixed_bytes (k : Nat) (xs ys zs : List Int) (hx : Bytes xs) (hy : Bytes ys) (hz : Bytes zs) (h1 : xs.length = ys.length) (h2 : xs.length = zs.length) : Bytes (mixed k xs ys zs) := by
  intro x hxm
  obtain ⟨i, hi, rfl⟩ := List.mem_map.1 hxm
  have hi' := List.mem_range.1 hi
  have a1 := getD_byte hx hi'
  have a2 := getD_byte hy (h1 ▸ hi')
  have a3 := getD_byte hz (h2 ▸ hi')
  split
  · have := xor_byte (xor_byte (show (xs.getD i 0).toNat < 256 by omega) (show (ys.getD i 0).toNat < 256 by omega)) (show (zs.getD i 0).toNat < 256 by omega)
    unfold mix
    omega
  · exact a1

theorem min_three (x y z : Nat) (t1 t2 : Array TypeId) (t : TypeId) (u : World) : (Builtin.min_ t1 t #[.int .i64 (x : Int), .int .i64 (y : Int), .int .i64 (z : Int)]).run Try.prog u = .ok (.int .i64 ((min (min x y) z : Nat) : Int)) u := by
  have e1 : (if (y : Int) < (x : Int) then (y : Int) else (x : Int)) = ((min x y : Nat) : Int) := by split <;> omega
  have e2 : (if (z : Int) < ((min x y : Nat) : Int) then (z : Int) else ((min x y : Nat) : Int)) = ((min (min x y) z : Nat) : Int) := by split <;> omega
  simp only [Builtin.min_, List.foldlM, Builtin.min2, pure_bind, e1, e2]
  rfl

theorem row_some {k : IntKind} {B : Nat → Prop} {w : World} {a : Option Addr} {n c : Nat} {zs : List Int} (h : Row k B w (.slice a n c) zs) (h0 : 0 < zs.length) : ∃ b off, a = some ⟨b, off, none⟩ ∧ B b ∧ Cells k w b off zs := by
  rcases h with ⟨_, _, _, _, _, rfl⟩ | ⟨b, off, c, e, _, _, h3, h4⟩
  · simp at h0
  · simp at e
    exact ⟨b, off, e.1, h3, h4⟩

set_option maxHeartbeats 2000000 in
theorem CrcLinear_law (w : World) (a : Value) (xs0 : List Int) (hx : Row .u8 any w a xs0) (hwx : ∀ n ∈ xs0, (Lit.int .u8 n).wf = true) (hlx : xs0.length * 1 ≤ 140737488351232) (b : Value) (ys0 : List Int) (hy : Row .u8 any w b ys0) (hwy : ∀ n ∈ ys0, (Lit.int .u8 n).wf = true) (hly : ys0.length * 1 ≤ 140737488351232) (c : Value) (zs0 : List Int) (hz : Row .u8 any w c zs0) (hwz : ∀ n ∈ zs0, (Lit.int .u8 n).wf = true) (hlz : zs0.length * 1 ≤ 140737488351232) :
    Calls Try.prog 6 #[a, b, c] w fun e w' => e = .returned (.bool true) ∧ Below w.heap.size w w' := by
  obtain ⟨i0, hi, hz0, hz1, hz2⟩ := info_parts info_u8
  have hbx := bytes_wf hwx
  have hby := bytes_wf hwy
  have hbz := bytes_wf hwz
  obtain ⟨a1, a2, rfl⟩ := hx.slice
  obtain ⟨b1, b2, rfl⟩ := hy.slice
  obtain ⟨c1, c2, rfl⟩ := hz.slice
  have hmin := min_three xs0.length ys0.length zs0.length #[3, 3, 3] #[] 3
  generalize hn : min (min xs0.length ys0.length) zs0.length = n at *
  have hn1 : n ≤ xs0.length := by omega
  have hn2 : n ≤ ys0.length := by omega
  have hn3 : n ≤ zs0.length := by omega
  have hnm : n ≤ 140737488351232 := by omega
  clear hn hwx hwy hwz
  obtain ⟨av, hcutA, hrA⟩ := cut_to (P := Try.prog) (ki := .i64) Try.underlying22 hi hz1 hx n hn1
  obtain ⟨bv, hcutB, hrB⟩ := cut_to (P := Try.prog) (ki := .i64) Try.underlying22 hi hz1 hy n hn2
  obtain ⟨cv, hcutC, hrC⟩ := cut_to (P := Try.prog) (ki := .i64) Try.underlying22 hi hz1 hz n hn3
  have hbA := hbx.take n
  have hbB := hby.take n
  have hbC := hbz.take n
  have gA : ∀ k, k < n → ys0.getD k 0 = (ys0.take n).getD k 0 := fun k hk => by simp [List.getD_eq_getElem?_getD, hk]
  have gC : ∀ k, k < n → zs0.getD k 0 = (zs0.take n).getD k 0 := fun k hk => by simp [List.getD_eq_getElem?_getD, hk]
  have lA : (xs0.take n).length = n := by rw [List.length_take]; omega
  have lB : (ys0.take n).length = n := by rw [List.length_take]; omega
  have lC : (zs0.take n).length = n := by rw [List.length_take]; omega
  have GA := hide gA
  have GC := hide gC
  generalize xs0.take n = xs at *
  generalize ys0.take n = ys at *
  generalize zs0.take n = zs at *
  have LA := hide lA
  have LB := hide lB
  have LC := hide lC
  clear gA gC lA lB lC
  go_enter Try.func6, Try.ntmps6
  go_wp2_with fail
  refine (copy_walk any _ xs _ hrA (by rw [unhide LA]; omega)).mono ?_
  rintro e w1 ⟨x, rfl, ho1, bel1⟩
  rw [unhide LA] at ho1
  go_wp2_with fail
  go_loopw [9] (fun i wr => ∃ k : Nat, k ≤ n ∧ i = .int .i64 (k : Int) ∧ wr.ownsRow w.heap.size 5 1 x n ((mixed k xs ys zs).map (Value.int .u8)) ∧ Below w.heap.size w wr) (fun i _ => n - (intOf i).toNat)
  case atStart => exact ⟨0, Nat.zero_le _, rfl, by rw [mixed_zero]; exact ho1, bel1⟩
  case round =>
    obtain ⟨k, hk, rfl, hown, hbel⟩ := hrel
    by_cases hlt : k < n
    · have hxf : ∃ g cap, x = .slice (some ⟨g, 0, none⟩) n cap := by
        rcases hown.2 with ⟨_, h0⟩ | ⟨g, cap, cur, hv, _⟩
        · omega
        · exact ⟨g, cap, hv⟩
      obtain ⟨g, cap, rfl⟩ := hxf
      have hml : (mixed k xs ys zs).length = n := by rw [mixed_len, unhide LA]
      have hcx : wr.cell? ⟨g, k, none⟩ = some (.int .u8 (xs.getD k 0)) := by
        rw [hown.cellAt k (by omega), ← mixed_getD k xs ys zs (by rw [unhide LA]; exact hlt)]
        simp [hml, hlt]
      have hfr := hown.frozenAt k
      obtain ⟨bb, bo, rfl, _, hcb⟩ := row_some (hy.below hbel) (by omega)
      obtain ⟨cb, co, rfl, _, hcc⟩ := row_some (hz.below hbel) (by omega)
      have hcy := hcb k (by omega)
      have hcz := hcc k (by omega)
      rw [unhide GA k hlt] at hcy
      rw [unhide GC k hlt] at hcz
      have hbits := mix_bits3 (xs.getD k 0) (ys.getD k 0) (zs.getD k 0) (getD_byte hbA (by rw [unhide LA]; exact hlt)) (getD_byte hbB (by rw [unhide LB]; exact hlt)) (getD_byte hbC (by rw [unhide LC]; exact hlt))
      obtain ⟨hst, hgr⟩ := hown.stored k (.int .u8 (mix (xs.getD k 0) (ys.getD k 0) (zs.getD k 0)))
      have hms : ((mixed k xs ys zs).map (Value.int .u8)).set k (.int .u8 (mix (xs.getD k 0) (ys.getD k 0) (zs.getD k 0))) = (mixed (k + 1) xs ys zs).map (Value.int .u8) := by
        rw [← mixed_set k xs ys zs (by rw [unhide LA]; exact hlt), List.map_set]
      rw [hms] at hst
      have hbel2 : Below w.heap.size w (wr.setCell ⟨g, k, none⟩ (.int .u8 (mix (xs.getD k 0) (ys.getD k 0) (zs.getD k 0)))) := by
        refine hbel.setCell ?_ _
        rcases hown.2 with ⟨h, _⟩ | ⟨g', cap', cur, h, hb, _⟩
        · simp at h
        · simp at h; show w.heap.size ≤ g; omega
      clear hcb hcc hms hgr hml hown hbel
      have hst2 : ((wr.setCell ⟨g, k, none⟩ (.int .u8 (mix (xs.getD k 0) (ys.getD k 0) (zs.getD k 0)))).drew).ownsRow w.heap.size 5 1 (.slice (some ⟨g, 0, none⟩) n cap) n ((mixed (k + 1) xs ys zs).map (Value.int .u8)) := hst
      have hbel3 : Below w.heap.size w ((wr.setCell ⟨g, k, none⟩ (.int .u8 (mix (xs.getD k 0) (ys.getD k 0) (zs.getD k 0)))).drew) := hbel2.drew
      clear hst hbel2
      generalize xs.getD k 0 = x1 at *
      generalize ys.getD k 0 = y1 at *
      generalize zs.getD k 0 = z1 at *
      generalize mix x1 y1 z1 = m1 at *
      go_wp2
      go_region
      go_wp2
      exact ⟨⟨k + 1, by omega, by go_num, hst2, hbel3⟩, by simp [intOf]; omega⟩
    · have hkn : k = n := by omega
      subst hkn
      have hrX := (row_of_owns (ys := mixed k xs ys zs) hown).mono (B' := any) (fun _ _ => trivial)
      have hbX := mixed_bytes k xs ys zs hbA hbB hbC ((unhide LA).trans (unhide LB).symm) ((unhide LA).trans (unhide LC).symm)
      have hsum : sumAdd 0 (nat (mixed k xs ys zs)) = sumAdd 0 (nat xs) ^^^ sumAdd 0 (nat ys) ^^^ sumAdd 0 (nat zs) := by
        have := mixed_all xs ys zs ((unhide LA).trans (unhide LB).symm) ((unhide LA).trans (unhide LC).symm)
        rw [unhide LA] at this
        rw [this]
        exact sum_three _ _ _ (by simp [nat, unhide LA, unhide LB]) (by simp [nat, unhide LA, unhide LC]) (nat_byte hbA) (nat_byte hbB) (nat_byte hbC)
      have rA := hrA.below hbel
      have rB := hrB.below hbel
      have rC := hrC.below hbel
      have hmx : bits .xor .u32 (bits .xor .u32 ((sumAdd 0 (nat xs) : Nat) : Int) ((sumAdd 0 (nat ys) : Nat) : Int)) ((sumAdd 0 (nat zs) : Nat) : Int) = ((sumAdd 0 (nat (mixed k xs ys zs)) : Nat) : Int) := by
        rw [hsum, u32_xor_nat _ _ (sumAdd_lt _ _) (sumAdd_lt _ _), u32_xor_nat _ _ (xor_lt (sumAdd_lt _ _) (sumAdd_lt _ _)) (sumAdd_lt _ _)]
      generalize hvX : mixed k xs ys zs = X at *
      clear hvX hsum hmin hx hy hz hrA hrB hrC hown ho1 bel1
      go_wp2
      have hne := after_ne wr
      refine wp_region_after (by kernel_rfl) (by kernel_rfl) ?_
      repeat (go_big_quiet_step ((first
        | (go_at_call 8; exact after_of _ (awake_walk _))
        | (go_at_call 9; exact after_same _ (sum_walk any x X _ hbX (hrX.below (After.bel _))))
        | (go_at_call 9; exact after_same _ (sum_walk any av xs _ hbA (rA.below (After.bel _))))
        | (go_at_call 9; exact after_same _ (sum_walk any bv ys _ hbB (rB.below (After.bel _))))
        | (go_at_call 9; exact after_same _ (sum_walk any cv zs _ hbC (rC.below (After.bel _)))))))
      refine wpQuiet_nil ?_
      rintro _ ⟨p, rfl⟩
      have b2 := hbel.trans (p.bel.mono hbel.size)
      go_wp2
      go_ret
      exact ⟨rfl, b2⟩
end Go.Proofs.Ytdeennmiemocfaa
