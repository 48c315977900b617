/- Numbers one behind the other are read one by one; behind the last nothing is left. -/
import Derived.Test.YtmkaamlacfdhlaaLawBack3
import Derived.Deep.RegionWith
namespace Go.Proofs.Ytmkaamlacfdhlaa
open Go.RowKit
set_option linter.unusedVariables false

/-- the bytes of numbers, one behind the other -/
def catB : List Int → List Int
  | [] => []
  | x :: r => numB x.toNat ++ catB r
theorem catB_append : ∀ (a b : List Int), catB (a ++ b) = catB a ++ catB b
  | [], b => rfl
  | x :: r, b => by show numB x.toNat ++ catB (r ++ b) = _; rw [catB_append r b]; simp [catB]
theorem catB_bytes : ∀ a : List Int, Bytes (catB a)
  | [] => fun x hx => by cases hx
  | x :: r => (numB_bytes _).append (catB_bytes r)
theorem catB_len : ∀ a : List Int, (∀ x ∈ a, x < 18446744073709551616) → (catB a).length ≤ 10 * a.length
  | [], _ => Nat.le_refl _
  | x :: r, h => by
    have h1 := numB_ten x.toNat (by have := h x (by simp); omega)
    have h2 := catB_len r (fun y hy => h y (by simp [hy]))
    show (numB x.toNat ++ catB r).length ≤ 10 * (x :: r).length
    rw [List.length_append, List.length_cons]; omega
theorem take_more (L : List Int) (k : Nat) (h : k < L.length) : L.take (k + 1) = L.take k ++ [L.getD k 0] := by
  rw [List.take_succ_eq_append_getElem h]; simp [h]

theorem Row.get {k : IntKind} {B : Nat → Prop} {w : World} {a : Option Addr} {n c : Nat} {zs : List Int} (h : Row k B w (.slice a n c) zs) : ∀ j, j < zs.length → ∃ b off, a = some ⟨b, off, none⟩ ∧ w.cell? ⟨b, off + j, none⟩ = some (.int k (zs.getD j 0)) := by
  intro j hj
  rcases h with ⟨_, _, _, _, _, rfl⟩ | ⟨b, off, c, h, _, _, _, h4⟩
  · simp at hj
  · simp at h
    exact ⟨b, off, h.1, h4 j hj⟩

theorem small_none (m : Nat) : smallT m [] 0 = (0, [], 9) := smallT_f rfl (by omega)

set_option maxRecDepth 100000 in
set_option maxHeartbeats 4000000 in
theorem CodeMany_law (w : World) (l : Value) (ls : List Int) (hr : Row .u64 any w l ls) (hwf : ∀ n ∈ ls, (Lit.int .u64 n).wf = true) (hz : ls.length * 8 ≤ 140737488351232) (m : Int) (hm : (Lit.int .i64 m).wf = true) :
    Calls Try.prog 8 #[l, .int .i64 m] w fun e w' => e = .returned (.bool true) ∧ Below w.heap.size w w' := by
  obtain ⟨i0, hi0, hz0, hz1, hz2⟩ := info_parts info_u8
  have m1 := wf_i64 hm
  obtain ⟨a, c, rfl⟩ := hr.slice
  have hget := hr.get
  have hws : ∀ x ∈ ls, 0 ≤ x ∧ x < 18446744073709551616 := fun x hx => wf_u64 (hwf x hx)
  clear hwf hr
  obtain ⟨L, hL⟩ : ∃ L, L = ls.take 100 := ⟨_, rfl⟩
  have hLl : L.length = min 100 ls.length := by rw [hL, List.length_take]
  have hLg : ∀ j, j < L.length → L.getD j 0 = ls.getD j 0 := by
    intro j hj
    rw [hL, List.getD_eq_getElem?_getD, List.getD_eq_getElem?_getD, List.getElem?_take, if_pos (by omega)]
  have hLw : ∀ x ∈ L, 0 ≤ x ∧ x < 18446744073709551616 := fun x hx => hws x (by rw [hL] at hx; exact List.mem_of_mem_take hx)
  have hcat := catB_len L (fun x hx => (hLw x hx).2)
  have Hget := hide hget
  have Hlg := hide hLg
  have Hlw := hide hLw
  clear hget hLg hLw hws hL
  go_enter Try.func8, Try.ntmps8
  go_wp2_with fail
  go_loopw [5, 6] (fun s i wr => ∃ k : Nat, k ≤ L.length ∧ i = .int .i64 (k : Int) ∧ wr.ownsRow w.heap.size 5 1 s (catB (L.take k)).length ((catB (L.take k)).map (Value.int .u8)) ∧ Below w.heap.size w wr) (fun _ i _ => L.length - (intOf i).toNat)
  case atStart => exact ⟨0, Nat.zero_le _, rfl, World.ownsRow_nil _ _ _ _, Below.refl _ _⟩
  case round =>
    obtain ⟨k, hk, rfl, hown, hbel⟩ := hrel
    by_cases hlt : k < L.length
    · have h1 : k < ls.length := by omega
      have h2 : k < 100 := by omega
      obtain ⟨b, off, rfl, hcell0⟩ := unhide Hget k h1
      have hcell : wr.cell? ⟨b, off + k, none⟩ = some (.int .u64 (ls.getD k 0)) := by
        rw [hbel.cell (p := ⟨b, off + k, none⟩) (World.block_lt_of_cell? _ _ hcell0)]; exact hcell0
      have hx := unhide Hlw (L.getD k 0) (by simp [hlt])
      have hmore := take_more L k hlt
      have hlen2 := catB_len (L.take (k + 1)) (fun x hx => (unhide Hlw x (List.mem_of_mem_take hx)).2)
      rw [List.length_take] at hlen2
      rw [← unhide Hlg k hlt] at hcell
      generalize L.getD k 0 = x at *
      obtain ⟨X, rfl⟩ := Int.eq_ofNat_of_zero_le hx.1
      have hX : X < 18446744073709551616 := by omega
      have hcb : catB (L.take (k + 1)) = catB (L.take k) ++ numB X := by
        rw [hmore, catB_append]; simp [catB]
      rw [hcb, List.length_append] at hlen2
      have Hcb := hide hcb
      clear hcb hmore hcell0
      go_wp2_with fail
      refine (num_walk X _ hX).mono ?_
      rintro e w1 ⟨x1, rfl, h1', k1⟩
      obtain ⟨x2, w2, hrun2, hown2, k2⟩ := append_row (P := Try.prog) (ty := 23) Try.underlying23 hi0 hz0 hz1 hz2 rfl (own_below hown k1) (row_of_owns h1') (by unfold maxLen; omega) (by omega) (Nat.le_trans hbel.size k1.size)
      have b2 : Below w.heap.size w w2 := (below_then hbel k1).trans k2
      have hown3 : w2.ownsRow w.heap.size 5 1 x2 (catB (L.take (k + 1))).length ((catB (L.take (k + 1))).map (Value.int .u8)) := by rw [unhide Hcb]; exact hown2
      clear hown hown2 h1' k1 k2 hbel hcell hlen2
      go_wp2_with (at_builtin; refine list_append_run rfl _ _ 23 rfl _ _ _ _ rfl rfl hrun2 ?_)
      exact ⟨⟨k + 1, by omega, by go_num, hown3, b2⟩, by simp [intOf]; omega⟩
    · have hkL : k = L.length := by omega
      have hLt : L.take k = L := List.take_of_length_le (by omega)
      rw [hLt] at hown
      have hrow := row_of_owns hown
      have hbs := catB_bytes L
      clear hown hLt
      obtain ⟨sa, sc, rfl⟩ := hrow.slice
      have hex : ls.length ≤ k ∨ (k < ls.length ∧ 100 ≤ k) := by omega
      rcases hex with hex1 | ⟨hex1, hex2⟩
      all_goals
        go_wp2_with fail
        refine (new_walk _ _ (catB L) _ hrow (by omega)).mono ?_
        rintro e w1 ⟨p, rfl, hp, hp1, hrd, k1⟩
        have b1 := below_then hbel k1
        have hp0 : w.heap.size ≤ p := Nat.le_trans hbel.size hp
        clear hrow hbel k1
        go_wp2_with fail
        refine (awake_walk _).mono ?_
        rintro e w2 ⟨rfl, k2⟩
        have b2 := below_then b1 k2
        have hrd2 := hrd.turn (F := fun _ => False) (Turn.of_below k2) (fun h => h) (fun _ _ h => h)
        clear hrd b1 k2
        generalize (fun b => wr.heap.size ≤ b ∧ b < p) = BB at hrd2
        go_wp2_with fail
        go_loopw [8, 9] (fun lf i wr => ∃ k : Nat, k ≤ L.length ∧ i = .int .i64 (k : Int) ∧ lf = .int .i64 ((catB (L.drop k)).length : Nat) ∧ RD BB wr p (catB (L.drop k)) 0 ∧ Below w.heap.size w wr) (fun _ i _ => L.length - (intOf i).toNat)
        case atStart => exact ⟨0, Nat.zero_le _, rfl, rfl, hrd2, b2⟩
        case round =>
          obtain ⟨k, hk, rfl, rfl, hrd, hbel⟩ := hrel
          by_cases hlt : k < L.length
          · have h1 : k < ls.length := by omega
            have h2 : k < 100 := by omega
            obtain ⟨b, off, rfl, hcell0⟩ := unhide Hget k h1
            have hblt : b < w.heap.size := World.block_lt_of_cell? _ _ hcell0
            have hne : ¬ only p b := fun h => by have h' : b = p := h; omega
            have Hne := hide hne
            clear hne
            have hcell : wr.cell? ⟨b, off + k, none⟩ = some (.int .u64 (ls.getD k 0)) := by
              rw [hbel.cell (p := ⟨b, off + k, none⟩) hblt]; exact hcell0
            have hx := unhide Hlw (L.getD k 0) (by simp [hlt])
            have hdr := drop_cons L k hlt
            rw [← unhide Hlg k hlt] at hcell
            generalize L.getD k 0 = x at *
            obtain ⟨X, rfl⟩ := Int.eq_ofNat_of_zero_le hx.1
            have hX : X < 18446744073709551616 := by omega
            have hcb : catB (L.drop k) = numB X ++ catB (L.drop (k + 1)) := by rw [hdr]; rfl
            rw [hcb] at hrd
            have hlen : (catB (L.drop k)).length = (numB X).length + (catB (L.drop (k + 1))).length := by rw [hcb, List.length_append]
            have hS := small_of_num X (catB (L.drop (k + 1))) wide hX (ge_wide hX)
            have hbb : Bytes (numB X ++ catB (L.drop (k + 1))) := (numB_bytes X).append (catB_bytes _)
            have hr10 := catB_len (L.drop (k + 1)) (fun x hx => (unhide Hlw x (List.mem_of_mem_drop hx)).2)
            rw [List.length_drop] at hr10
            have hn10 := numB_ten X hX
            have hrdD : RD BB wr.drew p (numB X ++ catB (L.drop (k + 1))) 0 := hrd
            have hcellD : wr.drew.cell? ⟨b, off + k, none⟩ = some (.int .u64 (X : Int)) := hcell
            have hbelD : Below w.heap.size w wr.drew := hbel.drew
            clear hcb hdr hcell0 hrd hbel
            generalize hR : catB (L.drop (k + 1)) = R at *
            have HR := hide hR
            clear hR
            generalize (catB (L.drop k)).length = A at *
            have hA : A ≤ 1010 := by omega
            have Hlen := hide hlen
            clear hlen hr10
            go_wp2_with fail
            go_region_with (first
              | (go_at_call 27; refine (rnum_walk _ p _ 0 _ hrdD hbb).mono ?_; rw [hS]; rintro e w3 ⟨rfl, hrd3, t3⟩; have hc3 : w3.cell? ⟨b, off + k, none⟩ = some (.int .u64 (X : Int)) := t3.cell hcellD (unhide Hne)))
            all_goals
              have b3 : Below w.heap.size w w3 := hbelD.trans (t3.below (fun k h => by cases h; exact hp0) hbelD.size)
              clear hrdD hcellD hbelD t3 hS
              go_wp2_with fail
              refine (num_walk X _ hX).mono ?_
              rintro e w4 ⟨x4, rfl, h4, k4⟩
              have hrd4 := hrd3.turn (F := fun _ => False) (Turn.of_below k4) (fun h => h) (fun _ _ h => h)
              have b4 := below_then b3 k4
              obtain ⟨a4, c4, rfl⟩ := (row_of_owns h4).slice
              clear h4 k4 hrd3 b3 hc3
              have hlen2 := unhide Hlen
              generalize (numB X).length = N at *
              have hcmp : ((R.length : Int) != (A : Int) - (N : Int)) = false := by simp; omega
              have hcmp2 : (R.length : Int) = (A : Int) - (N : Int) := by omega
              have Hcmp := hide hcmp2
              clear hlen2 hcmp2 Hlen
              go_wp2_with fail
              refine (rleft_walk _ p R 0 _ hrd4).mono ?_
              rintro e w5 ⟨rfl, hw⟩
              subst hw
              go_wp2_with fail
              refine (rerr_walk _ p R 0 _ hrd4).mono ?_
              rintro e w6 ⟨rfl, hw⟩
              subst hw
              go_wp2
              refine ⟨⟨k + 1, by omega, by go_num, ?_, ?_, b4⟩, by simp [intOf]; omega⟩
              · rw [unhide HR, ← unhide Hcmp]
              · rw [unhide HR]; exact hrd4
          · have hdr : L.drop k = [] := List.drop_of_length_le (by omega)
            rw [hdr] at hrd
            have hex : ls.length ≤ k ∨ (k < ls.length ∧ 100 ≤ k) := by omega
            have hrd' : RD BB wr p [] 0 := hrd
            have hsm := small_none m.toNat
            clear hrd hdr
            rcases hex with hex1 | ⟨hex1, hex2⟩
            all_goals go_wp2_with fail
            all_goals
              refine (rend_walk _ p _ 0 _ hrd').mono ?_
              rintro e w5 ⟨rfl, hw⟩
              subst hw
              rw [show endT [] 0 = 0 by decide]
              go_wp2_with fail
              refine (rsmall_walk _ p _ 0 m _ hrd' (fun x hx => by cases hx) m1.1 m1.2).mono ?_
              rw [hsm]
              rintro e w6 ⟨rfl, hrd6, t6⟩
              have b6 : Below w.heap.size w w6 := hbel.trans (t6.below (fun k h => by cases h; exact hp0) hbel.size)
              go_wp2_with fail
              refine (rerr_walk _ p _ 9 _ hrd6).mono ?_
              rintro e w7 ⟨rfl, hw⟩
              subst hw
              go_wp2_with fail
              refine (rend_walk _ p _ 9 _ hrd6).mono ?_
              rintro e w8 ⟨rfl, hw⟩
              subst hw
              rw [show endT [] 9 = 9 by decide]
              go_wp2
              go_ret
              exact ⟨rfl, b6⟩
end Go.Proofs.Ytmkaamlacfdhlaa
