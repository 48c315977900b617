/- The places where frames end; what is torn of frames. -/
import Derived.Test.YtkmeedefaceknaaFJoin
namespace Go.Proofs.Ytkmeedefaceknaa
open Go.RowKit Go.Maps
set_option linter.unusedVariables false
set_option linter.unusedSimpArgs false

theorem rem_to (a : Int) (n : Nat) (h0 : 0 < n) (h1 : n ≤ 1099511627776) : ∃ f : Nat, f < n ∧ wrap64 ((IntKind.u64.wrap a).tmod (n : Int)) = (f : Int) := by
  refine ⟨(a % 18446744073709551616 % (n : Int)).toNat, ?_, ?_⟩
  · have := Int.emod_lt_of_pos (a % 18446744073709551616) (show (0 : Int) < n by omega)
    omega
  · have e : (IntKind.u64.wrap a).tmod (n : Int) = a % 18446744073709551616 % (n : Int) := by
      rw [IntKind.wrap_u64, Int.tmod_eq_emod_of_nonneg (by omega)]
    have h2 := Int.emod_lt_of_pos (a % 18446744073709551616) (show (0 : Int) < n by omega)
    have h3 := Int.emod_nonneg (a % 18446744073709551616) (show (n : Int) ≠ 0 by omega)
    rw [e]
    unfold wrap64
    omega
/-- how many bytes so many frames have -/
def upTo (zss : List (List Int)) (k : Nat) : Nat := (frames (zss.take k)).length
/-- where the first frames end -/
def endsOf (zss : List (List Int)) (k : Nat) : List Value := (List.range k).map fun j => Value.int .i64 ((upTo zss (j + 1) : Nat) : Int)
theorem endsOf_succ (zss : List (List Int)) (k : Nat) : endsOf zss (k + 1) = endsOf zss k ++ [.int .i64 ((upTo zss (k + 1) : Nat) : Int)] := by simp [endsOf, List.range_succ]
theorem endsOf_at (zss : List (List Int)) {k j : Nat} (h : j < k) : (endsOf zss k)[j]? = some (.int .i64 ((upTo zss (j + 1) : Nat) : Int)) := by simp [endsOf, h]
theorem endsOf_len (zss : List (List Int)) (k : Nat) : (endsOf zss k).length = k := by simp [endsOf]
theorem upTo_zero (zss : List (List Int)) : upTo zss 0 = 0 := rfl
theorem upTo_succ (zss : List (List Int)) (k : Nat) (hk : k < zss.length) : upTo zss (k + 1) = upTo zss k + (packB (zss.getD k [])).length := by
  unfold upTo; rw [frames_take zss k hk, List.length_append]
/-- what is told of a beginning, noughts behind -/
theorem scan_cut (zss : List (List Int)) (N n d q : Nat) (hN : N ≤ zss.length) (hs : ∀ z ∈ zss.take N, z.length ≤ 1048576) (hq : q ≤ N) (hin : upTo zss q ≤ n) (hout : q = N ∨ n < upTo zss (q + 1)) (hd : n + d ≤ upTo zss N) :
    scanT ((frames (zss.take N)).take n ++ List.replicate d 0) = (zss.take q, upTo zss q, 0) := by
  have hsq : ∀ z ∈ zss.take q, z.length ≤ 1048576 := fun z hz => hs z (by
    have : zss.take q = (zss.take N).take q := by rw [List.take_take, Nat.min_eq_left hq]
    rw [this] at hz
    exact List.mem_of_mem_take hz)
  by_cases he : q = N
  · subst he
    have : n = upTo zss q := by omega
    have hd0 : d = 0 := by omega
    subst hd0
    have hz : (frames (zss.take q)).take n = frames (zss.take q) := List.take_of_length_le (by show upTo zss q ≤ n; exact hin)
    rw [hz]
    simp only [List.replicate_zero, List.append_nil]
    exact scan_whole _ hsq
  · have hlt : q < N := by omega
    have ho : n < upTo zss (q + 1) := by omega
    have hqz : q < zss.length := by omega
    rw [upTo_succ zss q hqz] at ho
    have hsp : zss.take N = zss.take q ++ (zss.getD q [] :: (zss.take N).drop (q + 1)) := by
      have h1 : (zss.take N).take (q + 1) ++ (zss.take N).drop (q + 1) = zss.take N := List.take_append_drop _ _
      rw [List.take_take, Nat.min_eq_left (by omega), take_more zss q hqz] at h1
      rw [List.append_assoc, List.singleton_append] at h1
      exact h1.symm
    have hf : frames (zss.take N) = frames (zss.take q) ++ (packB (zss.getD q []) ++ frames ((zss.take N).drop (q + 1))) := by
      conv => lhs; rw [hsp, frames_append, frames_cons]
    have ht : (frames (zss.take N)).take n = frames (zss.take q) ++ (packB (zss.getD q [])).take (n - upTo zss q) := by
      rw [hf, List.take_append, List.take_of_length_le (by show upTo zss q ≤ n; exact hin)]
      congr 1
      rw [List.take_append_of_le_length]
      · rfl
      · show n - upTo zss q ≤ _
        omega
    rw [ht, List.append_assoc]
    exact scan_torn _ _ _ _ hsq (hs _ (by rw [hsp]; simp)) (by omega)

theorem info_int : (Try.prog.info? 3).map (fun i => (i.zero, i.size, i.bytes)) = some (some (.int .i64 0), 1, 8) := by kernel_rfl
/-- bytes behind bytes, where all else stays -/
theorem push2 {w0 w1 : World} {v x : Value} {xs zs : List Int} (T : Turn (fun _ => False) w0 w1) (ho : OwnSl w1 5 1 v xs.length (xs.map (Value.int .u8))) (hf : ∀ j, v.ownBlock = some j → w0.heap.size ≤ j) (hx : Src 1 w1 x zs.length (zs.map (Value.int .u8))) (hm : xs.length + zs.length ≤ 140737488355328) :
    ∃ v' w2, (Builtin.append_ #[22, 22] 22 #[v, x]).run Try.prog w1 = .ok v' w2 ∧ OwnSl w2 5 1 v' (xs ++ zs).length ((xs ++ zs).map (Value.int .u8)) ∧ (∀ j, v'.ownBlock = some j → w0.heap.size ≤ j) ∧ Turn (fun _ => False) w0 w2 ∧ Turn (fun j => v.ownBlock = some j) w1 w2 := by
  obtain ⟨i0, hi, hz0, hz1, hz2⟩ := info_parts info_u8
  obtain ⟨v', w2, h1, h2, h3, h4⟩ := append_src (P := Try.prog) (ty := 22) Try.underlying22 hi hz0 hz1 hz2 rfl (by omega) ho hx (ints_oneCell _ _) (by unfold maxLen; omega) (by omega)
  refine ⟨v', w2, h1, by rw [List.length_append, List.map_append]; exact h2, fun j hj => ?_, T.trans h3 (fun j hj => .inr (hf j hj)), h3⟩
  rcases h4 j hj with h | h
  · exact hf j h
  · exact Nat.le_trans T.size h
/-- one end more -/
theorem pushEnd {w0 w1 : World} {v : Value} {n : Nat} {xs : List Value} (x : Int) (T : Turn (fun _ => False) w0 w1) (ho : OwnSl w1 3 1 v n xs) (hf : ∀ j, v.ownBlock = some j → w0.heap.size ≤ j) (hm : n ≤ 1000) :
    ∃ v' w2, (Builtin.append_ #[38, 38] 38 #[v, .slice (some ⟨w1.heap.size, 0, none⟩) 1 1]).run Try.prog (w1.alloc (.cells #[.int .i64 x] 3)) = .ok v' w2 ∧ OwnSl w2 3 1 v' (n + 1) (xs ++ [.int .i64 x]) ∧ (∀ j, v'.ownBlock = some j → w0.heap.size ≤ j) ∧ Turn (fun _ => False) w0 w2 ∧ Turn (fun j => v.ownBlock = some j) w1 w2 := by
  obtain ⟨i0, hi, hz0, hz1, hz2⟩ := info_parts info_int
  have TA := (Turn.refl (fun _ => False) w1).alloc (.cells #[.int .i64 x] 3)
  have hs : Src 1 (w1.alloc (.cells #[.int .i64 x] 3)) (.slice (some ⟨w1.heap.size, 0, none⟩) 1 1) 1 [.int .i64 x] := ⟨rfl, .inr ⟨_, _, rfl, by omega, one_new w1 3 (.int .i64 x)⟩⟩
  obtain ⟨v', w2, r1, r2, r3, r4⟩ := append_src (P := Try.prog) (ty := 38) Try.underlying38 hi hz0 hz1 hz2 rfl (by omega) (ho.turn TA (fun _ _ h => h)) hs (fun u hu => by simp at hu; subst hu; rfl) (by unfold maxLen; omega) (by omega)
  refine ⟨v', w2, r1, r2, fun j hj => ?_, (T.then TA).trans r3 (fun j hj => .inr (hf j hj)), (TA.mono (G := fun j => v.ownBlock = some j) (fun _ h => h.elim)).then r3⟩
  rcases r4 j hj with h | h
  · exact hf j h
  · exact Nat.le_trans (T.then TA).size h
/-- slices of other elements lie elsewhere -/
theorem OwnSl.apart {w w' : World} {e e' : TypeId} {s s' : Nat} {v v' : Value} {n n' : Nat} {xs xs' : List Value} (h : OwnSl w e s v n xs) (h' : OwnSl w e' s' v' n' xs') (he : e ≠ e') (T : Turn (fun j => v'.ownBlock = some j) w w') : OwnSl w' e s v n xs := by
  refine h.turn T (fun k hk hk' => ?_)
  obtain ⟨cur, hc⟩ := h.lt k hk
  obtain ⟨cur', hc'⟩ := h'.lt k hk'
  rw [hc] at hc'
  simp at hc'
  exact he hc'.2
end Go.Proofs.Ytkmeedefaceknaa
