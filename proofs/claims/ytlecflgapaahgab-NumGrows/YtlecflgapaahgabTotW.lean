import Derived.Test.YtlecflgapaahgabBase
namespace Go.Proofs.Ytlecflgapaahgab
open Go.RowKit
set_option linter.unusedVariables false

set_option maxHeartbeats 400000 in
theorem total_some (b off c : Nat) (zs : List Int) (w : World) (hm : zs.length ≤ maxLen) (hc : Cells .i64 w b off zs) :
    Calls Try.prog 16 #[.slice (some ⟨b, off, none⟩) zs.length c] w fun e w' => e = .returned (.tuple #[.int .u64 ((totTo zs 0).getD 0), .bool (totTo zs 0).isSome]) ∧ w' = w := by
  unfold maxLen at hm
  go_enter Try.func16, Try.ntmps16
  go_wp2
  go_loop [4, 9] (fun s i => ∃ k : Nat, k ≤ zs.length ∧ i = .int .i64 k ∧ ∃ t : Int, s = .int .i64 t ∧ 0 ≤ t ∧ t ≤ 64 ∧ Hid (totTo zs 0 = totTo (zs.drop k) t)) (fun _ i => zs.length - (intOf i).toNat)
  case atStart => exact ⟨0, Nat.zero_le _, rfl, 0, rfl, by omega, by omega, hide (by simp)⟩
  case round =>
    obtain ⟨k, hk, rfl, t, rfl, ht0, ht1, hinv⟩ := hrel
    by_cases hlt : k < zs.length
    · have hcell := hc k hlt
      have Hd : Hid (zs.drop k = zs.getD k 0 :: zs.drop (k + 1)) := hide (drop_cons zs k (by omega))
      generalize zs.getD k 0 = z at *
      by_cases hz1 : z < 1
      · go_wp2
        go_ret2
        have hfin : totTo zs 0 = none := by rw [unhide hinv, unhide Hd]; simp [totTo, hz1]
        refine ⟨?_, rfl⟩
        rw [hfin]; rfl
      · by_cases hz2 : 64 - t < z
        · go_wp2
          go_ret2
          have hfin : totTo zs 0 = none := by rw [unhide hinv, unhide Hd]; simp [totTo, hz2]
          refine ⟨?_, rfl⟩
          rw [hfin]; rfl
        · go_wp2
          go_round
          case rel => exact ⟨k + 1, by omega, by go_num, t + z, rfl, by omega, by omega, hide (by rw [unhide hinv, unhide Hd]; simp [totTo, hz1, hz2])⟩
          case measure => simp [intOf]; omega
    · have hfin : totTo zs 0 = some t := by rw [unhide hinv, List.drop_of_length_le (by omega)]; rfl
      have Hfin := hide hfin
      clear hfin
      go_wp2
      go_ret2
      refine ⟨?_, rfl⟩
      rw [unhide Hfin]
      rfl

set_option maxHeartbeats 400000 in
theorem total_nil (a : Option Addr) (c : Nat) (w : World) :
    Calls Try.prog 16 #[.slice a 0 c] w fun e w' => e = .returned (.tuple #[.int .u64 ((totTo [] 0).getD 0), .bool (totTo [] 0).isSome]) ∧ w' = w := by
  go_enter Try.func16, Try.ntmps16
  go_wp2
  refine wp_loop_rounds 1 ?_; rw [rounds_succ]
  go_wp2
  go_ret2
  exact ⟨rfl, rfl⟩
theorem total_any (v : Value) (zs : List Int) (w : World) (hr : Row .i64 w v zs) :
    Calls Try.prog 16 #[v] w fun e w' => e = .returned (.tuple #[.int .u64 ((totTo zs 0).getD 0), .bool (totTo zs 0).isSome]) ∧ w' = w := by
  rcases hr with ⟨a, c, rfl, _, rfl⟩ | ⟨b, off, c, rfl, hl, hm, hc⟩
  · exact total_nil a c w
  · exact total_some b off c zs w (by omega) hc
end Go.Proofs.Ytlecflgapaahgab
