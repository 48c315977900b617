/- DiskNil: a nil disk. -/
import Derived.Test.YthpfdgjpmooclaaDAwake
namespace Go.Proofs.Ythpfdgjpmooclaa
open Go.RowKit Go.Maps
set_option linter.unusedVariables false

set_option maxHeartbeats 1000000 in
theorem find_nil (w : World) (s : ByteArray) :
    Calls Try.prog 50 #[.pointer none, .string s] w fun e w' => e = .returned (.tuple #[.agg #[.slice none 0 0, .int .i64 0], .int .i64 2]) ∧ Turn (fun _ => False) w w' := by
  go_enter Try.func50, Try.ntmps50
  go_wp2
  exact bodyPost_ret (v := .tuple #[.agg #[.slice none 0 0, .int .i64 0], .int .i64 2]) (by simp [results, Try.results50, go_sem]) rfl ⟨rfl, (Turn.refl _ _).alloc _⟩
set_option maxHeartbeats 1000000 in
theorem read_nil (w : World) (s : ByteArray) : Calls Try.prog 22 #[.pointer none, .string s] w fun e w' => e = .returned (.tuple #[.slice none 0 0, .int .i64 2]) ∧ Turn (fun _ => False) w w' := by
  go_enter Try.func22, Try.ntmps22
  go_wp2_with (go_at_call 50; refine (find_nil _ _).mono ?_; rintro e w1 ⟨rfl, t1⟩)
  go_ret2
  exact ⟨rfl, t1.alloc _⟩
set_option maxHeartbeats 1000000 in
theorem Sync_nil (w : World) (s : ByteArray) : Calls Try.prog 25 #[.pointer none, .string s] w fun e w' => e = .returned (.int .i64 2) ∧ Turn (fun _ => False) w w' := by
  go_enter Try.func25, Try.ntmps25
  go_wp2_with (go_at_call 50; refine (find_nil _ _).mono ?_; rintro e w1 ⟨rfl, t1⟩)
  go_ret
  exact ⟨rfl, t1.alloc _⟩
set_option maxHeartbeats 1000000 in
theorem Remove_nil (w : World) (s : ByteArray) : Calls Try.prog 29 #[.pointer none, .string s] w fun e w' => e = .returned (.int .i64 2) ∧ Turn (fun _ => False) w w' := by
  go_enter Try.func29, Try.ntmps29
  go_wp2_with (go_at_call 50; refine (find_nil _ _).mono ?_; rintro e w1 ⟨rfl, t1⟩)
  go_ret
  exact ⟨rfl, t1.alloc _⟩
set_option maxHeartbeats 1000000 in
theorem Cut_nil (w : World) (s : ByteArray) (n : Int) : Calls Try.prog 28 #[.pointer none, .string s, .int .i64 n] w fun e w' => e = .returned (.int .i64 2) ∧ Turn (fun _ => False) w w' := by
  go_enter Try.func28, Try.ntmps28
  go_wp2_with (go_at_call 50; refine (find_nil _ _).mono ?_; rintro e w1 ⟨rfl, t1⟩)
  go_ret
  exact ⟨rfl, t1.alloc _⟩

set_option maxRecDepth 100000 in
set_option maxHeartbeats 4000000 in
theorem nil_walk (w : World) (s : ByteArray) (bv : Value) (n : Int) (kv : Value) :
    Calls Try.prog 6 #[.string s, bv, .int .i64 n, kv] w fun e w' => e = .returned (.bool true) ∧ Turn (fun _ => False) w w' := by
  go_enter Try.func6, Try.ntmps6
  go_wp2_with (first
    | (go_at_call 9; refine (awake_walk _).mono ?_; rintro e w2 ⟨rfl, t2⟩)
    | (go_at_call 22; refine (read_nil _ _).mono ?_; rintro e w1 ⟨rfl, t1⟩)
    | (go_at_call 25; refine (Sync_nil _ _).mono ?_; rintro e w3 ⟨rfl, t3⟩)
    | (go_at_call 28; refine (Cut_nil _ _ _).mono ?_; rintro e w4 ⟨rfl, t4⟩)
    | (go_at_call 29; refine (Remove_nil _ _).mono ?_; rintro e w5 ⟨rfl, t5⟩)
    | go_in)
  go_ret
  exact ⟨rfl, (((t1.then t2).then t3).then t4).then t5⟩
theorem DiskNil_law (w : World) (s : ByteArray) (hs : s.size ≤ maxLen) (bv : Value) (zs : List Int) (hr : Row .u8 any w bv zs) (hwf : ∀ n ∈ zs, (Lit.int .u8 n).wf = true) (hz : zs.length * 1 ≤ 140737488351232) (n : Int) (hn : (Lit.int .i64 n).wf = true)
    (kv : Value) (ks : List Int) (hk : Row .i64 any w kv ks) (hkwf : ∀ n ∈ ks, (Lit.int .i64 n).wf = true) (hkz : ks.length * 8 ≤ 140737488351232) :
    Calls Try.prog 6 #[.string s, bv, .int .i64 n, kv] w fun e w' => e = .returned (.bool true) ∧ Below w.heap.size w w' :=
  (nil_walk w s bv n kv).mono (fun e w' h => ⟨h.1, h.2.bel⟩)
end Go.Proofs.Ythpfdgjpmooclaa
