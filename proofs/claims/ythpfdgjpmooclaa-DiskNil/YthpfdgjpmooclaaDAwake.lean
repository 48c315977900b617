/- awake. -/
import Derived.Test.YthpfdgjpmooclaaDCalls
import Derived.Lib.SlBytesConst
import Derived.Laws.BytesArg
namespace Go.Proofs.Ythpfdgjpmooclaa
open Go.RowKit Go.Maps
set_option linter.unusedVariables false

theorem row_marked (w : World) (zs : List Int) (e : TypeId) (fr : Nat × Nat) (hm : zs.length ≤ maxLen) : Row .u8 any (w.alloc (.cells ((zs.map (Value.int .u8)).toArray) e fr)) (.slice (some ⟨w.heap.size, 0, none⟩) zs.length zs.length) zs := by
  refine .inr ⟨w.heap.size, 0, zs.length, rfl, Nat.le_refl _, hm, trivial, fun i hi => ?_⟩
  rw [World.cell?_alloc_mark, Nat.zero_add]
  simp [hi]

theorem wf_i64 {a : Int} (h : (Lit.int .i64 a).wf = true) : -9223372036854775808 ≤ a ∧ a ≤ 9223372036854775807 := by
  simp [Lit.wf, IntKind.min, IntKind.max, IntKind.signed, IntKind.bits] at h
  omega
theorem DAt.base {w w' : World} {B b : Nat} {S : Dk} (h : DAt w' B (NF w (fun j => b ≤ j)) S) (hb : b ≤ w.heap.size) : DAt w' B (fun j => b ≤ j) S :=
  h.mono (fun j hj _ => by rcases hj with hj | hj; exact hj; exact Nat.le_trans hb hj)
theorem Turn.fresh {w w' : World} {b : Nat} (h : Turn (fun j => b ≤ j) w w') (hb : w.heap.size ≤ b) : Turn (fun _ => False) w w' :=
  ⟨h.os, h.tape, h.output, h.size, fun k hk _ => h.block k hk (by omega)⟩

def awS1 : Dk := ⟨1000, [⟨[97], [120, 121, 122], 0⟩], false, 0⟩
def awS2 : Dk := ⟨1000, [⟨[97], [120, 121, 122], 3⟩], false, 0⟩
theorem aw1 : appendC (newS 1000) [97] [120, 121, 122] = 0 ∧ appendS (newS 1000) [97] [120, 121, 122] = awS1 := ⟨by rfl, by rfl⟩
theorem aw2 : syncC awS1 [97] = 0 ∧ syncS awS1 [97] = awS2 := ⟨by rfl, by rfl⟩
theorem aw3 : readC awS2 [97] = 0 ∧ readD awS2 [97] = [120, 121, 122] ∧ used awS2.fs = 3 := ⟨by rfl, by rfl, by rfl⟩

def nA : ByteArray := ⟨#[97]⟩
theorem nA_len : (⟨#[97]⟩ : ByteArray).size ≤ maxLen := by decide

set_option maxRecDepth 100000 in
set_option maxHeartbeats 1000000 in
theorem awake_walk (w : World) :
    Calls Try.prog 9 #[] w fun e w' => e = .returned (.bool true) ∧ Turn (fun _ => False) w w' := by
  have kc := fun (w : World) (C : Array Value) (n c : Nat) => Lib.run_convert_bytes_const (P := Try.prog) w 32 5 C n c Try.underlying32 Try.underlying5
  have hnew := New_walk 1000 w (by decide) (by decide)
  go_enter Try.func9, Try.ntmps9
  go_wp2_with (go_at_call 8; refine hnew.mono ?_; rintro e w1 ⟨rfl, t1, d1⟩)
  have hr1 := row_marked w1 [120, 121, 122] 5 (3, 4) (by decide)
  have tA : Turn (fun _ => False) w1 (w1.alloc (.cells #[.int .u8 120, .int .u8 121, .int .u8 122] 5 (3, 4))) := (Turn.refl _ w1).alloc _
  have h1 := Append_walk _ w.heap.size _ _ _ ⟨#[97]⟩ _ _ nA_len (d1.turn tA (fun _ _ _ => id)) hr1
  rw [show (⟨#[97]⟩ : ByteArray).data.toList = [97] from rfl, aw1.1, aw1.2] at h1
  refine h1.mono ?_
  rintro x w2 ⟨rfl, t2, d2⟩
  have s1 := t1.size
  have sA := tA.size
  have d2 := d2.base (by omega)
  have h2 := Sync_walk w2 w.heap.size _ _ ⟨#[97]⟩ nA_len d2
  rw [show (⟨#[97]⟩ : ByteArray).data.toList = [97] from rfl, aw2.1, aw2.2] at h2
  have s2 := t2.size
  go_wp2_with (go_at_call 25; refine h2.mono ?_; rintro x w3 ⟨rfl, t3, d3⟩)
  have d3 := d3.base (by omega)
  have h3 := Read_walk w3 w.heap.size _ _ ⟨#[97]⟩ nA_len d3
  rw [show (⟨#[97]⟩ : ByteArray).data.toList = [97] from rfl, aw3.1, aw3.2.1] at h3
  refine h3.mono ?_
  rintro x w4 ⟨v, rfl, o4, b4, t4⟩
  have d4 := d3.turn t4 (fun _ _ _ => id)
  have h4 := Used_walk w4 w.heap.size _ _ d4
  rw [aw3.2.2] at h4
  obtain ⟨p4, c4, hv4⟩ := o4.form
  subst hv4
  have tt : Turn (fun _ => False) w w4 := by
    have a1 : Turn (fun j => w.heap.size ≤ j) w w4 := ((((t1.then tA).mono (fun _ h => h.elim)).then t2).then t3).then (t4.mono (fun _ h => h.elim))
    exact a1.fresh (Nat.le_refl _)
  have hcv : (convert 32 9 (.slice p4 3 c4)).run Try.prog w4 = .ok (.string ⟨#[120, 121, 122]⟩) w4 := by
    have hrow := row_of_sl (ys := [120, 121, 122]) o4
    rcases hrow with ⟨_, _, _, _, _, h0⟩ | ⟨b, o, cc, he, _, _, _, h4⟩
    · cases h0
    · simp at he
      obtain ⟨he1, he2⟩ := he
      rw [he1, he2]
      have := run_convert_bytes_arg w4 32 5 Try.underlying32 Try.underlying5 b o 3 cc [120, 121, 122] rfl h4 9 Try.underlying9
      rw [show strOfNums [120, 121, 122] = (⟨#[120, 121, 122]⟩ : ByteArray) by decide +kernel] at this
      exact this
  clear h1 h2 h3 hnew hr1
  go_wp2_with (go_at_call 15; refine h4.mono ?_; rintro x w5 ⟨rfl, t5⟩)
  go_ret
  exact ⟨rfl, tt.then t5⟩
end Go.Proofs.Ythpfdgjpmooclaa
