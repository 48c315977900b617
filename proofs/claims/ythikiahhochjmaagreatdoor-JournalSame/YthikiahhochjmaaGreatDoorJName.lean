/- A segment's name; which number a name says. -/
import Derived.Test.YthikiahhochjmaaGreatDoorPack2
import Derived.Test.YthikiahhochjmaaGreatDoorShelf
import Derived.Laws.Concat
namespace Go.Proofs.YthikiahhochjmaaGreatDoor
open Go.RowKit Go.Maps
set_option linter.unusedVariables false
set_option linter.unusedSimpArgs false

def nameB (f : Nat) : ByteArray := ⟨(nameS f).toArray⟩
theorem nameB_list (f : Nat) : (nameB f).data.toList = nameS f := rfl
theorem nameB_size (f : Nat) : (nameB f).size = 11 := by
  show (nameS f).toArray.size = 11
  rw [List.size_toArray, nameS_len]
theorem nameB_len (f : Nat) : (nameB f).size ≤ maxLen := by rw [nameB_size]; unfold maxLen; omega

set_option maxRecDepth 100000 in
set_option maxHeartbeats 1000000 in
theorem format_walk (f : Nat) (hf : f < 100) (w : World) :
    Calls Tryz.prog 75 #[.int .u64 (f : Int), .int .i64 10] w fun e w' => e = .returned (.string ⟨(Lib.decDigits f).toArray⟩) ∧ w' = w := by
  have inner : Calls Tryz.prog 87 #[.int .u64 (f : Int), .int .i64 10] w fun e w' => e = .returned (.string ⟨(Lib.decDigits f).toArray⟩) ∧ w' = w := by
    have hs := Tryz.internal_strconv_small f hf w
    go_enter Tryz.func87, Tryz.ntmps87
    go_wp2_with (go_at_call 109; refine hs.mono ?_; rintro e w' ⟨rfl, rfl⟩)
    go_ret
    exact ⟨rfl, rfl⟩
  go_enter Tryz.func75, Tryz.ntmps75
  go_wp2_with (go_at_call 87; refine inner.mono ?_; rintro e w' ⟨rfl, rfl⟩)
  go_ret
  exact ⟨rfl, rfl⟩

theorem dec_len (f : Nat) (hf : f < 100) : (Lib.decDigits f).length ≤ 2 := (dig_dec 1 f (by omega)).1
theorem name_bytes (f : Nat) (hf : f < 100) : (⟨#[108]⟩ : ByteArray) ++ (⟨(Lib.repeatL [48] (10 - (Lib.decDigits f).length)).toArray⟩ : ByteArray) ++ (⟨(Lib.decDigits f).toArray⟩ : ByteArray) = nameB f := by
  have h := (dig_dec 9 f (by omega)).2
  have : nameB f = ⟨(108 :: (Lib.repeatL [48] (10 - (Lib.decDigits f).length) ++ Lib.decDigits f)).toArray⟩ := by rw [h]; rfl
  rw [this]
  apply ByteArray.ext
  simp [ByteArray.data_append]

set_option maxRecDepth 100000 in
set_option maxHeartbeats 1000000 in
theorem name_walk' (f : Nat) (hf : f < 100) (v : Value) (w : World) :
    Calls Tryz.prog 60 #[.agg #[.int .u64 (f : Int), v]] w fun e w' => e = .returned (.string (nameB f)) ∧ Turn (fun _ => False) w w' := by
  have hb := name_bytes f hf
  have hl := dec_len f hf
  have h1 := fun w => format_walk f hf w
  have h2 := fun w => Tryz.strings_Repeat ⟨#[48]⟩ (10 - (Lib.decDigits f).length) w (by omega) (by show 1 * _ ≤ _; omega)
  have hsz : (⟨(Lib.decDigits f).toArray⟩ : ByteArray).size = (Lib.decDigits f).length := by show (Lib.decDigits f).toArray.size = _; simp
  rw [show (⟨#[48]⟩ : ByteArray).data.toList = [48] from rfl] at h2
  rw [Int.ofNat_sub (by omega)] at h2
  have hrl := Lib.repeatL_length [48] (10 - (Lib.decDigits f).length)
  have c1 : ∀ u : World, (binOp .add 9 (.string ⟨#[108]⟩) (.string ⟨(Lib.repeatL [48] (10 - (Lib.decDigits f).length)).toArray⟩)).run Tryz.prog u = .ok (.string (⟨#[108]⟩ ++ ⟨(Lib.repeatL [48] (10 - (Lib.decDigits f).length)).toArray⟩)) u := fun u => by
    rw [binOp_string_add]
    exact run_string_add _ _ _ (by show ((1 : Nat) : Int) ≤ _; omega) (by rw [ByteArray.size_mk', List.size_toArray, hrl]; simp; omega)
  have c2 : ∀ u : World, (binOp .add 9 (.string (⟨#[108]⟩ ++ ⟨(Lib.repeatL [48] (10 - (Lib.decDigits f).length)).toArray⟩)) (.string ⟨(Lib.decDigits f).toArray⟩)).run Tryz.prog u = .ok (.string (nameB f)) u := fun u => by
    rw [binOp_string_add, ← hb]
    refine run_string_add _ _ _ ?_ ?_
    · rw [ByteArray.size_append, ByteArray.size_mk', ByteArray.size_mk', List.size_toArray, List.size_toArray, hrl]; simp; omega
    · rw [hsz]; omega
  generalize hD : Lib.decDigits f = D at *
  clear hD
  go_enter Tryz.func60, Tryz.ntmps60
  go_wp2_with (first
    | (go_at_call 75; refine (h1 _).mono ?_; rintro e w1 ⟨rfl, rfl⟩)
    | (go_at_call 76; refine (h2 _).mono ?_; rintro e w2 ⟨rfl, t2⟩))
  go_ret
  exact ⟨rfl, (((Turn.refl (fun _ => False) w).alloc _).then (Turn.of_below t2))⟩

/-- what numberOf answers -/
def numR (n : Nm) : Value := .tuple #[.int .u64 (((numOf n).getD 0 : Nat) : Int), .bool (numOf n).isSome]
set_option maxRecDepth 100000 in
set_option maxHeartbeats 1000000 in
theorem number_ok (f : Nat) (hf : f < 10000000000) (w : World) :
    Calls Tryz.prog 65 #[.string (nameB f)] w fun e w' => e = .returned (numR (nameS f)) ∧ Turn (fun _ => False) w w' := by
  have h1 := Tryz.strings_TrimPrefix (nameB f) ⟨#[108]⟩ w
  rw [show Lib.trimPrefix (nameB f).data.toList (⟨#[108]⟩ : ByteArray).data.toList = dig f 10 from trim_nameS f] at h1
  have hR : numR (nameS f) = .tuple #[.int .u64 (f : Int), .bool true] := by unfold numR; rw [num_nameS f hf]; rfl
  rw [hR]
  have hsz : (⟨(dig f 10).toArray⟩ : ByteArray).size = 10 := by show (dig f 10).toArray.size = _; rw [List.size_toArray, dig_len]
  have h2 := Tryz.strconv_ParseUint_10_at64_ok ⟨(dig f 10).toArray⟩ (by rw [hsz]; omega) f (parse_nameS f hf) w
  clear hR
  generalize (⟨(dig f 10).toArray⟩ : ByteArray) = b at *
  go_enter Tryz.func65, Tryz.ntmps65
  go_wp2_with (first
    | (go_at_call 81; refine h1.mono ?_; rintro e w1 ⟨rfl, hw⟩; have hw := hw.symm; subst hw)
    | (go_at_call 82; refine h2.mono ?_; rintro e w2 ⟨rfl, hw2⟩))
  have t2 : Turn (fun _ => False) w w2 := by
    rcases hw2 with rfl | rfl
    · exact Turn.refl _ _
    · exact Turn.of_below (Lib.bytesWorld_below w _ _)
  clear hw2
  go_quiet (fail)
  go_wp2
  go_ret2
  exact ⟨rfl, t2.drewN _⟩

theorem none_len {n : Nm} (h : (trimL n).length ≠ 10) : numR n = .tuple #[.int .u64 0, .bool false] := by
  unfold numR numOf
  rw [if_pos h]; rfl
set_option maxRecDepth 100000 in
set_option maxHeartbeats 1000000 in
theorem number_len (s : ByteArray) (h : (trimL s.data.toList).length ≠ 10) (hs : s.size ≤ maxLen) (w : World) :
    Calls Tryz.prog 65 #[.string s] w fun e w' => e = .returned (numR s.data.toList) ∧ Turn (fun _ => False) w w' := by
  have h1 := Tryz.strings_TrimPrefix s ⟨#[108]⟩ w
  rw [none_len h]
  have hsz : (⟨(trimL s.data.toList).toArray⟩ : ByteArray).size = (trimL s.data.toList).length := by show (trimL s.data.toList).toArray.size = _; rw [List.size_toArray]
  rw [show Lib.trimPrefix s.data.toList (⟨#[108]⟩ : ByteArray).data.toList = trimL s.data.toList from rfl] at h1
  rw [← hsz] at h
  clear hsz hs
  generalize (⟨(trimL s.data.toList).toArray⟩ : ByteArray) = b at *
  go_enter Tryz.func65, Tryz.ntmps65
  go_wp2_with (go_at_call 81; refine h1.mono ?_; rintro e w1 ⟨rfl, hw⟩; have hw := hw.symm; subst hw)
  go_ret2
  exact ⟨rfl, Turn.refl _ _⟩
set_option maxRecDepth 100000 in
set_option maxHeartbeats 1000000 in
/-- ten signs that are no number: what the library's error says of it lies in a variable -/
theorem number_bad (s : ByteArray) (h : (trimL s.data.toList).length = 10) (hp : Lib.parseUintB 64 (trimL s.data.toList) = .«syntax») (ev : Value) (w : World) (hv : w.cell? ⟨1, 0, none⟩ = some ev) (hev : ev = .nilIface ∨ ∃ te pe, ev = .iface te pe) :
    Calls Tryz.prog 65 #[.string s] w fun e w' => e = .returned (numR s.data.toList) ∧ Turn (fun _ => False) w w' := by
  have h1 := Tryz.strings_TrimPrefix s ⟨#[108]⟩ w
  have hR : numR s.data.toList = .tuple #[.int .u64 0, .bool false] := by
    unfold numR numOf
    rw [if_neg (by omega), hp]; rfl
  rw [hR]
  have hsz : (⟨(trimL s.data.toList).toArray⟩ : ByteArray).size = 10 := by show (trimL s.data.toList).toArray.size = _; rw [List.size_toArray]; exact h
  rw [show Lib.trimPrefix s.data.toList (⟨#[108]⟩ : ByteArray).data.toList = trimL s.data.toList from rfl] at h1
  have h2 := Tryz.strconv_ParseUint_10_at64_syntax ⟨(trimL s.data.toList).toArray⟩ (by rw [hsz]; omega) hp ev w hv hev
  clear hR h hp
  generalize (⟨(trimL s.data.toList).toArray⟩ : ByteArray) = b at *
  go_enter Tryz.func65, Tryz.ntmps65
  go_wp2_with (first
    | (go_at_call 81; refine h1.mono ?_; rintro e w1 ⟨rfl, hw⟩; have hw := hw.symm; subst hw)
    | (go_at_call 82; refine h2.mono ?_; rintro e w2 ⟨N, rfl, _, _, t2⟩))
  clear h2
  go_quiet (fail)
  go_wp2
  go_ret2
  exact ⟨rfl, (Turn.of_below t2).drewN _⟩
set_option maxHeartbeats 400000 in
theorem prefix_walk (s : ByteArray) (w : World) : Calls Tryz.prog 66 #[.string s, .string ⟨#[108]⟩] w fun e w' => e = .returned (.bool (markB s.data.toList)) ∧ w' = w := Tryz.strings_HasPrefix s ⟨#[108]⟩ w
end Go.Proofs.YthikiahhochjmaaGreatDoor
