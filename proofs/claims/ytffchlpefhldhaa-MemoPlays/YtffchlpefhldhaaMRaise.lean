/- 'm[k] += x': the entry fetched, and stored. -/
import Derived.Test.YtffchlpefhldhaaMOwn
namespace Go.Proofs.Ytffchlpefhldhaa
open Go.RowKit Go.Maps Go.WideElems Go.ChangeMaps Go.WideMaps
set_option linter.unusedVariables false

theorem run_raise_any {P : Program} {w : World} {t k e : TypeId} {b n : Nat} {C : DataW Unit} (K : KeyLaw P k) (ht : P.underlying t = some (.map k e)) (he : P.underlying e = some (.int .i64)) (hz : ∀ u : World, (zeroValue e).run P u = .ok (.int .i64 0) u)
    (ho : w.ownsMap P k (plainElem P e) b n C) (hn : n < maxLen) {key : Value} {q : Lit} (hkey : keyOf P k key = some q) {c x : Int} (hc : C.atKey q (.lit (.int .i64 0)) = .lit (.int .i64 c)) (wx : (Lit.int .i64 x).wf = true) (hq : WideAt.IsKeyLit q) :
    ∃ (st : Nat) (w2 w4 : World), (Instr.mapEntry t (.map (some b)) key).run P w = .ok (.tuple #[.int .i64 c, .int .i64 st]) w2 ∧
      (Instr.lookup t (.map (some b)) key false).run P w = .ok (.int .i64 c) w ∧
      (Instr.lookup t (.map (some b)) key false).run P w2 = .ok (.int .i64 c) w2 ∧
      (Instr.entryStore t (.map (some b)) (.int .i64 st) (.int .i64 x)).run P w2 = .ok () w4 ∧
      w.grownBy w2 (some b) ∧ w.grownBy w4 (some b) ∧ w4.ownsMap P k (plainElem P e) b (n + 1) (C.put q (.lit (.int .i64 x))) := by
  have KK := Keyed.of_law K
  have hw0 : (Lit.int .i64 0).wf = true := by decide
  obtain ⟨c', hl, hc', _⟩ := ho.lookup_int KK ht he (hz w) hkey
  have ec : c' = c := by rw [hc] at hc'; cases hc'; rfl
  subst ec
  obtain ⟨wu, hu, hou, _⟩ := ho.update KK ht hn hkey (plainElem_int he wx)
  obtain ⟨wz, huz, houz, _⟩ := ho.update KK ht hn hkey (plainElem_int (H := Unit) he hw0)
  have ho' := ho
  obtain ⟨es, clock, hb, F, hs, hC⟩ := ho
  obtain ⟨v0, st, es1, clock1, hE, hv, hS⟩ := entry_then_store K ht hz hb F hkey
  obtain ⟨es', clock', hst, hup⟩ := hS (setBlock w b (.map es1 clock1)) (.int .i64 x) (heap_setBlock_same hb _)
  have ewu : wu = setBlock w b (.map es' clock') := by rw [hup] at hu; cases hu; rfl
  subst ewu
  have g2 : w.grownBy (setBlock w b (.map es1 clock1)) (some b) := ⟨rfl, rfl, rfl, by simp [setBlock], fun i _ hi => heap_setBlock_other hb _ (fun e => hi (by rw [e]))⟩
  have hb2 := heap_setBlock_same hb (.map es1 clock1)
  have g4 : w.grownBy (setBlock (setBlock w b (.map es1 clock1)) b (.map es' clock')) (some b) :=
    ⟨rfl, rfl, rfl, by simp [setBlock], fun i hi hne => (heap_setBlock_other hb2 _ (fun e => hne (by rw [e]))).trans (heap_setBlock_other hb _ (fun e => hne (by rw [e])))⟩
  have o4 : (setBlock (setBlock w b (.map es1 clock1)) b (.map es' clock')).ownsMap P k (plainElem P e) b (n + 1) (C.put q (.lit (.int .i64 x))) := by
    obtain ⟨es0, clock0, hb0, r⟩ := hou
    have h1 := heap_setBlock_same hb (.map es' clock')
    rw [h1] at hb0
    cases hb0
    exact ⟨_, _, heap_setBlock_same hb2 _, r⟩
  rcases K.find w hkey es.toList F.keys with ⟨h1, h2⟩ | ⟨j, e0, h1, h2, h3⟩
  · have hE' : (Instr.mapEntry t (.map (some b)) key).run P w = .ok (.tuple #[.int .i64 0, goInt clock]) (setBlock w b (.map (es.push ⟨key, .int .i64 0, clock⟩) (clock + 1))) := by
      simp [Instr.mapEntry, run_underlying ht, MapKept.run_getObj_map hb, K.check w false hkey, h1, hz, MapKept.run_setObj_map _ hb, Result.andThen, setBlock]
    have hU' : (Instr.mapUpdate t (.map (some b)) key (.int .i64 0)).run P w = .ok () (setBlock w b (.map (es.push ⟨key, .int .i64 0, clock⟩) (clock + 1))) := by
      simp [Instr.mapUpdate, run_underlying ht, MapKept.run_getObj_map hb, K.check w false hkey, h1, MapKept.run_setObj_map _ hb, Result.andThen, setBlock]
    have hL' : (Instr.lookup t (.map (some b)) key false).run P w = .ok (.int .i64 0) w := by
      simp [Instr.lookup, run_underlying ht, MapKept.run_getObj_map hb, K.check w _ hkey, h1, hz, Result.andThen]
    rw [hl] at hL'
    have e0 : c' = 0 := by cases hL'; rfl
    subst e0
    rw [hE] at hE'
    have e1 : v0 = .int .i64 0 := by simp at hE'; exact hE'.1.1
    have e2 : setBlock w b (.map es1 clock1) = setBlock w b (.map (es.push ⟨key, .int .i64 0, clock⟩) (clock + 1)) := by simp only [Result.ok.injEq] at hE'; exact hE'.2
    subst e1
    have e3 : wz = setBlock w b (.map es1 clock1) := by rw [hU'] at huz; rw [e2]; cases huz; rfl
    subst e3
    obtain ⟨c2, hl2, hc2, _⟩ := houz.lookup_int KK ht he (hz _) hkey
    have e4 : c2 = 0 := by rw [Maps.atKey_put_same ⟨_, hC⟩ hq] at hc2; cases hc2; rfl
    subst e4
    exact ⟨st, _, _, hE, hl, hl2, hst, g2, g4, o4⟩
  · have hj : es[j]? = some e0 := by simpa using h2
    have hL' : (Instr.lookup t (.map (some b)) key false).run P w = .ok e0.val w := by
      simp [Instr.lookup, run_underlying ht, MapKept.run_getObj_map hb, K.check w _ hkey, h1, Result.andThen]
    have hsame : es.modify j (fun e => { e with key := key }) = es := by
      apply Array.ext'
      rw [Array.toList_modify, modify_eq_set _ _ _ _ h2]
      have : ({ e0 with key := key } : MapEntry) = e0 := by rw [← h3]
      rw [this]
      exact set_self _ _ _ h2
    have hE' : (Instr.mapEntry t (.map (some b)) key).run P w = .ok (.tuple #[e0.val, goInt e0.born]) (setBlock w b (.map es clock)) := by
      simp [Instr.mapEntry, run_underlying ht, MapKept.run_getObj_map hb, K.check w false hkey, h1, hj, h3, K.stays w hkey, hsame, MapKept.run_setObj_map _ hb, Result.andThen, setBlock]
    rw [hl] at hL'
    have ev : e0.val = .int .i64 c' := by simp at hL'; exact hL'.symm
    rw [hE] at hE'
    have e1 : v0 = .int .i64 c' := by simp at hE'; rw [hE'.1.1, ev]
    have e2 : setBlock w b (.map es1 clock1) = setBlock w b (.map es clock) := by simp only [Result.ok.injEq] at hE'; exact hE'.2
    subst e1
    have o2 : (setBlock w b (.map es1 clock1)).ownsMap P k (plainElem P e) b n C := by rw [e2]; exact ⟨es, clock, heap_setBlock_same hb _, F, hs, hC⟩
    obtain ⟨c2, hl2, hc2, _⟩ := o2.lookup_int KK ht he (hz _) hkey
    have e4 : c2 = c' := by rw [hc] at hc2; cases hc2; rfl
    subst e4
    exact ⟨st, _, _, hE, hl, hl2, hst, g2, g4, o4⟩
end Go.Proofs.Ytffchlpefhldhaa
