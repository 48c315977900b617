/- A record's frame behind those that are there. -/
import Derived.Test.YthikiahhochjmaaGreatDoorJBegin
namespace Go.Proofs.YthikiahhochjmaaGreatDoor
open Go.RowKit Go.Maps
set_option linter.unusedVariables false
set_option linter.unusedSimpArgs false

theorem fullX_nil {X : Jn} (h : X.segs = []) : fullX X = true := by unfold fullX; rw [h]; rfl
theorem fullX_snoc {X : Jn} {l : List Sg} {s : Sg} (h : X.segs = l ++ [s]) : fullX X = decide (X.most ≤ s.recs.length) := by unfold fullX; rw [h]; simp
theorem moreX_snoc {X : Jn} {l : List Sg} {s : Sg} (h : X.segs = l ++ [s]) (b : List Int) : moreX X b = { X with segs := l ++ [⟨s.first, s.recs ++ [b]⟩] } := by unfold moreX; rw [h]; simp

set_option maxRecDepth 100000 in
set_option maxHeartbeats 4000000 in
theorem lay_j (w : World) (H Bk : Nat → Prop) (J D : Nat) (X : Jn) (S : Dk) (pv rv : Value) (b : List Int) (h : JAt w H J D X S) (fit : Fit X) (hp : Row .u8 Bk w pv (packB b)) (hBk : ∀ j, Bk j → ¬ H j)
    (hr : OwnSl w 5 1 rv b.length (b.map (Value.int .u8))) (hrH : ∀ j, rv.ownBlock = some j → ¬ H j) (hnx : nextOf X.segs < 100) :
    Calls Tryz.prog 39 #[.pointer (some ⟨J, 0, none⟩), pv, rv] w fun e w' => e = .returned (.int .i64 (layJ X S b).1) ∧ Turn H w w' ∧ JAt w' (Plus (NF w H) w rv) J D (layJ X S b).2.1 (layJ X S b).2.2 := by
  have hbegin := begin_j
  have h0 := h
  obtain ⟨F, G, sv, E, d, m, hn, hF, hG⟩ := h
  obtain ⟨ra, rc, hrv⟩ := hr.form
  subst hrv
  have hp := hp.lt
  obtain ⟨pa, pc, hpv⟩ := hp.slice
  subst hpv
  have c0 : w.cell? ⟨J, 0, none⟩ = some (.pointer (some ⟨D, 0, none⟩)) := cell_obj m.obj 0
  have hdn := Down_walk w D F S d
  have hplus : ∀ j, H j → j < w.heap.size → Plus (NF w H) w (.slice ra b.length rc) j := fun j hj _ => .inl (.inl hj)
  by_cases hd : S.down = true
  · have ej : layJ X S b = (3, X, S) := by unfold layJ; rw [if_pos hd]
    have Hej := hide ej
    rw [hd] at hdn
    have h1 := h0.mono hplus
    clear ej hd hp hr d m h0 hbegin
    generalize (packB b).length = pl at *
    go_enter Tryz.func39, Tryz.ntmps39
    go_wp2_with (go_at_call 10; refine hdn.mono ?_; rintro y w1 ⟨rfl, hw⟩; have hw := hw.symm; subst hw)
    go_ret
    rw [unhide Hej]
    exact ⟨rfl, Turn.refl _ _, h1⟩
  · have hd' : S.down = false := by simpa using hd
    obtain ⟨hE, hEl⟩ := fit.wide m.segs
    have hnext := Next_walk w G J D sv E X m hE hEl
    rw [hd'] at hdn
    have hN4 : ¬ 4294967296 ≤ nextOf X.segs := by omega
    have ej : layJ X S b = if fullX X then beginJ X S b else (appendC S (nameS (lastF X.segs)) (packB b), if appendC S (nameS (lastF X.segs)) (packB b) = 0 then moreX X b else X, appendS S (nameS (lastF X.segs)) (packB b)) := by
      unfold layJ; rw [if_neg hd, if_neg hN4]
    have hmost : X.most ≤ 1000 := fit.most
    rcases segs_cases E with hE0 | ⟨E', e, hE0⟩
    · have hX0 : X.segs = [] := by rw [m.segs, hE0]; rfl
      rw [if_pos (fullX_nil hX0)] at ej
      have Hej := hide ej
      subst hE0
      have c2 : w.cell? ⟨J, 2, none⟩ = some sv := cell_obj m.obj 2
      obtain ⟨sa, sc, hsv⟩ := m.seg.slice
      subst hsv
      have hnN : nextOf X.segs = 0 := by rw [hX0]; rfl
      rw [hnN] at hnext
      clear ej d m hE hEl hN4 hd hd'
      go_enter Tryz.func39, Tryz.ntmps39
      go_wp2_with (first | (go_at_call 10; refine hdn.mono ?_; rintro y w1 ⟨rfl, hw⟩; have hw := hw.symm; subst hw) | (go_at_call 25; refine hnext.mono ?_; rintro y w1 ⟨rfl, t1⟩; have c2' := t1.cell c2 id; have s1 := t1.size))
      go_quiet (fail)
      have t1d : Turn (fun _ => False) w (w1.drewN nq) := t1.drewN nq
      have hbk2 : ∀ j, Bk j ∧ j < w.heap.size → ¬ (fun j => H j ∧ j < w.heap.size) j := fun j hj hh => hBk j hj.1 hh.1
      have hb := hbegin (w1.drewN nq) (fun j => H j ∧ j < w.heap.size) _ J D X S _ _ b ((h0.mono (fun j hj hl => ⟨hj, hl⟩)).turn t1d (fun _ _ h => h)) fit (hp.turn t1d (fun _ _ h => h)) hbk2 (hr.turn t1d (fun _ _ h => h)) (fun j hj hh => hrH j hj hh.1) hnx
      clear h0 hp hr hbegin hnext
      generalize w1.drewN nq = W at *
      go_wp2_with (go_at_call 59; refine hb.mono ?_; rintro y w2 ⟨rfl, T2, J2⟩)
      go_ret
      rw [unhide Hej]
      have sz := t1d.size
      exact ⟨rfl, (t1d.mono (fun _ h => h.elim)).trans (T2.mono (fun j hj => hj.1)) (fun j hj => .inl hj), J2.mono (fun j hj hl => by
        rcases hj with hj | hj | hj
        · rcases hj with hj | hj
          · exact .inl (.inl hj.1)
          · exact .inl (.inr (by omega))
        · exact .inr (.inl hj)
        · exact .inl (.inr (by omega)))⟩
    · have hXs : X.segs = E'.map Seg.sg ++ [e.sg] := by rw [m.segs, hE0]; simp
      rw [fullX_snoc hXs] at ej
      subst hE0
      obtain ⟨g, off, cap, hsv, hcap, hgG, q0, q1, qf⟩ := m.seg.at E'.length e (by simp)
      have hre := m.seg.recs e (by simp)
      obtain ⟨va, vc, hv⟩ := hre.slice
      rw [hv] at q1
      have hef := (fit.seg m.segs).1 e (by simp)
      have hlen : (E' ++ [e]).length = E'.length + 1 := by simp
      rw [hlen] at hsv hcap hEl
      have c1 : w.cell? ⟨J, 1, none⟩ = some (.int .i64 (X.most : Int)) := cell_obj m.obj 1
      have c2 : w.cell? ⟨J, 2, none⟩ = some sv := cell_obj m.obj 2
      have e2 : (Seg.sg e).recs = e.recs := rfl
      rw [e2] at ej
      have hmr : X.most ≤ e.recs.length ∨ e.recs.length < X.most := by omega
      by_cases hfull : X.most ≤ e.recs.length
      · rw [if_pos (by simpa using hfull)] at ej
        have Hej := hide ej
        rw [hsv] at c2
        have hfi : (X.most : Int) ≤ (e.recs.length : Int) := by omega
        clear ej d m hE hN4 hd hd' hre hv e2 hXs qf q0 hlen hsv hmr hfull
        generalize e.recs.length = rl at *
        have hz : ((nextOf X.segs : Nat) : Int) < 4294967296 := by omega
        have hz0 : (0 : Int) ≤ ((nextOf X.segs : Nat) : Int) := by omega
        generalize ((nextOf X.segs : Nat) : Int) = zN at hnext hz hz0
        generalize X.most = M at *
        generalize E'.length = n at *
        have hn0 : decide ((n : Int) < 0) = false := by simp
        go_enter Tryz.func39, Tryz.ntmps39
        go_wp2_with (first | (go_at_call 10; refine hdn.mono ?_; rintro y w1 ⟨rfl, hw⟩; have hw := hw.symm; subst hw) | (go_at_call 25; refine hnext.mono ?_; rintro y w1 ⟨rfl, t1⟩; have c2' := t1.cell c2 id; have c1' := t1.cell c1 id; have q1' := t1.cell q1 id; have s1 := t1.size))
        go_quiet (fail)
        have t1d : Turn (fun _ => False) w (w1.drewN nq) := t1.drewN nq
        have hbk2 : ∀ j, Bk j ∧ j < w.heap.size → ¬ (fun j => H j ∧ j < w.heap.size) j := fun j hj hh => hBk j hj.1 hh.1
        have hb := hbegin (w1.drewN nq) (fun j => H j ∧ j < w.heap.size) _ J D X S _ _ b ((h0.mono (fun j hj hl => ⟨hj, hl⟩)).turn t1d (fun _ _ h => h)) fit (hp.turn t1d (fun _ _ h => h)) hbk2 (hr.turn t1d (fun _ _ h => h)) (fun j hj hh => hrH j hj hh.1) hnx
        clear h0 hp hr hbegin hnext c2' c1' q1'
        generalize w1.drewN nq = W at *
        go_wp2_with (go_at_call 59; refine hb.mono ?_; rintro y w2 ⟨rfl, T2, J2⟩)
        go_ret
        rw [unhide Hej]
        have sz := t1d.size
        exact ⟨rfl, (t1d.mono (fun _ h => h.elim)).trans (T2.mono (fun j hj => hj.1)) (fun j hj => .inl hj), J2.mono (fun j hj hl => by
          rcases hj with hj | hj | hj
          · rcases hj with hj | hj
            · exact .inl (.inl hj.1)
            · exact .inl (.inr (by omega))
          · exact .inr (.inl hj)
          · exact .inl (.inr (by omega)))⟩
      · rw [if_neg (by simpa using hfull), hXs, lastF_snoc, moreX_snoc hXs] at ej
        have e1 : (Seg.sg e).first = e.first := rfl
        rw [e1, e2] at ej
        have Hej := hide ej
        have hfi : ¬ (X.most : Int) ≤ (e.recs.length : Int) := by omega
        have hz : ((nextOf X.segs : Nat) : Int) < 4294967296 := by omega
        have hz0 : (0 : Int) ≤ ((nextOf X.segs : Nat) : Int) := by omega
        generalize ((nextOf X.segs : Nat) : Int) = zN at hnext hz hz0
        have hrl : e.recs.length ≤ 1000000 := hef.2
        have hf := hef.1
        rw [hsv] at c2
        clear ej hE hN4 hd hd' e2 e1 hlen hmr hnx
        generalize hfe : e.first = f at *
        generalize hM : X.most = M at *
        have hn0 : decide ((E'.length : Int) < 0) = false := by simp
        go_enter Tryz.func39, Tryz.ntmps39
        go_wp2_with (first | (go_at_call 10; refine hdn.mono ?_; rintro y w1 ⟨rfl, hw⟩; have hw := hw.symm; subst hw) | (go_at_call 25; refine hnext.mono ?_; rintro y w1 ⟨rfl, t1⟩; have c2' := t1.cell c2 id; have c1' := t1.cell c1 id; have q1' := t1.cell q1 id; have s1 := t1.size))
        go_quiet (fail)
        have t1d : Turn (fun _ => False) w (w1.drewN nq) := t1.drewN nq
        have q0d := t1d.cell q0 id
        have q1d := t1d.cell q1 id
        have c0d := t1d.cell c0 id
        have c2d := t1d.cell c2 id
        clear c2' c1' q1' t1 hnext hdn hbegin h0 c1
        generalize w1.drewN nq = W at *
        go_wp2_with fail
        have dW := (d.turn t1d (fun _ _ _ h => h)).turn (F := F) (G := fun _ => False) ((Turn.refl _ _).drew) (fun _ _ _ h => h)
        have mW := (m.turn t1d (fun _ _ h => h)).turn (F := fun _ => False) ((Turn.refl _ _).drew) (fun _ _ h => h)
        have pW := (hp.turn t1d (fun _ _ h => h)).turn (F := fun _ => False) ((Turn.refl _ _).drew) (fun _ _ h => h)
        have rW := (hr.turn t1d (fun _ _ h => h)).turn (F := fun _ => False) ((Turn.refl _ _).drew) (fun _ _ h => h)
        have sW := t1d.size
        have hn1 := name_walk' f hf (.slice va e.recs.length vc) W.drew
        have aJ : W.drew.cell? ⟨J, 0, none⟩ = some (.pointer (some ⟨D, 0, none⟩)) := c0d
        have a0 : W.drew.cell? ⟨g, off + E'.length * 2, none⟩ = some (.int .u64 (f : Int)) := q0d
        have a1 : W.drew.cell? ⟨g, off + E'.length * 2 + 1, none⟩ = some (.slice va e.recs.length vc) := q1d
        have GJ : ¬ F J := fun q => hn J q m.home
        have Gg : ¬ F g := fun q => hn g q hgG
        have hJG := m.home
        clear d m hp hr c0d q0d q1d
        go_region_held3 (fun u => u.cell? ⟨J, 0, none⟩ = some (.pointer (some ⟨D, 0, none⟩)) ∧ u.cell? ⟨g, off + E'.length * 2, none⟩ = some (.int .u64 (f : Int)) ∧ u.cell? ⟨g, off + E'.length * 2 + 1, none⟩ = some (.slice va e.recs.length vc)) (first | exact ⟨aJ, a0, a1⟩ | exact ⟨bJ, b0, b1⟩ | exact ⟨gJ, g0, g1⟩ | go_keep)
          (first
          | (go_at_call 60; refine hn1.mono ?_; rintro y w3 ⟨rfl, t3⟩; have bJ := t3.cell aJ id; have b0 := t3.cell a0 id; have b1 := t3.cell a1 id; have d3 := dW.turn t3 (fun _ _ _ h => h); have p3 := pW.turn t3 (fun _ _ h => h))
          | (go_at_call 23; refine (Append_walk w3 D F _ S (nameB f) _ (packB b) (nameB_len f) d3 p3).mono ?_; rintro y w4 ⟨rfl, t4, d4⟩; have gJ := t4.cell bJ GJ; have g0 := t4.cell b0 Gg; have g1 := t4.cell b1 Gg))
        have s3 : W.heap.size ≤ w3.heap.size := t3.size
        have s4 := t4.size
        have hrb : ∀ j, (Value.slice ra b.length rc).ownBlock = some j → j < W.heap.size ∧ ¬ H j := fun j hj => by
          obtain ⟨cur, hcur⟩ := rW.lt j hj
          exact ⟨(Array.getElem?_eq_some_iff.1 hcur).1, hrH j hj⟩
        have m4 := (mW.turn t3 (fun _ _ h => h)).turn t4 (fun j hg hf => hn j hf hg)
        have r4 := (rW.turn t3 (fun _ _ h => h)).turn t4 (fun k hk hf => hrH k hk (hF k hf).1)
        have d5 : DAt w4 D (fun j => NF w3 F j ∧ j < w4.heap.size) (appendS S (nameB f).data.toList (packB b)) := d4.mono (fun j hj hl => ⟨hj, hl⟩)
        have T4 : Turn H w w4 := ((t1d.drew.then t3).mono (fun _ h => h.elim)).trans t4 (fun j hj => .inl (hF j hj).1)
        have hFG : ∀ j, NF w3 F j ∧ j < w4.heap.size → ¬ G j := by
          rintro j ⟨q | q, _⟩ hg
          · exact hn j q hg
          · have := (hG j hg).2; omega
        have apF : ∀ j, NF w3 F j ∧ j < w4.heap.size → NF w H j := by
          rintro j ⟨hj | hj, _⟩
          · exact .inl (hF j hj).1
          · exact .inr (by omega)
        rw [nameB_list] at *
        clear hn1 mW rW pW p3 d3 d4 aJ a0 a1 bJ b0 b1 dW
        by_cases hc : appendC S (nameS f) (packB b) = 0
        · have ej := unhide Hej
          rw [if_pos hc, hc] at ej
          rw [hc]
          clear hc Hej
          have Hej := hide ej
          clear ej
          generalize appendS S (nameS f) (packB b) = S2 at *
          have tA : Turn (fun _ => False) w4 (w4.alloc (.cells #[.slice ra b.length rc] 33)) := (Turn.refl _ _).alloc _
          have kA := heap_alloc_new w4 (.cells #[.slice ra b.length rc] 33)
          have zA : (w4.alloc (.cells #[.slice ra b.length rc] 33)).heap.size = w4.heap.size + 1 := by simp
          have mA := m4.turn tA (fun _ _ h => h)
          have rA := r4.turn tA (fun _ _ h => h)
          obtain ⟨v', w6, hrun, R6, t6, hl6⟩ := recs_push (mA.seg.recs e (by simp)) rA w4.heap.size kA hrl
          rw [hv] at hrun
          obtain ⟨na, nc, hnv⟩ := R6.slice
          have hnl : (e.recs ++ [b]).length = e.recs.length + 1 := by simp
          rw [hnl] at hnv
          subst hnv
          obtain ⟨S7, f7, t7⟩ := segs_more mA.seg t6 R6 (fun j hj => .inl hj) hl6 hsv
          rw [← Nat.add_assoc] at S7 f7 t7
          have hevG : ∀ k, e.v.ownBlock = some k → G k := fun k hk => ((mA.seg.recs e (by simp)).blk k hk).1
          have hevJ : ¬ e.v.ownBlock = some J := fun he => by
            obtain ⟨_, cur, hc⟩ := (mA.seg.recs e (by simp)).blk J he
            rw [mA.obj] at hc
            simp at hc
          have hgJ : ¬ J = g := fun he => by
            have hsg := mA.seg.own.neObj mA.obj (by decide)
            rw [hsv] at hsg
            exact hsg g rfl he.symm
          have o6 := t6.same mA.obj hevJ
          have o7 := t7.same o6 hgJ
          have m7 : JMem (w6.setCell ⟨g, off + E'.length * 2 + 1, none⟩ (.slice na (e.recs.length + 1) nc)) (Plus G (w4.alloc (.cells #[.slice ra b.length rc] 33)) (.slice ra b.length rc)) J D sv (E' ++ [⟨e.first, .slice na (e.recs.length + 1) nc, e.recs ++ [b]⟩]) { X with segs := E'.map Seg.sg ++ [⟨f, e.recs ++ [b]⟩] } :=
            ⟨o7, .inl hJG, S7, by simp [Seg.sg, hfe]⟩
          have d7 := ((d5.turn tA (fun _ _ _ h => h)).turn t6 (fun j hj _ hs => hFG j hj (hevG j hs))).turn t7 (fun j hj _ hs => hFG j hj (by rw [hs]; exact hgG))
          have T7 := ((T4.then (tA.mono (fun _ h => h.elim))).trans t6 (fun j hj => .inl (hG j (hevG j hj)).1)).trans t7 (fun j hj => by rw [hj]; exact .inl (hG g hgG).1)
          have J7 := jat_mk (H := Plus (NF w H) w (.slice ra b.length rc)) d7 m7 (fun j hj hg hl => by
            rcases hg with hg | hg | hg
            · exact hFG j hj hg
            · rcases hj.1 with q | q
              · exact (hrb j hg).2 (hF j q).1
              · have := (hrb j hg).1; omega
            · rw [zA] at hg
              have := hj.2; omega) (fun j hj hl => .inl (apF j hj)) (fun j hj hl => by
            rcases hj with hj | hj | hj
            · exact .inl (.inl (hG j hj).1)
            · exact .inr (.inl hj)
            · rw [zA] at hj
              exact .inl (.inr (by omega)))
          have q1w : w6.cell? ⟨g, off + E'.length * 2 + 1, none⟩ = some (.slice va e.recs.length vc) := t6.cell (tA.cell g1 id) (fun he => by
            obtain ⟨_, cur, hc⟩ := (mA.seg.recs e (by simp)).blk g he
            have hq := mA.seg.own.lt g (by rw [hsv]; rfl)
            obtain ⟨cur', hc'⟩ := hq
            rw [hc'] at hc
            simp at hc)
          have HT7 := hide T7
          have HJ7 := hide J7
          clear T7 J7 d7 m7 t7 t6 S7 R6 hl6 o6 o7 rA mA kA tA d5 m4 r4 T4 hFG apF hrb
          go_wp2_with (at_builtin; refine list_append_run rfl _ _ 29 rfl _ _ _ _ rfl rfl hrun ?_)
          go_ret
          rw [unhide Hej, ← hM]
          exact ⟨rfl, unhide HT7, unhide HJ7⟩
        · have ej := unhide Hej
          rw [if_neg hc] at ej
          clear Hej
          have hb : (appendC S (nameS f) (packB b) != 0) = true := by simpa using hc
          have fin : JAt w4 (Plus (NF w H) w (.slice ra b.length rc)) J D X (appendS S (nameS f) (packB b)) := jat_mk d5 m4 (fun j hj hg hl => hFG j hj hg) (fun j hj hl => .inl (apF j hj)) (fun j hj hl => .inl (.inl (hG j hj).1))
          clear hc
          have Hej := hide ej
          clear ej
          generalize appendC S (nameS f) (packB b) = y at *
          generalize appendS S (nameS f) (packB b) = S2 at *
          go_wp2
          go_ret
          rw [unhide Hej]
          exact ⟨rfl, T4, fin⟩
end Go.Proofs.YthikiahhochjmaaGreatDoor
