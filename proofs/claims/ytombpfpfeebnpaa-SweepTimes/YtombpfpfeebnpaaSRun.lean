/- A search: the state between its rounds; closures that tell whether it goes on. -/
import Derived.Test.YtombpfpfeebnpaaSSmall
import Derived.Test.YtombpfpfeebnpaaGTurn
import Derived.Shelf.Abstract
namespace Go.Proofs.Ytombpfpfeebnpaa
open Go.RowKit Go.Maps
set_option linter.unusedVariables false
set_option linter.unusedSimpArgs false
set_option maxRecDepth 100000

/-- arcs by which one goes on: along them, against them -/
def goesF (l : List Ar) : Goes := fun u t x => (u, t, x) ∈ l
def goesB (l : List Ar) : Goes := fun u t x => (t, u, x) ∈ l
theorem fairF {n : Nat} {l : List Ar} (h : BoundedN (n : Int) l) : Fair n (goesF l) := fun u t x hx => by
  have := h.2.2.2 _ hx; unfold okA at this; simp only at this; omega
theorem fairB {n : Nat} {l : List Ar} (h : BoundedN (n : Int) l) : Fair n (goesB l) := fun u t x hx => by
  have := h.2.2.2 _ hx; unfold okA at this; simp only at this; omega
theorem ends_iff {ke : Ar → Int} {N : Nat} {l : List Ar} (h : BoundedN (N : Int) l) {v : Int} {a : Ar} : a ∈ ends ke l N v ↔ a ∈ l ∧ ke a = v := by
  unfold ends
  rw [List.mem_filter, (both_perm h).mem_iff, decide_eq_true_eq]

/-- a block of a kind that a heap has none of -/
def Other (w : World) (j : Nat) : Prop := ∃ cur e, w.heap[j]? = some (.cells cur e (0, 0)) ∧ e ≠ 99 ∧ e ≠ 71 ∧ e ≠ 21
/-- a block of a list of nodes that are near -/
def NearBlk (w : World) (j : Nat) : Prop := ∃ cur, w.heap[j]? = some (.cells cur 38 (0, 0))
theorem NearBlk.other {w : World} {j : Nat} (h : NearBlk w j) : Other w j := by
  obtain ⟨cur, h⟩ := h
  exact ⟨cur, _, h, by decide, by decide, by decide⟩
theorem Other.lt {w : World} {j : Nat} (h : Other w j) : j < w.heap.size := by
  obtain ⟨cur, e, h, _⟩ := h
  exact (Array.getElem?_eq_some_iff.1 h).1
theorem HAt.pure {F : Nat → Prop} {w : World} {B n : Nat} {T : List It} (h : HAt w B n F T) : HAt w B n (fun j => F j ∧ ¬ Other w j) T := by
  obtain ⟨tv, pv, P, a, b, c, d⟩ := h
  refine ⟨tv, pv, P, a, b, c, fun j hj => ⟨d j hj, ?_⟩⟩
  rintro ⟨cur, e, hk, h1, h2, h3⟩
  rcases hj with rfl | hj | hj
  · rw [a.obj] at hk; simp at hk; exact h1 hk.2.symm
  · exact a.t.neObj hk (fun e => h2 e.symm) j hj rfl
  · exact a.p.neObj hk (fun e => h3 e.symm) j hj rfl
theorem HAt.min {F : Nat → Prop} {w : World} {B n : Nat} {T : List It} (h : HAt w B n F T) (h0 : T ≠ []) : ∃ x, IsMin T x := by
  obtain ⟨tv, pv, P, a, b, c, d⟩ := h
  cases T with
  | nil => exact absurd rfl h0
  | cons x T2 => exact ⟨x, by simp, b.first (x := x) rfl⟩

/-- a function that is told of each node that is taken, and tells whether more are wanted -/
structure MoreOK (f : Nat) (caps : Array Value) (s0 : Nat) (MB : Nat → Prop) (M : List It → World → Prop) (go : It → Bool) : Prop where
  ent : Enters Try.prog f
  call : ∀ (R : List It) (w : World) (x : It), M R w → s0 ≤ w.heap.size → R.length ≤ 4194304 → x.1 < 4194304 → Calls Try.prog f (#[itV x] ++ caps) w fun e w' => e = .returned (.bool (go x)) ∧ Turn (fun j => MB j ∨ (s0 ≤ j ∧ NearBlk w j)) w w' ∧ M (if go x then R ++ [x] else R) w'
  turn : ∀ (R : List It) (w w' : World) (G : Nat → Prop), M R w → Turn G w w' → (∀ j, G j → s0 ≤ j ∧ ¬ NearBlk w j) → M R w'

/-- a search between two of its rounds -/
structure RI (s0 S db n H G : Nat) (av ev : Value) (MB xb : Nat → Prop) (l : List Ar) (M : List It → World → Prop) (E : Goes) (s : Int) (w : World) (L : List Int) (T R : List It) (Dn : Goes) : Prop where
  sr : SrAt w S av ev db n (.pointer (some ⟨H, 0, none⟩)) L
  hp : HAt w H n (fun j => s0 ≤ j ∧ ¬ xb j) T
  gr : GraphAt w G (fun j => j < s0 ∧ ¬ MB j) n l
  mo : M R w
  dj : Dij n E s L T R Dn
variable {s0 S db n H G : Nat} {av ev : Value} {MB xb : Nat → Prop} {l : List Ar} {M : List It → World → Prop} {E : Goes} {s : Int} {w w' : World} {L : List Int} {T R : List It} {Dn : Goes} {f : Nat} {caps : Array Value} {go : It → Bool}

theorem SrAt.other {hv : Value} (h : SrAt w S av ev db n hv L) : Other w S ∧ Other w db := by
  obtain ⟨cur, h2⟩ := h.2.obj
  exact ⟨⟨_, _, h.1, by decide, by decide, by decide⟩, ⟨_, _, h2, by decide, by decide, by decide⟩⟩
theorem SrAt.far {hv : Value} (h : SrAt w S av ev db n hv L) : ¬ NearBlk w S ∧ ¬ NearBlk w db := by
  obtain ⟨cur, h2⟩ := h.2.obj
  refine ⟨?_, ?_⟩
  · rintro ⟨c, hc⟩; rw [h.1] at hc; simp at hc
  · rintro ⟨c, hc⟩; rw [h2] at hc; simp at hc
theorem RI.quiet (h : RI s0 S db n H G av ev MB xb l M E s w L T R Dn) (hM : MoreOK f caps s0 MB M go) (t : Turn (fun _ => False) w w') : RI s0 S db n H G av ev MB xb l M E s w' L T R Dn :=
  ⟨h.sr.turn t (fun h => h) (fun h => h), h.hp.quiet t, h.gr.quiet t, hM.turn _ _ _ _ h.mo t (fun _ h => h.elim), h.dj⟩
/-- a heap's own blocks -/
abbrev HB (s0 : Nat) (xb : Nat → Prop) (w : World) : Nat → Prop := fun j => (s0 ≤ j ∧ ¬ xb j) ∧ ¬ Other w j
theorem HB.new {j : Nat} (h0 : s0 ≤ w.heap.size) (hx : ∀ j, xb j → j < w.heap.size) (hj : w.heap.size ≤ j) : HB s0 xb w j :=
  ⟨⟨by omega, fun h => by have := hx j h; omega⟩, fun h => by have := h.lt; omega⟩
/-- the heap alone turned -/
theorem RI.heap (h : RI s0 S db n H G av ev MB xb l M E s w L T R Dn) (hM : MoreOK f caps s0 MB M go) (t : Turn (HB s0 xb w) w w') {T' R' : List It} {Dn' : Goes} (hp : HAt w' H n (HB s0 xb w) T') (hd : Dij n E s L T' R' Dn') :
    SrAt w' S av ev db n (.pointer (some ⟨H, 0, none⟩)) L ∧ HAt w' H n (fun j => s0 ≤ j ∧ ¬ xb j) T' ∧ GraphAt w' G (fun j => j < s0 ∧ ¬ MB j) n l ∧ M R w' := by
  refine ⟨h.sr.turn t (fun q => q.2 h.sr.other.1) (fun q => q.2 h.sr.other.2), hp.mono (fun j q => q.1), h.gr.turn t (fun j q r => by have := r.1.1; omega), hM.turn _ _ _ _ h.mo t (fun j q => ⟨q.1.1, fun r => q.2 r.other⟩)⟩
/-- a node was taken, and lies in a box -/
theorem RI.popped {x : It} {T' : List It} (h : RI s0 S db n H G av ev MB (fun _ => False) l M E s w L T R E) (hM : MoreOK f caps s0 MB M go) (hs : s0 ≤ w.heap.size) (hx : IsMin T x) (t : Turn (HB s0 (fun _ => False) w) w w') (hp : HAt w' H n (HB s0 (fun _ => False) w) T') (hl : Less T T' x.1) (o : Obj) :
    RI s0 S db n H G av ev MB (fun j => j = w'.heap.size) l (fun _ => M R) E s (w'.alloc o) L T' (R ++ [x]) (fun u t y => E u t y ∧ u ≠ x.1) := by
  have hd := h.dj.pop hx.1 hx.2 hl.2
  obtain ⟨r1, r2, r3, r4⟩ := h.heap hM t hp hd
  have ta := (Turn.refl (fun _ => False) w').alloc o
  refine ⟨r1.turn ta (fun h => h) (fun h => h), (r2.old.quiet ta).mono (fun j q => ⟨q.1.1, fun e => ?_⟩), r3.quiet ta, hM.turn _ _ _ _ r4 ta (fun _ q => q.elim), hd⟩
  have := q.2
  omega
/-- .. and was told -/
theorem RI.told_sr {M' : List It → World → Prop} (h : RI s0 S db n H G av ev MB xb l M' E s w L T R Dn) (hs : s0 ≤ S) (hd : s0 ≤ db) (hMB : ∀ j, MB j → j < s0) (t : Turn (fun j => MB j ∨ (s0 ≤ j ∧ NearBlk w j)) w w') : SrAt w' S av ev db n (.pointer (some ⟨H, 0, none⟩)) L := by
  refine h.sr.turn t ?_ ?_
  · rintro (q | q)
    · have := hMB _ q; omega
    · exact h.sr.far.1 q.2
  · rintro (q | q)
    · have := hMB _ q; omega
    · exact h.sr.far.2 q.2
theorem RI.told {R' : List It} (h : RI s0 S db n H G av ev MB xb l (fun _ => M R') E s w L T R Dn) (hs : s0 ≤ S) (hd : s0 ≤ db) (hMB : ∀ j, MB j → j < s0) (t : Turn (fun j => MB j ∨ (s0 ≤ j ∧ NearBlk w j)) w w') (m : M R w') :
    RI s0 S db n H G av ev MB xb l M E s w' L T R Dn := by
  refine ⟨h.sr.turn t ?_ ?_, (h.hp.pure.turn t ?_).mono (fun j q => q.1), h.gr.turn t ?_, m, h.dj⟩
  · rintro (q | q)
    · have := hMB _ q; omega
    · exact h.sr.far.1 q.2
  · rintro (q | q)
    · have := hMB _ q; omega
    · exact h.sr.far.2 q.2
  · rintro j q (r | r)
    · have := hMB _ r; have := q.1.1; omega
    · exact q.2 r.2.other
  · rintro j q (r | r)
    · exact q.2 r
    · have := q.1; omega
/-- what seeing leaves -/
theorem RI.seen {T' : List It} {L' : List Int} {Dm : Goes} (h : RI s0 S db n H G av ev MB xb l M E s w L T R Dn) (hM : MoreOK f caps s0 MB M go) (hdb : s0 ≤ db) (t : Turn (fun j => HB s0 xb w j ∨ j = db) w w') (hS : SrAt w' S av ev db n (.pointer (some ⟨H, 0, none⟩)) L') (hp : HAt w' H n (HB s0 xb w) T') (hd : Dij n E s L' T' R Dm) :
    RI s0 S db n H G av ev MB xb l M E s w' L' T' R Dm := by
  refine ⟨hS, hp.mono (fun j q => q.1), h.gr.turn t ?_, hM.turn _ _ _ _ h.mo t ?_, hd⟩
  · rintro j q (r | r)
    · have := r.1.1; have := q.1; omega
    · have := q.1; omega
  · rintro j (r | r)
    · exact ⟨r.1.1, fun q => r.2 q.other⟩
    · subst r; exact ⟨hdb, h.sr.far.2⟩
/-- no taken node is farther than the last one -/
theorem Dij.max {x : It} {n : Nat} {E : Goes} {s : Int} {L : List Int} {T R : List It} {Dn : Goes} (h : Dij n E s L T (R ++ [x]) Dn) : ∀ y ∈ R ++ [x], y.2 ≤ x.2 := by
  intro y hy
  rcases List.mem_append.1 hy with hy | hy
  · have := (List.pairwise_append.1 h.sort).2.2 y hy x (by simp)
    unfold bef at this
    omega
  · rw [List.mem_singleton] at hy; subst hy; exact Int.le_refl _
theorem Dij.see_in {x : It} {n : Nat} {E : Goes} {s : Int} {L : List Int} {T R : List It} {Dn : Goes} (h : Dij n E s L T (R ++ [x]) Dn) {t : Nat} {d old : Int} (hold : L[t]? = some old) (hd : x.2 ≤ d) (h1 : d < old) (h2 : old < INF) : (t, old) ∈ T :=
  (h.heap (t, old)).2 ⟨hold, h2, fun hc => by have := h.max _ hc; simp only at this; omega⟩
theorem Dij.see_out {n : Nat} {E : Goes} {s : Int} {L : List Int} {T R : List It} {Dn : Goes} (h : Dij n E s L T R Dn) {t : Nat} {old : Int} (hold : L[t]? = some old) (h1 : INF ≤ old) : ∀ r : Int, (t, r) ∉ T := by
  intro r hc
  have := (h.heap _).1 hc
  simp only at this
  rw [hold] at this
  have h2 : old = r := by simpa using this.1
  have := this.2.1
  omega
/-- the arcs that were gone along, some of the last node's among them -/
def DnK (E : Goes) (id : Nat) (ko : Ar → Int) (A : List Ar) (k : Nat) : Goes := fun u t y => (E u t y ∧ u ≠ id) ∨ (u = id ∧ ∃ a ∈ A.take k, ko a = t ∧ a.2.2 = y)
theorem RI.arc {x : It} {A : List Ar} {ko : Ar → Int} {k t : Nat} {a : Ar} {old d : Int} (h : RI s0 S db n H G av ev MB xb l M E s w L T (R ++ [x]) (DnK E x.1 ko A k)) (hM : MoreOK f caps s0 MB M go) (hE : Fair n E) (hdb : s0 ≤ db) (hk : A[k]? = some a) (ht : ko a = t) (hA : E x.1 t a.2.2) (hold : L[t]? = some old) (hd : d = min (x.2 + a.2.2) INF) (tt : Turn (fun j => HB s0 xb w j ∨ j = db) w w')
    (hsee : ((¬ (d < old ∧ d < INF) ∧ SrAt w' S av ev db n (.pointer (some ⟨H, 0, none⟩)) L ∧ HAt w' H n (HB s0 xb w) T) ∨
       (d < old ∧ d < INF ∧ SrAt w' S av ev db n (.pointer (some ⟨H, 0, none⟩)) (L.set t d) ∧ ∃ T', HAt w' H n (HB s0 xb w) T' ∧ ∀ u, u ∈ T' ↔ u = (t, d) ∨ u ∈ T ∧ u.1 ≠ t))) :
    ∃ L' T', RI s0 S db n H G av ev MB xb l M E s w' L' T' (R ++ [x]) (DnK E x.1 ko A (k + 1)) := by
  have hdn : ∀ u t' y, DnK E x.1 ko A (k + 1) u t' y → (DnK E x.1 ko A k u t' y ∨ (u = x.1 ∧ t' = t ∧ y = a.2.2)) := by
    rintro u t' y (q | ⟨q1, b, q2, q3, q4⟩)
    · exact .inl (.inl q)
    · rw [List.take_add_one, hk] at q2
      rcases List.mem_append.1 q2 with q2 | q2
      · exact .inl (.inr ⟨q1, b, q2, q3, q4⟩)
      · simp at q2
        subst q2
        exact .inr ⟨q1, by rw [← q3, ht], q4.symm⟩
  have ho := (h.dj.rng _ _ hold).2
  rcases hsee with ⟨h1, h2, h3⟩ | ⟨h1, h2, h3, T', h4, h5⟩
  · refine ⟨L, T, h.seen hM hdb tt h2 h3 ((h.dj.skip (x := x) (t := t) (w := a.2.2) (by simp) hold ?_).dn hdn)⟩
    rw [← hd]
    intro hc
    exact h1 ⟨hc, by omega⟩
  · have hd2 : d = x.2 + a.2.2 := by omega
    subst hd2
    exact ⟨_, T', h.seen hM hdb tt h3 h4 ((h.dj.see hE (x := x) (t := t) (w := a.2.2) (by simp) h.dj.max hA hold h1 h5).dn hdn)⟩
/-- all of the last node's were -/
theorem RI.over {x : It} {A : List Ar} {ko : Ar → Int} (h : RI s0 S db n H G av ev MB xb l M E s w L T (R ++ [x]) (DnK E x.1 ko A A.length)) (hA : ∀ t y, E x.1 t y → ∃ a ∈ A, ko a = t ∧ a.2.2 = y) : RI s0 S db n H G av ev MB (fun _ => False) l M E s w L T (R ++ [x]) E :=
  ⟨h.sr, h.hp.mono (fun j q => ⟨q.1, fun r => r⟩), h.gr, h.mo, h.dj.dn (fun u t y hu => by
    by_cases e : u = x.1
    · subst e
      obtain ⟨a, h1, h2⟩ := hA t y hu
      exact .inr ⟨rfl, a, by rw [List.take_length]; exact h1, h2⟩
    · exact .inl ⟨hu, e⟩)⟩
theorem RI.begin {x : It} {A : List Ar} {ko : Ar → Int} (h : RI s0 S db n H G av ev MB xb l M E s w L T (R ++ [x]) (fun u t y => E u t y ∧ u ≠ x.1)) : RI s0 S db n H G av ev MB xb l M E s w L T (R ++ [x]) (DnK E x.1 ko A 0) :=
  ⟨h.sr, h.hp, h.gr, h.mo, h.dj.dn (fun u t y hu => by
    rcases hu with hu | ⟨_, a, h1, _⟩
    · exact hu
    · simp at h1)⟩
set_option maxHeartbeats 1000000 in
theorem end_along (w : World) (f t y : Int) : Calls Try.prog 47 #[.agg #[.int .i64 f, .int .i64 t, .int .i64 y]] w fun e w' => e = .returned (.int .i64 (f, t, y).2.1) ∧ Turn (fun _ => False) w w' := by
  have ta := (Turn.refl (fun _ => False) w).alloc (.cells #[.int .i64 f, .int .i64 t, .int .i64 y] 46)
  go_enter Try.func47, Try.ntmps47
  go_wp2
  go_ret
  exact ⟨rfl, ta⟩
set_option maxHeartbeats 1000000 in
theorem end_To (w : World) (f t y : Int) : Calls Try.prog 32 #[.agg #[.int .i64 f, .int .i64 t, .int .i64 y]] w fun e w' => e = .returned (.int .i64 (f, t, y).1) ∧ Turn (fun _ => False) w w' := by
  have ta := (Turn.refl (fun _ => False) w).alloc (.cells #[.int .i64 f, .int .i64 t, .int .i64 y] 46)
  go_enter Try.func32, Try.ntmps32
  go_wp2
  go_ret
  exact ⟨rfl, ta⟩
theorem not_hb {w : World} {s0 db j : Nat} {xb : Nat → Prop} (h : Other w j) (hd : j ≠ db) : ¬ (HB s0 xb w j ∨ j = db) := fun q => q.elim (fun q => q.2 h) hd
/-- seeing what an arc leads to -/
theorem RI.see {x : It} {f : Nat} {caps : Array Value} {go : It → Bool} {s0 S db n H G : Nat} {av ev : Value} {MB xb : Nat → Prop} {l : List Ar} {M : List It → World → Prop} {E : Goes} {s : Int} {w : World} {L : List Int} {T R : List It} {A : List Ar} {ko : Ar → Int} {k t : Nat} {a : Ar} {old d v : Int} (h : RI s0 S db n H G av ev MB xb l M E s w L T (R ++ [x]) (DnK E x.1 ko A k)) (hM : MoreOK f caps s0 MB M go) (hE : Fair n E) (hdb : s0 ≤ db) (hs0 : s0 ≤ w.heap.size) (hxb : ∀ j, xb j → j < w.heap.size) (hk : A[k]? = some a) (ht : ko a = t) (hv : v = t) (hA : E x.1 v a.2.2) (hold : L[t]? = some old) (hd : d = min (x.2 + a.2.2) INF) :
    Calls Try.prog 49 #[.pointer (some ⟨S, 0, none⟩), .int .i64 v, .int .i64 d] w fun e w' => e = .returned (.tuple #[]) ∧ Turn (fun j => HB s0 xb w j ∨ j = db) w w' ∧ ∃ L' T', Hid (RI s0 S db n H G av ev MB xb l M E s w' L' T' (R ++ [x]) (DnK E x.1 ko A (k + 1))) := by
  subst hv
  have hb := hE _ _ _ hA
  have hx := h.dj.rng _ _ (h.dj.took x (by simp)).1
  have htl := (List.getElem?_eq_some_iff.1 hold).1
  rw [h.dj.len] at htl
  refine (see_walk h.sr h.hp.pure (fun j hj => HB.new hs0 hxb hj) (fun q => q.2 h.sr.other.1) (fun q => q.2 h.sr.other.2) t d old htl hold (h.dj.see_in hold (by have := hx.2; omega)) (h.dj.see_out hold)).mono ?_
  rintro e w' ⟨rfl, t1, h2⟩
  obtain ⟨L', T', h3⟩ := h.arc hM hE hdb hk ht hA hold hd t1 h2
  exact ⟨rfl, t1, L', T', hide h3⟩
theorem seen_all {wr W w7 w9 : World} {s0 S db n H xb ab : Nat} {av ev y : Value} {L : List Int} {A : List Ar} {id rk f t v : Int} (h1 : Hid (SrAt wr S av ev db n (.pointer (some ⟨H, 0, none⟩)) L ∧ OA wr y A ∧ wr.heap[xb]? = some (.cells #[.int .i64 id, .int .i64 rk] 71 (0, 0)))) (h2 : Hid (Turn (fun _ => False) wr W ∧ W.heap[ab]? = some (.cells #[.int .i64 f, .int .i64 t, .int .i64 v] 46 (0, 0))))
    (t7 : Turn (fun _ => False) W.drew w7) (t9 : Turn (fun j => HB s0 (fun j => j = xb) w7 j ∨ j = db) w7 w9) :
    (w9.cell? ⟨S, 1, none⟩ = some ev ∧ w9.cell? ⟨ab, 0, none⟩ = some (.int .i64 f) ∧ w9.cell? ⟨ab, 1, none⟩ = some (.int .i64 t) ∧ w9.cell? ⟨ab, 2, none⟩ = some (.int .i64 v) ∧ w9.cell? ⟨xb, 1, none⟩ = some (.int .i64 rk)) ∧
    w9.heap[xb]? = some (.cells #[.int .i64 id, .int .i64 rk] 71 (0, 0)) ∧ OA w9 y A := by
  obtain ⟨hs, ho, hx⟩ := h1
  obtain ⟨tw, ha⟩ := h2
  have t17 : Turn (fun _ => False) wr w7 := (tw.drew).then t7
  have hs7 := hs.turn t17 (fun h => h) (fun h => h)
  have ho7 := ho.turn t17 (fun _ _ h => h)
  have hx7 := t17.same hx (fun h => h)
  have ha7 := (((Turn.refl (fun _ => False) W).drew).then t7).same ha (fun h => h)
  obtain ⟨cd, hd7⟩ := hs7.2.obj
  have hxd : xb ≠ db := by rintro rfl; rw [hx7] at hd7; simp at hd7
  have had : ab ≠ db := by rintro rfl; rw [ha7] at hd7; simp at hd7
  have hsd : S ≠ db := by rintro rfl; rw [hs7.1] at hd7; simp at hd7
  have hs9 := t9.same hs7.1 (not_hb hs7.other.1 hsd)
  have hx9 := t9.same hx7 (fun q => q.elim (fun q => q.1.2 rfl) hxd)
  have ha9 := t9.same ha7 (not_hb ⟨_, _, ha7, by decide, by decide, by decide⟩ had)
  refine ⟨⟨cell_obj hs9 1, cell_obj ha9 0, cell_obj ha9 1, cell_obj ha9 2, cell_obj hx9 1⟩, hx9, ho7.turn t9 (fun k hk => ?_)⟩
  obtain ⟨cur, hc⟩ := OwnSl.lt ho7 k hk
  exact not_hb ⟨_, _, hc, by decide, by decide, by decide⟩ (by rintro rfl; rw [hc] at hd7; simp at hd7)
end Go.Proofs.Ytombpfpfeebnpaa
