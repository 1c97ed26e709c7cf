import Derived.Test.YtmfoenhbldacfaaQat
/- The records of a heap, plainly. -/
namespace Go.Proofs.Ytmfoenhbldacfaa
open Go.RowKit
set_option linter.unusedVariables false
set_option linter.unusedSimpArgs false

/-- Each record has a place and each full place a record, but for record x, if any. -/
structure HW (H : Hs) (x : Option Int) : Prop where
  ln : ∀ id n s, (id, (n, s)) ∈ H.P → some id ≠ x → ∃ g R, (n, (g, R)) ∈ H.G ∧ rc R s ≠ []
  on : ∀ id id' n s, (id, (n, s)) ∈ H.P → (id', (n, s)) ∈ H.P → some id ≠ x → some id' ≠ x → id = id'
  al : ∀ n g R s, (n, (g, R)) ∈ H.G → rc R s ≠ [] → ∃ id, (id, (n, s)) ∈ H.P ∧ some id ≠ x
def rcd (H : Hs) (id : Int) : Option (List Int) := (lk H.P id).bind fun p => (lk H.G p.1).map fun q => rc q.2 p.2
theorem rcd_at {H : Hs} {id n : Int} {s g : Nat} {R : Rc} (kp : (ks H.P).Nodup) (kg : (ks H.G).Nodup) (h1 : (id, (n, s)) ∈ H.P) (h2 : (n, (g, R)) ∈ H.G) : rcd H id = some (rc R s) := by
  unfold rcd
  rw [mem_lk kp h1, Option.bind_some, mem_lk kg h2]
  rfl
theorem rcd_none {H : Hs} {id : Int} (h : lk H.P id = none) : rcd H id = none := by unfold rcd; rw [h]; rfl
theorem HW.rcd_key {H : Hs} (h : HW H none) (kp : (ks H.P).Nodup) (kg : (ks H.G).Nodup) (id : Int) : id ∈ ks H.P ↔ rcd H id ≠ none := by
  constructor
  · intro hk
    obtain ⟨⟨n, s⟩, e⟩ := lk_key.1 hk
    obtain ⟨g, R, h1, h2⟩ := h.ln id n s (lk_mem e) (by simp)
    rw [rcd_at kp kg (lk_mem e) h1]
    simp
  · intro hr
    exact Classical.byContradiction fun hk => hr (rcd_none (lk_none.2 hk))
theorem HW.rcd_ne {H : Hs} (h : HW H none) (kp : (ks H.P).Nodup) (kg : (ks H.G).Nodup) {id : Int} {b : List Int} (e : rcd H id = some b) : b ≠ [] := by
  have hk := (h.rcd_key kp kg id).2 (by rw [e]; simp)
  obtain ⟨⟨n, s⟩, e1⟩ := lk_key.1 hk
  obtain ⟨g, R, h1, h2⟩ := h.ln id n s (lk_mem e1) (by simp)
  rw [rcd_at kp kg (lk_mem e1) h1] at e
  cases e
  exact h2
theorem pages_few {H : Hs} (hp : HP H none) (h : HW H none) (kg : (ks H.G).Nodup) : H.G.length ≤ H.P.length := by
  have := nodup_le kg (b := H.P.map (·.2.1)) (fun n hn => by
    obtain ⟨⟨g, R⟩, e⟩ := lk_key.1 hn
    have e1 := lk_mem e
    have hne := hp.ne _ _ _ e1 (by simp)
    rcases hp.tm _ _ _ e1 with h0 | h0
    · exact absurd (List.eq_nil_of_length_eq_zero h0) hne
    · obtain ⟨id, h1, _⟩ := h.al _ _ _ _ e1 h0
      exact List.mem_map.2 ⟨_, h1, rfl⟩)
  rw [ks_len, List.length_map] at this
  exact this
theorem rc_set_ne (R : Rc) {s t : Nat} (h : t ≠ s) (b : List Int) : rc (R.set s b) t = rc R t := by simp [rc, List.getElem?_set_ne (Ne.symm h)]
theorem rc_set_nil (R : Rc) (s : Nat) : rc (R.set s []) s = [] := by
  by_cases h : s < R.length
  · simp [rc, h]
  · simp [rc, h]
theorem rc_cut (R : Rc) (s t : Nat) : rc (trimR (R.set s [])) t = if t = s then [] else rc R t := by
  rw [trimR_rc]
  by_cases h : t = s
  · rw [if_pos h, h, rc_set_nil]
  · rw [if_neg h, rc_set_ne R h]
theorem tm_rec {R : Rc} (hT : Tm R) {t : Nat} (h : rc R t ≠ []) : R ≠ [] := by
  rintro rfl
  exact h (rc_out (Nat.zero_le _))
theorem mem_chG {G : List (Int × (Nat × Rc))} (kg : (ks G).Nodup) {n : Int} {g : Nat} {R' : Rc} {m : Int} {g' : Nat} {R'' : Rc} : (m, (g', R'')) ∈ chG G n g R' ↔ (R' ≠ [] ∧ m = n ∧ g' = g ∧ R'' = R') ∨ ((m, (g', R'')) ∈ G ∧ m ≠ n) := by
  have ku := up_nodup kg n (g, R')
  unfold chG
  by_cases e : R' = []
  · rw [if_pos e, mem_dl ku, mem_up kg]
    constructor
    · rintro ⟨h1 | h1, h2⟩
      · cases h1; exact absurd rfl h2
      · exact .inr h1
    · rintro (h1 | h1)
      · exact absurd e h1.1
      · exact ⟨.inr h1, h1.2⟩
  · rw [if_neg e, mem_up kg]
    constructor
    · rintro (h1 | h1)
      · cases h1; exact .inl ⟨e, rfl, rfl, rfl⟩
      · exact .inr h1
    · rintro (⟨_, rfl, rfl, rfl⟩ | h1)
      · exact .inl rfl
      · exact .inr h1
theorem chG_nodup {G : List (Int × (Nat × Rc))} (kg : (ks G).Nodup) (n : Int) (g : Nat) (R' : Rc) : (ks (chG G n g R')).Nodup := by
  unfold chG
  split
  · exact dl_nodup (up_nodup kg _ _) _
  · exact up_nodup kg _ _
/-- A record out of its page: the others stand. -/
theorem HW.cut {H : Hs} (h : HW H none) (kp : (ks H.P).Nodup) (kg : (ks H.G).Nodup) {id n : Int} {s g : Nat} {R : Rc} (h1 : (id, (n, s)) ∈ H.P) (h2 : (n, (g, R)) ∈ H.G) {H' : Hs} (eP : H'.P = H.P) (eG : H'.G = chG H.G n g (trimR (R.set s []))) :
    HW H' (some id) ∧ ∀ j, j ≠ id → rcd H' j = rcd H j := by
  have hT : Tm (trimR (R.set s [])) := trimR_tm _
  have hone : ∀ s', (id, (n, s')) ∈ H.P → s' = s := fun s' e => by
    have := mem_lk kp e
    rw [mem_lk kp h1] at this
    cases this
    rfl
  have hpl : ∀ j m t, (j, (m, t)) ∈ H.P → j ≠ id → ∃ g' R', (m, (g', R')) ∈ H'.G ∧ rc R' t ≠ [] ∧ ∃ R'', (m, (g', R'')) ∈ H.G ∧ rc R' t = rc R'' t := fun j m t e hj => by
    obtain ⟨g', R', e1, e2⟩ := h.ln j m t e (by simp)
    by_cases hm : m = n
    · subst hm
      have := mem_lk kg e1
      rw [mem_lk kg h2] at this
      cases this
      have ht : t ≠ s := fun e3 => by subst e3; exact hj (h.on j id _ _ e h1 (by simp) (by simp))
      have e3 : rc (trimR (R.set s [])) t = rc R t := by rw [rc_cut, if_neg ht]
      refine ⟨g, trimR (R.set s []), by rw [eG, mem_chG kg]; exact .inl ⟨tm_rec hT (t := t) (by rw [e3]; exact e2), rfl, rfl, rfl⟩, by rw [e3]; exact e2, R, h2, e3⟩
    · exact ⟨g', R', by rw [eG, mem_chG kg]; exact .inr ⟨e1, hm⟩, e2, R', e1, rfl⟩
  refine ⟨⟨fun j m t e hj => ?_, fun j j' m t e e' _ _ => ?_, fun m g' R' t e e2 => ?_⟩, fun j hj => ?_⟩
  · rw [eP] at e
    obtain ⟨g', R', e1, e2, _⟩ := hpl j m t e (fun e3 => hj (by rw [e3]))
    exact ⟨g', R', e1, e2⟩
  · rw [eP] at e e'
    exact h.on j j' m t e e' (by simp) (by simp)
  · rw [eG, mem_chG kg] at e
    rw [eP]
    rcases e with ⟨_, rfl, rfl, rfl⟩ | ⟨e, hm⟩
    · have ht : t ≠ s := fun e3 => by subst e3; rw [rc_cut, if_pos rfl] at e2; exact e2 rfl
      rw [rc_cut, if_neg ht] at e2
      obtain ⟨j, e3, _⟩ := h.al _ _ _ _ h2 e2
      refine ⟨j, e3, fun e4 => ht ?_⟩
      cases e4
      exact hone t e3
    · obtain ⟨j, e3, _⟩ := h.al _ _ _ _ e e2
      refine ⟨j, e3, fun e4 => hm ?_⟩
      cases e4
      have := mem_lk kp e3
      rw [mem_lk kp h1] at this
      cases this
      rfl
  · cases e : lk H.P j with
    | none => rw [rcd_none e, rcd_none (by rw [eP]; exact e)]
    | some p =>
      obtain ⟨m, t⟩ := p
      obtain ⟨g', R', e1, e2, R'', e3, e4⟩ := hpl j m t (lk_mem e) hj
      rw [rcd_at kp kg (lk_mem e) e3, rcd_at (H := H') (by rw [eP]; exact kp) (by rw [eG]; exact chG_nodup kg _ _ _) (by rw [eP]; exact lk_mem e) e1, e4]
/-- .. and out of the map. -/
theorem HW.out {H : Hs} {id : Int} (h : HW H (some id)) (kp : (ks H.P).Nodup) {H' : Hs} (eP : H'.P = dl H.P id) (eG : H'.G = H.G) : HW H' none ∧ ∀ j, rcd H' j = if j = id then none else rcd H j := by
  refine ⟨⟨fun j m t e _ => ?_, fun j j' m t e e' _ _ => ?_, fun m g R t e e2 => ?_⟩, fun j => ?_⟩
  · rw [eP, mem_dl kp] at e
    rw [eG]
    exact h.ln j m t e.1 (fun e3 => e.2 (Option.some.inj e3))
  · rw [eP, mem_dl kp] at e e'
    exact h.on j j' m t e.1 e'.1 (fun e3 => e.2 (Option.some.inj e3)) (fun e3 => e'.2 (Option.some.inj e3))
  · rw [eG] at e
    obtain ⟨j, e3, e4⟩ := h.al m g R t e e2
    exact ⟨j, by rw [eP, mem_dl kp]; exact ⟨e3, fun e5 => e4 (by rw [← e5])⟩, by simp⟩
  · unfold rcd
    rw [eP, eG, lk_dl id kp]
    by_cases e : j = id
    · rw [if_pos e, if_pos e]; rfl
    · rw [if_neg e, if_neg e]
/-- What has no such record. -/
theorem HW.fresh {H : Hs} {id : Int} (h : HW H none) (hk : id ∉ ks H.P) : HW H (some id) :=
  ⟨fun j m t e _ => h.ln j m t e (by simp), fun j j' m t e e' _ _ => h.on j j' m t e e' (by simp) (by simp), fun m g R t e e2 => by
    obtain ⟨j, e3, _⟩ := h.al m g R t e e2
    exact ⟨j, e3, fun e4 => hk (by cases e4; exact mem_key e3)⟩⟩
/-- A record into a page with room. -/
theorem HW.lay {H H' : Hs} {id : Int} {b : List Int} (h : HW H (some id)) (kp : (ks H.P).Nodup) (kg : (ks H.G).Nodup) (kg' : (ks H'.G).Nodup) (hb : b ≠ []) (hl : Lay H H' id b) : HW H' none ∧ ∀ j, rcd H' j = if j = id then some b else rcd H j := by
  obtain ⟨n, g, R, eP, eG, hold, -, -, -⟩ := hl
  have hv := vac_le R
  have hs := setR_same hv b
  have hG : ∀ m g' R'', (m, (g', R'')) ∈ H'.G ↔ (m = n ∧ g' = g ∧ R'' = setR R (vac R) b) ∨ ((m, (g', R'')) ∈ H.G ∧ m ≠ n) := fun m g' R'' => by
    constructor
    · intro e
      have e1 := mem_lk kg' e
      rw [eG] at e1
      by_cases hm : m = n
      · rw [if_pos hm] at e1; cases e1; exact .inl ⟨hm, rfl, rfl⟩
      · rw [if_neg hm] at e1; exact .inr ⟨lk_mem e1, hm⟩
    · intro e
      apply lk_mem
      rw [eG]
      rcases e with ⟨rfl, rfl, rfl⟩ | ⟨e, hm⟩
      · rw [if_pos rfl]
      · rw [if_neg hm]; exact mem_lk kg e
  have hP : ∀ j m t, (j, (m, t)) ∈ H'.P ↔ (j = id ∧ m = n ∧ t = vac R) ∨ ((j, (m, t)) ∈ H.P ∧ j ≠ id) := fun j m t => by
    rw [eP, mem_up kp]
    simp only [Prod.mk.injEq]
  -- what was in that page
  have hpg : ∀ t, rc R t ≠ [] → (n, (g, R)) ∈ H.G := fun t ht => by
    rcases hold with e | ⟨_, rfl⟩
    · exact lk_mem e
    · exact absurd (rc_out (Nat.zero_le _)) ht
  have hno : ∀ j, (j, (n, vac R)) ∈ H.P → j ≠ id → False := fun j e hj => by
    obtain ⟨g', R', e1, e2⟩ := h.ln j n (vac R) e (fun e3 => hj (Option.some.inj e3))
    rcases hold with e3 | ⟨e3, _⟩
    · have := mem_lk kg e1
      rw [e3] at this
      cases this
      exact e2 (vac_out R)
    · exact lk_none.1 e3 (mem_key e1)
  have hpl : ∀ j m t, (j, (m, t)) ∈ H.P → j ≠ id → ∃ g' R', (m, (g', R')) ∈ H'.G ∧ rc R' t ≠ [] ∧ ∃ R'', (m, (g', R'')) ∈ H.G ∧ rc R' t = rc R'' t := fun j m t e hj => by
    obtain ⟨g', R', e1, e2⟩ := h.ln j m t e (fun e3 => hj (Option.some.inj e3))
    by_cases hm : m = n
    · subst hm
      have e3 : lk H.G m = some (g, R) := by
        rcases hold with e3 | ⟨e3, _⟩
        · exact e3
        · exact absurd (mem_key e1) (lk_none.1 e3)
      have := mem_lk kg e1
      rw [e3] at this
      cases this
      have ht : t ≠ vac R := fun e4 => by subst e4; exact hno j e hj
      have e5 := setR_ne hv b ht
      exact ⟨g, setR R (vac R) b, (hG _ _ _).2 (.inl ⟨rfl, rfl, rfl⟩), by rw [e5]; exact e2, R, lk_mem e3, e5⟩
    · exact ⟨g', R', (hG _ _ _).2 (.inr ⟨e1, hm⟩), e2, R', e1, rfl⟩
  have kp' : (ks H'.P).Nodup := by rw [eP]; exact up_nodup kp _ _
  refine ⟨⟨fun j m t e _ => ?_, fun j j' m t e e' _ _ => ?_, fun m g' R' t e e2 => ?_⟩, fun j => ?_⟩
  · rcases (hP _ _ _).1 e with ⟨rfl, rfl, rfl⟩ | ⟨e, hj⟩
    · exact ⟨g, _, (hG _ _ _).2 (.inl ⟨rfl, rfl, rfl⟩), by rw [hs]; exact hb⟩
    · obtain ⟨g', R', e1, e2, _⟩ := hpl j m t e hj
      exact ⟨g', R', e1, e2⟩
  · rcases (hP _ _ _).1 e with ⟨rfl, rfl, rfl⟩ | ⟨e, hj⟩
    · rcases (hP _ _ _).1 e' with ⟨rfl, _, _⟩ | ⟨e', hj'⟩
      · rfl
      · exact (hno j' e' hj').elim
    · rcases (hP _ _ _).1 e' with ⟨rfl, rfl, rfl⟩ | ⟨e', hj'⟩
      · exact (hno j e hj).elim
      · exact h.on j j' m t e e' (fun e3 => hj (Option.some.inj e3)) (fun e3 => hj' (Option.some.inj e3))
  · rcases (hG _ _ _).1 e with ⟨rfl, rfl, rfl⟩ | ⟨e, hm⟩
    · by_cases ht : t = vac R
      · exact ⟨id, (hP _ _ _).2 (.inl ⟨rfl, rfl, ht⟩), by simp⟩
      · rw [setR_ne hv b ht] at e2
        obtain ⟨j, e3, e4⟩ := h.al _ _ _ _ (hpg t e2) e2
        exact ⟨j, (hP _ _ _).2 (.inr ⟨e3, fun e5 => e4 (by rw [e5])⟩), by simp⟩
    · obtain ⟨j, e3, e4⟩ := h.al _ _ _ _ e e2
      exact ⟨j, (hP _ _ _).2 (.inr ⟨e3, fun e5 => e4 (by rw [e5])⟩), by simp⟩
  · by_cases hj : j = id
    · rw [if_pos hj, hj, rcd_at kp' kg' ((hP _ _ _).2 (.inl ⟨rfl, rfl, rfl⟩)) ((hG _ _ _).2 (.inl ⟨rfl, rfl, rfl⟩)), hs]
    · rw [if_neg hj]
      cases e : lk H.P j with
      | none => rw [rcd_none e, rcd_none (by rw [eP, lk_up, if_neg hj]; exact e)]
      | some p =>
        obtain ⟨m, t⟩ := p
        obtain ⟨g', R', e1, e2, R'', e3, e4⟩ := hpl j m t (lk_mem e) hj
        rw [rcd_at kp kg (lk_mem e) e3, rcd_at kp' kg' ((hP _ _ _).2 (.inr ⟨lk_mem e, hj⟩)) e1, e4]

end Go.Proofs.Ytmfoenhbldacfaa
/- A heap's own face. -/
namespace Go.Proofs.Ytmfoenhbldacfaa
open Go.RowKit
set_option linter.unusedVariables false
set_option linter.unusedSimpArgs false

/-- A heap behind that pointer holds these records; so many; it has numbered at most k pages. -/
structure HA (B : Nat) (w : World) (hb : Nat) (M : Int → Option (List Int)) (N k : Nat) : Prop where
  ex : ∃ H, H.hb = hb ∧ HI B w H ∧ HP H none ∧ HW H none ∧ (∀ j, rcd H j = M j) ∧ H.P.length = N ∧ H.nx ≤ k
theorem HA.later {B : Nat} {w w' : World} {hb : Nat} {M : Int → Option (List Int)} {N k : Nat} (h : HA B w hb M N k) (hw : Below w.heap.size w w') : HA B w' hb M N k := by
  obtain ⟨H, h1, h2, r⟩ := h.ex
  exact ⟨H, h1, h2.later hw, r⟩
theorem HI.lookP {B : Nat} {w : World} {H : Hs} (h : HI B w H) (id : Int) : (Instr.lookup 42 (.map H.pm) (.int .u64 id) true).run Try.prog w = .ok (.tuple #[((lk H.P id).map plV).getD (.agg #[.int .i64 0, .int .i64 0]), .bool (lk H.P id).isSome]) w := by
  rcases h.pl with ⟨e, e2⟩ | ⟨b, e, _, hM⟩
  · rw [e, e2]
    exact look_nil Try.underlying42 Try.underlying28 pl_zero id true w
  · rw [e]
    exact hM.look Try.underlying42 Try.underlying28 pl_zero id true

theorem hnew_ha (w : World) (B : Nat) (hB : B ≤ w.heap.size) : HA B (w.alloc (.cells #[.map none, .map none, .slice none 0 0, .int .i64 0] 46)) w.heap.size (fun _ => none) 0 0 := by
  refine ⟨⟨w.heap.size, none, none, .slice none 0 0, 0, [], [], []⟩, rfl, ?_, ?_, ?_, fun j => rfl, rfl, Nat.le_refl _⟩
  · exact ⟨heap_alloc_last w _, hB, .inl ⟨rfl, rfl⟩, .inl ⟨rfl, rfl⟩, (fun b e => by cases e), OwnG.nil _ _, (fun n g R e => by cases e), List.nodup_nil, List.nodup_nil, List.nodup_nil, by simp; omega⟩
  · exact ⟨(fun n g R e => by cases e), (fun n g R e => by cases e), (fun n g R e => by cases e), List.Pairwise.nil, (fun r n e => by cases e), (fun n g R e => by cases e)⟩
  · exact ⟨(fun id n s e => by cases e), (fun id id' n s e => by cases e), (fun n g R s e => by cases e)⟩
set_option maxRecDepth 100000 in
theorem hnew_any (w : World) (B : Nat) (hB : B ≤ w.heap.size) : Calls Try.prog 7 #[] w fun e w' => ∃ hb, e = .returned (.pointer (some ⟨hb, 0, none⟩)) ∧ HA B w' hb (fun _ => none) 0 0 ∧ Below w.heap.size w w' := by
  go_enter Try.func7, Try.ntmps7
  go_wp2
  have hb0 : Below w.heap.size w (w.alloc (.cells #[.map none, .map none, .slice none 0 0, .int .i64 0] 46)) := (Below.refl _ _).alloc (Nat.le_refl _) _
  go_ret
  exact ⟨_, rfl, hnew_ha w B hB, hb0⟩

set_option maxRecDepth 100000 in
set_option maxHeartbeats 1000000 in
theorem find_heap {B : Nat} {w : World} {H : Hs} (h : HI B w H) (id : Int) : Calls Try.prog 23 #[.pointer (some ⟨H.hb, 0, none⟩), .int .u64 id] w fun e w' => e = .returned (.tuple #[((lk H.P id).map plV).getD (.agg #[.int .i64 0, .int .i64 0]), .int .i64 (if (lk H.P id).isSome then 0 else 22)]) ∧ Below w.heap.size w w' := by
  have hb0 : Below w.heap.size w (w.alloc (.cells #[.int .i64 0, .int .i64 0] 57)) := (Below.refl _ _).alloc (Nat.le_refl _) _
  have h1 := h.later hb0
  have hl := h1.lookP id
  obtain ⟨c0, -, -, -⟩ := h.cells
  have hlt := h.lt
  have c0' : (w.alloc (.cells #[.int .i64 0, .int .i64 0] 57)).cell? ⟨H.hb, 0, none⟩ = some (.map H.pm) := bcl hb0 c0
  generalize H.pm = pm at *
  cases hk : lk H.P id with
  | none =>
    rw [hk] at hl
    simp only [Option.map_none, Option.getD_none, Option.isSome_none] at hl ⊢
    clear h h1
    go_enter Try.func23, Try.ntmps23
    go_wp2
    have hb1 : Below w.heap.size w ((w.alloc (.cells #[.int .i64 0, .int .i64 0] 57)).alloc (.cells #[.int .i64 0, .int .i64 0] 57)) := hb0.alloc (by simp) _
    refine bodyPost_ret (v := .tuple #[.agg #[.int .i64 0, .int .i64 0], .int .i64 22]) (by simp [results, Try.results23, go_sem]) rfl ⟨rfl, hb1⟩
  | some p =>
    obtain ⟨n, s⟩ := p
    rw [hk] at hl
    simp only [Option.map_some, Option.getD_some, Option.isSome_some, plV] at hl ⊢
    clear h h1
    go_enter Try.func23, Try.ntmps23
    go_wp2
    have hb1 : Below w.heap.size w ((w.alloc (.cells #[.int .i64 n, .int .i64 (s : Int)] 57)).alloc (.cells #[.int .i64 n, .int .i64 (s : Int)] 57)) := ((Below.refl _ _).alloc (Nat.le_refl _) _).alloc (by simp) _
    refine bodyPost_ret (v := .tuple #[.agg #[.int .i64 n, .int .i64 (s : Int)], .int .i64 0]) (by simp [results, Try.results23, go_sem]) rfl ⟨rfl, hb1⟩

end Go.Proofs.Ytmfoenhbldacfaa
