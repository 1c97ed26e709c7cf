import Derived.Test.YtmfoenhbldacfaaQaq
/- What is kept of a heap's pages and its list, plainly. -/
namespace Go.Proofs.Ytmfoenhbldacfaa
open Go.RowKit
set_option linter.unusedVariables false
set_option linter.unusedSimpArgs false

/-- The pages and the list agree; the page of number x, if any, is being changed. -/
structure HP (H : Hs) (x : Option Int) : Prop where
  rng : ∀ n g R, (n, (g, R)) ∈ H.G → 0 ≤ n ∧ n < H.nx
  tm : ∀ n g R, (n, (g, R)) ∈ H.G → Tm R
  ne : ∀ n g R, (n, (g, R)) ∈ H.G → some n ≠ x → R ≠ []
  srt : H.F.Pairwise glt
  fre : ∀ r n, (r, n) ∈ H.F → ∃ g R, (n, (g, R)) ∈ H.G ∧ r = gapR R ∧ 0 < r
  fre' : ∀ n g R, (n, (g, R)) ∈ H.G → some n ≠ x → 0 < gapR R → (gapR R, n) ∈ H.F
theorem HP.exempt {H : Hs} (h : HP H none) (x : Option Int) : HP H x :=
  ⟨h.rng, h.tm, fun n g R k _ => h.ne n g R k (by simp), h.srt, h.fre, fun n g R k _ => h.fre' n g R k (by simp)⟩
/-- The list without page n. -/
def unF (F : List (Int × Int)) (n : Int) (R : Rc) : List (Int × Int) := if inG F (gapR R, n) then delG F (gapR R, n) else F
theorem unF_mem {H : Hs} {x : Option Int} (h : HP H x) (kg : (ks H.G).Nodup) {n : Int} {g : Nat} {R : Rc} (hn : (n, (g, R)) ∈ H.G) (y : Int × Int) : y ∈ unF H.F n R ↔ y ∈ H.F ∧ y.2 ≠ n := by
  have hsame : ∀ r, (r, n) ∈ H.F → r = gapR R := fun r hr => by
    obtain ⟨g', R', h1, h2, _⟩ := h.fre r n hr
    have e1 := mem_lk kg h1
    rw [mem_lk kg hn] at e1
    cases e1
    exact h2
  unfold unF
  by_cases hin : inG H.F (gapR R, n)
  · rw [if_pos hin, delG_mem h.srt hin]
    refine and_congr_right fun hy => not_congr ⟨fun e => by rw [e], fun e => ?_⟩
    obtain ⟨r, m⟩ := y
    simp only at e
    subst e
    rw [hsame r hy]
  · rw [if_neg hin]
    refine ⟨fun hy => ⟨hy, fun e => hin ?_⟩, fun hy => hy.1⟩
    obtain ⟨r, m⟩ := y
    simp only at e
    subst e
    rw [inG_mem h.srt, ← hsame r hy]
    exact hy
theorem unF_srt {H : Hs} {x : Option Int} (h : HP H x) (n : Int) (R : Rc) : (unF H.F n R).Pairwise glt := by
  unfold unF
  split
  · exact delG_sorted h.srt
  · exact h.srt
/-- What a change of page n, in block g, from R to R' makes of the pages, and of the list. -/
def chG (G : List (Int × (Nat × Rc))) (n : Int) (g : Nat) (R' : Rc) : List (Int × (Nat × Rc)) := if R' = [] then dl (up G n (g, R')) n else up G n (g, R')
def chF (F : List (Int × Int)) (n : Int) (R R' : Rc) : List (Int × Int) := if R' = [] then unF F n R else if 0 < gapR R' then insG (unF F n R) (gapR R', n) else unF F n R
theorem HP.change {H : Hs} {n : Int} (h : HP H (some n)) (kg : (ks H.G).Nodup) {g : Nat} {R : Rc} (hn : (n, (g, R)) ∈ H.G) {R' : Rc} (hT : Tm R') {fv : Value} :
    HP { H with fv := fv, G := chG H.G n g R', F := chF H.F n R R' } none := by
  have ku := up_nodup kg n (g, R')
  have hU := unF_mem h kg hn
  have hr := h.rng n g R hn
  have hmem : ∀ m g' R'', (m, (g', R'')) ∈ chG H.G n g R' ↔ (R' ≠ [] ∧ m = n ∧ g' = g ∧ R'' = R') ∨ ((m, (g', R'')) ∈ H.G ∧ m ≠ n) := fun m g' R'' => by
    unfold chG
    by_cases e : R' = []
    · rw [if_pos e, mem_dl ku, mem_up kg]
      constructor
      · rintro ⟨h1 | h1, h2⟩
        · cases h1; exact absurd rfl h2
        · exact .inr h1
      · rintro (h1 | h1)
        · exact absurd e h1.1
        · exact ⟨.inr h1, h1.2⟩
    · rw [if_neg e, mem_up kg]
      constructor
      · rintro (h1 | h1)
        · cases h1; exact .inl ⟨e, rfl, rfl, rfl⟩
        · exact .inr h1
      · rintro (⟨_, rfl, rfl, rfl⟩ | h1)
        · exact .inl rfl
        · exact .inr h1
  have hnin : (gapR R', n) ∉ unF H.F n R := fun hh => ((hU _).1 hh).2 rfl
  have hF : ∀ y, y ∈ chF H.F n R R' ↔ (R' ≠ [] ∧ 0 < gapR R' ∧ y = (gapR R', n)) ∨ (y ∈ H.F ∧ y.2 ≠ n) := fun y => by
    unfold chF
    by_cases e : R' = []
    · rw [if_pos e, hU]
      exact ⟨.inr, fun hh => hh.elim (fun k => absurd e k.1) id⟩
    · rw [if_neg e]
      by_cases e2 : 0 < gapR R'
      · rw [if_pos e2, insG_mem, hU]
        exact ⟨fun hh => hh.elim (fun k => .inl ⟨e, e2, k⟩) .inr, fun hh => hh.elim (fun k => .inl k.2.2) .inr⟩
      · rw [if_neg e2, hU]
        exact ⟨.inr, fun hh => hh.elim (fun k => absurd k.2.1 e2) id⟩
  refine ⟨fun m g' R'' k => ?_, fun m g' R'' k => ?_, fun m g' R'' k _ => ?_, ?_, fun r m k => ?_, fun m g' R'' k _ k2 => ?_⟩
  · rcases (hmem _ _ _).1 k with ⟨_, rfl, _⟩ | ⟨k, _⟩
    · exact hr
    · exact h.rng _ _ _ k
  · rcases (hmem _ _ _).1 k with ⟨_, _, _, rfl⟩ | ⟨k, _⟩
    · exact hT
    · exact h.tm _ _ _ k
  · rcases (hmem _ _ _).1 k with ⟨k1, _, _, rfl⟩ | ⟨k, k2⟩
    · exact k1
    · exact h.ne _ _ _ k (fun e => k2 (Option.some.inj e))
  · show (chF H.F n R R').Pairwise glt
    unfold chF
    split
    · exact unF_srt h n R
    · split
      · exact insG_sorted (unF_srt h n R) hnin
      · exact unF_srt h n R
  · rcases (hF _).1 k with ⟨k1, k2, k3⟩ | ⟨k, k2⟩
    · cases k3
      exact ⟨g, R', (hmem _ _ _).2 (.inl ⟨k1, rfl, rfl, rfl⟩), rfl, k2⟩
    · obtain ⟨g', R'', k3, k4⟩ := h.fre r m k
      exact ⟨g', R'', (hmem _ _ _).2 (.inr ⟨k3, k2⟩), k4⟩
  · rcases (hmem _ _ _).1 k with ⟨k1, rfl, rfl, rfl⟩ | ⟨k, k3⟩
    · exact (hF _).2 (.inl ⟨k1, k2, rfl⟩)
    · exact (hF _).2 (.inr ⟨h.fre' _ _ _ k (fun e => k3 (Option.some.inj e)) k2, k3⟩)
theorem HP.few {H : Hs} {x : Option Int} (h : HP H x) (kg : (ks H.G).Nodup) : H.F.length ≤ H.G.length := by
  have h1 : (H.F.map (·.2)).Nodup := by
    rw [List.nodup_iff_pairwise_ne, List.pairwise_map]
    refine h.srt.imp_of_mem ?_
    rintro ⟨r, n⟩ ⟨r', n'⟩ ha hb hlt e
    simp only at e
    subst e
    obtain ⟨g, R, k1, k2, _⟩ := h.fre _ _ ha
    obtain ⟨g', R', k3, k4, _⟩ := h.fre _ _ hb
    have e1 := mem_lk kg k1
    rw [mem_lk kg k3] at e1
    cases e1
    rw [k2, k4] at hlt
    exact glt_irrefl _ hlt
  have := nodup_le h1 (b := ks H.G) (fun y hy => by
    obtain ⟨⟨r, n⟩, k, rfl⟩ := List.mem_map.1 hy
    obtain ⟨g, R, k1, _⟩ := h.fre _ _ k
    exact mem_key k1)
  rw [List.length_map, ks_len] at this
  exact this
theorem nodup_inj {α β : Type} {f : α → β} : ∀ {l : List α}, (l.map f).Nodup → ∀ {x y : α}, x ∈ l → y ∈ l → f x = f y → x = y
  | [], _, _, _, h, _, _ => by cases h
  | a :: l, hn, x, y, hx, hy, e => by
    rw [List.map_cons, List.nodup_cons] at hn
    rcases List.mem_cons.1 hx with h1 | h1
    · rcases List.mem_cons.1 hy with h2 | h2
      · rw [h1, h2]
      · exact (hn.1 (by rw [← h1, e]; exact List.mem_map_of_mem h2)).elim
    · rcases List.mem_cons.1 hy with h2 | h2
      · exact (hn.1 (by rw [← h2, ← e]; exact List.mem_map_of_mem h1)).elim
      · exact nodup_inj hn.2 h1 h2 e
/-- A change of a page's records keeps the map's cells. -/
theorem up_same : ∀ {G : List (Int × (Nat × Rc))} {n : Int} {g : Nat} {R : Rc}, (n, (g, R)) ∈ G → (ks G).Nodup → ∀ R' : Rc, (up G n (g, R')).map (fun p => (Value.int .i64 p.1, ptV p.2)) = G.map (fun p => (Value.int .i64 p.1, ptV p.2)) ∧ (up G n (g, R')).map (·.2.1) = G.map (·.2.1)
  | [], _, _, _, h, _, _ => by cases h
  | p :: l, n, g, R, h, hn, R' => by
    rw [ks, List.map_cons, List.nodup_cons] at hn
    rw [up]
    by_cases e : p.1 = n
    · rw [if_pos e]
      rcases List.mem_cons.1 h with rfl | h
      · exact ⟨rfl, rfl⟩
      · exact absurd (e ▸ mem_key h) hn.1
    · rw [if_neg e]
      rcases List.mem_cons.1 h with rfl | h
      · exact absurd rfl e
      · obtain ⟨h1, h2⟩ := up_same h hn.2 R'
        rw [List.map_cons, List.map_cons, h1, List.map_cons, List.map_cons, h2]
        exact ⟨rfl, rfl⟩
/-- The heap behind a change of the records of one page. -/
theorem HI.page {B : Nat} {w w' : World} {H : Hs} (h : HI B w H) {n : Int} {g : Nat} {R R' : Rc} (hn : (n, (g, R)) ∈ H.G) (k : ∀ b o, B ≤ b → w.heap[b]? = some o → Hy o → b ≠ g → w'.heap[b]? = w.heap[b]?) (hs : w.heap.size ≤ w'.heap.size) (hp : ∃ Bt, Pi w' g Bt R' allP) : HI B w' { H with G := up H.G n (g, R') } := by
  obtain ⟨e1, e2⟩ := up_same hn h.kg R'
  obtain ⟨hg, Bt0, hp0⟩ := h.pg n g R hn
  have hpr := hp0.pg.row
  constructor
  · show w'.heap[H.hb]? = _
    rw [k _ _ h.bh h.hdr (.inl ⟨_, rfl⟩) (ob_ne h.hdr hpr (ty_ne (by decide)))]; exact h.hdr
  · exact h.bh
  · exact h.pl.keep fun b es c hb _ e => k b _ hb e (.inr (.inl ⟨_, _, rfl⟩)) (ob_ne e hpr (by intro hh; cases hh))
  · rcases h.gl with ⟨_, e⟩ | ⟨b, k1, k2, k3⟩
    · rw [e] at hn; cases hn
    · obtain ⟨es, c, k4, k5, k6⟩ := k3.ex
      refine .inr ⟨b, k1, k2, ⟨es, c, ?_, ?_, k6⟩⟩
      · rw [k b _ k2 k4 (.inr (.inl ⟨_, _, rfl⟩)) (ob_ne k4 hpr (by intro hh; cases hh))]; exact k4
      · show _ = (up H.G n (g, R')).map _
        rw [e1]; exact k5
  · exact h.ne
  · exact h.fr.keep fun b A hb e => k b _ hb e (.inr (.inr (.inl ⟨_, rfl⟩))) (ob_ne e hpr (ty_ne (by decide)))
  · intro m g' R'' he
    rcases (mem_up h.kg).1 he with e | ⟨e, e'⟩
    · cases e; exact ⟨hg, hp⟩
    · obtain ⟨h1, Bt, h2⟩ := h.pg m g' R'' e
      refine ⟨h1, Bt, ⟨?_, h2.iv⟩⟩
      have hne : g' ≠ g := fun e3 => by
        subst e3
        have := nodup_inj h.nd e hn rfl
        cases this
        exact e' rfl
      exact ⟨by rw [k g' _ h1 h2.pg.row (.inr (.inr (.inr ⟨_, rfl⟩))) hne]; exact h2.pg.row⟩
  · show ((up H.G n (g, R')).map (·.2.1)).Nodup
    rw [e2]; exact h.nd
  · exact up_nodup h.kg n _
  · exact h.kp
  · exact Nat.le_trans h.bw hs

end Go.Proofs.Ytmfoenhbldacfaa
/- Something is done to a page of a heap. -/
namespace Go.Proofs.Ytmfoenhbldacfaa
open Go.RowKit
set_option linter.unusedVariables false
set_option linter.unusedSimpArgs false

/-- All blocks but g and x stay. -/
structure Rx (g x : Nat) (w w' : World) : Prop where
  os : w'.os = w.os
  tape : w'.tape = w.tape
  output : w'.output = w.output
  size : w.heap.size ≤ w'.heap.size
  block : ∀ k, k < w.heap.size → k ≠ g → k ≠ x → w'.heap[k]? = w.heap[k]?
theorem Rx.ft {B g x : Nat} {w w' : World} {A : Array Value} (h : Rx g x w w') (hg : B ≤ g) (ho : w.heap[g]? = some (.cells A 69 (0, 0))) : Ft B (fun k => k = x) w w' :=
  ⟨h.os, h.tape, h.output, h.size, fun k o e hx hk => by
    rw [h.block k (Array.getElem?_eq_some_iff.1 e).1 (by
      rintro rfl
      rw [ho] at e
      cases e
      rcases hk with hk | hk
      · omega
      · exact hk (.inr (.inr (.inr ⟨_, rfl⟩)))) hx]
    exact e⟩
theorem pt_zero (w : World) : (zeroValue 53).run Try.prog w = .ok (.pointer none) w := by kernel_rfl
theorem pl_zero (w : World) : (zeroValue 57).run Try.prog w = .ok (.agg #[.int .i64 0, .int .i64 0]) w := by kernel_rfl
theorem HI.gmap {B : Nat} {w : World} {H : Hs} (h : HI B w H) {n : Int} {g : Nat} {R : Rc} (hn : (n, (g, R)) ∈ H.G) : ∃ b, H.gm = some b ∧ B ≤ b ∧ MapB w b .i64 ptV H.G ∧ ∀ w', MapB w' b .i64 ptV H.G → (Instr.lookup 43 (.map (some b)) (.int .i64 n) false).run Try.prog w' = .ok (.pointer (some ⟨g, 0, none⟩)) w' := by
  rcases h.gl with ⟨_, e⟩ | ⟨b, k1, k2, k3⟩
  · rw [e] at hn; cases hn
  · refine ⟨b, k1, k2, k3, fun w' k => ?_⟩
    have := k.look Try.underlying43 Try.underlying3 pt_zero n false
    rw [mem_lk h.kg hn] at this
    exact this

theorem unF_len (F : List (Int × Int)) (n : Int) (R : Rc) : (unF F n R).length ≤ F.length := by
  unfold unF
  by_cases h : inG F (gapR R, n)
  · rw [if_pos h]; have := delG_len h; omega
  · rw [if_neg h]; exact Nat.le_refl _
/-- A page less. -/
theorem HI.less {B : Nat} {w w' : World} {H : Hs} (h : HI B w H) {b : Nat} (hb : H.gm = some b) (n : Int) (hr : Rest b w w') (hM : MapB w' b .i64 ptV (dl H.G n)) (hB : B ≤ b) : HI B w' { H with G := dl H.G n } := by
  have hsub : (dl H.G n).Sublist H.G := dl_sub
  have hmo : ∃ es c, w.heap[b]? = some (.map es c) := by
    rcases h.gl with ⟨e, _⟩ | ⟨b', k1, _, k3⟩
    · rw [hb] at e; cases e
    · rw [hb] at k1; cases k1
      obtain ⟨es, c, k4, _⟩ := k3.ex
      exact ⟨es, c, k4⟩
  obtain ⟨es0, c0, hm0⟩ := hmo
  constructor
  · show w'.heap[H.hb]? = _
    rw [hr.block _ h.lt (ob_ne h.hdr hm0 (by intro hh; cases hh))]; exact h.hdr
  · exact h.bh
  · exact h.pl.keep fun k es c _ hk e => hr.block k (Array.getElem?_eq_some_iff.1 e).1 (by rintro rfl; exact h.ne _ hk hb)
  · exact .inr ⟨b, hb, hB, hM⟩
  · exact h.ne
  · exact h.fr.keep fun k A _ e => hr.block k (Array.getElem?_eq_some_iff.1 e).1 (ob_ne e hm0 (by intro hh; cases hh))
  · intro m g' R'' he
    obtain ⟨h1, Bt, h2⟩ := h.pg m g' R'' (hsub.subset he)
    exact ⟨h1, Bt, ⟨⟨by rw [hr.block g' h2.pg.lt (ob_ne h2.pg.row hm0 (by intro hh; cases hh))]; exact h2.pg.row⟩, h2.iv⟩⟩
  · exact h.nd.sublist (hsub.map _)
  · exact dl_nodup h.kg n
  · exact h.kp
  · exact Nat.le_trans h.bw hr.size
theorem Ft.x {B : Nat} {w w' : World} (h : Ft B noX w w') {x : Nat} {o : Obj} (hx : w.heap[x]? = some o) (hy : ¬ Hy o) : w'.heap[x]? = some o := h.block x o hx (fun h => h) (.inr hy)
theorem Ft.wide {B : Nat} {w w' : World} (h : Ft B noX w w') (X : Nat → Prop) : Ft B X w w' := h.more fun i k => k.elim
theorem prs_none {R : Rc} (hT : Tm R) (h : (prI R R.length).length = 0) : R = [] := by
  rcases hT with h0 | h0
  · exact List.eq_nil_of_length_eq_zero h0
  · have hlt := rc_lt h0
    have : R.length - 1 ∈ prs R R.length := prs_mem.2 ⟨by omega, h0⟩
    rw [prI, List.length_map] at h
    rw [List.eq_nil_of_length_eq_zero h] at this
    cases this

set_option maxRecDepth 100000 in
set_option maxHeartbeats 4000000 in
theorem change_any {B : Nat} {w : World} {H : Hs} (h : HI B w H) {n : Int} {g : Nat} {R R' : Rc} (hp : HP H (some n)) (hn : (n, (g, R)) ∈ H.G) (hT : Tm R') (hl : H.G.length ≤ 900)
    {N : Nat} {caps : Array Value} (hcf : ∀ args w', (callFunc N args).run Try.prog w' = .ok (.enter N args) w') {x : Nat} {ox ox' : Obj} (hx : w.heap[x]? = some ox) (hxy : ¬ Hy ox)
    (HF : ∀ w1 Bt, Ft B noX w w1 → Pi w1 g Bt R allP → w1.heap[x]? = some ox → Calls Try.prog N (#[.pointer (some ⟨g, 0, none⟩)] ++ caps) w1 fun e w2 => e = .returned (.tuple #[]) ∧ (∃ Bt', Pi w2 g Bt' R' allP) ∧ w2.heap[x]? = some ox' ∧ Rx g x w1 w2) (hxy' : ¬ Hy ox') :
    Calls Try.prog 32 #[.pointer (some ⟨H.hb, 0, none⟩), .int .i64 n, .func (.func N) #[] caps] w fun e w' => e = .returned (.tuple #[]) ∧ (∃ v, HI B w' { H with fv := v, G := chG H.G n g R', F := chF H.F n R R' }) ∧ Ft B (fun k => k = x) w w' ∧ w'.heap[x]? = some ox' := by
  obtain ⟨mb, hgm, hmb, hM, hlk⟩ := h.gmap hn
  have hlk0 := hlk w hM
  obtain ⟨hBg, Bt, hP⟩ := h.pg n g R hn
  have hTR := hp.tm n g R hn
  have hfew := hp.few h.kg
  have c1 := h.cells.2.1
  rw [hgm] at c1
  have HG : Hid _ := gapOf_any hP hTR n
  have HU : Hid (∀ w1, Below w.heap.size w w1 → Calls Try.prog 53 #[.pointer (some ⟨H.hb, 0, none⟩), .agg #[.int .i64 (gapR R), .int .i64 n]] w1 fun e w' => e = .returned (.tuple #[]) ∧ (∃ v, HI B w' { H with fv := v, F := unF H.F n R }) ∧ Ft B noX w1 w') := fun w1 k => unlist_any (h.later k) hp.srt (by omega) (gapR R) n
  have HC : Hid (∀ w1 w2 v, Below w.heap.size w w1 → HI B w2 { H with fv := v, F := unF H.F n R } → Ft B noX w1 w2 → Calls Try.prog N (#[.pointer (some ⟨g, 0, none⟩)] ++ caps) w2 fun e w3 => e = .returned (.tuple #[]) ∧ HI B w3 { H with fv := v, F := unF H.F n R, G := up H.G n (g, R') } ∧ w3.heap[x]? = some ox' ∧ Ft B (fun k => k = x) w w3) := fun w1 w2 v k1 k2 k3 => by
    obtain ⟨_, Bt2, hP2⟩ := k2.pg n g R hn
    have hw := (Ft.of (B := B) (X := noX) k1).trans k3
    refine Calls.mono (HF w2 Bt2 hw hP2 (hw.x hx hxy)) ?_
    rintro e w3 ⟨rfl, j1, j2, j3⟩
    refine ⟨rfl, k2.page hn (fun b o _ e hy hb => j3.block b (Array.getElem?_eq_some_iff.1 e).1 hb (by
      rintro rfl
      rw [hw.x hx hxy] at e
      cases e
      exact hxy hy)) j3.size j1, j2, (hw.wide _).trans (j3.ft hBg hP2.pg.row)⟩
  have hkg2 := up_nodup h.kg n (g, R')
  have hin2 : (n, (g, R')) ∈ up H.G n (g, R') := (mem_up h.kg).2 (.inl rfl)
  have HSl : Hid (∀ w3 v, HI B w3 { H with fv := v, F := unF H.F n R, G := up H.G n (g, R') } → Calls Try.prog 55 #[.pointer (some ⟨g, 0, none⟩)] w3 fun e w4 => (∃ v, e = .returned v ∧ OwnI w3.heap.size w4 v (prI R' R'.length)) ∧ Below w3.heap.size w3 w4) := fun w3 v k => by
    obtain ⟨_, Bt2, hP2⟩ := k.pg n g R' hin2
    exact slots_any hP2
  have HGp : Hid (∀ w3 v, HI B w3 { H with fv := v, F := unF H.F n R, G := up H.G n (g, R') } → Calls Try.prog 54 #[.int .i64 n, .pointer (some ⟨g, 0, none⟩)] w3 fun e w' => e = .returned (.agg #[.int .i64 (gapR R'), .int .i64 n]) ∧ Below w3.heap.size w3 w') := fun w3 v k => by
    obtain ⟨_, Bt2, hP2⟩ := k.pg n g R' hin2
    exact gapOf_any hP2 hT n
  have HLi : Hid (∀ w3 v, HI B w3 { H with fv := v, F := unF H.F n R, G := up H.G n (g, R') } → Calls Try.prog 56 #[.pointer (some ⟨H.hb, 0, none⟩), .agg #[.int .i64 (gapR R'), .int .i64 n]] w3 fun e w' => e = .returned (.tuple #[]) ∧ (∃ v, HI B w' { H with fv := v, G := up H.G n (g, R'), F := if 0 < gapR R' then insG (unF H.F n R) (gapR R', n) else unF H.F n R }) ∧ Ft B noX w3 w') := fun w3 v k =>
    list_any k (unF_srt hp n R) (Nat.le_trans (unF_len H.F n R) (by omega)) (gapR R') n
  have HDl : Hid (∀ w3 v, HI B w3 { H with fv := v, F := unF H.F n R, G := up H.G n (g, R') } → ∃ w4, (Builtin.delete_ #[43, 3] 0 #[.map (some mb), .int .i64 n]).run Try.prog w3 = .ok (.tuple #[]) w4 ∧ HI B w4 { H with fv := v, F := unF H.F n R, G := dl (up H.G n (g, R')) n } ∧ Ft B noX w3 w4) := fun w3 v k => by
    obtain ⟨b, j1, j2, j3, _⟩ := k.gmap hin2
    have e : b = mb := by
      have : H.gm = some b := j1
      rw [hgm] at this
      exact (Option.some.inj this).symm
    subst e
    obtain ⟨w4, r1, r2, r3⟩ := j3.drop Try.underlying43 Try.underlying3 n 0
    obtain ⟨es, c, r4, _⟩ := j3.ex
    exact ⟨w4, r1, HI.less (H := { H with fv := v, F := unF H.F n R, G := up H.G n (g, R') }) k hgm n r3 r2 j2, Ft.rest r3 j2 r4 (.inr (.inl ⟨_, _, rfl⟩))⟩
  have HM1 : Hid (∀ w3 v, HI B w3 { H with fv := v, F := unF H.F n R, G := up H.G n (g, R') } → w3.cell? ⟨H.hb, 1, none⟩ = some (.map (some mb))) := fun w3 v k => by
    have := k.cells.2.1
    rw [← hgm]; exact this
  clear HF hfew hlk hP hM
  go_enter Try.func32, Try.ntmps32
  go_wp2_with fail
  refine Calls.mono HG.out ?_
  rintro e w1 ⟨rfl, hb1⟩
  have HU1 := HU.out w1 hb1
  have HC1 : Hid _ := HC.out w1
  replace HU1 : Hid _ := HU1
  clear HU HC HG hlk0
  go_wp2_with fail
  refine Calls.mono HU1.out ?_
  rintro e w2 ⟨rfl, ⟨v, hI2⟩, hft2⟩
  have HC2 : Hid _ := HC1.out w2 v hb1 hI2 hft2
  clear HU1 HC1
  go_wp2_with fail
  refine Calls.mono HC2.out ?_
  rintro e w3 ⟨rfl, hI3, hx3, hft3⟩
  have HSl3 : Hid _ := HSl.out w3 v hI3
  clear HC2 HSl
  go_wp2_with fail
  refine Calls.mono HSl3.out ?_
  rintro e w4 ⟨⟨sv, rfl, hO⟩, hb4⟩
  clear HSl3
  have hI4 := hI3.later hb4
  have hft4 : Ft B (fun k => k = x) w w4 := hft3.trans (Ft.of hb4)
  have hx4 : w4.heap[x]? = some ox' := by rw [hb4.block x (Array.getElem?_eq_some_iff.1 hx3).1]; exact hx3
  obtain ⟨ao, c, rfl, -, -⟩ := hO.rd
  by_cases hR' : R' = []
  · have hl0 : (prI R' R'.length).length = 0 := by rw [hR']; rfl
    rw [hl0]
    obtain ⟨w5, r1, r2, r3⟩ := HDl.out w4 v hI4
    have c4 := HM1.out w4 v hI4
    have hfin := hft4.trans (r3.wide _)
    have hx5 := r3.x hx4 hxy'
    have e1 : chG H.G n g R' = dl (up H.G n (g, R')) n := if_pos hR'
    have e2 : chF H.F n R R' = unF H.F n R := if_pos hR'
    rw [← e1, ← e2] at r2
    clear HDl HM1 HGp HLi hI2 hI3 hI4 hft2 hft3 hft4 r3 e1 e2 hO hin2 hkg2
    go_wp2
    exact bodyPost_ret (results_none rfl _ _ _) rfl ⟨rfl, ⟨_, r2⟩, hfin, hx5⟩
  · have hl0 : ((prI R' R'.length).length : Int) ≠ 0 := fun e => hR' (prs_none hT (by omega))
    have g1 : (((prI R' R'.length).length : Int) == 0) = false := by simpa using hl0
    have HG4 : Hid _ := HGp.out w4 v hI4
    have e1 : chG H.G n g R' = up H.G n (g, R') := if_neg hR'
    have e2 : chF H.F n R R' = if 0 < gapR R' then insG (unF H.F n R) (gapR R', n) else unF H.F n R := if_neg hR'
    generalize (prI R' R'.length).length = m at *
    clear HDl HM1 HGp hI2 hI3 hft2 hft3 hO hkg2 hl0 hR'
    go_wp2_with fail
    refine Calls.mono HG4.out ?_
    rintro e w5 ⟨rfl, hb5⟩
    have HL5 : Hid _ := HLi.out w5 v (hI4.later hb5)
    have hft5 : Ft B (fun k => k = x) w w5 := hft4.trans (Ft.of hb5)
    have hx5 : w5.heap[x]? = some ox' := by rw [hb5.block x (Array.getElem?_eq_some_iff.1 hx4).1]; exact hx4
    clear HG4 HLi hI4
    go_wp2_with fail
    refine Calls.mono HL5.out ?_
    rintro e w6 ⟨rfl, ⟨v6, hI6⟩, hft6⟩
    rw [← e1, ← e2] at hI6
    have hfin := hft5.trans (hft6.wide _)
    have hx6 := hft6.x hx5 hxy'
    clear HL5 e1 e2
    go_wp2
    exact bodyPost_end (results_none rfl _ _ _) rfl ⟨rfl, ⟨_, hI6⟩, hfin, hx6⟩

end Go.Proofs.Ytmfoenhbldacfaa
