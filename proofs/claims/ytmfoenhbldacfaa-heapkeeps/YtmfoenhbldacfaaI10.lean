/- What is kept of a heap's pages and its list, plainly. -/
import Derived.Test.YtmfoenhbldacfaaI9
namespace Go.Proofs.Ytmfoenhbldacfaa
open Go.RowKit
set_option linter.unusedVariables false
set_option linter.unusedSimpArgs false

/-- The pages and the list agree; the page of number x, if any, is being changed. -/
structure HP (H : Hs) (x : Option Int) : Prop where
  rng : ∀ n g R, (n, (g, R)) ∈ H.G → 0 ≤ n ∧ n < H.nx
  tm : ∀ n g R, (n, (g, R)) ∈ H.G → Tm R
  ne : ∀ n g R, (n, (g, R)) ∈ H.G → some n ≠ x → R ≠ []
  srt : H.F.Pairwise glt
  fre : ∀ r n, (r, n) ∈ H.F → ∃ g R, (n, (g, R)) ∈ H.G ∧ r = gapR R ∧ 0 < r
  fre' : ∀ n g R, (n, (g, R)) ∈ H.G → some n ≠ x → 0 < gapR R → (gapR R, n) ∈ H.F
theorem HP.exempt {H : Hs} (h : HP H none) (x : Option Int) : HP H x :=
  ⟨h.rng, h.tm, fun n g R k _ => h.ne n g R k (by simp), h.srt, h.fre, fun n g R k _ => h.fre' n g R k (by simp)⟩
/-- The list without page n. -/
def unF (F : List (Int × Int)) (n : Int) (R : Rc) : List (Int × Int) := if inG F (gapR R, n) then delG F (gapR R, n) else F
theorem unF_mem {H : Hs} {x : Option Int} (h : HP H x) (kg : (ks H.G).Nodup) {n : Int} {g : Nat} {R : Rc} (hn : (n, (g, R)) ∈ H.G) (y : Int × Int) : y ∈ unF H.F n R ↔ y ∈ H.F ∧ y.2 ≠ n := by
  have hsame : ∀ r, (r, n) ∈ H.F → r = gapR R := fun r hr => by
    obtain ⟨g', R', h1, h2, _⟩ := h.fre r n hr
    have e1 := mem_lk kg h1
    rw [mem_lk kg hn] at e1
    cases e1
    exact h2
  unfold unF
  by_cases hin : inG H.F (gapR R, n)
  · rw [if_pos hin, delG_mem h.srt hin]
    refine and_congr_right fun hy => not_congr ⟨fun e => by rw [e], fun e => ?_⟩
    obtain ⟨r, m⟩ := y
    simp only at e
    subst e
    rw [hsame r hy]
  · rw [if_neg hin]
    refine ⟨fun hy => ⟨hy, fun e => hin ?_⟩, fun hy => hy.1⟩
    obtain ⟨r, m⟩ := y
    simp only at e
    subst e
    rw [inG_mem h.srt, ← hsame r hy]
    exact hy
theorem unF_srt {H : Hs} {x : Option Int} (h : HP H x) (n : Int) (R : Rc) : (unF H.F n R).Pairwise glt := by
  unfold unF
  split
  · exact delG_sorted h.srt
  · exact h.srt
/-- What a change of page n, in block g, from R to R' makes of the pages, and of the list. -/
def chG (G : List (Int × (Nat × Rc))) (n : Int) (g : Nat) (R' : Rc) : List (Int × (Nat × Rc)) := if R' = [] then dl (up G n (g, R')) n else up G n (g, R')
def chF (F : List (Int × Int)) (n : Int) (R R' : Rc) : List (Int × Int) := if R' = [] then unF F n R else if 0 < gapR R' then insG (unF F n R) (gapR R', n) else unF F n R
theorem HP.change {H : Hs} {n : Int} (h : HP H (some n)) (kg : (ks H.G).Nodup) {g : Nat} {R : Rc} (hn : (n, (g, R)) ∈ H.G) {R' : Rc} (hT : Tm R') {fv : Value} :
    HP { H with fv := fv, G := chG H.G n g R', F := chF H.F n R R' } none := by
  have ku := up_nodup kg n (g, R')
  have hU := unF_mem h kg hn
  have hr := h.rng n g R hn
  have hmem : ∀ m g' R'', (m, (g', R'')) ∈ chG H.G n g R' ↔ (R' ≠ [] ∧ m = n ∧ g' = g ∧ R'' = R') ∨ ((m, (g', R'')) ∈ H.G ∧ m ≠ n) := fun m g' R'' => by
    unfold chG
    by_cases e : R' = []
    · rw [if_pos e, mem_dl ku, mem_up kg]
      constructor
      · rintro ⟨h1 | h1, h2⟩
        · cases h1; exact absurd rfl h2
        · exact .inr h1
      · rintro (h1 | h1)
        · exact absurd e h1.1
        · exact ⟨.inr h1, h1.2⟩
    · rw [if_neg e, mem_up kg]
      constructor
      · rintro (h1 | h1)
        · cases h1; exact .inl ⟨e, rfl, rfl, rfl⟩
        · exact .inr h1
      · rintro (⟨_, rfl, rfl, rfl⟩ | h1)
        · exact .inl rfl
        · exact .inr h1
  have hnin : (gapR R', n) ∉ unF H.F n R := fun hh => ((hU _).1 hh).2 rfl
  have hF : ∀ y, y ∈ chF H.F n R R' ↔ (R' ≠ [] ∧ 0 < gapR R' ∧ y = (gapR R', n)) ∨ (y ∈ H.F ∧ y.2 ≠ n) := fun y => by
    unfold chF
    by_cases e : R' = []
    · rw [if_pos e, hU]
      exact ⟨.inr, fun hh => hh.elim (fun k => absurd e k.1) id⟩
    · rw [if_neg e]
      by_cases e2 : 0 < gapR R'
      · rw [if_pos e2, insG_mem, hU]
        exact ⟨fun hh => hh.elim (fun k => .inl ⟨e, e2, k⟩) .inr, fun hh => hh.elim (fun k => .inl k.2.2) .inr⟩
      · rw [if_neg e2, hU]
        exact ⟨.inr, fun hh => hh.elim (fun k => absurd k.2.1 e2) id⟩
  refine ⟨fun m g' R'' k => ?_, fun m g' R'' k => ?_, fun m g' R'' k _ => ?_, ?_, fun r m k => ?_, fun m g' R'' k _ k2 => ?_⟩
  · rcases (hmem _ _ _).1 k with ⟨_, rfl, _⟩ | ⟨k, _⟩
    · exact hr
    · exact h.rng _ _ _ k
  · rcases (hmem _ _ _).1 k with ⟨_, _, _, rfl⟩ | ⟨k, _⟩
    · exact hT
    · exact h.tm _ _ _ k
  · rcases (hmem _ _ _).1 k with ⟨k1, _, _, rfl⟩ | ⟨k, k2⟩
    · exact k1
    · exact h.ne _ _ _ k (fun e => k2 (Option.some.inj e))
  · show (chF H.F n R R').Pairwise glt
    unfold chF
    split
    · exact unF_srt h n R
    · split
      · exact insG_sorted (unF_srt h n R) hnin
      · exact unF_srt h n R
  · rcases (hF _).1 k with ⟨k1, k2, k3⟩ | ⟨k, k2⟩
    · cases k3
      exact ⟨g, R', (hmem _ _ _).2 (.inl ⟨k1, rfl, rfl, rfl⟩), rfl, k2⟩
    · obtain ⟨g', R'', k3, k4⟩ := h.fre r m k
      exact ⟨g', R'', (hmem _ _ _).2 (.inr ⟨k3, k2⟩), k4⟩
  · rcases (hmem _ _ _).1 k with ⟨k1, rfl, rfl, rfl⟩ | ⟨k, k3⟩
    · exact (hF _).2 (.inl ⟨k1, k2, rfl⟩)
    · exact (hF _).2 (.inr ⟨h.fre' _ _ _ k (fun e => k3 (Option.some.inj e)) k2, k3⟩)
theorem HP.few {H : Hs} {x : Option Int} (h : HP H x) (kg : (ks H.G).Nodup) : H.F.length ≤ H.G.length := by
  have h1 : (H.F.map (·.2)).Nodup := by
    rw [List.nodup_iff_pairwise_ne, List.pairwise_map]
    refine h.srt.imp_of_mem ?_
    rintro ⟨r, n⟩ ⟨r', n'⟩ ha hb hlt e
    simp only at e
    subst e
    obtain ⟨g, R, k1, k2, _⟩ := h.fre _ _ ha
    obtain ⟨g', R', k3, k4, _⟩ := h.fre _ _ hb
    have e1 := mem_lk kg k1
    rw [mem_lk kg k3] at e1
    cases e1
    rw [k2, k4] at hlt
    exact glt_irrefl _ hlt
  have := nodup_le h1 (b := ks H.G) (fun y hy => by
    obtain ⟨⟨r, n⟩, k, rfl⟩ := List.mem_map.1 hy
    obtain ⟨g, R, k1, _⟩ := h.fre _ _ k
    exact mem_key k1)
  rw [List.length_map, ks_len] at this
  exact this
theorem nodup_inj {α β : Type} {f : α → β} : ∀ {l : List α}, (l.map f).Nodup → ∀ {x y : α}, x ∈ l → y ∈ l → f x = f y → x = y
  | [], _, _, _, h, _, _ => by cases h
  | a :: l, hn, x, y, hx, hy, e => by
    rw [List.map_cons, List.nodup_cons] at hn
    rcases List.mem_cons.1 hx with h1 | h1
    · rcases List.mem_cons.1 hy with h2 | h2
      · rw [h1, h2]
      · exact (hn.1 (by rw [← h1, e]; exact List.mem_map_of_mem h2)).elim
    · rcases List.mem_cons.1 hy with h2 | h2
      · exact (hn.1 (by rw [← h2, ← e]; exact List.mem_map_of_mem h1)).elim
      · exact nodup_inj hn.2 h1 h2 e
/-- A change of a page's records keeps the map's cells. -/
theorem up_same : ∀ {G : List (Int × (Nat × Rc))} {n : Int} {g : Nat} {R : Rc}, (n, (g, R)) ∈ G → (ks G).Nodup → ∀ R' : Rc, (up G n (g, R')).map (fun p => (Value.int .i64 p.1, ptV p.2)) = G.map (fun p => (Value.int .i64 p.1, ptV p.2)) ∧ (up G n (g, R')).map (·.2.1) = G.map (·.2.1)
  | [], _, _, _, h, _, _ => by cases h
  | p :: l, n, g, R, h, hn, R' => by
    rw [ks, List.map_cons, List.nodup_cons] at hn
    rw [up]
    by_cases e : p.1 = n
    · rw [if_pos e]
      rcases List.mem_cons.1 h with rfl | h
      · exact ⟨rfl, rfl⟩
      · exact absurd (e ▸ mem_key h) hn.1
    · rw [if_neg e]
      rcases List.mem_cons.1 h with rfl | h
      · exact absurd rfl e
      · obtain ⟨h1, h2⟩ := up_same h hn.2 R'
        rw [List.map_cons, List.map_cons, h1, List.map_cons, List.map_cons, h2]
        exact ⟨rfl, rfl⟩
/-- The heap behind a change of the records of one page. -/
theorem HI.page {B : Nat} {w w' : World} {H : Hs} (h : HI B w H) {n : Int} {g : Nat} {R R' : Rc} (hn : (n, (g, R)) ∈ H.G) (k : ∀ b o, B ≤ b → w.heap[b]? = some o → Hy o → b ≠ g → w'.heap[b]? = w.heap[b]?) (hs : w.heap.size ≤ w'.heap.size) (hp : ∃ Bt, Pi w' g Bt R' allP) : HI B w' { H with G := up H.G n (g, R') } := by
  obtain ⟨e1, e2⟩ := up_same hn h.kg R'
  obtain ⟨hg, Bt0, hp0⟩ := h.pg n g R hn
  have hpr := hp0.pg.row
  constructor
  · show w'.heap[H.hb]? = _
    rw [k _ _ h.bh h.hdr (.inl ⟨_, rfl⟩) (ob_ne h.hdr hpr (ty_ne (by decide)))]; exact h.hdr
  · exact h.bh
  · exact h.pl.keep fun b es c hb _ e => k b _ hb e (.inr (.inl ⟨_, _, rfl⟩)) (ob_ne e hpr (by intro hh; cases hh))
  · rcases h.gl with ⟨_, e⟩ | ⟨b, k1, k2, k3⟩
    · rw [e] at hn; cases hn
    · obtain ⟨es, c, k4, k5, k6⟩ := k3.ex
      refine .inr ⟨b, k1, k2, ⟨es, c, ?_, ?_, k6⟩⟩
      · rw [k b _ k2 k4 (.inr (.inl ⟨_, _, rfl⟩)) (ob_ne k4 hpr (by intro hh; cases hh))]; exact k4
      · show _ = (up H.G n (g, R')).map _
        rw [e1]; exact k5
  · exact h.ne
  · exact h.fr.keep fun b A hb e => k b _ hb e (.inr (.inr (.inl ⟨_, rfl⟩))) (ob_ne e hpr (ty_ne (by decide)))
  · intro m g' R'' he
    rcases (mem_up h.kg).1 he with e | ⟨e, e'⟩
    · cases e; exact ⟨hg, hp⟩
    · obtain ⟨h1, Bt, h2⟩ := h.pg m g' R'' e
      refine ⟨h1, Bt, ⟨?_, h2.iv⟩⟩
      have hne : g' ≠ g := fun e3 => by
        subst e3
        have := nodup_inj h.nd e hn rfl
        cases this
        exact e' rfl
      exact ⟨by rw [k g' _ h1 h2.pg.row (.inr (.inr (.inr ⟨_, rfl⟩))) hne]; exact h2.pg.row⟩
  · show ((up H.G n (g, R')).map (·.2.1)).Nodup
    rw [e2]; exact h.nd
  · exact up_nodup h.kg n _
  · exact h.kp
  · exact Nat.le_trans h.bw hs

end Go.Proofs.Ytmfoenhbldacfaa
