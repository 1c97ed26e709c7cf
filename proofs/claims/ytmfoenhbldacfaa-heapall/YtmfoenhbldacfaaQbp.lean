import Derived.Test.YtmfoenhbldacfaaQbo
/- HeapAll: what is there in a round. -/
namespace Go.Proofs.Ytmfoenhbldacfaa
open Go.RowKit Go.Shelf
set_option linter.unusedVariables false
set_option linter.unusedSimpArgs false

theorem ty_eqK {A A' : Array Value} {t t' : TypeId} (h : some (Obj.cells A t (0, 0)) = some (Obj.cells A' t' (0, 0))) : t = t' := by
  injection h with h
  injection h
theorem HA.rest {B : Nat} {w w' : World} {hb : Nat} {M : Int → Option (List Int)} {N k : Nat} (h : HA B w hb M N k) {g : Nat} {o : Obj} (hr : Rest g w w') (ho : w.heap[g]? = some o) (hn : ¬ Hy o) : HA B w' hb M N k := by
  obtain ⟨H, h1, h2, r⟩ := h.ex
  refine ⟨H, h1, h2.keep hr.size (fun b o' _ e hy => hr.block b (Array.getElem?_eq_some_iff.1 e).1 ?_), r⟩
  rintro rfl
  rw [ho] at e
  cases e
  exact hn hy
theorem nhS {A : Array Value} : ¬ Hy (.cells A 9 (0, 0)) := nh_cells (by decide) (by decide) (by decide)
theorem nhU {A : Array Value} : ¬ Hy (.cells A 28 (0, 0)) := nh_cells (by decide) (by decide) (by decide)
theorem nh8 {A : Array Value} : ¬ Hy (.cells A 5 (0, 0)) := nh_cells (by decide) (by decide) (by decide)
theorem nhO {A : Array Value} : ¬ Hy (.cells A 30 (0, 0)) := nh_cells (by decide) (by decide) (by decide)
/-- A block of another type turns. -/
theorem Ro.rest {E : TypeId} {B : Nat} {w w' : World} {v : Value} {cs : List Value} (h : Ro E B w v cs) {g : Nat} {A : Array Value} {E' : TypeId} (hr : Rest g w w') (hg : w.heap[g]? = some (.cells A E' (0, 0))) (hE : E' ≠ E) : Ro E B w' v cs :=
  h.keep fun b A' _ e => hr.block b (Array.getElem?_eq_some_iff.1 e).1 (by
    rintro rfl
    rw [hg] at e
    exact hE (ty_eqK e))
theorem Ro.ft {E : TypeId} {B B' : Nat} {w w' : World} {v : Value} {cs : List Value} (h : Ro E B w v cs) (k : Ft B' noX w w') (hE : ∀ A, ¬ Hy (.cells A E (0, 0))) : Ro E B w' v cs :=
  h.keep fun b A' _ e => by rw [k.x e (hE _), e]
theorem Ro.set {E : TypeId} {B : Nat} {w : World} {g c : Nat} {cs : List Value} {n : Nat} (h : Ro E B w (.slice (some ⟨g, 0, none⟩) n c) cs) {i : Nat} (hi : i < cs.length) (u : Value) : Ro E B (w.setCell ⟨g, i, none⟩ u) (.slice (some ⟨g, 0, none⟩) n c) (cs.set i u) := by
  refine ⟨?_, ?_⟩
  · simp
  rcases h.2 with ⟨e, _⟩ | ⟨g', cap, cur, e, h2, h3, h4, h5, h6, h7⟩
  · cases e
  · cases e
    refine .inr ⟨g, c, cur.setIfInBounds i u, by rw [List.length_set], h2, ?_, by rw [List.length_set]; exact h4, h5, by simpa using h6, ?_⟩
    · simp [World.setCell, Array.getElem?_modify, h3]
    · rw [List.length_set, Nat.mul_one, Array.toList_setIfInBounds, List.take_set]
      rw [Nat.mul_one] at h7
      rw [h7]

theorem HA.up {B : Nat} {w : World} {hb : Nat} {M : Int → Option (List Int)} {N k k' : Nat} (h : HA B w hb M N k) (hk : k ≤ k') : HA B w hb M N k' := by
  obtain ⟨H, h1, h2, h3, h4, h5, h6, h7⟩ := h.ex
  exact ⟨⟨H, h1, h2, h3, h4, h5, h6, Nat.le_trans h7 hk⟩⟩
theorem bal {a w : World} (h : Below a.heap.size a w) (o : Obj) : Below a.heap.size a (w.alloc o) := h.alloc h.size o
theorem Src.blk {w w' : World} {g n c : Nat} {cs : List Value} (h : Src w (.slice (some ⟨g, 0, none⟩) n c) cs) (e : w'.heap[g]? = w.heap[g]?) : Src w' (.slice (some ⟨g, 0, none⟩) n c) cs := by
  obtain ⟨ao, n', c', h1, h2, h3, h4⟩ := h.ex
  cases h1
  refine ⟨some ⟨g, 0, none⟩, n, c, rfl, h2, h3, fun a ha j u hj => ?_⟩
  cases ha
  have := h4 _ rfl j u hj
  rw [add_at] at this ⊢
  rw [World.cell?_of_block (a := ⟨g, j, none⟩) e]
  exact this
/-- The copy's record 1 goes, if any. -/
theorem dropAt_any {B : Nat} {w : World} {hb : Nat} {M : Int → Option (List Int)} {N k : Nat} (h : HA B w hb M N k) (id : Int) (hN : N ≤ 700) :
    Calls Try.prog 12 #[.pointer (some ⟨hb, 0, none⟩), .int .u64 id] w fun e w' => (∃ x : Int, e = .returned (.int .i64 x)) ∧ Ft B noX w w' := by
  by_cases hm : M id = none
  · refine Calls.mono (hdropno_any h id hm) ?_
    rintro e w' ⟨rfl, hb'⟩
    exact ⟨⟨_, rfl⟩, Ft.of hb'⟩
  · refine Calls.mono (hdropm_any h id hm hN) ?_
    rintro e w' ⟨rfl, _, hf⟩
    exact ⟨⟨_, rfl⟩, hf⟩

/-- The state of a round. -/
structure Sg (W w : World) (hb : Nat) (M : Int → Option (List Int)) (N k : Nat) (L : List Rec) (vi vr : Value) : Prop where
  ha : HA W.heap.size w hb M N k
  srt : Srt L
  few : Few L
  ids : Ro 28 W.heap.size w vi (idC L)
  recs : Ro 9 W.heap.size w vr (rcC L)
  bel : Below W.heap.size W w
section
variable {W w w' : World} {hb : Nat} {M : Int → Option (List Int)} {N k : Nat} {L : List Rec} {vi vr : Value}
theorem Sg.later (h : Sg W w hb M N k L vi vr) (hb' : Below w.heap.size w w') : Sg W w' hb M N k L vi vr :=
  ⟨h.ha.later hb', h.srt, h.few, h.ids.later hb', h.recs.later hb', bthen h.bel hb'⟩
theorem Sg.rest8 (h : Sg W w hb M N k L vi vr) {g : Nat} {A : Array Value} (hr : Rest g w w') (hg : w.heap[g]? = some (.cells A 5 (0, 0))) (hB : W.heap.size ≤ g) : Sg W w' hb M N k L vi vr :=
  ⟨h.ha.rest hr hg nh8, h.srt, h.few, h.ids.rest hr hg (by decide), h.recs.rest hr hg (by decide), Rest.below h.bel hr hB h.bel.size⟩
theorem Sg.heap (h : Sg W w hb M N k L vi vr) {M' : Int → Option (List Int)} {N' k' : Nat} (hA : HA W.heap.size w' hb M' N' k') (hf : Ft W.heap.size noX w w') : Sg W w' hb M' N' k' L vi vr :=
  ⟨hA, h.srt, h.few, h.ids.ft hf (fun A => nhU), h.recs.ft hf (fun A => nhS), Ft.below h.bel hf h.bel.size⟩
theorem Sg.cast (h : Sg W w hb M N k L vi vr) {M' : Int → Option (List Int)} {N' k' : Nat} (hM : ∀ j, M j = M' j) (hN : N = N') (hk : k = k') : Sg W w hb M' N' k' L vi vr := by
  have : M = M' := funext hM
  subst this hN hk
  exact h
end
theorem idC_ins {A C : List Rec} {id : Int} {b : List Int} : idC (A ++ (id, b) :: C) = (idC A ++ [.int .u64 id]) ++ idC C := by simp [idC, ks]
theorem rcC_ins {A C : List Rec} {id : Int} {b : List Int} : rcC (A ++ (id, b) :: C) = (rcC A ++ [.string (strOfNums b)]) ++ rcC C := by simp [rcC]
theorem idC_two {A C : List Rec} : idC (A ++ C) = idC A ++ idC C := by simp [idC, ks]
theorem rcC_two {A C : List Rec} : rcC (A ++ C) = rcC A ++ rcC C := by simp [rcC]
theorem idC_take {A C : List Rec} {k : Nat} (h : A.length = k) : (idC (A ++ C)).take k = idC A := by
  rw [idC_two, List.take_append_of_le_length (by rw [idC_len]; omega), List.take_of_length_le (by rw [idC_len]; omega)]
theorem rcC_take {A C : List Rec} {k : Nat} (h : A.length = k) : (rcC (A ++ C)).take k = rcC A := by
  rw [rcC_two, List.take_append_of_le_length (by rw [rcC_len]; omega), List.take_of_length_le (by rw [rcC_len]; omega)]
theorem idC_drop {A C : List Rec} {k : Nat} (h : A.length = k) : (idC (A ++ C)).drop k = idC C := by
  rw [idC_two, ← h, ← idC_len A, List.drop_left]
theorem rcC_drop {A C : List Rec} {k : Nat} (h : A.length = k) : (rcC (A ++ C)).drop k = rcC C := by
  rw [rcC_two, ← h, ← rcC_len A, List.drop_left]
theorem idC_drop1 {A C : List Rec} {p : Rec} {k : Nat} (h : A.length = k) : (idC (A ++ p :: C)).drop (k + 1) = idC C := by
  have e : A ++ p :: C = (A ++ [p]) ++ C := by simp
  rw [e, idC_drop (by simp [h])]
theorem rcC_drop1 {A C : List Rec} {p : Rec} {k : Nat} (h : A.length = k) : (rcC (A ++ p :: C)).drop (k + 1) = rcC C := by
  have e : A ++ p :: C = (A ++ [p]) ++ C := by simp
  rw [e, rcC_drop (by simp [h])]
theorem rcC_set {A C : List Rec} {id : Int} {b0 b : List Int} {k : Nat} (h : A.length = k) : (rcC (A ++ (id, b0) :: C)).set k (.string (strOfNums b)) = rcC (A ++ (id, b) :: C) := by
  rw [rcC_two, rcC_two, ← h, ← rcC_len A, List.set_append_right _ _ (Nat.le_refl _), Nat.sub_self]
  simp [rcC]
theorem idC_same {A C : List Rec} {id : Int} {b0 b : List Int} : idC (A ++ (id, b0) :: C) = idC (A ++ (id, b) :: C) := by simp [idC, ks]
theorem Few.ins {A C : List Rec} {id : Int} {b : List Int} (h : Few (A ++ C)) (h0 : b ≠ []) (h2 : b.length ≤ 200) : Few (A ++ (id, b) :: C) := by
  intro p hp
  rcases List.mem_append.1 hp with hp | hp
  · exact h p (List.mem_append_left _ hp)
  · rcases List.mem_cons.1 hp with rfl | hp
    · exact ⟨h0, h2⟩
    · exact h p (List.mem_append_right _ hp)
theorem Few.del {A C : List Rec} {p : Rec} (h : Few (A ++ p :: C)) : Few (A ++ C) := by
  intro q hq
  rcases List.mem_append.1 hq with hq | hq
  · exact h q (List.mem_append_left _ hq)
  · exact h q (List.mem_append_right _ (List.mem_cons_of_mem _ hq))
theorem Few.set {A C : List Rec} {id : Int} {b0 b : List Int} (h : Few (A ++ (id, b0) :: C)) (h0 : b ≠ []) (h2 : b.length ≤ 200) : Few (A ++ (id, b) :: C) := h.del.ins h0 h2

/-- The slice reads as so many operations. -/
structure RdQ (w : World) (ao : Option Addr) (n c : Nat) : Prop where
  cap : n ≤ c
  max : c ≤ 9223372036854775807
  cells : 0 < n → ∃ b o, ao = some ⟨b, o, none⟩ ∧ ∀ i, i < n → ∃ K S D X : Int, (0 ≤ X ∧ X ≤ 255) ∧ (-9223372036854775808 ≤ K ∧ K ≤ 9223372036854775807) ∧ (-9223372036854775808 ≤ S ∧ S ≤ 9223372036854775807) ∧ (0 ≤ D ∧ D ≤ 18446744073709551615) ∧ w.cell? ⟨b, o + i * 4, none⟩ = some (.int .i64 K) ∧ w.cell? ⟨b, o + i * 4 + 1, none⟩ = some (.int .i64 S) ∧ w.cell? ⟨b, o + i * 4 + 2, none⟩ = some (.int .u64 D) ∧ w.cell? ⟨b, o + i * 4 + 3, none⟩ = some (.int .u8 X)
theorem RdQ.later {w w' : World} {ao : Option Addr} {n c : Nat} (h : RdQ w ao n c) (hb : Below w.heap.size w w') : RdQ w' ao n c :=
  ⟨h.cap, h.max, fun hp => by
    obtain ⟨b, o, ha, hc⟩ := h.cells hp
    refine ⟨b, o, ha, fun i hi => ?_⟩
    obtain ⟨K, S, D, X, h0, h1, h2, h3, c0, c1, c2, c3⟩ := hc i hi
    exact ⟨K, S, D, X, h0, h1, h2, h3, cell_later hb c0, cell_later hb c1, cell_later hb c2, cell_later hb c3⟩⟩
theorem kd8 (K : Int) : 0 ≤ (wrap64 (K.tmod 8 + 8)).tmod 8 ∧ (wrap64 (K.tmod 8 + 8)).tmod 8 ≤ 7 := by
  have h1 := Int.tmod_lt_of_pos K (show (0 : Int) < 8 by decide)
  have h2 := Int.lt_tmod_of_pos K (show (0 : Int) < 8 by decide)
  have e : wrap64 (K.tmod 8 + 8) = K.tmod 8 + 8 := by unfold wrap64; omega
  rw [e, Int.tmod_eq_emod_of_nonneg (by omega)]
  omega

section
variable {ops : Array Oper} {o : Oper} {a : Act} {w : World} {K : Act → World → Prop} {Q : Exit → Act → World → Prop} {F : Prop}
/-- An append to a row of the call's own, in a region that draws. -/
theorem step_ro {S E : TypeId} {z : Value} {by1 : Nat} (el : El S E z by1) (hgd : o.guard = none) (s x : Operand) (ho : o.op = .call { callee := .builtin .append, args := #[s, x], argTypes := #[S, S] }) {B : Nat} {u y : Value} {cs xs : List Value} (hs : a.eval s = u) (hx : a.eval x = y)
    (hown : Ro E B w u cs) (hsrc : Src w y xs) (h1 : ∀ u ∈ xs, u.oneCell' = true) (hl : cs.length + xs.length ≤ 1000) (hB : B ≤ w.heap.size)
    (h : ∀ v' w', Ro E B w' v' (cs ++ xs) → Below B w w' → (∀ q, q < w.heap.size → some q ≠ u.ownBlock → w'.heap[q]? = w.heap[q]?) → K (a.put o.dst v') w') : if Region.wanted o (yielded ops a.tmps) = true then Oper.wp Try.prog o a w K Q else F := by
  obtain ⟨v', w', r1, r2, r3, r4⟩ := Ro.app el hown hsrc h1 hl hB o.type
  exact step_app2 hgd s x S S ho hs hx r1 (h v' w' r2 r3 r4)
end
theorem idC_one (A : List Rec) : ∀ u ∈ idC A, u.oneCell' = true := by
  intro u hu
  simp only [idC, List.mem_map] at hu
  obtain ⟨x, _, rfl⟩ := hu
  rfl
theorem rcC_one (A : List Rec) : ∀ u ∈ rcC A, u.oneCell' = true := by
  intro u hu
  simp only [rcC, List.mem_map] at hu
  obtain ⟨x, _, rfl⟩ := hu
  rfl

section
variable {W w w' : World} {hb : Nat} {N k : Nat} {L : List Rec} {vi vr : Value}
/-- A record that was there is put. -/
theorem Sg.put_is {D : Int} {bs : List Int} {kk : Nat} {A C : List Rec} (h : Sg W w hb (fun j => if j = D then some bs else lk L j) (if lk L D = none then L.length + 1 else L.length) k L vi vr) (hS : Spl L D kk A C) (hk : kk < L.length) (he : nth (ks L) kk = D) (h0 : bs ≠ []) (h2 : bs.length ≤ 200) :
    ∃ g c, vr = .slice (some ⟨g, 0, none⟩) L.length c ∧ L.length ≤ c ∧ c ≤ 9223372036854775807 ∧ (∃ A, w.heap[g]? = some (.cells A 9 (0, 0))) ∧ (∃ u, w.cell? ⟨g, kk, none⟩ = some (.string u)) ∧ w.frozen? ⟨g, kk, none⟩ = false ∧ ∃ L', L'.length = L.length ∧ Sg W (w.setCell ⟨g, kk, none⟩ (.string (strOfNums bs))) hb (fun j => lk L' j) L'.length k L' vi vr := by
  obtain ⟨b0, C', rfl, hC', hl⟩ := hS.is h.srt hk he
  obtain ⟨g, c, e, hg, hc, hcm, ⟨A0, hA0⟩, hcell⟩ := h.recs.at (rcC_at hk)
  rw [rcC_len] at e hc
  have hlen : (A ++ (D, bs) :: C').length = L.length := by rw [hS.eq]; simp
  refine ⟨g, c, e, hc, hcm, ⟨A0, hA0⟩, ⟨_, hcell _ _ (rcC_at hk)⟩, by unfold World.frozen?; rw [hA0]; rfl, A ++ (D, bs) :: C', hlen, ?_⟩
  have hr := Rest.set g kk w (.string (strOfNums bs))
  subst e
  refine ⟨?_, hS.srt_set h.srt bs, ?_, ?_, ?_, h.bel.setCell hg _⟩
  · have := h.ha.rest hr hA0 nhS
    rw [hl, if_neg (by simp)] at this
    rw [hlen]
    have hM : (fun j => if j = D then some bs else lk L j) = fun j => lk (A ++ (D, bs) :: C') j := by
      funext j
      rw [set_lk bs b0 hS.low j, ← hS.eq]
    rw [hM] at this
    exact this
  · have := h.few
    rw [hS.eq] at this
    exact this.set h0 h2
  · have := h.ids.rest hr hA0 (by decide)
    rw [hS.eq, idC_same (b := bs)] at this
    exact this
  · have := h.recs.set (i := kk) (by rw [rcC_len]; exact hk) (.string (strOfNums bs))
    rw [hS.eq, rcC_set hS.len, ← hS.eq] at this
    exact this
/-- A record that wasn't there is put. -/
theorem Sg.put_no {D : Int} {bs : List Int} {kk : Nat} {A C : List Rec} (h : Sg W w hb (fun j => if j = D then some bs else lk L j) (if lk L D = none then L.length + 1 else L.length) k L vi vr) (hS : Spl L D kk A C) (hno : kk < L.length → nth (ks L) kk ≠ D) (h0 : bs ≠ []) (h2 : bs.length ≤ 200)
    {vi' vr' : Value} (hbel : Below w.heap.size w w') (hi : Ro 28 w.heap.size w' vi' ((idC A ++ [.int .u64 D]) ++ idC C)) (hr : Ro 9 w.heap.size w' vr' ((rcC A ++ [.string (strOfNums bs)]) ++ rcC C)) :
    ∃ L', L'.length = L.length + 1 ∧ Sg W w' hb (fun j => lk L' j) L'.length k L' vi' vr' := by
  obtain ⟨hC, hl⟩ := hS.isno h.srt hno
  have hlen : (A ++ (D, bs) :: C).length = L.length + 1 := by rw [hS.eq]; simp; omega
  refine ⟨A ++ (D, bs) :: C, hlen, ?_, hS.srt_ins h.srt hC bs, ?_, ?_, ?_, bthen h.bel hbel⟩
  · have := h.ha.later hbel
    rw [hl, if_pos rfl] at this
    rw [hlen]
    have hM : (fun j => if j = D then some bs else lk L j) = fun j => lk (A ++ (D, bs) :: C) j := by
      funext j
      rw [ins_lk bs hS.low j, ← hS.eq]
    rw [hM] at this
    exact this
  · have := h.few
    rw [hS.eq] at this
    exact this.ins h0 h2
  · rw [idC_ins]; exact hi.lower h.bel.size
  · rw [rcC_ins]; exact hr.lower h.bel.size
/-- A record is dropped. -/
theorem Sg.drop_is {D : Int} {kk : Nat} {A C : List Rec} (h : Sg W w hb (fun j => if j = D then none else lk L j) (L.length - 1) k L vi vr) (hS : Spl L D kk A C) (hk : kk < L.length) (he : nth (ks L) kk = D)
    {vi' vr' : Value} (hbel : Below w.heap.size w w') (hi : Ro 28 w.heap.size w' vi' (idC A ++ (idC L).drop (kk + 1))) (hr : Ro 9 w.heap.size w' vr' (rcC A ++ (rcC L).drop (kk + 1))) :
    ∃ L', L'.length = L.length - 1 ∧ Sg W w' hb (fun j => lk L' j) L'.length k L' vi' vr' := by
  obtain ⟨b0, C', rfl, hC', hl⟩ := hS.is h.srt hk he
  have hlen : (A ++ C').length = L.length - 1 := by rw [hS.eq]; simp
  refine ⟨A ++ C', hlen, ?_, hS.srt_del h.srt, ?_, ?_, ?_, bthen h.bel hbel⟩
  · have := h.ha.later hbel
    rw [hlen]
    have hM : (fun j => if j = D then none else lk L j) = fun j => lk (A ++ C') j := by
      funext j
      rw [del_lk b0 hS.low hC' j, ← hS.eq]
    rw [hM] at this
    exact this
  · have := h.few
    rw [hS.eq] at this
    exact this.del
  · rw [hS.eq, idC_drop1 hS.len] at hi
    rw [idC_two]; exact hi.lower h.bel.size
  · rw [hS.eq, rcC_drop1 hS.len] at hr
    rw [rcC_two]; exact hr.lower h.bel.size
end

end Go.Proofs.Ytmfoenhbldacfaa
/- HeapAll: its operation, its pieces -/
namespace Go.Proofs.Ytmfoenhbldacfaa
open Go.RowKit Go.Shelf
set_option linter.unusedVariables false
set_option linter.unusedSimpArgs false

/-- The operation's own cells. -/
structure Ob (w : World) (ob : Nat) (K S D X : Int) : Prop where
  row : w.heap[ob]? = some (.cells #[.int .i64 K, .int .i64 S, .int .u64 D, .int .u8 X] 30 (0, 0))
section
variable {w w' : World} {ob : Nat} {K S D X : Int}
theorem Ob.c0 (h : Ob w ob K S D X) : w.cell? ⟨ob, 0, none⟩ = some (.int .i64 K) := by rw [cell_of_row _ _ _ _ _ _ h.row]; rfl
theorem Ob.c1 (h : Ob w ob K S D X) : w.cell? ⟨ob, 1, none⟩ = some (.int .i64 S) := by rw [cell_of_row _ _ _ _ _ _ h.row]; rfl
theorem Ob.c2 (h : Ob w ob K S D X) : w.cell? ⟨ob, 2, none⟩ = some (.int .u64 D) := by rw [cell_of_row _ _ _ _ _ _ h.row]; rfl
theorem Ob.c3 (h : Ob w ob K S D X) : w.cell? ⟨ob, 3, none⟩ = some (.int .u8 X) := by rw [cell_of_row _ _ _ _ _ _ h.row]; rfl
theorem Ob.later (h : Ob w ob K S D X) (hb : Below w.heap.size w w') : Ob w' ob K S D X := ⟨by rw [hb.block ob (Array.getElem?_eq_some_iff.1 h.row).1]; exact h.row⟩
theorem Ob.ft {B : Nat} (h : Ob w ob K S D X) (hf : Ft B noX w w') : Ob w' ob K S D X := ⟨hf.x h.row nhO⟩
theorem Ob.rest (h : Ob w ob K S D X) {g : Nat} {A : Array Value} {E : TypeId} (hr : Rest g w w') (hg : w.heap[g]? = some (.cells A E (0, 0))) (hE : E ≠ 30) : Ob w' ob K S D X :=
  ⟨by
    rw [hr.block ob (Array.getElem?_eq_some_iff.1 h.row).1 (by
      rintro rfl
      have := h.row
      rw [hg] at this
      exact hE (ty_eqK this))]
    exact h.row⟩
end
theorem Bx8.new {W w : World} (h : Below W.heap.size W w) (k : Nat) : Bx8 W (w.alloc (.cells (zc k) 5)) w.heap.size (List.replicate k 0) := ⟨heap_alloc_last w _, h.size⟩
theorem Bx8.rd {W w : World} {q n : Nat} {bs : List Int} (h : Bx8 W w q bs) (hn : bs.length = n) (h1 : n ≤ 100000) : Rd .u8 w (some ⟨q, 0, none⟩) n n bs :=
  rd_prefix (cs := []) (by rw [List.append_nil]; exact h.row) hn (Nat.le_refl _) h1
theorem Bx8.rest {W w w' : World} {g q : Nat} {bs : List Int} (h : Bx8 W w q bs) (hr : Rest g w w') (hne : q ≠ g) : Bx8 W w' q bs := ⟨by rw [hr.block q h.lt hne]; exact h.row, h.own⟩
theorem Bx8.ft {B : Nat} {W w w' : World} {q : Nat} {bs : List Int} (h : Bx8 W w q bs) (hf : Ft B noX w w') : Bx8 W w' q bs := ⟨hf.x h.row nh8, h.own⟩

/-- Region n of a code. -/
def regC (n : Nat) : Code → Option Code
  | .region id ops b => bif id == n then some (.region id ops b) else none
  | .seq a b => match regC n a with
    | some c => some c
    | none => regC n b
  | .cond _ a b => match regC n a with
    | some c => some c
    | none => regC n b
  | .block _ c => regC n c
  | .loop c => regC n c
  | .scope c => regC n c
  | _ => none
/-- Block n of a code. -/
def blkC (n : Nat) : Code → Option Code
  | .block id c => bif id == n then some (.block id c) else blkC n c
  | .seq a b => match blkC n a with
    | some c => some c
    | none => blkC n b
  | .cond _ a b => match blkC n a with
    | some c => some c
    | none => blkC n b
  | .loop c => blkC n c
  | .scope c => blkC n c
  | _ => none
noncomputable def bodyA : Code := Try.f3.body.getD .skip
noncomputable def regA (n : Nat) : Code := (regC n bodyA).getD .skip
noncomputable def blkA (n : Nat) : Code := (blkC n bodyA).getD .skip


end Go.Proofs.Ytmfoenhbldacfaa
