/- Rows of words in memory: those that may be read, and those of the call's own that grow. -/
import Derived.Test.YtjlmcnbmhgabpaaGreatL9
namespace Go.Proofs.YtjlmcnbmhgabpaaGreat
open Go.RowKit
set_option linter.unusedVariables false

/-- The word at place i. -/
def tth (l : List Tk) (i : Nat) : Tk := l[i]?.getD (0, ⟨#[]⟩, 0, 0)
theorem tth_at {l : List Tk} {i : Nat} (h : i < l.length) : tth l i = l[i] := by rw [tth, List.getElem?_eq_getElem h]; rfl
theorem tth_mem {l : List Tk} {i : Nat} (h : i < l.length) : tth l i ∈ l := by rw [tth_at h]; exact List.getElem_mem h
/-- The four cells of a word from o on in block b. -/
def Ct (w : World) (b o : Nat) (t : Tk) : Prop := w.cell? ⟨b, o, none⟩ = some (.int .i64 t.1) ∧ w.cell? ⟨b, o + 1, none⟩ = some (.string t.2.1) ∧ w.cell? ⟨b, o + 2, none⟩ = some (.int .i64 t.2.2.1) ∧ w.cell? ⟨b, o + 3, none⟩ = some (.int .i64 t.2.2.2)
theorem Ct.later {w w' : World} {b o : Nat} {t : Tk} (h : Ct w b o t) (hb : Below w.heap.size w w') : Ct w' b o t := ⟨cell_later hb h.1, cell_later hb h.2.1, cell_later hb h.2.2.1, cell_later hb h.2.2.2⟩
/-- The slice value '.slice ao n c' reads, in w, as the n words ts. -/
structure RdT (w : World) (ao : Option Addr) (n c : Nat) (ts : List Tk) : Prop where
  len : ts.length = n
  cap : n ≤ c
  max : c ≤ 9223372036854775807
  non : ao = none → c = 0
  cells : 0 < n → ∃ b o, ao = some ⟨b, o, none⟩ ∧ ∀ i, i < n → Ct w b (o + i * 4) (tth ts i)
theorem RdT.nil (w : World) : RdT w none 0 0 [] := ⟨rfl, Nat.le_refl _, by omega, fun _ => rfl, fun h => absurd h (Nat.lt_irrefl _)⟩
theorem RdT.later {w w' : World} {ao : Option Addr} {n c : Nat} {ts : List Tk} (h : RdT w ao n c ts) (hb : Below w.heap.size w w') : RdT w' ao n c ts :=
  ⟨h.len, h.cap, h.max, h.non, fun hn => by
    obtain ⟨b, o, ha, hc⟩ := h.cells hn
    exact ⟨b, o, ha, fun i hi => (hc i hi).later hb⟩⟩

theorem Tryz.info45 : (Tryz.prog.info? 45).map (fun i => (i.zero, i.size, i.bytes)) = some (some (.agg #[.int .i64 0, .string ⟨#[]⟩, .int .i64 0, .int .i64 0]), 4, 40) := by kernel_rfl

/-- The cells of a word. -/
def cellsT (t : Tk) : List Value := [.int .i64 t.1, .string t.2.1, .int .i64 t.2.2.1, .int .i64 t.2.2.2]
/-- The value v is a slice of words of the call's own (its block from B on), and reads as l. -/
def OwnT (B : Nat) (w : World) (v : Value) (l : List Tk) : Prop := w.ownsRow B 45 4 v l.length (l.flatMap cellsT)
theorem OwnT.nil (B : Nat) (w : World) : OwnT B w (.slice none 0 0) [] := World.ownsRow_nil w B 45 4
theorem OwnT.alloc {B : Nat} {w : World} {v : Value} {l : List Tk} (h : OwnT B w v l) (o : Obj) : OwnT B (w.alloc o) v l := World.ownsRow.alloc h o
theorem OwnT.drew {B : Nat} {w : World} {v : Value} {l : List Tk} (h : OwnT B w v l) : OwnT B w.drew v l := h
theorem OwnT.later {B : Nat} {w w' : World} {v : Value} {l : List Tk} (h : OwnT B w v l) (hb : Below w.heap.size w w') : OwnT B w' v l := by
  refine ⟨h.1, ?_⟩
  rcases h.2 with k | ⟨g, cap, cur, hv, hg, hh, r⟩
  · exact .inl k
  · exact .inr ⟨g, cap, cur, hv, hg, by rw [hb.block g (Array.getElem?_eq_some_iff.1 hh).1]; exact hh, r⟩
theorem OwnT.but {B g : Nat} {w w' : World} {v : Value} {l : List Tk} (h : OwnT B w v l) (hb : But g w w') (hg : g < B) : OwnT B w' v l := by
  refine ⟨h.1, ?_⟩
  rcases h.2 with k | ⟨b, cap, cur, hv, hg', hh, r⟩
  · exact .inl k
  · exact .inr ⟨b, cap, cur, hv, hg', by rw [hb.block b (Array.getElem?_eq_some_iff.1 hh).1 (by omega)]; exact hh, r⟩
theorem cells_at : ∀ {l : List Tk} {i : Nat}, i < l.length → (l.flatMap cellsT)[i * 4]? = some (.int .i64 (tth l i).1) ∧ (l.flatMap cellsT)[i * 4 + 1]? = some (.string (tth l i).2.1) ∧ (l.flatMap cellsT)[i * 4 + 2]? = some (.int .i64 (tth l i).2.2.1) ∧ (l.flatMap cellsT)[i * 4 + 3]? = some (.int .i64 (tth l i).2.2.2)
  | [], i, h => by simp at h
  | v :: l, 0, h => ⟨rfl, rfl, rfl, rfl⟩
  | v :: l, i + 1, h => by
    have ih := cells_at (l := l) (i := i) (by simpa using h)
    have e : tth (v :: l) (i + 1) = tth l i := by simp [tth]
    have el : (cellsT v).length = 4 := rfl
    rw [e, List.flatMap_cons, show (i + 1) * 4 = i * 4 + 4 from by omega]
    refine ⟨?_, ?_, ?_, ?_⟩
    · rw [List.getElem?_append_right (by rw [el]; omega), show i * 4 + 4 - (cellsT v).length = i * 4 from by rw [el]; omega]; exact ih.1
    · rw [List.getElem?_append_right (by rw [el]; omega), show i * 4 + 4 + 1 - (cellsT v).length = i * 4 + 1 from by rw [el]; omega]; exact ih.2.1
    · rw [List.getElem?_append_right (by rw [el]; omega), show i * 4 + 4 + 2 - (cellsT v).length = i * 4 + 2 from by rw [el]; omega]; exact ih.2.2.1
    · rw [List.getElem?_append_right (by rw [el]; omega), show i * 4 + 4 + 3 - (cellsT v).length = i * 4 + 3 from by rw [el]; omega]; exact ih.2.2.2
theorem OwnT.rd {B : Nat} {w : World} {v : Value} {l : List Tk} (h : OwnT B w v l) : ∃ ao c, v = .slice ao l.length c ∧ RdT w ao l.length c l := by
  rcases h.2 with ⟨rfl, h0⟩ | ⟨g, cap, cur, rfl, hb, hg, hn, hc, hs, ht⟩
  · have : l = [] := List.eq_nil_of_length_eq_zero h0
    subst this
    exact ⟨none, 0, rfl, RdT.nil w⟩
  · refine ⟨_, cap, rfl, ⟨rfl, hn, hc, fun e => by simp at e, fun hp => ⟨g, 0, rfl, fun i hi => ?_⟩⟩⟩
    have c0 := World.ownsRow.cellAt h (i * 4) (by omega)
    have c1 := World.ownsRow.cellAt h (i * 4 + 1) (by omega)
    have c2 := World.ownsRow.cellAt h (i * 4 + 2) (by omega)
    have c3 := World.ownsRow.cellAt h (i * 4 + 3) (by omega)
    obtain ⟨e0, e1, e2, e3⟩ := cells_at hi
    rw [Nat.zero_add]
    exact ⟨c0.trans e0, c1.trans e1, c2.trans e2, c3.trans e3⟩
theorem OwnT.below {B : Nat} {w w' : World} {v : Value} {l : List Tk} (h : OwnT B w v l) (hB : B ≤ w.heap.size) (hg : w.grownBy w' v.ownBlock) : Below B w w' :=
  below_grown (Below.refl B w) hB h (Nat.le_refl _) hg
theorem Ct.news {w : World} {g : Nat} {v : Tk} (h : Ct w g 0 v) : ∀ (j : Nat) (u : Value), (cellsT v)[j]? = some u → w.cell? ((⟨g, 0, none⟩ : Addr).add j) = some u := by
  intro j u hj
  match j, hj with
  | 0, hj => simp [cellsT] at hj; subst hj; simpa [Addr.add] using h.1
  | 1, hj => simp [cellsT] at hj; subst hj; simpa [Addr.add] using h.2.1
  | 2, hj => simp [cellsT] at hj; subst hj; simpa [Addr.add] using h.2.2.1
  | 3, hj => simp [cellsT] at hj; subst hj; simpa [Addr.add] using h.2.2.2
  | j + 4, hj => simp [cellsT] at hj
theorem Ct.new (w : World) (v : Tk) (e : TypeId) : Ct (w.alloc (.cells #[.int .i64 v.1, .string v.2.1, .int .i64 v.2.2.1, .int .i64 v.2.2.2] e)) w.heap.size 0 v :=
  ⟨cell_new w _ e (0, 0) 0, cell_new w _ e (0, 0) 1, cell_new w _ e (0, 0) 2, cell_new w _ e (0, 0) 3⟩

theorem run_appT (w : World) (B : Nat) (ty : TypeId) (v : Value) (l : List Tk) (g : Nat) (x : Tk) (hown : OwnT B w v l) (hx : Ct w g 0 x) (hl : l.length ≤ 1000) (hB : B ≤ w.heap.size) :
    ∃ v' w', (Builtin.append_ #[41, 41] ty #[v, .slice (some ⟨g, 0, none⟩) 1 1]).run Tryz.prog w = .ok v' w' ∧ OwnT B w' v' (l ++ [x]) ∧ w.grownBy w' v.ownBlock := by
  obtain ⟨i, hi, hz, hsz, hby⟩ := info_parts Tryz.info45
  obtain ⟨v', w', hr, h2, h3, _⟩ := run_append_own (P := Tryz.prog) w B 41 ty 45 i _ 4 40 Tryz.underlying41 hi hz hsz hby rfl (by omega) v l.length _ hown ⟨g, 0, none⟩ 1 1 (cellsT x) rfl hx.news
    (by intro u hu; simp [cellsT] at hu; rcases hu with rfl | rfl | rfl | rfl <;> rfl) (by unfold maxLen; omega) (by omega) hB
  refine ⟨v', w', hr, ?_, h3⟩
  unfold OwnT
  simpa using h2
theorem wpList_appT {w : World} {ops : Array Oper} {rest : List Oper} {o : Oper} {a : Act} {Q : Exit → Act → World → Prop} (hgd : o.guard = none) (s x : Operand)
    (ho : o.op = .call { callee := .builtin .append, args := #[s, x], argTypes := #[41, 41] }) (B : Nat) (v : Value) (l : List Tk) (g : Nat) (y : Tk) (hs : a.eval s = v) (hx : a.eval x = .slice (some ⟨g, 0, none⟩) 1 1) (hown : OwnT B w v l) (hy : Ct w g 0 y)
    (hl : l.length ≤ 1000) (hB : B ≤ w.heap.size)
    (h : ∀ v' w', OwnT B w' v' (l ++ [y]) → Below B w w' → (∀ k, k < w.heap.size → some k ≠ v.ownBlock → w'.heap[k]? = w.heap[k]?) → wpList Tryz.prog ops Q rest (a.put o.dst v') w') : wpList Tryz.prog ops Q (o :: rest) a w :=
  wpList_plain hgd fun _ hK => by
    obtain ⟨v', w', hr, h2, h3⟩ := run_appT w B o.type v l g y hown hy hl hB
    unfold Oper.wp execOp
    simp only [ho, resolve, invoke, builtin, Sem.run_bind, Sem.run_pure, Result.andThen_ok, List.map_toArray, List.map_cons, List.map_nil, hs, hx, hr]
    exact hK _ _ (h v' w' h2 (hown.below hB h3) fun k hk hv => h3.block k hk hv)
theorem OwnT.apart {B : Nat} {w : World} {v : Value} {l : List Tk} (h : OwnT B w v l) {g : Nat} (hg : w.heap.size ≤ g) : some g ≠ v.ownBlock := fun e => by
  have := (World.ownsRow.lt h g e.symm).2
  omega

end Go.Proofs.YtjlmcnbmhgabpaaGreat
