/- Rows of values of the call's own, that grow by appends; the walks of row's takeCount and times. -/
import Derived.Test.YtdeplfhkeneabaaR3
import Derived.Test.YtdeplfhkeneabaaVb
import Derived.Deep.RegionHeld3
namespace Go.Proofs.Ytdeplfhkeneabaa
open Go.RowKit
set_option linter.unusedVariables false

theorem Try.info35 : (Try.prog.info? 35).map (fun i => (i.zero, i.size, i.bytes)) = some (some (.agg #[.int .i64 0, .int .i64 0, .string ⟨#[]⟩]), 3, 32) := by kernel_rfl

/-- The cells of a value. -/
def cellsV (v : Vl) : List Value := [.int .i64 v.1, .int .i64 v.2.1, .string v.2.2]
/-- The value v is a slice of values of the call's own (its block from B on), and reads as l. -/
def OwnV (B : Nat) (w : World) (v : Value) (l : List Vl) : Prop := w.ownsRow B 35 3 v l.length (l.flatMap cellsV)
theorem OwnV.nil (B : Nat) (w : World) : OwnV B w (.slice none 0 0) [] := World.ownsRow_nil w B 35 3
theorem OwnV.alloc {B : Nat} {w : World} {v : Value} {l : List Vl} (h : OwnV B w v l) (o : Obj) : OwnV B (w.alloc o) v l := World.ownsRow.alloc h o
theorem OwnV.drewN {B : Nat} {w : World} {v : Value} {l : List Vl} (h : OwnV B w v l) (k : Nat) : OwnV B (w.drewN k) v l := h
theorem OwnV.drew {B : Nat} {w : World} {v : Value} {l : List Vl} (h : OwnV B w v l) : OwnV B w.drew v l := h
theorem OwnV.later {B : Nat} {w w' : World} {v : Value} {l : List Vl} (h : OwnV B w v l) (hb : Below w.heap.size w w') : OwnV B w' v l := by
  refine ⟨h.1, ?_⟩
  rcases h.2 with k | ⟨g, cap, cur, hv, hg, hh, r⟩
  · exact .inl k
  · exact .inr ⟨g, cap, cur, hv, hg, by rw [hb.block g (Array.getElem?_eq_some_iff.1 hh).1]; exact hh, r⟩
theorem cells_at : ∀ {l : List Vl} {i : Nat}, i < l.length → (l.flatMap cellsV)[i * 3]? = some (.int .i64 (vth l i).1) ∧ (l.flatMap cellsV)[i * 3 + 1]? = some (.int .i64 (vth l i).2.1) ∧ (l.flatMap cellsV)[i * 3 + 2]? = some (.string (vth l i).2.2)
  | [], i, h => by simp at h
  | v :: l, 0, h => ⟨rfl, rfl, rfl⟩
  | v :: l, i + 1, h => by
    have ih := cells_at (l := l) (i := i) (by simpa using h)
    have e : vth (v :: l) (i + 1) = vth l i := by simp [vth]
    rw [e, List.flatMap_cons, show (i + 1) * 3 = i * 3 + 3 from by omega]
    refine ⟨?_, ?_, ?_⟩
    · rw [List.getElem?_append_right (by simp [cellsV]), show i * 3 + 3 - (cellsV v).length = i * 3 from by simp [cellsV]]; exact ih.1
    · rw [List.getElem?_append_right (by simp [cellsV]), show i * 3 + 3 + 1 - (cellsV v).length = i * 3 + 1 from by simp [cellsV]]; exact ih.2.1
    · rw [List.getElem?_append_right (by simp [cellsV]), show i * 3 + 3 + 2 - (cellsV v).length = i * 3 + 2 from by simp [cellsV]]; exact ih.2.2
theorem OwnV.rd {B : Nat} {w : World} {v : Value} {l : List Vl} (h : OwnV B w v l) : ∃ ao c, v = .slice ao l.length c ∧ RdV w ao l.length c l := by
  rcases h.2 with ⟨rfl, h0⟩ | ⟨g, cap, cur, rfl, hb, hg, hn, hc, hs, ht⟩
  · have : l = [] := List.eq_nil_of_length_eq_zero h0
    subst this
    exact ⟨none, 0, rfl, RdV.nil w⟩
  · refine ⟨_, cap, rfl, ⟨rfl, hn, hc, fun e => by simp at e, fun hp => ⟨g, 0, rfl, fun i hi => ?_⟩⟩⟩
    have c0 := World.ownsRow.cellAt h (i * 3) (by omega)
    have c1 := World.ownsRow.cellAt h (i * 3 + 1) (by omega)
    have c2 := World.ownsRow.cellAt h (i * 3 + 2) (by omega)
    obtain ⟨e0, e1, e2⟩ := cells_at hi
    rw [Nat.zero_add]
    exact ⟨c0.trans e0, c1.trans e1, c2.trans e2⟩
theorem OwnV.below {B : Nat} {w w' : World} {v : Value} {l : List Vl} (h : OwnV B w v l) (hB : B ≤ w.heap.size) (hg : w.grownBy w' v.ownBlock) : Below B w w' :=
  below_grown (Below.refl B w) hB h (Nat.le_refl _) hg
theorem Cv.news {w : World} {g : Nat} {v : Vl} (h : Cv w g 0 v) : ∀ (j : Nat) (u : Value), (cellsV v)[j]? = some u → w.cell? ((⟨g, 0, none⟩ : Addr).add j) = some u := by
  intro j u hj
  match j, hj with
  | 0, hj => simp [cellsV] at hj; subst hj; simpa [Addr.add] using h.1
  | 1, hj => simp [cellsV] at hj; subst hj; simpa [Addr.add] using h.2.1
  | 2, hj => simp [cellsV] at hj; subst hj; simpa [Addr.add] using h.2.2
  | j + 3, hj => simp [cellsV] at hj
theorem Cv.new (w : World) (v : Vl) : Cv (w.alloc (.cells #[.int .i64 v.1, .int .i64 v.2.1, .string v.2.2] 35)) w.heap.size 0 v := box3 w _ _ _ 35

theorem run_appV (w : World) (B : Nat) (ty : TypeId) (v : Value) (l : List Vl) (g : Nat) (x : Vl) (hown : OwnV B w v l) (hx : Cv w g 0 x) (hl : l.length ≤ 1000) (hB : B ≤ w.heap.size) :
    ∃ v' w', (Builtin.append_ #[22, 22] ty #[v, .slice (some ⟨g, 0, none⟩) 1 1]).run Try.prog w = .ok v' w' ∧ OwnV B w' v' (l ++ [x]) ∧ w.grownBy w' v.ownBlock := by
  obtain ⟨i, hi, hz, hsz, hby⟩ := info_parts Try.info35
  obtain ⟨v', w', hr, h2, h3, _⟩ := run_append_own (P := Try.prog) w B 22 ty 35 i _ 3 32 Try.underlying22 hi hz hsz hby rfl (by omega) v l.length _ hown ⟨g, 0, none⟩ 1 1 (cellsV x) rfl hx.news
    (by intro u hu; simp [cellsV] at hu; rcases hu with rfl | rfl | rfl <;> rfl) (by unfold maxLen; omega) (by omega) hB
  refine ⟨v', w', hr, ?_, h3⟩
  unfold OwnV
  simpa using h2
theorem wpList_appV {w : World} {ops : Array Oper} {rest : List Oper} {o : Oper} {a : Act} {Q : Exit → Act → World → Prop} (hgd : o.guard = none) (s x : Operand)
    (ho : o.op = .call { callee := .builtin .append, args := #[s, x], argTypes := #[22, 22] }) (B : Nat) (v : Value) (l : List Vl) (g : Nat) (y : Vl) (hs : a.eval s = v) (hx : a.eval x = .slice (some ⟨g, 0, none⟩) 1 1) (hown : OwnV B w v l) (hy : Cv w g 0 y)
    (hl : l.length ≤ 1000) (hB : B ≤ w.heap.size)
    (h : ∀ v' w', OwnV B w' v' (l ++ [y]) → Below B w w' → wpList Try.prog ops Q rest (a.put o.dst v') w') : wpList Try.prog ops Q (o :: rest) a w :=
  wpList_plain hgd fun _ hK => by
    obtain ⟨v', w', hr, h2, h3⟩ := run_appV w B o.type v l g y hown hy hl hB
    unfold Oper.wp execOp
    simp only [ho, resolve, invoke, builtin, Sem.run_bind, Sem.run_pure, Result.andThen_ok, List.map_toArray, List.map_cons, List.map_nil, hs, hx, hr]
    exact hK _ _ (h v' w' h2 (hown.below hB h3))
theorem step_appV {ops : Array Oper} {o : Oper} {a : Act} {w : World} {K : Act → World → Prop} {Q : Exit → Act → World → Prop} {E : Prop}
    (hgd : o.guard = none) (s x : Operand) (ho : o.op = Op.call { callee := Callee.builtin Builtin.append, args := #[s, x], argTypes := #[22, 22] })
    (B : Nat) (v : Value) (l : List Vl) (g : Nat) (y : Vl) (hs : a.eval s = v) (hx : a.eval x = .slice (some ⟨g, 0, none⟩) 1 1) (hown : OwnV B w v l) (hy : Cv w g 0 y) (hl : l.length ≤ 1000) (hB : B ≤ w.heap.size)
    (h : ∀ v' w', OwnV B w' v' (l ++ [y]) → Below B w w' → (∀ b p u, w.cell? ⟨b, p, none⟩ = some u → some b ≠ v.ownBlock → w'.cell? ⟨b, p, none⟩ = some u) → K (a.put o.dst v') w') :
    if Region.wanted o (yielded ops a.tmps) = true then Oper.wp Try.prog o a w K Q else E := by
  have hw : Region.wanted o (yielded ops a.tmps) = true := by simp [Region.wanted, hgd]
  rw [if_pos hw]
  obtain ⟨v', w', hr, h2, h3⟩ := run_appV w B o.type v l g y hown hy hl hB
  unfold Oper.wp
  simp [execOp, ho, resolve, invoke, builtin, hs, hx, hr, Result.andThen]
  exact h v' w' h2 (hown.below hB h3) fun b p u hu hb => by rw [← hu]; exact World.cell?_of_block (h3.block b (World.block_lt_of_cell? _ _ hu) hb)
theorem OwnV.apart {B : Nat} {w : World} {v : Value} {l : List Vl} (h : OwnV B w v l) {g : Nat} (hg : w.heap.size ≤ g) : some g ≠ v.ownBlock := fun e => by
  have := (World.ownsRow.lt h g e.symm).2
  omega

/-- What takeCount tells. -/
def cnM : List Int → Int
  | [] => 0
  | c :: _ => if c < 1 ∨ 6 < c then 0 else c
def cnN : List Int → Int
  | [] => 0
  | c :: _ => if c < 1 ∨ 6 < c then 0 else 1
def cnE : List Int → Int
  | [] => 2
  | c :: _ => if c < 1 ∨ 6 < c then 3 else 0
theorem cnt_no {c : Int} : cntB c = false ↔ c < 1 ∨ 6 < c := by
  rw [cntB, Bool.and_eq_false_iff, decide_eq_false_iff_not, decide_eq_false_iff_not]; omega

set_option maxRecDepth 100000 in
theorem takeCount_any (ao : Option Addr) (n c : Nat) (bs : List Int) (w : World) (h : Rd .u8 w ao n c bs) (hu : U8 bs) : Calls Try.prog 19 #[.slice ao n c] w fun e w' => e = .returned (.tuple #[.int .i64 (cnM bs), .int .i64 (cnN bs), .int .i64 (cnE bs)]) ∧ w' = w := by
  have hlen := h.len
  have hcap := h.cap
  have hmax := h.max
  cases bs with
  | nil =>
    obtain rfl : n = 0 := by simpa using hlen.symm
    clear h
    go_enter Try.func19, Try.ntmps19
    go_wp2
    refine bodyPost_ret (v := .tuple #[.int .i64 0, .int .i64 0, .int .i64 2]) (by simp [results, Try.results19]) rfl ⟨rfl, rfl⟩
  | cons x r =>
    obtain ⟨q, rfl⟩ : ∃ q, n = q + 1 := ⟨r.length, by simpa using hlen.symm⟩
    obtain ⟨b, o, rfl, hc⟩ := h.cells (by omega)
    have hc0 := hc 0 (by omega)
    rw [nth_zero, Nat.add_zero] at hc0
    have hx := hu x (by simp)
    have HC := mayCount_any x w
    have hwx : IntKind.i64.wrap x = x := by rw [IntKind.wrap_i64]; omega
    cases e2 : cntB x with
    | false =>
      have hno := cnt_no.1 e2
      rw [e2] at HC
      rw [cnM, cnN, cnE, if_pos hno, if_pos hno, if_pos hno]
      replace HC : Hid _ := HC
      clear hc h hu hno e2 hlen
      go_enter Try.func19, Try.ntmps19
      go_wp2_with fail
      refine Calls.mono HC.out ?_
      rintro e w1 ⟨rfl, rfl⟩
      go_wp2
      refine bodyPost_ret (v := .tuple #[.int .i64 0, .int .i64 0, .int .i64 3]) (by simp [results, Try.results19]) rfl ⟨rfl, rfl⟩
    | true =>
      have hno : ¬ (x < 1 ∨ 6 < x) := fun k => by rw [cnt_no.2 k] at e2; cases e2
      rw [e2] at HC
      rw [cnM, cnN, cnE, if_neg hno, if_neg hno, if_neg hno]
      replace HC : Hid _ := HC
      clear hc h hu hno e2 hlen
      go_enter Try.func19, Try.ntmps19
      go_wp2_with fail
      refine Calls.mono HC.out ?_
      rintro e w1 ⟨rfl, rfl⟩
      go_wp2
      refine bodyPost_ret (v := .tuple #[.int .i64 x, .int .i64 1, .int .i64 0]) (by simp [results, Try.results19]) rfl ⟨rfl, rfl⟩

end Go.Proofs.Ytdeplfhkeneabaa
