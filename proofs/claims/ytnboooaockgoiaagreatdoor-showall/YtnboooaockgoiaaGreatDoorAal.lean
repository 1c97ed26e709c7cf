import Derived.Test.YtnboooaockgoiaaGreatDoorAak
import Derived.Test.YtnboooaockgoiaaGreatDoorAac
import Derived.Test.YtnboooaockgoiaaGreatDoorAab
namespace Go.Proofs.YtnboooaockgoiaaGreatDoor
open Go.RowKit
set_option linter.unusedVariables false

/-- A column that the play makes. -/
def ColP (c : Co) : Prop := c.1 ∈ [⟨#[107]⟩, ⟨#[118]⟩, ⟨#[110]⟩, ⟨#[114]⟩] ∧ (c.2.1 = 1 ∨ c.2.1 = 2) ∧ c.2.2 ∈ [⟨#[]⟩, ⟨#[116]⟩, ⟨#[117]⟩, ⟨#[113]⟩]
abbrev viewN : List ByteArray := [⟨#[100]⟩, ⟨#[101]⟩, ⟨#[102]⟩, ⟨#[103]⟩]
/-- A statement as the play makes it. -/
def StOK (m : Sf) : Prop :=
  (∃ n cs, n ∈ [⟨#[116]⟩, ⟨#[117]⟩, ⟨#[119]⟩, ⟨#[120]⟩] ∧ cs ≠ [] ∧ cs.length ≤ 4 ∧ (∀ c ∈ cs, ColP c) ∧ m = (⟨1, ⟨#[]⟩, n, cs, [], [], [], ⟨#[]⟩, [], [], [], false⟩, [])) ∨
  (∃ tb n, tb ∈ [⟨#[116]⟩, ⟨#[117]⟩, ⟨#[119]⟩] ∧ n ∈ [⟨#[110]⟩, ⟨#[118]⟩, ⟨#[107]⟩, ⟨#[113]⟩] ∧ m = (⟨2, tb, n, [], [], [], [], ⟨#[]⟩, [], [], [], false⟩, [])) ∨
  (∃ n tg x tb, n ∈ viewN ∧ TgOK tg ∧ (tb = tabT ∨ tb = tabU) ∧ SelOK tb x ∧ m = (⟨3, ⟨#[]⟩, n, [], tg, [], [], ⟨#[]⟩, [], [], [], false⟩, [x])) ∨
  (∃ n tg x, n ∈ viewN ∧ TgOK tg ∧ DataOK x ∧ x.kind ≠ 6 ∧ m = (⟨4, ⟨#[]⟩, n, [], tg, [], [], ⟨#[]⟩, [], [], [], false⟩, [x])) ∨
  (∃ k : Int, (k = 9 ∨ k = 10 ∨ k = 11) ∧ m = (sm k, [])) ∨
  (∃ tg, tg ≠ [] ∧ tg.length ≤ 3 ∧ (∀ z ∈ tg, 1 ≤ z ∧ z ≤ 3) ∧ m = (⟨12, ⟨#[]⟩, ⟨#[]⟩, [], tg, [], [], ⟨#[]⟩, [], [], [], false⟩, [])) ∨
  (∃ n, n ∈ viewN ∧ m = (⟨13, ⟨#[]⟩, n, [], [], [], [], ⟨#[]⟩, [], [], [], false⟩, [])) ∨
  (∃ x, DataOK x ∧ m = (x, []))
/-- What Stmt tells. -/
def TeSf (g r : Nat) (w : World) (X : Sf → Prop) (e : Ending) (w' : World) : Prop :=
  ∃ s m r', e = .returned (stV s) ∧ X m ∧ r' ≤ r ∧ Pk w' g r' ∧ But g w w' ∧ IsS (fun b => w.heap.size ≤ b) w' m.1 s ∧ RowIs eStmt (fun b => w.heap.size ≤ b) w' (slV s.inn) m.2
theorem TeSf.fin {g r r' z : Nat} {w w1 : World} {X : Sf → Prop} {m : Sf} {s : Sv} (hU : But g w w1) (hI : IsS (fun b => z < b) w1 m.1 s) (hn : RowIs eStmt (fun b => z < b) w1 (slV s.inn) m.2) (hX : X m) (hl : r' ≤ r) (hp : Pk w1 g r') (hg : g < z) (hz : z = w.heap.size) : TeSf g r w X (.returned (stV s)) (set13 w1 z s) :=
  ⟨s, m, r', rfl, hX, hl, hp.set13 hg s, hU.set13 (by omega) s, (hI.keep fun b hb _ => set13_heap _ _ _ (by omega)).mono fun b hb _ => by omega, (hn.keep (by decide) fun b hb _ => set13_heap _ _ _ (by omega)).mono (by decide) fun b hb _ => by omega⟩
/-- A row of the call's own, read, be it empty or not. -/
theorem OwnR.row' {α : Type} {e : Ek α} {ty B : Nat} {w : World} {v : Value} {css : List (List Value)} {l : List α} {Q : Nat → Prop} (h : OwnR ty e.k B w v css) (hl : l.length = css.length) (hq : ∀ b, B ≤ b → b < w.heap.size → Q b)
    (hE : ∀ i (h1 : i < l.length) (h2 : i < css.length), e.E Q w l[i] css[i]) : RowIs e Q w v l := by
  by_cases hn : css = []
  · subst hn
    obtain rfl : l = [] := List.eq_nil_of_length_eq_zero hl
    rcases h.2.2 with ⟨rfl, _⟩ | ⟨b, cap, cur, rfl, _, _, h1, h2, _⟩
    · exact RowIs.nil _ _ _
    · exact ⟨_, _, cap, rfl, rfl, Nat.zero_le _, Nat.le_trans h2 (by decide), fun h => absurd h (by simp)⟩
  · exact OwnR.row h hl hn hq hE
theorem tags_row {B z : Nat} {w : World} {v : Value} {l : List Int} (h : OwnR 74 1 B w v (l.map fun z => [.int .u16 z])) (hB : z < B) : RowIs eTag (fun b => z < b) w v l :=
  OwnR.row' (e := eTag) h (by simp) (fun b hb _ => by omega) fun i h1 h2 => by
    show (l.map fun z => [Value.int .u16 z])[i] = [.int .u16 l[i]]
    rw [List.getElem_map]
theorem cols_row {B z : Nat} {w : World} {v : Value} {l : List Co} (h : OwnR 62 3 B w v (l.map fun c => [.string c.1, .int .i64 c.2.1, .string c.2.2])) (hB : z < B) : RowIs eCol (fun b => z < b) w v l :=
  OwnR.row' (e := eCol) h (by simp) (fun b hb _ => by omega) fun i h1 h2 => by
    show (l.map fun c => [Value.string c.1, .int .i64 c.2.1, .string c.2.2])[i] = [.string l[i].1, .int .i64 l[i].2.1, .string l[i].2.2]
    rw [List.getElem_map]
/-- Thirteen cells of a block that was just made. -/
abbrev svO (s : Sv) : Obj := .cells #[.int .i64 s.k, .string s.tb, .string s.nm, .slice s.co.1 s.co.2.1 s.co.2.2, .slice s.ta.1 s.ta.2.1 s.ta.2.2, .slice s.va.1 s.va.2.1 s.va.2.2, .slice s.it.1 s.it.2.1 s.it.2.2, .string s.jn, .slice s.on.1 s.on.2.1 s.on.2.2, .slice s.wh.1 s.wh.2.1 s.wh.2.2, .slice s.od.1 s.od.2.1 s.od.2.2, .bool s.ds, .slice s.inn.1 s.inn.2.1 s.inn.2.2] 48 (0, 0)
/-- A row of one statement that was just built. -/
theorem row_onS {Q : Nat → Prop} {w : World} {x : Sm} {s : Sv} (hq : Q w.heap.size) (hI : IsS Q w x s) (hn : s.inn = (none, 0, 0)) : RowIs eStmt Q (w.alloc (svO s)) (.slice (some ⟨w.heap.size, 0, none⟩) 1 1) [x] := by
  have hb := bal (Below.refl _ w) (svO s)
  refine ⟨_, 1, 1, rfl, rfl, Nat.le_refl _, by omega, fun _ => ⟨w.heap.size, 0, rfl, hq, fun i hi => ?_⟩⟩
  have hi' : i < 1 := hi
  obtain rfl : i = 0 := by omega
  refine ⟨svC s, ⟨s, rfl, hI.keep fun b _ hl => hb.block b hl, hn⟩, rfl, fun j hj => ?_⟩
  rw [show 0 + 0 * eStmt.k + j = j from by omega]
  rw [cell_new w]
  have hj' : j < 13 := hj
  match j, hj' with
  | 0, _ => rfl
  | 1, _ => rfl
  | 2, _ => rfl
  | 3, _ => rfl
  | 4, _ => rfl
  | 5, _ => rfl
  | 6, _ => rfl
  | 7, _ => rfl
  | 8, _ => rfl
  | 9, _ => rfl
  | 10, _ => rfl
  | 11, _ => rfl
  | 12, _ => rfl
/-- Only block b of the old ones may have changed. -/
structure GrM (b : Nat) (w w' : World) : Prop where
  os : w'.os = w.os
  tape : w'.tape = w.tape
  output : w'.output = w.output
  size : w.heap.size ≤ w'.heap.size
  block : ∀ j, j < w.heap.size → j ≠ b → w'.heap[j]? = w.heap[j]?
/-- A row, be it empty, appended to a row of the call's own that is not nil. -/
theorem run_appM {t ty e : TypeId} {z : Value} {k bytes B : Nat} (ht : Tryz.prog.underlying t = some (.slice e)) (hinf : (Tryz.prog.info? e).map (fun i => (i.zero, i.size, i.bytes)) = some (some z, k, bytes)) (hzs : z.cells.size = k) (hk : 0 < k) (hby : bytes ≤ 1000)
    (w : World) (b n cap : Nat) (u : Value) (css css2 : List (List Value)) (hown : OwnR e k B w (.slice (some ⟨b, 0, none⟩) n cap) css) (hown2 : OwnR e k B w u css2) (h1 : ∀ u ∈ css2.flatten, u.oneCell' = true) (hl : css.length + css2.length ≤ 1000) (hB : B ≤ w.heap.size) :
    ∃ v' w', (Builtin.append_ #[t, t] ty #[.slice (some ⟨b, 0, none⟩) n cap, u]).run Tryz.prog w = .ok v' w' ∧ OwnR e k B w' v' (css ++ css2) ∧ GrM b w w' := by
  by_cases hne : css2 = []
  · subst hne
    rcases id hown2.2.2 with ⟨rfl, _⟩ | ⟨b2, cap2, cur2, rfl, _⟩
    · obtain ⟨i, hi, hz, hsz, hb⟩ := info_parts hinf
      have hnc : n ≤ cap := by
        rcases hown.2.2 with ⟨e, _⟩ | ⟨b', cap', cur, e, _, _, hnc, _⟩
        · cases e
        · cases e; exact hnc
      have := run_append_room_src w t t ty e i ht hi b 0 n cap (.slice none 0 0) 0 [] (Src.ofNil w ht 0) (by omega) (fun j hj => absurd hj (by simp)) (fun j hj => absurd hj (by simp))
      refine ⟨_, _, this, ?_, rfl, rfl, rfl, Nat.le_refl _, fun _ _ _ => rfl⟩
      rw [List.append_nil]
      exact hown
    · obtain ⟨i, hi, hz, hsz, hb⟩ := info_parts hinf
      have hnc : n ≤ cap := by
        rcases hown.2.2 with ⟨e, _⟩ | ⟨b', cap', cur, e, _, _, hnc, _⟩
        · cases e
        · cases e; exact hnc
      have := run_append_room_src w t t ty e i ht hi b 0 n cap (.slice (some ⟨b2, 0, none⟩) 0 cap2) 0 [] (Src.ofSlice w ht ⟨b2, 0, none⟩ 0 cap2 [] (by simp) (by simp) (by simp)) (by omega) (fun j hj => absurd hj (by simp)) (fun j hj => absurd hj (by simp))
      refine ⟨_, _, this, ?_, rfl, rfl, rfl, Nat.le_refl _, fun _ _ _ => rfl⟩
      rw [List.append_nil]
      exact hown
  · obtain ⟨v', w', hr, h2, h3, h4⟩ := run_appN ht hinf hzs hk hby w _ u css css2 hown hown2 hne h1 hl hB (ty := ty)
    exact ⟨v', w', hr, h2, h3.os, h3.tape, h3.output, h3.size, fun j hj hne => h3.block j hj fun e => hne (by cases e; rfl)⟩
theorem wpList_appM {t e : TypeId} {z : Value} {k bytes B : Nat} (ht : Tryz.prog.underlying t = some (.slice e)) (hinf : (Tryz.prog.info? e).map (fun i => (i.zero, i.size, i.bytes)) = some (some z, k, bytes)) (hzs : z.cells.size = k) (hk : 0 < k) (hby : bytes ≤ 1000)
    {w : World} {ops : Array Oper} {rest : List Oper} {o : Oper} {a : Act} {Q : Exit → Act → World → Prop} (hgd : o.guard = none) (s x : Operand)
    (ho : o.op = .call { callee := .builtin .append, args := #[s, x], argTypes := #[t, t] }) (b n cap : Nat) (u : Value) (css css2 : List (List Value)) (hs : a.eval s = .slice (some ⟨b, 0, none⟩) n cap) (hx : a.eval x = u)
    (hown : OwnR e k B w (.slice (some ⟨b, 0, none⟩) n cap) css) (hown2 : OwnR e k B w u css2) (h1 : ∀ u ∈ css2.flatten, u.oneCell' = true) (hl : css.length + css2.length ≤ 1000) (hB : B ≤ w.heap.size)
    (h : ∀ v' w', OwnR e k B w' v' (css ++ css2) → GrM b w w' → wpList Tryz.prog ops Q rest (a.put o.dst v') w') : wpList Tryz.prog ops Q (o :: rest) a w :=
  wpList_plain hgd fun _ hK => by
    obtain ⟨v', w', hr, h2, h3⟩ := run_appM ht hinf hzs hk hby w b n cap u css css2 hown hown2 h1 hl hB (ty := o.type)
    unfold Oper.wp execOp
    simp only [ho, resolve, invoke, builtin, Sem.run_bind, Sem.run_pure, Result.andThen_ok, List.map_toArray, List.map_cons, List.map_nil, hs, hx, hr]
    exact hK _ _ (h v' w' h2 h3)

theorem set13_size (w : World) (b : Nat) (s : Sv) : (set13 w b s).heap.size = w.heap.size := by simp [set13, World.setCell]
abbrev lT3 : List ByteArray := [⟨#[116]⟩, ⟨#[117]⟩, ⟨#[119]⟩]
abbrev lN4 : List ByteArray := [⟨#[110]⟩, ⟨#[118]⟩, ⟨#[107]⟩, ⟨#[113]⟩]
abbrev lK4 : List ByteArray := [⟨#[107]⟩, ⟨#[118]⟩, ⟨#[110]⟩, ⟨#[114]⟩]
abbrev oT3 : Obj := .cells #[.string ⟨#[116]⟩, .string ⟨#[117]⟩, .string ⟨#[119]⟩] 9 (0, 0)
abbrev oN4 : Obj := .cells #[.string ⟨#[110]⟩, .string ⟨#[118]⟩, .string ⟨#[107]⟩, .string ⟨#[113]⟩] 9 (0, 0)
abbrev oK4 : Obj := .cells #[.string ⟨#[107]⟩, .string ⟨#[118]⟩, .string ⟨#[110]⟩, .string ⟨#[114]⟩] 9 (0, 0)
abbrev oZC : Obj := .cells #[.string ⟨#[]⟩, .int .i64 0, .string ⟨#[]⟩] 62 (0, 0)
abbrev sIx (tb nm : ByteArray) : Sv := ⟨2, tb, nm, (none, 0, 0), (none, 0, 0), (none, 0, 0), (none, 0, 0), ⟨#[]⟩, (none, 0, 0), (none, 0, 0), (none, 0, 0), false, (none, 0, 0)⟩
theorem s1 {α : Type} (l : List α) (i : Nat) (x : α) : l.toArray.setIfInBounds i x = (l.set i x).toArray := by simp
theorem s2 {α : Type} (a b : α) (l : List α) : (a :: l).set 0 b = b :: l := rfl
theorem s3 {α : Type} (a b : α) (l : List α) (i : Nat) : (a :: l).set (i + 1) b = a :: l.set i b := rfl
theorem tkH {P : Program} {md : Region.Mode} {ops : Array Oper} {Q : Exit → Act → World → Prop} {S : World → Prop} (i : Nat) {oi : Oper} (v : Value) {fuel : Nat} {listed : Array Bool} {a : Act} {w : World} (hi : ops[i]? = some oi)
    (hs : Region.noSelect ops = true) (hf : Region.free md ops listed i = true) (hr : (Region.ready md ops listed).contains i = true) (hQ : ∀ c a w, Q (.panic c) (a.put oi.dst v) w → Q (.panic c) a w)
    (hg : Region.wanted oi (yielded ops a.tmps) = true) (hy : ∀ w', S w' → (execOp a.eval oi).run P w' = .ok (.value v) w') (hS : S w)
    (h : wpAnyH P md ops Q S fuel (listed.setIfInBounds i true) (a.put oi.dst v) w) : wpAnyH P md ops Q S (fuel + 1) listed a w :=
  wpAnyH_take hi hs hf hr hQ (Or.inl ⟨hg, hy⟩) hS h
/-- S may be made stronger on the way. -/
theorem wpAnyH_str {P : Program} {md : Region.Mode} {ops : Array Oper} {Q : Exit → Act → World → Prop} {S S' : World → Prop} (h : ∀ w, S' w → S w) : ∀ (fuel : Nat) (listed : Array Bool) (a : Act) (w : World), wpAnyH P md ops Q S' fuel listed a w → wpAnyH P md ops Q S fuel listed a w
  | 0, _, _, _, k => k
  | fuel + 1, _, _, _, k => ⟨k.1, fun i hi => wpOp_mono (fun _ _ y => ⟨h _ y.1, wpAnyH_str h fuel _ _ _ y.2⟩) (k.2 i hi)⟩
/-- One of some texts. -/
def txN (L : List ByteArray) (j : Nat) : ByteArray := L.getD j ⟨#[]⟩
theorem txN_mem {L : List ByteArray} {j : Nat} (h : j < L.length) : txN L j ∈ L := by
  unfold txN
  rw [List.getD_eq_getElem?_getD, List.getElem?_eq_getElem h]
  exact List.getElem_mem _
/-- Texts in a block. -/
structure Txt (w : World) (b : Nat) (L : List ByteArray) : Prop where
  lt : b < w.heap.size
  cell : ∀ j, j < L.length → w.cell? ⟨b, j, none⟩ = some (.string (txN L j))
theorem Txt.keep {w w' : World} {b : Nat} {L : List ByteArray} (h : Txt w b L) (hs : w.heap.size ≤ w'.heap.size) (hk : w'.heap[b]? = w.heap[b]?) : Txt w' b L :=
  ⟨Nat.lt_of_lt_of_le h.lt hs, fun j hj => (World.cell?_of_block (a := ⟨b, j, none⟩) hk).trans (h.cell j hj)⟩
theorem Txt.but {w w' : World} {g b : Nat} {L : List ByteArray} (h : Txt w b L) (hb : But g w w') (hg : b ≠ g) : Txt w' b L := h.keep hb.size (hb.block b h.lt hg)
theorem Txt.later {w w' : World} {b : Nat} {L : List ByteArray} (h : Txt w b L) (hb : Below w.heap.size w w') : Txt w' b L := h.keep hb.size (hb.block b h.lt)
theorem Txt.other {w : World} {b : Nat} {L : List ByteArray} (h : Txt w b L) {q : Nat} (hq : b ≠ q) (i : Nat) (v : Value) : Txt (w.setCell ⟨q, i, none⟩ v) b L := h.keep (by rw [size_set]; exact Nat.le_refl _) (Below.heap_setCell _ _ _ _ hq)
theorem Txt.new3 (w : World) (x y v : ByteArray) : Txt (w.alloc (.cells #[.string x, .string y, .string v] 9 (0, 0))) w.heap.size [x, y, v] :=
  ⟨by rw [World.size_alloc]; omega, fun j hj => by
    have hj' : j < 3 := hj
    rw [cell_new w]
    match j, hj' with
    | 0, _ => rfl
    | 1, _ => rfl
    | 2, _ => rfl⟩
theorem Txt.new4 (w : World) (x y v u : ByteArray) : Txt (w.alloc (.cells #[.string x, .string y, .string v, .string u] 9 (0, 0))) w.heap.size [x, y, v, u] :=
  ⟨by rw [World.size_alloc]; omega, fun j hj => by
    have hj' : j < 4 := hj
    rw [cell_new w]
    match j, hj' with
    | 0, _ => rfl
    | 1, _ => rfl
    | 2, _ => rfl
    | 3, _ => rfl⟩
/-- What holds ahead of each round of a closure's loop: the statement m in block q. -/
structure CloR (g r z q : Nat) (w wr : World) (s : Sv) (m : Sm) (r' : Nat) : Prop where
  box : Bs wr q s
  is : IsS (fun b => z < b ∧ b ≠ q) wr m s
  inn : s.inn = (none, 0, 0)
  ok : DataOK m
  less : r' ≤ r
  pk : Pk wr g r'
  but : But g w wr
  res : Bs wr z (zS 0)
  far : z < q
  new : w.heap.size ≤ q
/-- How many rounds there may be. -/
def mesK (q g : Nat) (w : World) : Nat := match w.cell? ⟨q, 0, none⟩ with
  | some (.int _ 6) => left g w + 1
  | _ => 0
theorem CloR.mes6 {g r z q : Nat} {w wr : World} {s : Sv} {m : Sm} {r' : Nat} (h : CloR g r z q w wr s m r') (h6 : s.k = 6 := by rfl) : mesK q g wr = r' + 1 := by
  unfold mesK
  rw [h.box.cells.1, h6]
  show left g wr + 1 = _
  rw [h.pk.left]
theorem CloR.mesLe {g r z q : Nat} {w wr : World} {s : Sv} {m : Sm} {r' : Nat} (h : CloR g r z q w wr s m r') : mesK q g wr ≤ r' + 1 := by
  unfold mesK
  split
  · rw [h.pk.left]; exact Nat.le_refl _
  · exact Nat.zero_le _
theorem CloR.mes0 {g r z q : Nat} {w wr : World} {s : Sv} {m : Sm} {r' : Nat} (h : CloR g r z q w wr s m r') (h6 : s.k ≠ 6) : mesK q g wr = 0 := by
  unfold mesK
  rw [h.box.cells.1]
  split
  · rename_i k heq
    simp at heq
    exact absurd heq.2 h6
  · rfl
theorem CloR.next {g r z q : Nat} {w wr u : World} {s : Sv} {m : Sm} {r' r2 : Nat} (h : CloR g r z q w wr s m r') (hb : But g wr u) (hp : Pk u g r2) (hr : r2 ≤ r') (hg : g < z) (hq : q ≠ g) : CloR g r z q w u s m r2 :=
  ⟨h.box.but hb hq, h.is.keep fun b hB hl => hb.block b hl (by omega), h.inn, h.ok, Nat.le_trans hr h.less, hp, h.but.trans hb, h.res.but hb (by omega), h.far, h.new⟩
theorem CloR.put {g r z q : Nat} {w wr u : World} {s s5 : Sv} {m m5 : Sm} {r' r5 : Nat} (h : CloR g r z q w wr s m r') (hb : But g wr u) (hm : DataOK m5) (hl : r5 ≤ r') (hp : Pk u g r5) (hI : IsS (fun b => wr.heap.size ≤ b) u m5 s5) (hn : s5.inn = (none, 0, 0)) (hg : g < z) : CloR g r z q w (set13 u q s5) s5 m5 r5 := by
  have hql := h.box.lt
  have hzl := h.res.lt
  have hfar := h.far
  exact ⟨(h.box.but hb (by omega)).set13 s5, ((hI.mono fun b hB _ => (by constructor <;> omega : z < b ∧ b ≠ q)).keep fun b hB _ => set13_heap _ _ _ hB.2), hn, hm, Nat.le_trans hl h.less, hp.set13 (by omega) s5, (h.but.trans hb).set13 h.new s5, (h.res.but hb (by omega)).keep (set13_heap _ _ _ (by omega)), h.far, h.new⟩
theorem CloR.del {g r z q : Nat} {w wr : World} {s : Sv} {m : Sm} {r' : Nat} (h : CloR g r z q w wr s m r') (hg : g < z) : CloR g r z q w (set13 wr q (⟨8, ⟨#[117]⟩, ⟨#[]⟩, (none, 0, 0), (none, 0, 0), (none, 0, 0), (none, 0, 0), ⟨#[]⟩, (none, 0, 0), (none, 0, 0), (none, 0, 0), false, (none, 0, 0)⟩ : Sv)) (⟨8, ⟨#[117]⟩, ⟨#[]⟩, (none, 0, 0), (none, 0, 0), (none, 0, 0), (none, 0, 0), ⟨#[]⟩, (none, 0, 0), (none, 0, 0), (none, 0, 0), false, (none, 0, 0)⟩ : Sv) ⟨8, ⟨#[117]⟩, ⟨#[]⟩, [], [], [], [], ⟨#[]⟩, [], [], [], false⟩ r' :=
  h.put (But.refl g wr) ⟨tabU, .inr rfl, .inr (.inr (.inl ⟨[], .inl rfl, rfl⟩))⟩ (Nat.le_refl _) h.pk { IsS.zero _ _ 8 with tb := rfl } rfl hg

abbrev sTab (nm : ByteArray) (v : Sl) : Sv := ⟨1, ⟨#[]⟩, nm, v, (none, 0, 0), (none, 0, 0), (none, 0, 0), ⟨#[]⟩, (none, 0, 0), (none, 0, 0), (none, 0, 0), false, (none, 0, 0)⟩
abbrev coO (n : ByteArray) (k : Int) (f : ByteArray) : Obj := .cells #[.string n, .int .i64 k, .string f] 62 (0, 0)
theorem idx7 {i ka kb : Nat} (hi : i ≤ 3) (ha : ka < 2) (hb : kb < 3) : ∃ ab jx : Nat, (ka : Int) * (kb : Int) = (ab : Int) ∧ IntKind.i64.wrap (ab : Int) = (ab : Int) ∧ IntKind.i64.wrap (3 - (i : Int) + (ab : Int)) = 3 - (i : Int) + (ab : Int) ∧ jx < 4 ∧ (3 - (i : Int) + (ab : Int)).tmod 4 = (jx : Int) ∧ (0 : Int) ≤ (jx : Int) ∧ (jx : Int) < 4 := by
  obtain ⟨ab, hab, hab2⟩ : ∃ ab : Nat, (ka : Int) * (kb : Int) = (ab : Int) ∧ ab ≤ 2 := by
    rcases (show ka = 0 ∨ ka = 1 by omega) with rfl | rfl
    · exact ⟨0, by simp, by omega⟩
    · exact ⟨kb, by simp, by omega⟩
  exact ⟨ab, (3 - i + ab) % 4, hab, by rw [IntKind.wrap_i64]; omega, by rw [IntKind.wrap_i64]; omega, Nat.mod_lt _ (by decide), by rw [Int.tmod_eq_emod_of_nonneg (by omega)]; omega, by omega, by omega⟩
abbrev st3 (w : World) (b : Nat) (n : ByteArray) (k : Int) : World := ((w.setCell ⟨b, 0, none⟩ (.string n)).setCell ⟨b, 1, none⟩ (.int .i64 k)).setCell ⟨b, 2, none⟩ (.string ⟨#[]⟩)
theorem Txt.st3 {w : World} {b : Nat} {L : List ByteArray} (h : Txt w b L) {q : Nat} (hq : b ≠ q) (n : ByteArray) (k : Int) : Txt (Go.Proofs.YtnboooaockgoiaaGreatDoor.st3 w q n k) b L := ((h.other hq 0 _).other hq 1 _).other hq 2 _
/-- What a table's loop has behind its first part: a new column. -/
def ColI (g r5 : Nat) (wr : World) (v5 : Value) (w' : World) : Prop := ∃ bc nm kd r6, v5 = .pointer (some ⟨bc, 0, none⟩) ∧ Blk w' bc (coO nm kd ⟨#[]⟩) ∧ nm ∈ lK4 ∧ (kd = 1 ∨ kd = 2) ∧ wr.heap.size ≤ bc ∧ But g wr w' ∧ Pk w' g r6 ∧ r6 ≤ r5
theorem ColI.of {g r5 r6 b kc : Nat} {wr U : World} {n : ByteArray} (hC : Blk U b oZC) (hn : n ∈ lK4) (hk : kc < 2) (hb : wr.heap.size ≤ b) (hE : But g wr U) (hp : Pk U g r6) (hg : g < b) (hr : r6 ≤ r5) : ColI g r5 wr (.pointer (some ⟨b, 0, none⟩)) (st3 U b n (1 + (kc : Int))) :=
  ⟨b, n, 1 + (kc : Int), r6, rfl, hC.set3 _ _ _, hn, by omega, hb, hE.new3 hb _ _ _, hp.new3 hg _ _ _, hr⟩
theorem Blk.set2c {w : World} {b : Nat} {n : ByteArray} {k : Int} {f : ByteArray} (h : Blk w b (coO n k f)) (x : ByteArray) : Blk (w.setCell ⟨b, 2, none⟩ (.string x)) b (coO n k x) := ⟨by simp [World.setCell, Array.getElem?_modify, h.row]⟩
/-- What holds ahead of each round of a table's loop. -/
structure TabI (g r z q : Nat) (w wr : World) (nm : ByteArray) (cs : List Co) (v : Sl) (r5 : Nat) : Prop where
  ok : ∀ c ∈ cs, ColP c
  own : OwnR 62 3 (q + 1) wr (slV v) (cs.map fun c => [.string c.1, .int .i64 c.2.1, .string c.2.2])
  box : Bs wr q (sTab nm v)
  less : r5 ≤ r
  pk : Pk wr g r5
  but : But g w wr
  res : Bs wr z (zS 0)
theorem TabI.next {g r z q : Nat} {w wr u w6 : World} {nm : ByteArray} {cs : List Co} {v v' : Sl} {r5 r6 : Nat} {c : Co} (h : TabI g r z q w wr nm cs v r5) (hc : ColP c)
    (hr : r6 ≤ r5) (hp : Pk u g r6) (hb : But g wr u) (hgz : g < z) (hzq : z < q) (hwq : w.heap.size ≤ q) (hg6 : u.grownBy w6 (slV v).ownBlock) (hO : OwnR 62 3 (q + 1) w6 (slV v') (cs.map (fun c => [.string c.1, .int .i64 c.2.1, .string c.2.2]) ++ [[.string c.1, .int .i64 c.2.1, .string c.2.2]])) :
    TabI g r z q w (w6.setCell ⟨q, 3, none⟩ (.slice v'.1 v'.2.1 v'.2.2)) nm (cs ++ [c]) v' r6 := by
  have hblk := h.own.blk
  have far : ∀ b, b ≤ q → b < u.heap.size → w6.heap[b]? = u.heap[b]? := fun b hb hl => hg6.block b hl fun e => by have := (hblk b e.symm).1; omega
  have hql := h.box.lt
  have hzl := h.res.lt
  have hs := hb.size
  refine ⟨fun x hx => ?_, ?_, ?_, Nat.le_trans hr h.less, ?_, ?_, ?_⟩
  · rcases List.mem_append.1 hx with hx | hx
    · exact h.ok x hx
    · rw [List.mem_singleton] at hx; subst hx; exact hc
  · have := hO.set (b := q) (by omega) 3 (.slice v'.1 v'.2.1 v'.2.2)
    rw [List.map_append]
    exact this
  · have b1 : Bs w6 q (sTab nm v) := (h.box.but hb (by omega)).keep (far q (Nat.le_refl _) (by omega))
    exact b1.set3 v'
  · exact (hp.grown hg6 (fun k e => by have := (hblk k e).1; omega)).other (by omega) _ _
  · have b1 : But g w w6 := (h.but.trans hb).grown hg6 (fun k e => by have := (hblk k e).1; omega)
    exact b1.new (r := q) hwq _ _
  · exact ((h.res.but hb (by omega)).keep (far z (by omega) (by omega))).keep (Below.heap_setCell _ _ _ _ (by show z ≠ q; omega))
theorem TabI.fin {g r z q : Nat} {w wr : World} {nm : ByteArray} {cs : List Co} {v : Sl} {r5 : Nat} (h : TabI g r z q w wr nm cs v r5) (hn : nm ∈ [⟨#[116]⟩, ⟨#[117]⟩, ⟨#[119]⟩, ⟨#[120]⟩]) (h0 : cs ≠ []) (h4 : cs.length ≤ 4) (hg : g < z) (hz : z = w.heap.size) (hzq : z < q) : TeSf g r w StOK (.returned (stV (sTab nm v))) (set13 wr z (sTab nm v)) :=
  TeSf.fin (m := (⟨1, ⟨#[]⟩, nm, cs, [], [], [], ⟨#[]⟩, [], [], [], false⟩, [])) h.but { IsS.zero _ _ 1 with nm := rfl, co := cols_row h.own (by omega) } (RowIs.nil _ _ _) (.inl ⟨nm, cs, hn, h0, h4, h.ok, rfl⟩) h.less h.pk hg hz

end Go.Proofs.YtnboooaockgoiaaGreatDoor
namespace Go.Proofs.YtnboooaockgoiaaGreatDoor
open Go.RowKit
set_option linter.unusedVariables false

/-- A word without its place. -/
abbrev Wd := Int × ByteArray × Int
def opW (j : Nat) : Wd := (if 9 ≤ j then 2 else 5, opT j, 0)
/-- The words of an expression as it is shown. -/
def wdE : Tr → List Wd
  | .nil => []
  | .node _ op p l r =>
    if op = 1 then [if p.1 = 1 then (3, ⟨#[]⟩, p.2.1) else (4, p.2.2.1, 0)]
    else if op = 2 then (if p.2.2.2.1 = ⟨#[]⟩ then [(1, p.2.2.2.2, 0)] else [(1, p.2.2.2.1, 0), (5, ⟨#[46]⟩, 0), (1, p.2.2.2.2, 0)])
    else if op = 3 then (5, ⟨#[40]⟩, 0) :: (5, ⟨#[45]⟩, 0) :: (wdE l ++ [(5, ⟨#[41]⟩, 0)])
    else if op = 4 then (5, ⟨#[40]⟩, 0) :: (2, ⟨#[110, 111, 116]⟩, 0) :: (wdE l ++ [(5, ⟨#[41]⟩, 0)])
    else (5, ⟨#[40]⟩, 0) :: (wdE l ++ opW (op - 5) :: (wdE r ++ [(5, ⟨#[41]⟩, 0)]))
/-- An expression as Parse makes it; no more than so many brackets, signs and nots lie within one another as it is shown. -/
def Cn : Nat → Tr → Prop
  | _, .nil => False
  | d, .node x op p l r => x = 0 ∧ ((op = 1 ∧ l = .nil ∧ r = .nil ∧ ((∃ n, p = (1, n, ⟨#[]⟩, ⟨#[]⟩, ⟨#[]⟩)) ∨ ∃ s, p = (2, 0, s, ⟨#[]⟩, ⟨#[]⟩))) ∨ (op = 2 ∧ l = .nil ∧ r = .nil ∧ ∃ t n, p = (0, 0, ⟨#[]⟩, t, n)) ∨
      ((op = 3 ∨ op = 4) ∧ p = nilP ∧ r = .nil ∧ ∃ k, d = k + 2 ∧ Cn k l) ∨ (∃ j, op = j + 5 ∧ j < 11 ∧ p = nilP ∧ ∃ k, d = k + 1 ∧ Cn k l ∧ Cn k r))
theorem Cn.int (d : Nat) (n : Int) : Cn d (tInt n) := ⟨rfl, .inl ⟨rfl, rfl, rfl, .inl ⟨n, rfl⟩⟩⟩
theorem Cn.text (d : Nat) (s : ByteArray) : Cn d (tText s) := ⟨rfl, .inl ⟨rfl, rfl, rfl, .inr ⟨s, rfl⟩⟩⟩
theorem Cn.col (d : Nat) (t n : ByteArray) : Cn d (tCol t n) := ⟨rfl, .inr (.inl ⟨rfl, rfl, rfl, t, n, rfl⟩)⟩
theorem Cn.neg {d : Nat} {l : Tr} (h : Cn d l) : Cn (d + 2) (tOne 3 l) := ⟨rfl, .inr (.inr (.inl ⟨.inl rfl, rfl, rfl, d, rfl, h⟩))⟩
theorem Cn.not {d : Nat} {l : Tr} (h : Cn d l) : Cn (d + 2) (tOne 4 l) := ⟨rfl, .inr (.inr (.inl ⟨.inr rfl, rfl, rfl, d, rfl, h⟩))⟩
theorem Cn.two {d : Nat} {l r : Tr} {j : Nat} (hj : j < 11) (h : Cn d l) (h' : Cn d r) : Cn (d + 1) (tTwo (j + 5) l r) := ⟨rfl, .inr (.inr (.inr ⟨j, rfl, hj, rfl, d, rfl, h, h'⟩))⟩
theorem Cn.ind {M : Nat → Tr → Prop} (int : ∀ d n, M d (tInt n)) (text : ∀ d s, M d (tText s)) (col : ∀ d t n, M d (tCol t n)) (neg : ∀ d l, Cn d l → M d l → M (d + 2) (tOne 3 l)) (not : ∀ d l, Cn d l → M d l → M (d + 2) (tOne 4 l))
    (two : ∀ d l r j, j < 11 → Cn d l → Cn d r → M d l → M d r → M (d + 1) (tTwo (j + 5) l r)) (t : Tr) : ∀ d, Cn d t → M d t := by
  induction t with
  | nil => intro d h; exact h.elim
  | node x op p l r ihl ihr =>
    rintro d ⟨rfl, ⟨rfl, rfl, rfl, ⟨n, rfl⟩ | ⟨s, rfl⟩⟩ | ⟨rfl, rfl, rfl, t, n, rfl⟩ | ⟨rfl | rfl, rfl, rfl, k, rfl, h⟩ | ⟨j, rfl, hj, rfl, k, rfl, h, h'⟩⟩
    · exact int d n
    · exact text d s
    · exact col d t n
    · exact neg k l h (ihl k h)
    · exact not k l h (ihl k h)
    · exact two k l r j hj h h' (ihl k h) (ihr k h')
theorem Cn.mono {d e : Nat} {t : Tr} (h : Cn d t) : d ≤ e → Cn e t := by
  refine Cn.ind (M := fun d t => ∀ e, d ≤ e → Cn e t) ?_ ?_ ?_ ?_ ?_ ?_ t d h e
  · intro d n e _; exact .int e n
  · intro d s e _; exact .text e s
  · intro d t n e _; exact .col e t n
  · intro d l h ih e he; obtain ⟨k, rfl⟩ : ∃ k, e = k + 2 := ⟨e - 2, by omega⟩; exact .neg (ih k (by omega))
  · intro d l h ih e he; obtain ⟨k, rfl⟩ : ∃ k, e = k + 2 := ⟨e - 2, by omega⟩; exact .not (ih k (by omega))
  · intro d l r j hj h h' ih ih' e he; obtain ⟨k, rfl⟩ : ∃ k, e = k + 1 := ⟨e - 1, by omega⟩; exact .two hj (ih k (by omega)) (ih' k (by omega))
/-- Not too deep, where D does not say so. -/
def CnD (D : Prop) (t : Tr) : Prop := ∃ d, Cn d t ∧ (d ≤ 64 ∨ D)
end Go.Proofs.YtnboooaockgoiaaGreatDoor
namespace Go.Proofs.YtnboooaockgoiaaGreatDoor
open Go.RowKit
set_option linter.unusedVariables false

theorem wdE_two (l r : Tr) (j : Nat) : wdE (tTwo (j + 5) l r) = (5, ⟨#[40]⟩, 0) :: (wdE l ++ opW j :: (wdE r ++ [(5, ⟨#[41]⟩, 0)])) := by
  show (if j + 5 = 1 then _ else _) = _
  rw [if_neg (by omega), if_neg (by omega), if_neg (by omega), if_neg (by omega), Nat.add_sub_cancel]
end Go.Proofs.YtnboooaockgoiaaGreatDoor
namespace Go.Proofs.YtnboooaockgoiaaGreatDoor
open Go.RowKit
set_option linter.unusedVariables false

end Go.Proofs.YtnboooaockgoiaaGreatDoor
namespace Go.Proofs.YtnboooaockgoiaaGreatDoor
open Go.RowKit
set_option linter.unusedVariables false

theorem bs_mk (l : List UInt8) : bs ⟨l.toArray⟩ = l := by simp [bs]
end Go.Proofs.YtnboooaockgoiaaGreatDoor
namespace Go.Proofs.YtnboooaockgoiaaGreatDoor
open Go.RowKit
set_option linter.unusedVariables false

/-- A word, and how many spaces stand ahead of it. -/
abbrev Pc := Nat × Wd
/-- A word's bytes. -/
def wdB (w : Wd) : List UInt8 := if w.1 = 3 then Lib.decDigits w.2.2.toNat else if w.1 = 4 then 39 :: (dblQ (bs w.2.1) ++ [39]) else bs w.2.1
def ren : List Pc → List UInt8
  | [] => []
  | p :: l => List.replicate p.1 32 ++ (wdB p.2 ++ ren l)
theorem ren_app (l m : List Pc) : ren (l ++ m) = ren l ++ ren m := by
  induction l with
  | nil => rfl
  | cons p l ih => rw [List.cons_append, ren, ren, ih]; simp
/-- A word as Lex makes it. -/
def WdOK (w : Wd) : Prop :=
  (∃ (c : UInt8) (n : List UInt8), isL c = true ∧ n.all isN = true ∧ n.length < 16 ∧ w = (if isW ⟨(c :: n).toArray⟩ then 2 else 1, ⟨(c :: n).toArray⟩, 0)) ∨
  (∃ z : Nat, Fits (z : Int) ∧ w = (3, ⟨#[]⟩, (z : Int))) ∨
  (∃ q : List UInt8, q.all isT = true ∧ q.length ≤ 30 ∧ w = (4, ⟨q.toArray⟩, 0)) ∨
  (∃ c : UInt8, isO c = true ∧ w = (5, ⟨#[c]⟩, 0)) ∨
  (∃ (c : UInt8) (n : List UInt8), (((c = 60 ∨ c = 62) ∧ n = []) ∨ (c = 60 ∧ (n = [61] ∨ n = [62])) ∨ (c = 62 ∧ n = [61])) ∧ w = (5, ⟨(c :: n).toArray⟩, 0))
theorem WdOK.name (c : UInt8) (n : List UInt8) (h1 : isL c = true) (h2 : n.all isN = true) (h3 : n.length < 16) : WdOK (if isW ⟨(c :: n).toArray⟩ then 2 else 1, ⟨(c :: n).toArray⟩, 0) := .inl ⟨c, n, h1, h2, h3, rfl⟩
theorem WdOK.num (z : Nat) (h : Fits (z : Int)) : WdOK (3, ⟨#[]⟩, (z : Int)) := .inr (.inl ⟨z, h, rfl⟩)
theorem WdOK.text (q : List UInt8) (h1 : q.all isT = true) (h2 : q.length ≤ 30) : WdOK (4, ⟨q.toArray⟩, 0) := .inr (.inr (.inl ⟨q, h1, h2, rfl⟩))
theorem WdOK.sign (c : UInt8) (h : isO c = true) : WdOK (5, ⟨#[c]⟩, 0) := .inr (.inr (.inr (.inl ⟨c, h, rfl⟩)))
theorem WdOK.ang (c : UInt8) (n : List UInt8) (h : ((c = 60 ∨ c = 62) ∧ n = []) ∨ (c = 60 ∧ (n = [61] ∨ n = [62])) ∨ (c = 62 ∧ n = [61])) : WdOK (5, ⟨(c :: n).toArray⟩, 0) := .inr (.inr (.inr (.inr ⟨c, n, h, rfl⟩)))
end Go.Proofs.YtnboooaockgoiaaGreatDoor
namespace Go.Proofs.YtnboooaockgoiaaGreatDoor
open Go.RowKit
set_option linter.unusedVariables false

/-- Is it among these? -/
def memB (s : ByteArray) : List ByteArray → Bool
  | [] => false
  | t :: S => decide (s = t) || memB s S
theorem memB_iff {s : ByteArray} : ∀ {S : List ByteArray}, memB s S = true ↔ s ∈ S
  | [] => by simp [memB]
  | t :: S => by rw [memB, Bool.or_eq_true, decide_eq_true_eq, memB_iff, List.mem_cons]
theorem mem_of {s : ByteArray} {S : List ByteArray} (h : memB s S = true) : s ∈ S := memB_iff.1 h
def kw (s : ByteArray) : Wd := (2, s, 0)
def sg (s : ByteArray) : Wd := (5, s, 0)
def nm (s : ByteArray) : Wd := (1, s, 0)
/-- Some things with commas between them. -/
def jwT {α : Type} (g : α → List Wd) : List α → List Wd
  | [] => []
  | y :: l => sg ⟨#[44]⟩ :: (g y ++ jwT g l)
def jw {α : Type} (g : α → List Wd) : List α → List Wd
  | [] => []
  | y :: l => g y ++ jwT g l
end Go.Proofs.YtnboooaockgoiaaGreatDoor
namespace Go.Proofs.YtnboooaockgoiaaGreatDoor
open Go.RowKit
set_option linter.unusedVariables false

/-- The pieces of an expression, so many spaces ahead of it. -/
def pcE (sp : Nat) : Tr → List Pc
  | .nil => []
  | .node _ op p l r =>
    if op = 1 then [(sp, if p.1 = 1 then (3, ⟨#[]⟩, p.2.1) else (4, p.2.2.1, 0))]
    else if op = 2 then (if p.2.2.2.1 = ⟨#[]⟩ then [(sp, (1, p.2.2.2.2, 0))] else [(sp, (1, p.2.2.2.1, 0)), (0, (5, ⟨#[46]⟩, 0)), (0, (1, p.2.2.2.2, 0))])
    else if op = 3 then (sp, (5, ⟨#[40]⟩, 0)) :: (0, (5, ⟨#[45]⟩, 0)) :: (pcE 0 l ++ [(0, (5, ⟨#[41]⟩, 0))])
    else if op = 4 then (sp, (5, ⟨#[40]⟩, 0)) :: (0, (2, ⟨#[110, 111, 116]⟩, 0)) :: (pcE 1 l ++ [(0, (5, ⟨#[41]⟩, 0))])
    else (sp, (5, ⟨#[40]⟩, 0)) :: (pcE 0 l ++ (1, opW (op - 5)) :: (pcE 1 r ++ [(0, (5, ⟨#[41]⟩, 0))]))
theorem pcE_words (t : Tr) : ∀ sp, (pcE sp t).map Prod.snd = wdE t := by
  induction t with
  | nil => intro sp; rfl
  | node x op p l r ihl ihr =>
    intro sp
    rw [pcE, wdE]
    split
    · rfl
    · split
      · split <;> rfl
      · split
        · simp [ihl]
        · split
          · simp [ihl]
          · simp [ihl, ihr]
/-- Some things with commas. -/
def jpT {α : Type} (g : Nat → α → List Pc) : List α → List Pc
  | [] => []
  | y :: l => (0, sg ⟨#[44]⟩) :: (g 1 y ++ jpT g l)
def jp {α : Type} (g : Nat → α → List Pc) (k : Nat) : List α → List Pc
  | [] => []
  | y :: l => g k y ++ jpT g l
theorem jpT_words {α : Type} {g : Nat → α → List Pc} {h : α → List Wd} (hg : ∀ k y, (g k y).map Prod.snd = h y) : ∀ l, (jpT g l).map Prod.snd = jwT h l
  | [] => rfl
  | y :: l => by rw [jpT, jwT, List.map_cons, List.map_append, hg, jpT_words hg l]
theorem jp_words {α : Type} {g : Nat → α → List Pc} {h : α → List Wd} (hg : ∀ k y, (g k y).map Prod.snd = h y) (k : Nat) : ∀ l, (jp g k l).map Prod.snd = jw h l
  | [] => rfl
  | y :: l => by rw [jp, jw, List.map_append, hg, jpT_words hg l]
def pcTag (k : Nat) (z : Int) : List Pc := [(k, (3, ⟨#[]⟩, z))]
def kindW (k : Int) : ByteArray := if k = 1 then ⟨#[105, 110, 116]⟩ else ⟨#[116, 101, 120, 116]⟩
def pcCol (k : Nat) (c : Co) : List Pc := (k, nm c.1) :: (1, kw (kindW c.2.1)) :: (if c.2.2 = ⟨#[]⟩ then [] else [(1, kw ⟨#[114, 101, 102]⟩), (1, nm c.2.2)])
def aggW (g : Int) : ByteArray := if g = 2 then ⟨#[115, 117, 109]⟩ else if g = 3 then ⟨#[109, 105, 110]⟩ else ⟨#[109, 97, 120]⟩
def pcItem (k : Nat) (x : It) : List Pc :=
  if x.1 = 0 then pcE k (tCol x.2.1 x.2.2)
  else if x.1 = 1 then [(k, kw ⟨#[99, 111, 117, 110, 116]⟩), (0, sg ⟨#[40]⟩), (0, sg ⟨#[42]⟩), (0, sg ⟨#[41]⟩)]
  else (k, kw (aggW x.1)) :: (0, sg ⟨#[40]⟩) :: (pcE 0 (tCol x.2.1 x.2.2) ++ [(0, sg ⟨#[41]⟩)])
def pcWh : List Tr → List Pc
  | [] => []
  | t :: _ => (1, kw ⟨#[119, 104, 101, 114, 101]⟩) :: pcE 1 t
def pcStar (l : List It) : List Pc := if l = [] then [(1, sg ⟨#[42]⟩)] else jp pcItem 1 l
def pcJoin (j : ByteArray) : List Tr → List Pc
  | a :: b :: _ => (1, kw ⟨#[106, 111, 105, 110]⟩) :: (1, nm j) :: (1, kw ⟨#[111, 110]⟩) :: (pcE 1 a ++ (1, sg ⟨#[61]⟩) :: pcE 1 b)
  | _ => []
def pcOrd (d : Bool) : List Tr → List Pc
  | [] => []
  | t :: _ => (1, kw ⟨#[111, 114, 100, 101, 114]⟩) :: (1, kw ⟨#[98, 121]⟩) :: (pcE 1 t ++ if d then [(1, kw ⟨#[100, 101, 115, 99]⟩)] else [])
def pcTable (m : Sm) : List Pc := (1, nm m.name) :: (0, sg ⟨#[40]⟩) :: (jp pcCol 0 m.cols ++ [(0, sg ⟨#[41]⟩)])
def pcIndex (m : Sm) : List Pc := [(1, kw ⟨#[111, 110]⟩), (1, nm m.table), (0, sg ⟨#[40]⟩), (0, nm m.name), (0, sg ⟨#[41]⟩)]
def pcInsert (m : Sm) : List Pc := (1, kw ⟨#[105, 110, 116, 111]⟩) :: (1, nm m.table) :: (1, kw ⟨#[118, 97, 108, 117, 101, 115]⟩) :: (0, sg ⟨#[40]⟩) :: (jp pcE 0 m.values ++ [(0, sg ⟨#[41]⟩)])
def pcDelete (m : Sm) : List Pc := (1, kw ⟨#[102, 114, 111, 109]⟩) :: (1, nm m.table) :: pcWh m.wh
def pcVal : List Tr → List Pc
  | [] => []
  | t :: _ => pcE 1 t
def pcUpdate (m : Sm) : List Pc := (1, nm m.table) :: (1, kw ⟨#[115, 101, 116]⟩) :: (1, nm m.name) :: (1, sg ⟨#[61]⟩) :: (pcVal m.values ++ pcWh m.wh)
def pcQuery (m : Sm) : List Pc := pcStar m.items ++ (1, kw ⟨#[102, 114, 111, 109]⟩) :: (1, nm m.table) :: (pcJoin m.join m.on ++ (pcWh m.wh ++ pcOrd m.desc m.order))
/-- A statement with none within it; so many spaces ahead. -/
def pcS (k : Nat) (m : Sm) : List Pc :=
  if m.kind = 5 then (k, kw ⟨#[105, 110, 115, 101, 114, 116]⟩) :: pcInsert m
  else if m.kind = 6 then (k, kw ⟨#[115, 101, 108, 101, 99, 116]⟩) :: pcQuery m
  else if m.kind = 7 then (k, kw ⟨#[117, 112, 100, 97, 116, 101]⟩) :: pcUpdate m
  else (k, kw ⟨#[100, 101, 108, 101, 116, 101]⟩) :: pcDelete m
def pcDoor (m : Sm) : List Sm → List Pc
  | [] => []
  | x :: _ => (1, nm m.name) :: (1, kw ⟨#[115, 116, 114, 105, 112]⟩) :: (jp pcTag 1 m.tags ++ (1, kw ⟨#[97, 115]⟩) :: pcS 1 x)
def pcF (m : Sf) : List Pc :=
  if m.1.kind = 1 then (0, kw ⟨#[99, 114, 101, 97, 116, 101]⟩) :: (1, kw ⟨#[116, 97, 98, 108, 101]⟩) :: pcTable m.1
  else if m.1.kind = 2 then (0, kw ⟨#[99, 114, 101, 97, 116, 101]⟩) :: (1, kw ⟨#[105, 110, 100, 101, 120]⟩) :: pcIndex m.1
  else if m.1.kind = 3 then (0, kw ⟨#[99, 114, 101, 97, 116, 101]⟩) :: (1, kw ⟨#[118, 105, 101, 119]⟩) :: pcDoor m.1 m.2
  else if m.1.kind = 4 then (0, kw ⟨#[99, 114, 101, 97, 116, 101]⟩) :: (1, kw ⟨#[99, 108, 111, 115, 117, 114, 101]⟩) :: pcDoor m.1 m.2
  else if m.1.kind = 9 then [(0, kw ⟨#[98, 101, 103, 105, 110]⟩)]
  else if m.1.kind = 10 then [(0, kw ⟨#[99, 111, 109, 109, 105, 116]⟩)]
  else if m.1.kind = 11 then [(0, kw ⟨#[114, 111, 108, 108, 98, 97, 99, 107]⟩)]
  else if m.1.kind = 12 then (0, kw ⟨#[114, 97, 105, 115, 101]⟩) :: jp pcTag 1 m.1.tags
  else if m.1.kind = 13 then [(0, kw ⟨#[99, 97, 108, 108]⟩), (1, nm m.1.name)]
  else pcS 0 m.1
end Go.Proofs.YtnboooaockgoiaaGreatDoor
namespace Go.Proofs.YtnboooaockgoiaaGreatDoor
open Go.RowKit
set_option linter.unusedVariables false

def IsCol (t : Tr) : Prop := ∃ a n, t = tCol a n
def ItOK (x : It) : Prop := x.1 = 0 ∨ x = (1, ⟨#[]⟩, ⟨#[]⟩) ∨ x.1 = 2 ∨ x.1 = 3 ∨ x.1 = 4
def CoOK (c : Co) : Prop := c.2.1 = 1 ∨ c.2.1 = 2
def TaOK (z : Int) : Prop := 0 ≤ z ∧ z ≤ 65535
def One (D : Prop) (l : List Tr) : Prop := l = [] ∨ ∃ t, l = [t] ∧ CnD D t
def wWh (l : List Tr) : List Wd := (pcWh l).map Prod.snd
def wJo (j : ByteArray) (l : List Tr) : List Wd := (pcJoin j l).map Prod.snd
def JoOK (j : ByteArray) (l : List Tr) : Prop := (j = ⟨#[]⟩ ∧ l = []) ∨ ∃ a b, l = [a, b] ∧ IsCol a ∧ IsCol b
def OrOK (d : Bool) (l : List Tr) : Prop := (d = false ∧ l = []) ∨ ∃ a, l = [a] ∧ IsCol a
end Go.Proofs.YtnboooaockgoiaaGreatDoor
namespace Go.Proofs.YtnboooaockgoiaaGreatDoor
open Go.RowKit
set_option linter.unusedVariables false

/-- Statements as Parse makes them, with none within them. -/
def SmOK (D : Prop) (m : Sm) : Prop :=
  (∃ tb vs, vs ≠ [] ∧ (∀ t ∈ vs, CnD D t) ∧ m = up_va (up_tb (sm 5) tb) vs) ∨
  (∃ its tb j on wh od d, (∀ x ∈ its, ItOK x) ∧ JoOK j on ∧ One D wh ∧ OrOK d od ∧ m = up_oo (up_wh (up_jo (up_tb (up_it (sm 6) its) tb) (j, on)) wh) (od, d)) ∨
  (∃ tb nm t wh, CnD D t ∧ One D wh ∧ m = up_wh (up_va (up_nm (up_tb (sm 7) tb) nm) [t]) wh) ∨
  (∃ tb wh, One D wh ∧ m = up_wh (up_tb (sm 8) tb) wh)
/-- Statements as Parse makes them. -/
def SfOK (D : Prop) (m : Sf) : Prop :=
  (∃ x, SmOK D x ∧ m = (x, [])) ∨
  (∃ n cs, cs ≠ [] ∧ (∀ c ∈ cs, CoOK c) ∧ m = (up_co (up_nm (sm 1) n) cs, [])) ∨
  (∃ tb n, m = (up_nm (up_tb (sm 2) tb) n, [])) ∨
  (∃ n tg x, (∀ z ∈ tg, TaOK z) ∧ SmOK D x ∧ x.kind = 6 ∧ m = (up_ta (up_nm (sm 3) n) tg, [x])) ∨
  (∃ n tg x, (∀ z ∈ tg, TaOK z) ∧ SmOK D x ∧ x.kind ≠ 6 ∧ m = (up_ta (up_nm (sm 4) n) tg, [x])) ∨
  (∃ k : Int, (k = 9 ∨ k = 10 ∨ k = 11) ∧ m = (sm k, [])) ∨
  (∃ tg, tg ≠ [] ∧ (∀ z ∈ tg, TaOK z) ∧ m = (up_ta (sm 12) tg, [])) ∨
  (∃ n, m = (up_nm (sm 13) n, []))
end Go.Proofs.YtnboooaockgoiaaGreatDoor
