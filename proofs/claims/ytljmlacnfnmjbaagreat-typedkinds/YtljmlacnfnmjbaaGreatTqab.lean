import Derived.Test.YtljmlacnfnmjbaaGreatTqaa
import Derived.Deep.MidRow
namespace Go.Proofs.YtljmlacnfnmjbaaGreat
open Go.RowKit
set_option linter.unusedVariables false
set_option linter.unusedSimpArgs false

def eStr : Ek ByteArray := ⟨1, fun _ _ s cs => cs = [.string s], fun _ h => h, fun _ h => h⟩
structure Tbl where
  name : ByteArray
  cols : List Co
  index : List ByteArray
def eTbl : Ek Tbl := ⟨3, fun Q w t cs => ∃ a n c a' n' c', cs = [.string t.name, .slice a n c, .slice a' n' c'] ∧ RowIs eCol Q w (.slice a n c) t.cols ∧ RowIs eStr Q w (.slice a' n' c') t.index,
  fun hk ⟨a, n, c, a', n', c', h1, h2, h3⟩ => ⟨a, n, c, a', n', c', h1, h2.keep (by decide) hk, h3.keep (by decide) hk⟩, fun hk ⟨a, n, c, a', n', c', h1, h2, h3⟩ => ⟨a, n, c, a', n', c', h1, h2.mono (by decide) hk, h3.mono (by decide) hk⟩⟩
/-- Texts that are not too long. -/
def StrB (s : ByteArray) : Prop := s.size ≤ 500
def ColB (c : Co) : Prop := c.1.size ≤ 500 ∧ c.2.2.size ≤ 500
/-- A list of such ones. -/
def AllB {α : Type} (P : α → Prop) (l : List α) : Prop := l.length ≤ 500 ∧ ∀ x ∈ l, P x
def TblB (t : Tbl) : Prop := StrB t.name ∧ AllB ColB t.cols ∧ AllB StrB t.index
/-- What a call that tells a row tells. -/
def TeR {α : Type} (e : Ek α) (w : World) (l : List α) (en : Ending) (w' : World) : Prop :=
  ∃ a m d, en = .returned (.slice a m d) ∧ RowIs e (fun b => w.heap.size ≤ b) w' (.slice a m d) l ∧ Below w.heap.size w w'
/-- What a call that tells a row of its own tells. -/
def TeO {α : Type} (e : Ek α) (ty : TypeId) (w : World) (l : List α) (en : Ending) (w' : World) : Prop :=
  ∃ a m d css, en = .returned (.slice a m d) ∧ OwnR ty e.k w.heap.size w' (.slice a m d) css ∧ css.length = l.length ∧ (∀ i (h1 : i < l.length) (h2 : i < css.length), e.E (fun b => w.heap.size ≤ b ∧ some b ≠ (Value.slice a m d).ownBlock) w' l[i] css[i]) ∧ Below w.heap.size w w'
/-- A function that copies one thing. -/
def Cp {α : Type} (e : Ek α) (N : Nat) (x : α) : Prop := ∀ (Q : Nat → Prop) (w : World) (cs : List Value), e.E Q w x cs → Calls Tryz.prog N #[.agg cs.toArray] w fun en w' => ∃ cs', en = .returned (.agg cs'.toArray) ∧ e.E (fun b => w.heap.size ≤ b) w' x cs' ∧ Below w.heap.size w w'

/-- A block as it is. -/
structure Bk (w : World) (b : Nat) (o : Obj) : Prop where
  row : w.heap[b]? = some o
theorem Bk.new (w : World) (o : Obj) : Bk (w.alloc o) w.heap.size o := ⟨heap_alloc_new w o⟩
theorem Bk.lt {w : World} {b : Nat} {o : Obj} (h : Bk w b o) : b < w.heap.size := (Array.getElem?_eq_some_iff.1 h.row).1
theorem Bk.later {w w' : World} {b : Nat} {o : Obj} (h : Bk w b o) (hb : Below w.heap.size w w') : Bk w' b o := ⟨(hb.block b h.lt).trans h.row⟩
theorem Bk.cell {w : World} {b : Nat} {arr : Array Value} {t : TypeId} {mk : Nat × Nat} (h : Bk w b (.cells arr t mk)) (j : Nat) : w.cell? ⟨b, j, none⟩ = arr[j]? := by
  unfold World.cell?; rw [h.row]; rfl
theorem Bk.free {w : World} {b : Nat} {arr : Array Value} {t : TypeId} (h : Bk w b (.cells arr t (0, 0))) (j : Nat) : w.frozen? ⟨b, j, none⟩ = false := by
  unfold World.frozen?; rw [h.row]; rfl

theorem Below.grownR {B : Nat} {a w w' : World} {row : Option Nat} (h : Below B a w) (hB : B ≤ w.heap.size) (hg : w.grownBy w' row) (hrow : ∀ k, row = some k → B ≤ k) : Below B a w' :=
  h.trans ⟨hg.os, hg.tape, hg.output, hg.size, fun k hk => hg.block k (by omega) fun e => by have := hrow k e.symm; omega⟩

/-- A row of the call's own, read, be it empty or not. -/
theorem OwnR.rowE {α : Type} {e : Ek α} {ty B : Nat} {w : World} {v : Value} {css : List (List Value)} {l : List α} {Q : Nat → Prop} (h : OwnR ty e.k B w v css) (hl : l.length = css.length) (hq : ∀ b, B ≤ b → b < w.heap.size → Q b)
    (hE : ∀ i (h1 : i < l.length) (h2 : i < css.length), e.E Q w l[i] css[i]) : RowIs e Q w v l := by
  by_cases hn : css = []
  · subst hn
    obtain rfl : l = [] := List.eq_nil_of_length_eq_zero hl
    rcases h.2.2 with ⟨rfl, _⟩ | ⟨b, cap, cur, rfl, _, _, h1, h2, _⟩
    · exact RowIs.nil _ _ _
    · exact ⟨_, _, cap, rfl, rfl, Nat.zero_le _, Nat.le_trans h2 (by decide), fun h => absurd h (by simp)⟩
  · exact OwnR.row h hl hn hq hE

theorem heapK3 {y : World} {b r : Nat} {x0 x1 x2 : Value} (hr : b ≠ r) : (((y.setCell ⟨r, 0, none⟩ x0).setCell ⟨r, 1, none⟩ x1).setCell ⟨r, 2, none⟩ x2).heap[b]? = y.heap[b]? := by
  rw [Below.heap_setCell _ _ _ _ hr, Below.heap_setCell _ _ _ _ hr, Below.heap_setCell _ _ _ _ hr]
/-- Block b is stored into, cell by cell, from its first on. -/
def stW (w : World) (b : Nat) (l : List Value) : World := w.setCells b 0 l
theorem Bk.there {w : World} {b : Nat} {arr : Array Value} {t : TypeId} (h : Bk w b (.cells arr t (0, 0))) {n : Nat} (hn : n = arr.size) : w.there b 0 n := fun j hj => by
  subst hn
  rw [Nat.zero_add, h.cell j, Array.getElem?_eq_getElem hj]
  exact ⟨rfl, h.free j⟩
theorem setCells_heap {b k : Nat} (hk : k ≠ b) : ∀ (l : List Value) (o : Nat) (w : World), (w.setCells b o l).heap[k]? = w.heap[k]?
  | [], _, _ => rfl
  | v :: r, o, w => by rw [World.setCells, setCells_heap hk r, Below.heap_setCell _ _ _ _ hk]
theorem setCells_below {B b : Nat} (hb : B ≤ b) {a : World} : ∀ (l : List Value) (o : Nat) (w : World), Below B a w → Below B a (w.setCells b o l)
  | [], _, _, h => h
  | v :: r, o, w, h => setCells_below hb r (o + 1) _ (h.setCell hb _)
theorem stW_heap {w : World} {b k : Nat} {l : List Value} (hk : k ≠ b) : (stW w b l).heap[k]? = w.heap[k]? := setCells_heap hk l 0 w
theorem stW_below {B b : Nat} {a w : World} {l : List Value} (h : Below B a w) (hb : B ≤ b) : Below B a (stW w b l) := setCells_below hb l 0 w h
theorem stW_far {w : World} {b k j : Nat} {l : List Value} {v : Value} (hk : k ≠ b) (h : w.cell? ⟨k, j, none⟩ = some v) : (stW w b l).cell? ⟨k, j, none⟩ = some v := (World.cell?_of_block (a := ⟨k, j, none⟩) (stW_heap hk)).trans h
theorem stW_cell {w : World} {b : Nat} {l : List Value} (ht : w.there b 0 l.length) {j : Nat} {v : Value} (hj : l[j]? = some v) : (stW w b l).cell? ⟨b, j, none⟩ = some v := by
  obtain ⟨hj1, hj2⟩ := List.getElem?_eq_some_iff.1 hj
  have := World.cell?_setCells_in b l 0 w (fun i hi => (ht i hi).1) j hj1
  rw [Nat.zero_add] at this
  unfold stW
  rw [this, hj2]
theorem TeO.row {α : Type} {e : Ek α} {ty : TypeId} {w : World} {l : List α} {en : Ending} {w' : World} (h : TeO e ty w l en w') : TeR e w l en w' := by
  obtain ⟨a, m, d, css, h1, h2, h3, h4, h5⟩ := h
  exact ⟨a, m, d, h1, OwnR.rowE h2 h3.symm (fun b hb _ => hb) fun i a b => e.mono (fun b hb _ => hb.1) (h4 i a b), h5⟩

set_option maxRecDepth 100000 in
set_option maxHeartbeats 2000000 in
theorem copyCol_any (c : Co) (hB : ColB c) (w : World) : Calls Tryz.prog 127 #[.agg #[.string c.1, .int .i64 c.2.1, .string c.2.2]] w fun e w' => e = .returned (.agg #[.string c.1, .int .i64 c.2.1, .string c.2.2]) ∧ Below w.heap.size w w' := by
  obtain ⟨a, k, f⟩ := c
  have H1 : Hid (∀ w, _) := hid fun w => clone_any a hB.1 w
  have H2 : Hid (∀ w, _) := hid fun w => clone_any f hB.2 w
  clear hB
  go_enter Tryz.func127, Tryz.ntmps127
  go_upto_region 1 with fail
  generalize hU : (w.alloc (.cells #[.string a, .int .i64 k, .string f] 84)).alloc (.cells #[.string ⟨#[]⟩, .int .i64 0, .string ⟨#[]⟩] 84) = U
  have b0 : Bk U w.heap.size (.cells #[.string a, .int .i64 k, .string f] 84) := hU ▸ (Bk.new w _).later (bal (Below.refl _ _) _)
  have bx : Bk U (w.heap.size + 1) (.cells #[.string ⟨#[]⟩, .int .i64 0, .string ⟨#[]⟩] 84) := by
    have := Bk.new (w.alloc (.cells #[.string a, .int .i64 k, .string f] 84)) (.cells #[.string ⟨#[]⟩, .int .i64 0, .string ⟨#[]⟩] 84)
    rw [World.size_alloc] at this
    exact hU ▸ this
  have hw : Below w.heap.size w U := hU ▸ bal (bal (Below.refl _ _) _) _
  have hs : U.heap.size = w.heap.size + 2 := by rw [← hU]; simp
  have hY : Below U.heap.size U U.drew := (Below.refl _ _).drew
  have c0 := b0.cell 0
  have c1 := b0.cell 1
  have c2 := b0.cell 2
  simp only [List.getElem?_toArray, List.getElem?_cons_zero, List.getElem?_cons_succ] at c0 c1 c2
  replace bx := bx.later hY
  clear  b0
  replace hs : Hid _ := hid hs
  clear hU
  generalize hz : w.heap.size + 1 = z at bx ⊢
  have hzw : w.heap.size < z := by omega
  replace hz : Hid _ := hid hz
  go_wp2
  refine wp_region_held_drew (S := fun w' => w'.cell? ⟨w.heap.size, 0, none⟩ = some (.string a) ∧ w'.cell? ⟨w.heap.size, 1, none⟩ = some (.int .i64 k) ∧ w'.cell? ⟨w.heap.size, 2, none⟩ = some (.string f)) (by kernel_rfl) (⟨cell_later hY c0, cell_later hY c1, cell_later hY c2⟩) (fun hHeld => ?_)
  refine wpAnyH_take (i := 0) (v := ?tv1) rfl (by kernel_rfl) (by kernel_rfl) (by kernel_rfl) (fun _ _ _ h => h) (Or.inl ⟨by rfl, ?hy1⟩) (by assumption) ?rs1
  case hy1 => (intro w9 hSw; (try dsimp only at hSw); go_simp; (try with_reducible rfl))
  (try simp only [Act.put, List.getElem_toArray, List.getElem_cons_zero, List.getElem_cons_succ, List.setIfInBounds_toArray, List.set_cons_zero, List.set_cons_succ])
  refine wpAnyH_take (i := 1) (v := ?tv2) rfl (by kernel_rfl) (by kernel_rfl) (by kernel_rfl) (fun _ _ _ h => h) (Or.inl ⟨by rfl, ?hy2⟩) (by assumption) ?rs2
  case hy2 => (intro w9 hSw; (try dsimp only at hSw); go_simp; (try with_reducible rfl))
  (try simp only [Act.put, List.getElem_toArray, List.getElem_cons_zero, List.getElem_cons_succ, List.setIfInBounds_toArray, List.set_cons_zero, List.set_cons_succ])
  refine wpAnyH_take (i := 3) (v := ?tv3) rfl (by kernel_rfl) (by kernel_rfl) (by kernel_rfl) (fun _ _ _ h => h) (Or.inl ⟨by rfl, ?hy3⟩) (by assumption) ?rs3
  case hy3 => (intro w9 hSw; (try dsimp only at hSw); go_simp; (try with_reducible rfl))
  (try simp only [Act.put, List.getElem_toArray, List.getElem_cons_zero, List.getElem_cons_succ, List.setIfInBounds_toArray, List.set_cons_zero, List.set_cons_succ])
  refine wpAnyH_take (i := 4) (v := ?tv4) rfl (by kernel_rfl) (by kernel_rfl) (by kernel_rfl) (fun _ _ _ h => h) (Or.inl ⟨by rfl, ?hy4⟩) (by assumption) ?rs4
  case hy4 => (intro w9 hSw; (try dsimp only at hSw); go_simp; (try with_reducible rfl))
  (try simp only [Act.put, List.getElem_toArray, List.getElem_cons_zero, List.getElem_cons_succ, List.setIfInBounds_toArray, List.set_cons_zero, List.set_cons_succ])
  refine wpAnyH_take (i := 5) (v := ?tv5) rfl (by kernel_rfl) (by kernel_rfl) (by kernel_rfl) (fun _ _ _ h => h) (Or.inl ⟨by rfl, ?hy5⟩) (by assumption) ?rs5
  case hy5 => (intro w9 hSw; (try dsimp only at hSw); go_simp; (try with_reducible rfl))
  (try simp only [Act.put, List.getElem_toArray, List.getElem_cons_zero, List.getElem_cons_succ, List.setIfInBounds_toArray, List.set_cons_zero, List.set_cons_succ])
  refine wpAnyH_take (i := 6) (v := ?tv6) rfl (by kernel_rfl) (by kernel_rfl) (by kernel_rfl) (fun _ _ _ h => h) (Or.inl ⟨by rfl, ?hy6⟩) (by assumption) ?rs6
  case hy6 => (intro w9 hSw; (try dsimp only at hSw); go_simp; (try with_reducible rfl))
  (try simp only [Act.put, List.getElem_toArray, List.getElem_cons_zero, List.getElem_cons_succ, List.setIfInBounds_toArray, List.set_cons_zero, List.set_cons_succ])
  refine wpAnyH_ready (rs := [2]) (by kernel_rfl) (by simp) ?_
  refine AllReadyH.cons rfl (fun K hK => ?_) AllReadyH.nil
  go_simp
  go_wp2_with (first | (go_at_call 125; (refine Calls.mono (H1.out _) ?_); rintro e y ⟨rfl, hby⟩; replace bx := bx.later hby; replace hY := Below.on hY hby))
  refine hK.out _ _ (⟨cell_later hY c0, cell_later hY c1, cell_later hY c2⟩) (fun hHeld => ?_)
  clear hK K
  (try simp only [Act.put, List.getElem_toArray, List.getElem_cons_zero, List.getElem_cons_succ, List.setIfInBounds_toArray, List.set_cons_zero, List.set_cons_succ])
  refine wpAnyH_ready (rs := [7]) (by kernel_rfl) (by simp) ?_
  refine AllReadyH.cons rfl (fun K hK => ?_) AllReadyH.nil
  go_simp
  go_wp2_with (first | (go_at_call 125; (refine Calls.mono (H2.out _) ?_); rintro e y ⟨rfl, hby⟩; replace bx := bx.later hby; replace hY := Below.on hY hby))
  refine hK.out _ _ (⟨cell_later hY c0, cell_later hY c1, cell_later hY c2⟩) (fun hHeld => ?_)
  clear hK K
  (try simp only [Act.put, List.getElem_toArray, List.getElem_cons_zero, List.getElem_cons_succ, List.setIfInBounds_toArray, List.set_cons_zero, List.set_cons_succ])
  refine wpAnyH_take (i := 8) (v := ?tv7) rfl (by kernel_rfl) (by kernel_rfl) (by kernel_rfl) (fun _ _ _ h => h) (Or.inl ⟨by rfl, ?hy7⟩) (by assumption) ?rs7
  case hy7 => (intro w9 hSw; (try dsimp only at hSw); go_simp; (try with_reducible rfl))
  (try simp only [Act.put, List.getElem_toArray, List.getElem_cons_zero, List.getElem_cons_succ, List.setIfInBounds_toArray, List.set_cons_zero, List.set_cons_succ])
  refine wpAnyH_ready (rs := [9]) (by kernel_rfl) (by simp) ?_
  refine AllReadyH.cons rfl (fun K hK => ?_) AllReadyH.nil
  have hth : y.there z 0 3 := bx.there rfl
  have z0 := stW_cell (l := [.string a, .int .i64 k, .string f]) hth (j := 0) rfl
  have z1 := stW_cell (l := [.string a, .int .i64 k, .string f]) hth (j := 1) rfl
  have z2 := stW_cell (l := [.string a, .int .i64 k, .string f]) hth (j := 2) rfl
  rw [if_pos (by rfl)]
  refine wp_store_mid _ _ _ rfl z 0 (List.toArray [.string a, .int .i64 k, .string f]) rfl rfl hth (by kernel_rfl) (by simp [Value.oneCell']) ?_
  show K _ (stW y z [.string a, .int .i64 k, .string f])
  refine hK.out _ _ (⟨stW_far (by omega) (cell_later hY c0), stW_far (by omega) (cell_later hY c1), stW_far (by omega) (cell_later hY c2)⟩) (fun hHeld => ?_)
  clear hK K hth
  (try simp only [Act.put, List.getElem_toArray, List.getElem_cons_zero, List.getElem_cons_succ, List.setIfInBounds_toArray, List.set_cons_zero, List.set_cons_succ])
  refine wpAnyH_done (by kernel_rfl) ?_ _
  ·
    have hW := Below.trans hw (hY.mono (by have := hw.size; omega))
    clear hY bx
    go_wp2
    refine bodyPost_ret (v := .agg #[.string a, .int .i64 k, .string f]) (by simp [results, Tryz.results127, go_sem, z0, z1, z2]) rfl ?_
    exact ⟨rfl, stW_below hW (by omega)⟩

theorem copyCol_cp (c : Co) (hB : ColB c) : Cp eCol 127 c := fun Q w cs h => by
  obtain rfl : cs = [.string c.1, .int .i64 c.2.1, .string c.2.2] := h
  exact ((copyCol_any c hB w).mono fun en w' ⟨h1, h2⟩ => ⟨_, h1, rfl, h2⟩)

end Go.Proofs.YtljmlacnfnmjbaaGreat
namespace Go.Proofs.YtljmlacnfnmjbaaGreat
open Go.RowKit
set_option linter.unusedVariables false
set_option linter.unusedSimpArgs false

/-- Where the first such one stands; -1: there is none. -/
def fidx {α : Type} (p : α → Bool) (l : List α) : Int := if l.findIdx p < l.length then (l.findIdx p : Int) else -1
theorem fidx_hit {α : Type} {p : α → Bool} {l : List α} {k : Nat} (hk : k < l.length) (h : ∀ i (hi : i < l.length), i < k → p l[i] = false) (hp : p l[k] = true) : fidx p l = k := by
  have : l.findIdx p = k := (List.findIdx_eq hk).2 ⟨hp, fun j hj => by simpa using h j (by omega) hj⟩
  rw [fidx, this, if_pos hk]
theorem fidx_none {α : Type} {p : α → Bool} {l : List α} (h : ∀ i (hi : i < l.length), p l[i] = false) : fidx p l = -1 := by
  have : l.findIdx p = l.length := List.findIdx_eq_length.2 fun x hx => by
    obtain ⟨i, hi, rfl⟩ := List.mem_iff_getElem.1 hx
    simpa using h i hi
  rw [fidx, this, if_neg (Nat.lt_irrefl _)]
theorem fidx_vals {α : Type} (p : α → Bool) (l : List α) : fidx p l = -1 ∨ ∃ k : Nat, fidx p l = k ∧ k < l.length := by
  unfold fidx
  split
  · exact .inr ⟨_, rfl, by assumption⟩
  · exact .inl rfl
/-- A function value that answers p of a thing in memory. -/
def SuchZ {α : Type} (e : Ek α) (p : α → Bool) (w : World) (v : Value) : Prop := ∃ N caps, v = .func (.func N) #[] caps ∧ (∀ args w', (callFunc N args).run Tryz.prog w' = .ok (.enter N args) w') ∧ ∀ (x : α) (Q : Nat → Prop) (cs : List Value) (w' : World), Below w.heap.size w w' → e.E Q w' x cs → Calls Tryz.prog N (#[.agg cs.toArray] ++ caps) w' fun en w'' => en = .returned (.bool (p x)) ∧ Below w'.heap.size w' w''
/-- A function that tells a name. -/
def NameZ {α : Type} (e : Ek α) (nm : α → ByteArray) (N : Nat) : Prop := (∀ args w', (callFunc N args).run Tryz.prog w' = .ok (.enter N args) w') ∧ ∀ (x : α) (Q : Nat → Prop) (cs : List Value) (w : World), e.E Q w x cs → Calls Tryz.prog N #[.agg cs.toArray] w fun en w' => en = .returned (.string (nm x)) ∧ Below w.heap.size w w'

set_option maxRecDepth 100000 in
set_option maxHeartbeats 2000000 in
theorem idxTbl_any {l : List Tbl} {p : Tbl → Bool} (hlen : l.length ≤ 500) {Q : Nat → Prop} {w : World} {ao : Option Addr} {n c : Nat} (h : RowIs eTbl Q w (.slice ao n c) l) {v : Value} (hv : SuchZ eTbl p w v) :
    Calls Tryz.prog 129 #[.slice ao n c, v] w fun en w' => en = .returned (.int .i64 (fidx p l)) ∧ Below w.heap.size w w' := by
  have HR : Hid (∀ w', Below w.heap.size w w' → RowIs eTbl Q w' (.slice ao n c) l) := hid fun w' hb => h.keep (by decide) fun b _ hl => hb.block b hl
  obtain ⟨N, caps, rfl, hcf, hN⟩ := hv
  have HN : Hid (∀ (x : Tbl) (Q : Nat → Prop) (cs : List Value) (w' : World), Below w.heap.size w w' → _) := hid hN
  obtain ⟨ao', n', c', e', hn, hnc, hc, _⟩ := h
  cases e'
  subst hn
  obtain ⟨R, hR⟩ : ∃ R, fidx p l = R := ⟨_, rfl⟩
  have HF : Hid _ := hid hR
  rw [hR]
  clear hN hR
  go_enter Tryz.func129, Tryz.ntmps129
  go_wp2
  go_loopw [5, 8] (fun _ v8 wr => ∃ k : Nat, k ≤ l.length ∧ v8 = .int .i64 k ∧ Below w.heap.size w wr ∧ Hid (∀ i (hi : i < l.length), i < k → p l[i] = false)) (fun _ i _ => l.length - (intOf i).toNat)
  case atStart => exact ⟨0, Nat.zero_le _, rfl, Below.refl _ _, hid fun i h hi => absurd hi (by omega)⟩
  case round =>
    obtain ⟨k, hk, rfl, hB, HE⟩ := hrel
    by_cases hlt : k < l.length
    · obtain ⟨_, _, _, e', _, _, _, hx⟩ := HR.out wr hB
      cases e'
      obtain ⟨b, o, rfl, hq, hi⟩ := hx (by omega)
      obtain ⟨cs, hEx, h2, h3⟩ := hi k hlt
      obtain ⟨x, hxl⟩ : ∃ x, l[k] = x := ⟨_, rfl⟩
      rw [hxl] at hEx
      have hEx' := hEx
      obtain ⟨ea, en, ec, ea', en', ec', rfl, er1, er2⟩ := hEx'
      have c0 : wr.cell? ⟨b, o + k * 3, none⟩ = some (.string x.name) := h3 0 (show 0 < 3 by decide)
      have c1 : wr.cell? ⟨b, o + k * 3 + 1, none⟩ = some (.slice ea en ec) := h3 1 (show 1 < 3 by decide)
      have c2 : wr.cell? ⟨b, o + k * 3 + 2, none⟩ = some (.slice ea' en' ec') := h3 2 (show 2 < 3 by decide)
      have HX := HN.out x _ _ wr hB hEx
      have hkm : (k : Int) < (l.length : Int) := by omega
      have hk5 : k ≤ 500 := by omega
      have HXl : Hid _ := hid hxl
      clear hEx h2 h3 hi hx hxl er1 er2
      cases hp : p x with
      | true =>
        rw [hp] at HX
        have HP : Hid (fidx p l = k) := hid (fidx_hit hlt HE.out (by rw [HXl.out]; exact hp))
        replace HX : Hid _ := hid HX
        clear hp
        go_wp2_with fail
        refine Calls.mono HX.out ?_
        rintro e w4 ⟨rfl, hb4⟩
        have hB4 : Below w.heap.size w w4 := Below.on hB hb4
        clear HX hb4 hB
        go_wp2
        go_ret
        exact ⟨ret_int (by rw [← HF.out, HP.out]), hB4⟩
      | false =>
        rw [hp] at HX
        have HN2 : Hid (∀ i (hi : i < l.length), i < k + 1 → p l[i] = false) := hid fun i hi hik => by
          by_cases he : i < k
          · exact HE.out i hi he
          · obtain rfl : i = k := by omega
            rw [HXl.out]; exact hp
        replace HX : Hid _ := hid HX
        clear hp HE
        go_wp2_with fail
        refine Calls.mono HX.out ?_
        rintro e w4 ⟨rfl, hb4⟩
        have hB4 : Below w.heap.size w w4 := Below.on hB hb4
        clear HX hb4 hB
        go_wp2
        go_roundw
        case rel => exact ⟨k + 1, hlt, by go_num, hB4, HN2⟩
        case measure => simp only [intOf]; omega
    · obtain rfl : k = l.length := by omega
      have HP : Hid (fidx p l = -1) := hid (fidx_none fun i hi => HE.out i hi hi)
      clear HE
      go_wp2
      go_ret
      exact ⟨ret_int (by rw [← HF.out, HP.out]), hB⟩


end Go.Proofs.YtljmlacnfnmjbaaGreat
namespace Go.Proofs.YtljmlacnfnmjbaaGreat
open Go.RowKit
set_option linter.unusedVariables false
set_option linter.unusedSimpArgs false

/-- An expression without what stands in it: its way and its other fields. -/
abbrev Pg := Int × Pay
/-- Rows of expressions: the first one, what stands in it, those behind it. -/
abbrev Tg := Go.Deep.BT Pg
def toL : Tg → List (Pg × Tg)
  | .nil => []
  | .node _ _ p l r => (p, l) :: toL r
/-- The row's expressions lie from place o on in block b. -/
def FoG (Q : Nat → Prop) (w : World) : Tg → Nat → Nat → Prop
  | .nil, _, _ => True
  | .node _ _ p l r, b, o => (∃ ao n c, Ce w b o p.1 p.2 (.slice ao n c) ∧ (toL l).length = n ∧ n ≤ c ∧ c ≤ 9223372036854775807 ∧ (0 < n → ∃ b' o', ao = some ⟨b', o', none⟩ ∧ Q b' ∧ FoG Q w l b' o')) ∧ FoG Q w r b (o + 7)
theorem FoG.keep {Q : Nat → Prop} {w w' : World} (hk : ∀ k, Q k → k < w.heap.size → w'.heap[k]? = w.heap[k]?) : ∀ {f : Tg} {b o : Nat}, Q b → FoG Q w f b o → FoG Q w' f b o := by
  intro f
  induction f with
  | nil => intro b o _ _; trivial
  | node x y p l r ihl ihr =>
    rintro b o hb ⟨⟨ao, n, c, h1, h2, h3, h4, h5⟩, h6⟩
    refine ⟨⟨ao, n, c, h1.keep (hk b hb h1.lt), h2, h3, h4, fun hn => ?_⟩, ihr hb h6⟩
    obtain ⟨b', o', e, hq, hf⟩ := h5 hn
    exact ⟨b', o', e, hq, ihl hq hf⟩
theorem FoG.lt {Q : Nat → Prop} {w : World} {f : Tg} {b o : Nat} (h : FoG Q w f b o) (hn : 0 < (toL f).length) : b < w.heap.size := by
  cases f with
  | nil => simp [toL] at hn
  | node _ _ q l' r' =>
    obtain ⟨⟨_, _, _, hc, _⟩, _⟩ := h
    exact hc.lt
theorem FoG.mono {Q Q' : Nat → Prop} {w : World} (hk : ∀ k, Q k → k < w.heap.size → Q' k) : ∀ {f : Tg} {b o : Nat}, FoG Q w f b o → FoG Q' w f b o := by
  intro f
  induction f with
  | nil => intro b o _; trivial
  | node x y p l r ihl ihr =>
    rintro b o ⟨⟨ao, n, c, h1, h2, h3, h4, h5⟩, h6⟩
    refine ⟨⟨ao, n, c, h1, h2, h3, h4, fun hn => ?_⟩, ihr h6⟩
    obtain ⟨b', o', e, hq, hf⟩ := h5 hn
    exact ⟨b', o', e, hk b' hq (FoG.lt hf (by omega)), ihl hf⟩
/-- A slice of expressions that reads as the row. -/
def SlF (Q : Nat → Prop) (w : World) (ao : Option Addr) (n c : Nat) (f : Tg) : Prop := (toL f).length = n ∧ n ≤ c ∧ c ≤ 9223372036854775807 ∧ (0 < n → ∃ b o, ao = some ⟨b, o, none⟩ ∧ Q b ∧ FoG Q w f b o)
/-- An expression of any form. -/
def eG : Ek (Pg × Tg) := ⟨7, fun Q w t cs => ∃ a n c, cs = exC t.1.1 t.1.2 (.slice a n c) ∧ SlF Q w a n c t.2,
  fun hk ⟨a, n, c, h1, h2, h3, h4, h5⟩ => ⟨a, n, c, h1, h2, h3, h4, fun hn => by
    obtain ⟨b, o, e, hq, hf⟩ := h5 hn
    exact ⟨b, o, e, hq, FoG.keep hk hq hf⟩⟩,
  fun hk ⟨a, n, c, h1, h2, h3, h4, h5⟩ => ⟨a, n, c, h1, h2, h3, h4, fun hn => by
    obtain ⟨b, o, e, hq, hf⟩ := h5 hn
    exact ⟨b, o, e, hk b hq (FoG.lt hf (by omega)), FoG.mono hk hf⟩⟩⟩
theorem FoG.at {Q : Nat → Prop} {w : World} : ∀ {f : Tg} {b o : Nat}, FoG Q w f b o → ∀ i (h : i < (toL f).length), ∃ cs, eG.E Q w (toL f)[i] cs ∧ cs.length = 7 ∧ ∀ j (hj : j < cs.length), w.cell? ⟨b, o + i * 7 + j, none⟩ = some cs[j] := by
  intro f
  induction f with
  | nil => intro b o _ i h; simp [toL] at h
  | node x y p l r ihl ihr =>
    rintro b o ⟨⟨ao, n, c, h1, h2, h3, h4, h5⟩, h6⟩ i h
    cases i with
    | zero =>
      refine ⟨exC p.1 p.2 (.slice ao n c), ⟨ao, n, c, rfl, h2, h3, h4, h5⟩, rfl, fun j hj => ?_⟩
      obtain ⟨c0, c1, c2, c3, c4, c5, c6⟩ := h1
      have hj' : j < 7 := hj
      rw [show o + 0 * 7 + j = o + j from by omega]
      match j, hj' with
      | 0, _ => exact c0
      | 1, _ => exact c1
      | 2, _ => exact c2
      | 3, _ => exact c3
      | 4, _ => exact c4
      | 5, _ => exact c5
      | 6, _ => exact c6
    | succ i =>
      obtain ⟨cs, g1, g2, g3⟩ := ihr h6 i (by simpa [toL] using h)
      refine ⟨cs, by simpa [toL] using g1, g2, fun j hj => ?_⟩
      rw [show o + (i + 1) * 7 + j = o + 7 + i * 7 + j from by omega]
      exact g3 j hj
theorem SlF.row {Q : Nat → Prop} {w : World} {ao : Option Addr} {n c : Nat} {f : Tg} (h : SlF Q w ao n c f) : RowIs eG Q w (.slice ao n c) (toL f) := by
  obtain ⟨h1, h2, h3, h4⟩ := h
  refine ⟨ao, n, c, rfl, h1, h2, h3, fun hn => ?_⟩
  obtain ⟨b, o, e, hq, hf⟩ := h4 hn
  exact ⟨b, o, e, hq, fun i hi => hf.at i hi⟩
/-- The columns that an expression may name: table, name, kind. -/
abbrev Cl3 := ByteArray × ByteArray × Int
def eClm : Ek Cl3 := ⟨3, fun _ _ c cs => cs = [.string c.1, .string c.2.1, .int .i64 c.2.2], fun _ h => h, fun _ h => h⟩
/-- Is it the column of that name? -/
def clmIs (tb nm : ByteArray) (c : Cl3) : Bool := eqS c.2.1 nm && (eqS tb ⟨#[]⟩ || eqS c.1 tb)
def clmK (S : List Cl3) (tb nm : ByteArray) : Int × Int :=
  match S.filter (clmIs tb nm) with
  | [c] => (c.2.2, 0)
  | _ => (0, 10)
/-- What a way asks of its parts: how many, of which kinds, and what it makes of them. -/
def wayA (op : Int) : Option (Int × List Int × Int) :=
  if op = 1 then some (0, [], 0) else if op = 2 then some (0, [], 0) else if op = 3 then some (1, [1], 1) else if op = 4 then some (1, [3], 3)
  else if op = 5 then some (2, [1], 1) else if op = 6 then some (2, [1], 1) else if op = 7 then some (2, [1], 1)
  else if op = 8 then some (2, [1, 2], 3) else if op = 9 then some (2, [1, 2], 3) else if op = 10 then some (2, [1, 2], 3) else if op = 11 then some (2, [1, 2], 3) else if op = 12 then some (2, [1, 2], 3) else if op = 13 then some (2, [1, 2], 3)
  else if op = 14 then some (2, [3], 3) else if op = 15 then some (2, [3], 3) else none
def alikeP (l : List Int) : Bool := l.all fun x => x == l.headD 0
def takesP (f : List Int) (l : List Int) : Bool := alikeP l && l.all fun k => f.contains k
/-- The first error of a list. -/
def erL : List Int → Int
  | [] => 0
  | e :: l => if e = 0 then erL l else e
def kd1 (S : List Cl3) (p : Pg) (ks : List (Int × Int)) : Int × Int :=
  match wayA p.1 with
  | none => (0, 1)
  | some v =>
    if (ks.length : Int) ≠ v.1 then (0, 1)
    else if p.1 = 1 then (p.2.1, 0)
    else if p.1 = 2 then clmK S p.2.2.2.2.1 p.2.2.2.2.2
    else if erL (ks.map (·.2)) ≠ 0 then (0, erL (ks.map (·.2)))
    else if takesP v.2.1 (ks.map (·.1)) then (v.2.2, 0) else (0, 11)
def kds (S : List Cl3) : Tg → List (Int × Int)
  | .nil => []
  | .node _ _ p l r => kd1 S p (kds S l) :: kds S r
def kdT (S : List Cl3) (t : Pg × Tg) : Int × Int := kd1 S t.1 (kds S t.2)
theorem kds_map (S : List Cl3) : ∀ f : Tg, kds S f = (toL f).map (kdT S) := by
  intro f
  induction f with
  | nil => rfl
  | node x y p l r ihl ihr => rw [kds, toL, List.map_cons, ← ihr]; rfl
/-- The first error ahead of place n. -/
def erO (er : Nat → Int) (n : Nat) : Int := erL ((List.range n).map er)
theorem erL_app (l m : List Int) : erL (l ++ m) = if erL l = 0 then erL m else erL l := by
  induction l with
  | nil => rfl
  | cons x l ih =>
    rw [List.cons_append, erL, erL]
    split
    · exact ih
    · rfl
theorem erO_succ (er : Nat → Int) (n : Nat) : erO er (n + 1) = if erO er n = 0 then er n else erO er n := by
  rw [erO, List.range_succ, List.map_append, erL_app]
  by_cases h : erL ((List.range n).map er) = 0
  · rw [if_pos h, if_pos (show erO er n = 0 from h)]
    show (if er n = 0 then 0 else er n) = er n
    split
    · exact Eq.symm (by assumption)
    · rfl
  · rw [if_neg h, if_neg (show ¬ erO er n = 0 from h)]; rfl
theorem erO_stop {er : Nat → Int} {k n : Nat} (hk : k < n) (h0 : erO er k = 0) (he : er k ≠ 0) : erO er n = er k := by
  induction n with
  | zero => omega
  | succ n ih =>
    rw [erO_succ]
    by_cases h : k = n
    · subst h; rw [if_pos h0]
    · rw [ih (by omega), if_neg he]
theorem erO_list {l : List Int} {er : Nat → Int} (h : ∀ i (hi : i < l.length), er i = l[i]) : erO er l.length = erL l := by
  have : (List.range l.length).map er = l := by
    apply List.ext_getElem
    · simp
    · intro i h1 h2
      rw [List.getElem_map, List.getElem_range, h i h2]
  rw [erO, this]

end Go.Proofs.YtljmlacnfnmjbaaGreat
namespace Go.Proofs.YtljmlacnfnmjbaaGreat
open Go.RowKit
set_option linter.unusedVariables false
set_option linter.unusedSimpArgs false

theorem Tryz.infoZStr : (Tryz.prog.info? 9).map (fun i => (i.zero, i.size, i.bytes)) = some (some (.string ⟨#[]⟩), 1, 16) := by kernel_rfl
set_option maxRecDepth 100000 in
set_option maxHeartbeats 4000000 in
theorem copiesStr_own {l : List ByteArray} (hcp : ∀ x ∈ l, StrB x) (hlen : l.length ≤ 500) {Q : Nat → Prop} {w : World} {ao : Option Addr} {n c : Nat} (h : RowIs eStr Q w (.slice ao n c) l) :
    Calls Tryz.prog 128 #[.slice ao n c, .func (.func 125) #[] #[]] w (TeO eStr 9 w l) := by
  have HC : Hid (∀ x ∈ l, StrB x) := hid hcp
  have HR : Hid (∀ w', Below w.heap.size w w' → RowIs eStr Q w' (.slice ao n c) l) := hid fun w' hb => h.keep (by decide) fun b _ hl => hb.block b hl
  obtain ⟨ao', n', c', e', hn, hnc, hc, _⟩ := h
  cases e'
  subst hn
  clear hcp
  go_enter Tryz.func128, Tryz.ntmps128
  go_wp2
  go_loopw [5, 10] (fun v5 v10 wr => ∃ (k : Nat) (css : List (List Value)), k ≤ l.length ∧ v10 = .int .i64 k ∧ Below w.heap.size w wr ∧ OwnR 9 1 w.heap.size wr v5 css ∧ css.length = k ∧ Hid (∀ i (h1 : i < l.length) (h2 : i < css.length), (eStr).E (fun b => w.heap.size ≤ b ∧ some b ≠ v5.ownBlock) wr l[i] css[i])) (fun _ i _ => l.length - (intOf i).toNat)
  case atStart => exact ⟨0, [], Nat.zero_le _, rfl, Below.refl _ _, OwnR.nil _ _ _ _, rfl, hid fun i h1 h2 => by simp at h2⟩
  case round =>
    obtain ⟨k, css, hk, rfl, hB, ho, hcl, HE⟩ := hrel
    by_cases hlt : k < l.length
    · have hcl' : css.length ≤ 500 := by omega
      obtain ⟨_, _, _, e', _, _, _, hx⟩ := HR.out wr hB
      cases e'
      obtain ⟨b, o, rfl, hq, hi⟩ := hx (by omega)
      obtain ⟨cs, hEx, h2, h3⟩ := hi k hlt
      obtain ⟨x, hxl, hxm⟩ : ∃ x, l[k] = x ∧ x ∈ l := ⟨_, rfl, List.getElem_mem hlt⟩
      rw [hxl] at hEx
      have hEx' := hEx
      obtain rfl := hEx'
      have c0 : wr.cell? ⟨b, o + k, none⟩ = some (.string x) := by
        have := h3 0 (by simp)
        have e1 : o + k * eStr.k + 0 = o + k := by show o + k * 1 + 0 = o + k; omega
        rw [e1] at this
        exact this
      have HX : Hid _ := hid (clone_any x (HC.out x hxm) wr)
      have HXl : Hid _ := hid hxl
      have hsz := hB.size
      have hblk := ho.blk
      have Hcl : Hid _ := hid hcl
      have hkm : (k : Int) < (l.length : Int) := by omega
      clear hEx h2 h3 hi hx hxm hxl hcl
      go_wp2_with fail
      refine Calls.mono HX.out ?_
      rintro e w4 ⟨rfl, hb4'⟩
      have hB4 : Below w.heap.size w w4 := Below.trans hB (hb4'.mono hsz)
      have ho4 := ho.later hb4'
      have ho5 := ho4.alloc (.cells #[.string x] 9)
      have hB5 := bal hB4 (.cells #[.string x] 9)
      have hs4 := hb4'.size
      have HE4 : Hid (∀ i (h1 : i < l.length) (h2 : i < css.length), (eStr).E (fun b => w.heap.size ≤ b ∧ some b ≠ u5.ownBlock) (w4.alloc (.cells #[.string x] 9)) l[i] css[i]) := hid fun i h1 h2 => (eStr).keep (fun b _ hl => (bal (Below.refl _ w4) _).block b hl) ((eStr).keep (fun b _ hl => hb4'.block b hl) (HE.out i h1 h2))
      have HEn : Hid ((eStr).E (fun b => w.heap.size ≤ b ∧ some b ≠ u5.ownBlock) (w4.alloc (.cells #[.string x] 9)) x [.string x]) := hid rfl
      clear HE ho ho4 hB4 HX hb4'
      go_wp2_with (first | (at_builtin; refine wpList_appR Tryz.underlying56 Tryz.infoZStr rfl (by decide) (by decide) rfl (.tmp 14) (.tmp 18) rfl _ css w4.heap.size [.string x] rfl rfl ho5 rfl (by simp [Value.oneCell']) ?_ (by omega) hB5.size ?_) | fail)
      · intro j hj
        have hj' : j < 1 := hj
        match j, hj' with
        | 0, _ => exact cell_new w4 _ _ _ 0
      · intro v' w6 hO6 hg6 hown
        have hB6 := Below.grownR hB5 hB5.size hg6 fun k e => (hblk k e).1
        have HN : Hid (∀ i (h1 : i < l.length) (h2 : i < (css ++ [([.string x] : List Value)]).length), (eStr).E (fun b => w.heap.size ≤ b ∧ some b ≠ v'.ownBlock) w6 l[i] (css ++ [([.string x] : List Value)])[i]) := hid fun i h1 h2 => by
          by_cases hi : i < css.length
          · rw [List.getElem_append_left hi]
            exact (eStr).grow (HE4.out i h1 hi) hg6 (by simpa using hown)
          · rw [List.length_append, List.length_singleton] at h2
            obtain rfl : i = css.length := by omega
            rw [List.getElem_append_right (Nat.le_refl _)]
            have hx' : l[css.length] = x := by
              have := HXl.out
              have hk' := Hcl.out
              subst hk'
              exact this
            rw [hx']
            simpa using (eStr).grow HEn.out hg6 (by simpa using hown)
        clear HE4 HEn hg6 hown ho5 hB5 hblk
        go_wp2
        go_roundw
        case rel => exact ⟨k + 1, css ++ [([.string x] : List Value)], hlt, by go_num, hB6, hO6, by rw [List.length_append, List.length_singleton, Hcl.out], HN⟩
        case measure => simp only [intOf]; omega
    · obtain rfl : k = l.length := by omega
      obtain ⟨a5, n5, d5, rfl⟩ := ho.sl
      go_wp2
      go_ret
      exact ⟨_, _, _, css, rfl, ho, hcl, HE.out, hB⟩
theorem copiesStr_any {l : List ByteArray} (hcp : ∀ x ∈ l, StrB x) (hlen : l.length ≤ 500) {Q : Nat → Prop} {w : World} {ao : Option Addr} {n c : Nat} (h : RowIs eStr Q w (.slice ao n c) l) :
    Calls Tryz.prog 128 #[.slice ao n c, .func (.func 125) #[] #[]] w (TeR eStr w l) := (copiesStr_own hcp hlen h).mono fun _ _ h => h.row


end Go.Proofs.YtljmlacnfnmjbaaGreat
