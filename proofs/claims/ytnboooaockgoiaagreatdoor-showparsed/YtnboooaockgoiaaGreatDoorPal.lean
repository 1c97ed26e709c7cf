import Derived.Test.YtnboooaockgoiaaGreatDoorPak
namespace Go.Proofs.YtnboooaockgoiaaGreatDoor
open Go.RowKit
set_option linter.unusedVariables false

theorem Rf.set13 {w : World} {g : Nat} {S : Sa} {d : Nat} (h : Rf w g S d) {b : Nat} (hb : g < b) (s : Sv) : Rf (set13 w b s) g S d := (((((((((((((h.other hb 0 _).other hb 1 _).other hb 2 _).other hb 3 _).other hb 4 _).other hb 5 _).other hb 6 _).other hb 7 _).other hb 8 _).other hb 9 _).other hb 10 _).other hb 11 _).other hb 12 _)
def TfS (g : Nat) (w : World) (R : Re Sm) (e : Ending) (w' : World) : Prop :=
  ∃ s, e = .returned (stV s) ∧ But g w w' ∧ Rf w' g (stO R) 0 ∧ ∀ m r, R = .inr (m, r) → IsS (fun b => w.heap.size ≤ b) w' m s ∧ s.inn = (none, 0, 0)
def TfF (g : Nat) (w : World) (R : Re Sf) (e : Ending) (w' : World) : Prop :=
  ∃ s, e = .returned (stV s) ∧ But g w w' ∧ Rf w' g (stO R) 0 ∧ ∀ m r, R = .inr (m, r) → IsS (fun b => w.heap.size ≤ b) w' m.1 s ∧ RowIs eStmt (fun b => w.heap.size ≤ b) w' (slV s.inn) m.2
/-- Nothing but blocks g and q is turned. -/
structure Bu (g q : Nat) (w w' : World) : Prop where
  os : w'.os = w.os
  tape : w'.tape = w.tape
  output : w'.output = w.output
  size : w.heap.size ≤ w'.heap.size
  block : ∀ k, k < w.heap.size → k ≠ g → k ≠ q → w'.heap[k]? = w.heap[k]?
theorem Bu.trans {g q : Nat} {a b c : World} (h : Bu g q a b) (k : Bu g q b c) : Bu g q a c :=
  ⟨k.os.trans h.os, k.tape.trans h.tape, k.output.trans h.output, Nat.le_trans h.size k.size, fun i hi hg hq => (k.block i (Nat.lt_of_lt_of_le hi h.size) hg hq).trans (h.block i hi hg hq)⟩
theorem Bu.of {g q : Nat} {w w' : World} (h : But g w w') : Bu g q w w' := ⟨h.os, h.tape, h.output, h.size, fun k hk hg _ => h.block k hk hg⟩
theorem Bu.set (g q o : Nat) (w : World) (v : Value) : Bu g q w (w.setCell ⟨q, o, none⟩ v) := ⟨rfl, rfl, rfl, by simp [World.setCell], fun k _ _ hk => Below.heap_setCell _ _ _ _ hk⟩
theorem Bu.put {g q : Nat} {w w' : World} (h : Bu g q w w') (o : Nat) (v : Value) : Bu g q w (w'.setCell ⟨q, o, none⟩ v) := h.trans (Bu.set g q o w' v)
theorem Bu.on {g q : Nat} {w w1 w2 : World} (h : Bu g q w w1) (k : But g w1 w2) : Bu g q w w2 := h.trans (Bu.of k)
theorem Bu.but {g q : Nat} {w w1 w2 : World} (h : But g w w1) (k : Bu g q w1 w2) (hq : w.heap.size ≤ q) : But g w w2 :=
  ⟨k.os.trans h.os, k.tape.trans h.tape, k.output.trans h.output, Nat.le_trans h.size k.size, fun i hi hg => (k.block i (Nat.lt_of_lt_of_le hi h.size) hg (by omega)).trans (h.block i hi hg)⟩
theorem Bu.keepB {g q : Nat} {w w' : World} (h : Bu g q w w') {b : Nat} {s : Sv} (hx : Bs w b s) (h1 : b ≠ g) (h2 : b ≠ q) : Bs w' b s := hx.keep (h.block b hx.lt h1 h2)
theorem Bs.set0 {w : World} {b : Nat} {s : Sv} (h : Bs w b s) (v : Int) : Bs (w.setCell ⟨b, 0, none⟩ (.int .i64 v)) b { s with k := v } := ⟨by simp [World.setCell, Array.getElem?_modify, h.row]⟩

/-- A statement is being filled, in block q; its result's block is as it was. -/
structure Jn (g q : Nat) (w : World) (R : Re Sm) (w1 : World) (s : Sv) : Prop where
  but : But g w w1
  rf : Rf w1 g (stO R) 0
  lo : w.heap.size < q
  box : Bs w1 q s
  zero : Bs w1 w.heap.size (zS 0)
  is : ∀ m r, R = .inr (m, r) → IsS (fun b => w.heap.size + 1 ≤ b ∧ b ≠ q) w1 m s ∧ s.inn = (none, 0, 0)
theorem Jn.conv {g q : Nat} {w : World} {R R' : Re Sm} {w1 : World} {s : Sv} (h : Jn g q w R w1 s) (e : R' = R) : Jn g q w R' w1 s := e ▸ h
theorem Jn.start {g : Nat} {w w1 : World} {S : Sa} (hB : But g w w1) (hr : Rf w1 g S 0) (z : Bs w1 w.heap.size (zS 0)) (k : Int) : Jn g w1.heap.size w (startR k S) (w1.alloc (.cells #[.int .i64 (zS k).k, .string (zS k).tb, .string (zS k).nm, .slice (zS k).co.1 (zS k).co.2.1 (zS k).co.2.2, .slice (zS k).ta.1 (zS k).ta.2.1 (zS k).ta.2.2, .slice (zS k).va.1 (zS k).va.2.1 (zS k).va.2.2, .slice (zS k).it.1 (zS k).it.2.1 (zS k).it.2.2, .string (zS k).jn, .slice (zS k).on.1 (zS k).on.2.1 (zS k).on.2.2, .slice (zS k).wh.1 (zS k).wh.2.1 (zS k).wh.2.2, .slice (zS k).od.1 (zS k).od.2.1 (zS k).od.2.2, .bool (zS k).ds, .slice (zS k).inn.1 (zS k).inn.2.1 (zS k).inn.2.2] 48)) (zS k) := by
  refine ⟨hB.alloc _, by rw [start_st]; exact hr.alloc _, z.lt, Bs.new w1 (zS k), z.later (bal (Below.refl _ _) _), fun m r e => ?_⟩
  cases S with
  | inl x => cases e
  | inr ts => cases e; exact ⟨IsS.zero _ _ k, rfl⟩
theorem Jn.want {g q : Nat} {w : World} {R : Re Sm} {w1 w2 : World} {s : Sv} (h : Jn g q w R w1 s) (hg : g < w.heap.size) {t : ByteArray} (hr : Rf w2 g (wantS t (stO R)) 0) (hb : But g w1 w2) : Jn g q w (wantR t R) w2 s := by
  have hl := h.lo
  refine ⟨h.but.trans hb, by rw [stO_wantR]; exact hr, h.lo, h.box.but hb (by omega), h.zero.but hb (by omega), fun m r e => ?_⟩
  obtain ⟨r', e'⟩ := wantR_inr e
  exact ⟨(h.is m r' e').1.keep fun b hq hlt => hb.block b hlt (by omega), (h.is m r' e').2⟩
theorem Jn.take {g q : Nat} {w : World} {R : Re Sm} {w1 w2 : World} {s : Sv} (h : Jn g q w R w1 s) (hg : g < w.heap.size) {t : ByteArray} (hr : Rf w2 g (takeS t (stO R)) 0) (hb : But g w1 w2) : Jn g q w (takeR t R) w2 s := by
  have hl := h.lo
  refine ⟨h.but.trans hb, by rw [take_st]; exact hr, h.lo, h.box.but hb (by omega), h.zero.but hb (by omega), fun m r e => ?_⟩
  obtain ⟨m', q', e1, e2⟩ := thenR_inr e
  cases e2
  exact ⟨(h.is m q' e1).1.keep fun b hq hlt => hb.block b hlt (by omega), (h.is m q' e1).2⟩
theorem Jn.same {g q : Nat} {w : World} {R : Re Sm} {w1 w2 : World} {s : Sv} (h : Jn g q w R w1 s) (hg : g < w.heap.size) (hr : Rf w2 g (stO R) 0) (hb : But g w1 w2) : Jn g q w R w2 s := by
  have hl := h.lo
  exact ⟨h.but.trans hb, hr, h.lo, h.box.but hb (by omega), h.zero.but hb (by omega), fun m r e => ⟨(h.is m r e).1.keep fun b hq hlt => hb.block b hlt (by omega), (h.is m r e).2⟩⟩
/-- A field is filled, by whatever road. -/
theorem Jn.fill {α : Type} {g q : Nat} {w : World} {R : Re Sm} {w1 w2 : World} {s s' : Sv} (h : Jn g q w R w1 s) (hg : g < w.heap.size) {P : List Tk → Re α} {f : Sm → α → Sm} (hb : Bu g q w1 w2) (hr : Rf w2 g (stO (runP P (stO R))) 0) (hx : Bs w2 q s')
    (hi : ∀ m x q' r, R = .inr (m, q') → runP P (stO R) = .inr (x, r) → IsS (fun b => w.heap.size + 1 ≤ b ∧ b ≠ q) w2 m s → s.inn = (none, 0, 0) → IsS (fun b => w.heap.size + 1 ≤ b ∧ b ≠ q) w2 (f m x) s' ∧ s'.inn = (none, 0, 0)) :
    Jn g q w (fillR P f R) w2 s' := by
  have hl := h.lo
  refine ⟨Bu.but h.but hb (by omega), by rw [fill_st]; exact hr, h.lo, hx, hb.keepB h.zero (by omega) (by omega), fun m r e => ?_⟩
  obtain ⟨m0, q', x, e1, e2, rfl⟩ := fill_inr e
  have h0 := h.is m0 q' e1
  exact hi m0 x q' r e1 e2 (h0.1.keep fun b hq hlt => hb.block b hlt (by omega) (by omega)) h0.2
/-- A field is filled by what a call told. -/
theorem Jn.put {α : Type} {g q : Nat} {w : World} {R : Re Sm} {w1 w2 : World} {s s' : Sv} (h : Jn g q w R w1 s) (hg : g < w.heap.size) {P : List Tk → Re α} {f : Sm → α → Sm} {i : Nat} {v : Value} (hb : But g w1 w2) (hr : Rf w2 g (stO (runP P (stO R))) 0)
    (hx : Bs w2 q s → Bs (w2.setCell ⟨q, i, none⟩ v) q s')
    (hi : ∀ m x q' r, R = .inr (m, q') → runP P (stO R) = .inr (x, r) → IsS (fun b => w.heap.size + 1 ≤ b ∧ b ≠ q) (w2.setCell ⟨q, i, none⟩ v) m s → s.inn = (none, 0, 0) → IsS (fun b => w.heap.size + 1 ≤ b ∧ b ≠ q) (w2.setCell ⟨q, i, none⟩ v) (f m x) s' ∧ s'.inn = (none, 0, 0)) :
    Jn g q w (fillR P f R) (w2.setCell ⟨q, i, none⟩ v) s' := by
  have hl := h.lo
  exact h.fill hg ((Bu.of hb).put i v) (hr.other (by omega) _ _) (hx (h.box.but hb (by omega))) hi
/-- What is new behind the box is kept while the box is filled. -/
theorem row_put {α : Type} {e : Ek α} (he : 0 < e.k) {w : World} {v : Value} {l : List α} {B q : Nat} (hq : q < B) (i : Nat) (u : Value) (a : Nat) (ha : a + 1 ≤ B) (h : RowIs e (fun b => B ≤ b) w v l) : RowIs e (fun b => a + 1 ≤ b ∧ b ≠ q) (w.setCell ⟨q, i, none⟩ u) v l :=
  (h.keep he fun b hb _ => Below.heap_setCell _ _ _ _ (by show b ≠ q; omega)).mono he fun b hb _ => ⟨by omega, by omega⟩
theorem Jn.tb {g q : Nat} {w : World} {R : Re Sm} {w1 w2 : World} {s : Sv} (h : Jn g q w R w1 s) (hg : g < w.heap.size) {x : ByteArray} (hb : But g w1 w2) (hr : Rf w2 g (stO (runP nameP (stO R))) 0) (hu : ∀ u r, runP nameP (stO R) = .inr (u, r) → x = u) :
    Jn g q w (fillR nameP up_tb R) (w2.setCell ⟨q, 1, none⟩ (.string x)) { s with tb := x } :=
  h.put hg hb hr (fun hx => hx.set1 _) fun m u q r _ e his hin => ⟨{ his with tb := hu u r e }, hin⟩
theorem Jn.nm {g q : Nat} {w : World} {R : Re Sm} {w1 w2 : World} {s : Sv} (h : Jn g q w R w1 s) (hg : g < w.heap.size) {x : ByteArray} (hb : But g w1 w2) (hr : Rf w2 g (stO (runP nameP (stO R))) 0) (hu : ∀ u r, runP nameP (stO R) = .inr (u, r) → x = u) :
    Jn g q w (fillR nameP up_nm R) (w2.setCell ⟨q, 2, none⟩ (.string x)) { s with nm := x } :=
  h.put hg hb hr (fun hx => hx.set2 _) fun m u q r _ e his hin => ⟨{ his with nm := hu u r e }, hin⟩
theorem Jn.jn {g q : Nat} {w : World} {R : Re Sm} {w1 w2 : World} {s : Sv} (h : Jn g q w R w1 s) (hg : g < w.heap.size) {x : ByteArray} (hb : But g w1 w2) (hr : Rf w2 g (stO (runP nameP (stO R))) 0) (hu : ∀ u r, runP nameP (stO R) = .inr (u, r) → x = u) :
    Jn g q w (fillR nameP up_jn R) (w2.setCell ⟨q, 7, none⟩ (.string x)) { s with jn := x } :=
  h.put hg hb hr (fun hx => hx.set7 _) fun m u q r _ e his hin => ⟨{ his with jn := hu u r e }, hin⟩
theorem Jn.co {g q : Nat} {w : World} {R : Re Sm} {w1 w2 : World} {s : Sv} (h : Jn g q w R w1 s) (hg : g < w.heap.size) {P : List Tk → Re (List Co)} {v : Sl} (hb : But g w1 w2) (hr : Rf w2 g (stO (runP P (stO R))) 0) (hu : ∀ u r, runP P (stO R) = .inr (u, r) → RowIs eCol (fun b => w1.heap.size ≤ b) w2 (slV v) u) :
    Jn g q w (fillR P up_co R) (w2.setCell ⟨q, 3, none⟩ (slV v)) { s with co := v } :=
  h.put hg hb hr (fun hx => hx.set3 _) fun m u q r _ e his hin => ⟨{ his with co := row_put (by decide) h.box.lt 3 _ _ (by have := h.zero.lt; omega) (hu u r e) }, hin⟩
theorem Jn.ta {g q : Nat} {w : World} {R : Re Sm} {w1 w2 : World} {s : Sv} (h : Jn g q w R w1 s) (hg : g < w.heap.size) {P : List Tk → Re (List Int)} {v : Sl} (hb : But g w1 w2) (hr : Rf w2 g (stO (runP P (stO R))) 0) (hu : ∀ u r, runP P (stO R) = .inr (u, r) → RowIs eTag (fun b => w1.heap.size ≤ b) w2 (slV v) u) :
    Jn g q w (fillR P up_ta R) (w2.setCell ⟨q, 4, none⟩ (slV v)) { s with ta := v } :=
  h.put hg hb hr (fun hx => hx.set4 _) fun m u q r _ e his hin => ⟨{ his with ta := row_put (by decide) h.box.lt 4 _ _ (by have := h.zero.lt; omega) (hu u r e) }, hin⟩
theorem Jn.va {g q : Nat} {w : World} {R : Re Sm} {w1 w2 : World} {s : Sv} (h : Jn g q w R w1 s) (hg : g < w.heap.size) {P : List Tk → Re (List Tr)} {v : Sl} (hb : But g w1 w2) (hr : Rf w2 g (stO (runP P (stO R))) 0) (hu : ∀ u r, runP P (stO R) = .inr (u, r) → RowIs eExpr (fun b => w1.heap.size ≤ b) w2 (slV v) u) :
    Jn g q w (fillR P up_va R) (w2.setCell ⟨q, 5, none⟩ (slV v)) { s with va := v } :=
  h.put hg hb hr (fun hx => hx.set5 _) fun m u q r _ e his hin => ⟨{ his with va := row_put (by decide) h.box.lt 5 _ _ (by have := h.zero.lt; omega) (hu u r e) }, hin⟩
theorem Jn.on {g q : Nat} {w : World} {R : Re Sm} {w1 w2 : World} {s : Sv} (h : Jn g q w R w1 s) (hg : g < w.heap.size) {P : List Tk → Re (List Tr)} {v : Sl} (hb : But g w1 w2) (hr : Rf w2 g (stO (runP P (stO R))) 0) (hu : ∀ u r, runP P (stO R) = .inr (u, r) → RowIs eExpr (fun b => w1.heap.size ≤ b) w2 (slV v) u) :
    Jn g q w (fillR P up_on R) (w2.setCell ⟨q, 8, none⟩ (slV v)) { s with on := v } :=
  h.put hg hb hr (fun hx => hx.set8 _) fun m u q r _ e his hin => ⟨{ his with on := row_put (by decide) h.box.lt 8 _ _ (by have := h.zero.lt; omega) (hu u r e) }, hin⟩
theorem Jn.wh {g q : Nat} {w : World} {R : Re Sm} {w1 w2 : World} {s : Sv} (h : Jn g q w R w1 s) (hg : g < w.heap.size) {P : List Tk → Re (List Tr)} {v : Sl} (hb : But g w1 w2) (hr : Rf w2 g (stO (runP P (stO R))) 0) (hu : ∀ u r, runP P (stO R) = .inr (u, r) → RowIs eExpr (fun b => w1.heap.size ≤ b) w2 (slV v) u) :
    Jn g q w (fillR P up_wh R) (w2.setCell ⟨q, 9, none⟩ (slV v)) { s with wh := v } :=
  h.put hg hb hr (fun hx => hx.set9 _) fun m u q r _ e his hin => ⟨{ his with wh := row_put (by decide) h.box.lt 9 _ _ (by have := h.zero.lt; omega) (hu u r e) }, hin⟩
theorem Jn.od {g q : Nat} {w : World} {R : Re Sm} {w1 w2 : World} {s : Sv} (h : Jn g q w R w1 s) (hg : g < w.heap.size) {P : List Tk → Re (List Tr)} {v : Sl} (hb : But g w1 w2) (hr : Rf w2 g (stO (runP P (stO R))) 0) (hu : ∀ u r, runP P (stO R) = .inr (u, r) → RowIs eExpr (fun b => w1.heap.size ≤ b) w2 (slV v) u) :
    Jn g q w (fillR P up_od R) (w2.setCell ⟨q, 10, none⟩ (slV v)) { s with od := v } :=
  h.put hg hb hr (fun hx => hx.set10 _) fun m u q r _ e his hin => ⟨{ his with od := row_put (by decide) h.box.lt 10 _ _ (by have := h.zero.lt; omega) (hu u r e) }, hin⟩
theorem Jn.ds {g q : Nat} {w : World} {R : Re Sm} {w1 w2 : World} {s : Sv} (h : Jn g q w R w1 s) (hg : g < w.heap.size) {P : List Tk → Re Bool} {x : Bool} (hb : But g w1 w2) (hr : Rf w2 g (stO (runP P (stO R))) 0) (hu : ∀ u r, runP P (stO R) = .inr (u, r) → x = u) :
    Jn g q w (fillR P up_ds R) (w2.setCell ⟨q, 11, none⟩ (.bool x)) { s with ds := x } :=
  h.put hg hb hr (fun hx => hx.set11 _) fun m u q r _ e his hin => ⟨{ his with ds := hu u r e }, hin⟩
theorem Jn.it0 {g q : Nat} {w : World} {R : Re Sm} {w1 : World} {s : Sv} (h : Jn g q w R w1 s) (hs : s.it = (none, 0, 0)) : Jn g q w (fillR (fun ts => .inr ([], ts)) up_it R) w1 s := by
  refine ⟨h.but, by rw [fill_st]; have := h.rf; cases R <;> exact this, h.lo, h.box, h.zero, fun m r e => ?_⟩
  obtain ⟨m0, q', x, e1, e2, rfl⟩ := fill_inr e
  rw [e1] at e2
  cases e2
  exact ⟨{ (h.is m0 q' e1).1 with it := by rw [hs]; exact RowIs.nil _ _ _ }, (h.is m0 q' e1).2⟩
theorem Jn.jo0 {g q : Nat} {w : World} {R : Re Sm} {w1 : World} {s : Sv} (h : Jn g q w R w1 s) (hb : takeB ⟨#[106, 111, 105, 110]⟩ (stO R) = false) (hs : s.jn = ⟨#[]⟩) (ho : s.on = (none, 0, 0)) : Jn g q w (fillR joinP up_jo R) w1 s := by
  obtain ⟨q1, q2⟩ := opt_false (z := ((⟨#[]⟩, []) : ByteArray × List Tr)) (P := seqP Prod.mk nameP onP) hb
  refine ⟨h.but, by rw [fill_st, joinP, q1]; exact h.rf, h.lo, h.box, h.zero, fun m r e => ?_⟩
  obtain ⟨m0, q', x, e1, e2, rfl⟩ := fill_inr e
  have := q2 x r e2
  subst this
  exact ⟨{ (h.is m0 q' e1).1 with jn := hs, on := by rw [ho]; exact RowIs.nil _ _ _ }, (h.is m0 q' e1).2⟩
theorem Jn.oo0 {g q : Nat} {w : World} {R : Re Sm} {w1 : World} {s : Sv} (h : Jn g q w R w1 s) (hb : takeB ⟨#[111, 114, 100, 101, 114]⟩ (stO R) = false) (hs : s.ds = false) (ho : s.od = (none, 0, 0)) : Jn g q w (fillR ordP up_oo R) w1 s := by
  obtain ⟨q1, q2⟩ := opt_false (z := (([], false) : List Tr × Bool)) (P := seqP Prod.mk orderP descP) hb
  refine ⟨h.but, by rw [fill_st, ordP, q1]; exact h.rf, h.lo, h.box, h.zero, fun m r e => ?_⟩
  obtain ⟨m0, q', x, e1, e2, rfl⟩ := fill_inr e
  have := q2 x r e2
  subst this
  exact ⟨{ (h.is m0 q' e1).1 with ds := hs, od := by rw [ho]; exact RowIs.nil _ _ _ }, (h.is m0 q' e1).2⟩
theorem TfS.fin2 {g : Nat} {w w1 : World} {R : Re Sm} {s : Sv} (hg : g < w.heap.size) (hB : But g w w1) (hr : Rf w1 g (stO R) 0)
    (hx : ∀ m r, R = .inr (m, r) → IsS (fun b => w.heap.size + 1 ≤ b) w1 m s ∧ s.inn = (none, 0, 0)) : TfS g w R (.returned (stV s)) (set13 w1 w.heap.size s) := by
  refine ⟨s, rfl, hB.set13 (Nat.le_refl _) s, hr.set13 hg s, fun m r e => ?_⟩
  obtain ⟨h1, h2⟩ := hx m r e
  exact ⟨(h1.keep fun b hq hlt => set13_heap _ _ _ (by omega)).mono fun b hb _ => by omega, h2⟩
theorem TfF.fin {g : Nat} {w w1 : World} {R : Re Sf} {s : Sv} (hg : g < w.heap.size) (hB : But g w w1) (hr : Rf w1 g (stO R) 0)
    (hx : ∀ m r, R = .inr (m, r) → IsS (fun b => w.heap.size + 1 ≤ b) w1 m.1 s ∧ RowIs eStmt (fun b => w.heap.size + 1 ≤ b) w1 (slV s.inn) m.2) : TfF g w R (.returned (stV s)) (set13 w1 w.heap.size s) := by
  refine ⟨s, rfl, hB.set13 (Nat.le_refl _) s, hr.set13 hg s, fun m r e => ?_⟩
  obtain ⟨h1, h2⟩ := hx m r e
  exact ⟨(h1.keep fun b hq hlt => set13_heap _ _ _ (by omega)).mono fun b hb _ => by omega, (h2.keep (by decide) fun b hq hlt => set13_heap _ _ _ (by omega)).mono (by decide) fun b hb _ => by omega⟩
theorem TfS.fin {g q : Nat} {w w1 : World} {R R' : Re Sm} {s : Sv} (hR : R = R') (hg : g < w.heap.size) (h : Jn g q w R' w1 s) : TfS g w R (.returned (stV s)) (set13 w1 w.heap.size s) := by
  subst hR
  exact TfS.fin2 hg h.but h.rf fun m r e => ⟨(h.is m r e).1.mono fun b hb _ => hb.1, (h.is m r e).2⟩
/-- A statement alone, where those that stand in it are told, too. -/
theorem TfF.plain {g q : Nat} {w w1 : World} {P : List Tk → Re Sm} {S : Sa} {R : Re Sf} {R' : Re Sm} {s : Sv} (hR : R = runP (plain P) S) (hP : runP P S = R') (hg : g < w.heap.size) (h : Jn g q w R' w1 s) : TfF g w R (.returned (stV s)) (set13 w1 w.heap.size s) := by
  rw [plain_run, hP] at hR
  subst hR
  refine TfF.fin hg h.but (by rw [stO_mapR]; exact h.rf) fun m r e => ?_
  obtain ⟨u, e2, rfl⟩ := mapR_inr e
  obtain ⟨h1, h2⟩ := h.is u r e2
  exact ⟨h1.mono fun b hb _ => hb.1, by rw [h2]; exact RowIs.nil _ _ _⟩
/-- The result's block, and all else, behind some takes. -/
structure Wf (g : Nat) (w w1 : World) (S : Sa) : Prop where
  but : But g w w1
  rf : Rf w1 g S 0
  zero : Bs w1 w.heap.size (zS 0)
theorem Wf.lt {g : Nat} {w w1 : World} {S : Sa} (h : Wf g w w1 S) : w.heap.size + 1 ≤ w1.heap.size := by have := h.zero.lt; omega
theorem Wf.start {g : Nat} {w : World} {S : Sa} (h : Rf w g S 0) : Wf g w (w.alloc (.cells #[.int .i64 0, .string ⟨#[]⟩, .string ⟨#[]⟩, .slice none 0 0, .slice none 0 0, .slice none 0 0, .slice none 0 0, .string ⟨#[]⟩, .slice none 0 0, .slice none 0 0, .slice none 0 0, .bool false, .slice none 0 0] 48)) S := ⟨(But.refl g w).alloc _, h.alloc _, Bs.new w (zS 0)⟩
theorem Wf.on {g : Nat} {w w1 w2 : World} {S S' : Sa} (h : Wf g w w1 S) (hg : g < w.heap.size) (hr : Rf w2 g S' 0) (hb : But g w1 w2) : Wf g w w2 S' := ⟨h.but.trans hb, hr, h.zero.but hb (by omega)⟩
theorem Wf.jn {g : Nat} {w w1 : World} {S : Sa} (h : Wf g w w1 S) (k : Int) : Jn g w1.heap.size w (startR k S) (w1.alloc (.cells #[.int .i64 (zS k).k, .string (zS k).tb, .string (zS k).nm, .slice (zS k).co.1 (zS k).co.2.1 (zS k).co.2.2, .slice (zS k).ta.1 (zS k).ta.2.1 (zS k).ta.2.2, .slice (zS k).va.1 (zS k).va.2.1 (zS k).va.2.2, .slice (zS k).it.1 (zS k).it.2.1 (zS k).it.2.2, .string (zS k).jn, .slice (zS k).on.1 (zS k).on.2.1 (zS k).on.2.2, .slice (zS k).wh.1 (zS k).wh.2.1 (zS k).wh.2.2, .slice (zS k).od.1 (zS k).od.2.1 (zS k).od.2.2, .bool (zS k).ds, .slice (zS k).inn.1 (zS k).inn.2.1 (zS k).inn.2.2] 48)) (zS k) := Jn.start h.but h.rf h.zero k
/-- A statement whose table is told as it is begun. -/
theorem Wf.jtb {g : Nat} {w w1 w2 : World} {S : Sa} (h : Wf g w w1 S) (hg : g < w.heap.size) {x : ByteArray} (hb : But g w1 w2) (hr : Rf w2 g (stO (runP nameP S)) 0) (hu : ∀ u r, runP nameP S = .inr (u, r) → x = u) (k : Int) :
    Jn g w2.heap.size w (fillR nameP up_tb (startR k S)) (w2.alloc (.cells #[.int .i64 ({ zS k with tb := x } : Sv).k, .string ({ zS k with tb := x } : Sv).tb, .string ({ zS k with tb := x } : Sv).nm, .slice ({ zS k with tb := x } : Sv).co.1 ({ zS k with tb := x } : Sv).co.2.1 ({ zS k with tb := x } : Sv).co.2.2, .slice ({ zS k with tb := x } : Sv).ta.1 ({ zS k with tb := x } : Sv).ta.2.1 ({ zS k with tb := x } : Sv).ta.2.2, .slice ({ zS k with tb := x } : Sv).va.1 ({ zS k with tb := x } : Sv).va.2.1 ({ zS k with tb := x } : Sv).va.2.2, .slice ({ zS k with tb := x } : Sv).it.1 ({ zS k with tb := x } : Sv).it.2.1 ({ zS k with tb := x } : Sv).it.2.2, .string ({ zS k with tb := x } : Sv).jn, .slice ({ zS k with tb := x } : Sv).on.1 ({ zS k with tb := x } : Sv).on.2.1 ({ zS k with tb := x } : Sv).on.2.2, .slice ({ zS k with tb := x } : Sv).wh.1 ({ zS k with tb := x } : Sv).wh.2.1 ({ zS k with tb := x } : Sv).wh.2.2, .slice ({ zS k with tb := x } : Sv).od.1 ({ zS k with tb := x } : Sv).od.2.1 ({ zS k with tb := x } : Sv).od.2.2, .bool ({ zS k with tb := x } : Sv).ds, .slice ({ zS k with tb := x } : Sv).inn.1 ({ zS k with tb := x } : Sv).inn.2.1 ({ zS k with tb := x } : Sv).inn.2.2] 48)) { zS k with tb := x } := by
  have z := h.zero.but hb (by omega)
  refine ⟨(h.but.trans hb).alloc _, by rw [fill_st, start_st]; exact hr.alloc _, z.lt, Bs.new w2 _, z.later (bal (Below.refl _ _) _), fun m r e => ?_⟩
  obtain ⟨m0, q', y, e1, e2, rfl⟩ := fill_inr e
  rw [start_st] at e2
  cases S with
  | inl _ => cases e1
  | inr ts =>
    cases e1
    exact ⟨{ IsS.zero _ _ k with tb := hu y r e2 }, rfl⟩
theorem Wf.tes {g : Nat} {w w1 w2 : World} {S : Sa} {P : List Tk → Re Sm} {R : Re Sm} {s : Sv} (h : Wf g w w1 S) (hg : g < w.heap.size) (hR : R = runP P S) (hb : But g w1 w2) (hr : Rf w2 g (stO (runP P S)) 0)
    (hx : ∀ m r, runP P S = .inr (m, r) → IsS (fun b => w1.heap.size ≤ b) w2 m s ∧ s.inn = (none, 0, 0)) : TfS g w R (.returned (stV s)) (set13 w2 w.heap.size s) := by
  subst hR
  exact TfS.fin2 hg (h.but.trans hb) hr fun m r e => ⟨(hx m r e).1.mono fun b hb _ => by have := h.lt; omega, (hx m r e).2⟩
theorem Wf.tef {g : Nat} {w w1 w2 : World} {S : Sa} {P : List Tk → Re Sf} {R : Re Sf} {s : Sv} (h : Wf g w w1 S) (hg : g < w.heap.size) (hR : R = runP P S) (hb : But g w1 w2) (hr : Rf w2 g (stO (runP P S)) 0)
    (hx : ∀ m r, runP P S = .inr (m, r) → IsS (fun b => w1.heap.size ≤ b) w2 m.1 s ∧ RowIs eStmt (fun b => w1.heap.size ≤ b) w2 (slV s.inn) m.2) : TfF g w R (.returned (stV s)) (set13 w2 w.heap.size s) := by
  subst hR
  exact TfF.fin hg (h.but.trans hb) hr fun m r e => ⟨(hx m r e).1.mono fun b hb _ => by have := h.lt; omega, (hx m r e).2.mono (by decide) fun b hb _ => by have := h.lt; omega⟩
theorem Wf.teg {g : Nat} {w w1 w2 : World} {S : Sa} {P : List Tk → Re Sm} {R : Re Sf} {s : Sv} (h : Wf g w w1 S) (hg : g < w.heap.size) (hR : R = runP (plain P) S) (hb : But g w1 w2) (hr : Rf w2 g (stO (runP P S)) 0)
    (hx : ∀ m r, runP P S = .inr (m, r) → IsS (fun b => w1.heap.size ≤ b) w2 m s ∧ s.inn = (none, 0, 0)) : TfF g w R (.returned (stV s)) (set13 w2 w.heap.size s) := by
  refine h.tef (P := plain P) hg hR hb (by rw [plain_run, stO_mapR]; exact hr) fun m r e => ?_
  rw [plain_run] at e
  obtain ⟨u, e2, rfl⟩ := mapR_inr e
  obtain ⟨h1, h2⟩ := hx u r e2
  exact ⟨h1, by rw [h2]; exact RowIs.nil _ _ _⟩

/-- A row that lies in a field of the statement is told, from the world where it was begun. -/
theorem OwnR.bu {ty k B g q : Nat} {w w' : World} {v : Value} {css : List (List Value)} (h : OwnR ty k B w v css) (hb : Bu g q w w') (hg : g < B) (hq : q < B) : OwnR ty k B w' v css := by
  refine ⟨h.1, h.2.1, ?_⟩
  rcases h.2.2 with k | ⟨b, cap, cur, hv, hg', hh, r⟩
  · exact .inl k
  · exact .inr ⟨b, cap, cur, hv, hg', by rw [hb.block b (Array.getElem?_eq_some_iff.1 hh).1 (by omega) (by omega)]; exact hh, r⟩
theorem Bu.grown {g q B : Nat} {w w3 w4 : World} {row : Option Nat} (h : Bu g q w w3) (hg : w3.grownBy w4 row) (hrow : ∀ k, row = some k → w.heap.size ≤ k) : Bu g q w w4 :=
  ⟨hg.os.trans h.os, hg.tape.trans h.tape, hg.output.trans h.output, Nat.le_trans h.size hg.size, fun k hk hgk hqk => (hg.block k (Nat.lt_of_lt_of_le hk h.size) (fun e => by have := hrow k e.symm; omega)).trans (h.block k hk hgk hqk)⟩
theorem Bs.grown {w3 w4 : World} {row : Option Nat} {b : Nat} {s : Sv} (h : Bs w3 b s) (hg : w3.grownBy w4 row) (hrow : ∀ k, row = some k → b < k) : Bs w4 b s :=
  h.keep (hg.block b h.lt (fun e => by have := hrow b e.symm; omega))

end Go.Proofs.YtnboooaockgoiaaGreatDoor
