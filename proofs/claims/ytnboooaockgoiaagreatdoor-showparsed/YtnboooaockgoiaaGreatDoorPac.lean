import Derived.Test.YtnboooaockgoiaaGreatDoorPab
namespace Go.Proofs.YtnboooaockgoiaaGreatDoor
open Go.RowKit
set_option linter.unusedVariables false

/-- The document's reader lies in block g: l, n, deep, at, err. -/
structure Rg (w : World) (g : Nat) (sl : Value) (n d a e : Int) : Prop where
  row : w.heap[g]? = some (.cells #[sl, .int .i64 n, .int .i64 d, .int .i64 a, .int .i64 e] 89 (0, 0))
theorem Rg.lt {w : World} {g : Nat} {sl : Value} {n d a e : Int} (h : Rg w g sl n d a e) : g < w.heap.size := (Array.getElem?_eq_some_iff.1 h.row).1
theorem Rg.cells {w : World} {g : Nat} {sl : Value} {n d a e : Int} (h : Rg w g sl n d a e) : w.cell? ⟨g, 0, none⟩ = some sl ∧ w.cell? ⟨g, 1, none⟩ = some (.int .i64 n) ∧ w.cell? ⟨g, 2, none⟩ = some (.int .i64 d) ∧ w.cell? ⟨g, 3, none⟩ = some (.int .i64 a) ∧ w.cell? ⟨g, 4, none⟩ = some (.int .i64 e) := by
  unfold World.cell?; rw [h.row]; exact ⟨rfl, rfl, rfl, rfl, rfl⟩
theorem Rg.free {w : World} {g : Nat} {sl : Value} {n d a e : Int} (h : Rg w g sl n d a e) : w.frozen? ⟨g, 0, none⟩ = false ∧ w.frozen? ⟨g, 1, none⟩ = false ∧ w.frozen? ⟨g, 2, none⟩ = false ∧ w.frozen? ⟨g, 3, none⟩ = false ∧ w.frozen? ⟨g, 4, none⟩ = false := by
  unfold World.frozen?; rw [h.row]; exact ⟨rfl, rfl, rfl, rfl, rfl⟩
theorem Rg.same {w w' : World} {g : Nat} {sl : Value} {n d a e : Int} (h : Rg w g sl n d a e) (he : w'.heap[g]? = w.heap[g]?) : Rg w' g sl n d a e := ⟨he.trans h.row⟩
theorem Rg.set1 {w : World} {g : Nat} {sl : Value} {n d a e : Int} (h : Rg w g sl n d a e) (z : Int) : Rg (w.setCell ⟨g, 1, none⟩ (.int .i64 z)) g sl z d a e := ⟨by simp [World.setCell, Array.getElem?_modify, h.row]⟩
theorem Rg.set2 {w : World} {g : Nat} {sl : Value} {n d a e : Int} (h : Rg w g sl n d a e) (z : Int) : Rg (w.setCell ⟨g, 2, none⟩ (.int .i64 z)) g sl n z a e := ⟨by simp [World.setCell, Array.getElem?_modify, h.row]⟩
theorem Rg.set3 {w : World} {g : Nat} {sl : Value} {n d a e : Int} (h : Rg w g sl n d a e) (z : Int) : Rg (w.setCell ⟨g, 3, none⟩ (.int .i64 z)) g sl n d z e := ⟨by simp [World.setCell, Array.getElem?_modify, h.row]⟩
theorem Rg.set4 {w : World} {g : Nat} {sl : Value} {n d a e : Int} (h : Rg w g sl n d a e) (z : Int) : Rg (w.setCell ⟨g, 4, none⟩ (.int .i64 z)) g sl n d a z := ⟨by simp [World.setCell, Array.getElem?_modify, h.row]⟩

/-- The words are all that the text has, from block b, place o on; the one with number n is the next. -/
structure Wn (w : World) (g b o N c n : Nat) (all : List Tk) : Prop where
  lt : b < g
  few : all.length ≤ 500
  rd : RdT w (some ⟨b, o, none⟩) N c all
  at_ : n < N
theorem Wn.keep {w w' : World} {g b o N c n : Nat} {all : List Tk} (h : Wn w g b o N c n all) (hk : w'.heap[b]? = w.heap[b]?) : Wn w' g b o N c n all :=
  ⟨h.lt, h.few, ⟨h.rd.len, h.rd.cap, h.rd.max, h.rd.non, fun hn => by
    obtain ⟨b', o', e, hc⟩ := h.rd.cells hn
    cases e
    refine ⟨b, o, rfl, fun i hi => ?_⟩
    obtain ⟨q0, q1, q2, q3⟩ := hc i hi
    exact ⟨(World.cell?_of_block (a := ⟨b, _, none⟩) hk).trans q0, (World.cell?_of_block (a := ⟨b, _, none⟩) hk).trans q1, (World.cell?_of_block (a := ⟨b, _, none⟩) hk).trans q2, (World.cell?_of_block (a := ⟨b, _, none⟩) hk).trans q3⟩⟩, h.at_⟩
theorem Wn.head {w : World} {g b o N c n : Nat} {all : List Tk} (h : Wn w g b o N c n all) : w.cell? ⟨b, o + n * 4, none⟩ = some (.int .i64 (tth all n).1) ∧ w.cell? ⟨b, o + n * 4 + 1, none⟩ = some (.string (tth all n).2.1) ∧ w.cell? ⟨b, o + n * 4 + 2, none⟩ = some (.int .i64 (tth all n).2.2.1) ∧ w.cell? ⟨b, o + n * 4 + 3, none⟩ = some (.int .i64 (tth all n).2.2.2) := by
  obtain ⟨b', o', e, hc⟩ := h.rd.cells (Nat.lt_of_le_of_lt (Nat.zero_le _) h.at_)
  cases e
  exact hc n h.at_
theorem Wn.blt {w : World} {g b o N c n : Nat} {all : List Tk} (h : Wn w g b o N c n all) : b < w.heap.size := World.block_lt_of_cell? _ _ h.head.1
theorem Wn.to {w : World} {g b o N c n m : Nat} {all : List Tk} (h : Wn w g b o N c n all) (hm : m < N) : Wn w g b o N c m all := ⟨h.lt, h.few, h.rd, hm⟩

/-- The document's reader lies in block g: a fault, or words that are yet to be read; and how deep it is (behind a fault it may have been left one too deep). -/
structure Rf (w : World) (g : Nat) (S : Sa) (d : Nat) : Prop where
  on : (∃ x b o N c n all d', S = .inl x ∧ x.2 ≠ 0 ∧ d ≤ d' ∧ d' ≤ 65 ∧ Rg w g (.slice (some ⟨b, o, none⟩) N c) (n : Nat) (d' : Nat) x.1 x.2 ∧ Wn w g b o N c n all) ∨
    (∃ ts b o N c n all, S = .inr ts ∧ ts = all.drop n ∧ (Ended ts ∧ d ≤ 65) ∧ Rg w g (.slice (some ⟨b, o, none⟩) N c) (n : Nat) d 0 0 ∧ Wn w g b o N c n all)
theorem Rf.bad {w : World} {g : Nat} {x : Int × Int} {d : Nat} (h : Rf w g (.inl x) d) : ∃ b o N c n all d', x.2 ≠ 0 ∧ d ≤ d' ∧ d' ≤ 65 ∧ Rg w g (.slice (some ⟨b, o, none⟩) N c) (n : Nat) (d' : Nat) x.1 x.2 ∧ Wn w g b o N c n all := by
  rcases h.on with ⟨y, b, o, N, c, n, all, d', e, h1, h2, h3, h4, h5⟩ | ⟨ts, b, o, N, c, n, all, e, _⟩
  · cases e; exact ⟨b, o, N, c, n, all, d', h1, h2, h3, h4, h5⟩
  · cases e
theorem Rf.ok {w : World} {g : Nat} {ts : List Tk} {d : Nat} (h : Rf w g (.inr ts) d) : ∃ b o N c n all, ts = all.drop n ∧ (Ended ts ∧ d ≤ 65) ∧ Rg w g (.slice (some ⟨b, o, none⟩) N c) (n : Nat) d 0 0 ∧ Wn w g b o N c n all := by
  rcases h.on with ⟨y, b, o, N, c, n, all, d', e, h1, h2, h3, h4, h5⟩ | ⟨ts, b, o, N, c, n, all, e, h1, h2, h3, h4⟩
  · cases e
  · cases e; exact ⟨b, o, N, c, n, all, h1, h2, h3, h4⟩
theorem Rf.of_bad {w : World} {g : Nat} {x : Int × Int} {d d' b o N c n : Nat} {all : List Tk} (h : x.2 ≠ 0) (h1 : d ≤ d') (h2 : d' ≤ 65) (k : Rg w g (.slice (some ⟨b, o, none⟩) N c) (n : Nat) (d' : Nat) x.1 x.2) (l : Wn w g b o N c n all) : Rf w g (.inl x) d := ⟨.inl ⟨x, b, o, N, c, n, all, d', rfl, h, h1, h2, k, l⟩⟩
theorem Rf.of_ok {w : World} {g : Nat} {ts : List Tk} {d b o N c n : Nat} {all : List Tk} (h1 : ts = all.drop n) (h2 : Ended ts ∧ d ≤ 65) (k : Rg w g (.slice (some ⟨b, o, none⟩) N c) (n : Nat) d 0 0) (l : Wn w g b o N c n all) : Rf w g (.inr ts) d := ⟨.inr ⟨ts, b, o, N, c, n, all, rfl, h1, h2, k, l⟩⟩
theorem Rf.lt {w : World} {g : Nat} {S : Sa} {d : Nat} (h : Rf w g S d) : g < w.heap.size := by
  rcases h.on with ⟨y, b, o, N, c, n, all, d', e, h1, h2, h3, h4, h5⟩ | ⟨ts, b, o, N, c, n, all, e, h1, h2, h3, h4⟩
  · exact h4.lt
  · exact h3.lt
/-- What keeps the blocks up to g keeps the reader. -/
theorem Rf.keep {w w' : World} {g : Nat} {S : Sa} {d : Nat} (h : Rf w g S d) (hk : ∀ k, k ≤ g → w'.heap[k]? = w.heap[k]?) : Rf w' g S d := by
  rcases h.on with ⟨y, b, o, N, c, n, all, d', e, h1, h2, h3, h4, h5⟩ | ⟨ts, b, o, N, c, n, all, e, h1, h2, h3, h4⟩
  · subst e; exact Rf.of_bad h1 h2 h3 (h4.same (hk g (Nat.le_refl _))) (h5.keep (hk b (Nat.le_of_lt h5.lt)))
  · subst e; exact Rf.of_ok h1 h2 (h3.same (hk g (Nat.le_refl _))) (h4.keep (hk b (Nat.le_of_lt h4.lt)))
theorem Rf.later {w w' : World} {g : Nat} {S : Sa} {d : Nat} (h : Rf w g S d) (hb : Below w.heap.size w w') : Rf w' g S d := h.keep fun k hk => hb.block k (Nat.lt_of_le_of_lt hk h.lt)
theorem Rf.alloc {w : World} {g : Nat} {S : Sa} {d : Nat} (h : Rf w g S d) (o : Obj) : Rf (w.alloc o) g S d := h.later ((Below.refl _ _).alloc (Nat.le_refl _) o)
theorem Rf.drew {w : World} {g : Nat} {S : Sa} {d : Nat} (h : Rf w g S d) : Rf w.drew g S d := h.keep fun _ _ => rfl
theorem Rf.other {w : World} {g : Nat} {S : Sa} {d : Nat} (h : Rf w g S d) {r : Nat} (hr : g < r) (o : Nat) (v : Value) : Rf (w.setCell ⟨r, o, none⟩ v) g S d :=
  h.keep fun k hk => Below.heap_setCell _ _ _ _ (by show k ≠ r; omega)
/-- How much is yet to be read, for a measure. -/
def szF (g : Nat) (w : World) : Nat := match w.cell? ⟨g, 4, none⟩ with
  | some (.int _ 0) => (match w.cell? ⟨g, 0, none⟩, w.cell? ⟨g, 1, none⟩ with | some (.slice _ n _), some (.int _ k) => n - k.toNat | _, _ => 0)
  | _ => 0
theorem Rf.sz {w : World} {g : Nat} {S : Sa} {d : Nat} (h : Rf w g S d) : szF g w = szS S := by
  rcases h.on with ⟨y, b, o, N, c, n, all, d', e, h1, h2, h3, h4, h5⟩ | ⟨ts, b, o, N, c, n, all, e, h1, h2, h3, h4⟩
  · subst e
    rw [szF, h4.cells.2.2.2.2]
    simp only [szS]
    split
    · rename_i h; simp only [Option.some.injEq, Value.int.injEq] at h; exact absurd h.2 h1
    · rfl
  · subst e
    rw [szF, h3.cells.2.2.2.2, h3.cells.1, h3.cells.2.1]
    simp only [szS]
    rw [h1, List.length_drop, h4.rd.len]
    simp
theorem Rf.few {w : World} {g : Nat} {S : Sa} {d : Nat} (h : Rf w g S d) : szS S ≤ 500 := by
  rcases h.on with ⟨y, b, o, N, c, n, all, d', e, h1, h2, h3, h4, h5⟩ | ⟨ts, b, o, N, c, n, all, e, h1, h2, h3, h4⟩
  · subst e; exact Nat.zero_le _
  · subst e
    have := h4.few
    show ts.length ≤ 500
    rw [h1, List.length_drop]; omega
/-- Is there no fault yet? -/
def okSe : Sa → Bool
  | .inl _ => false
  | .inr _ => true
/-- What the reader's words are, whether there is a fault or not. -/
theorem Rf.any {w : World} {g : Nat} {S : Sa} {d : Nat} (h : Rf w g S d) : ∃ b o N c n all d' a e, Rg w g (.slice (some ⟨b, o, none⟩) N c) (n : Nat) (d' : Nat) a e ∧ Wn w g b o N c n all ∧ (okSe S = true → tth all n = nxT S ∧ d' = d ∧ a = 0 ∧ e = 0) ∧ (okSe S = false → e ≠ 0) ∧ (d ≤ d' ∧ d' ≤ 65) ∧ (e = 0 → okSe S = true) := by
  rcases h.on with ⟨y, b, o, N, c, n, all, d', e, h1, h2, h3, h4, h5⟩ | ⟨ts, b, o, N, c, n, all, e, h1, h2, h3, h4⟩
  · subst e; exact ⟨b, o, N, c, n, all, d', y.1, y.2, h4, h5, fun k => (by cases k), fun _ => h1, ⟨h2, h3⟩, fun k => absurd k h1⟩
  · subst e
    refine ⟨b, o, N, c, n, all, d, 0, 0, h3, h4, fun _ => ⟨?_, rfl, rfl, rfl⟩, fun k => (by cases k), ⟨Nat.le_refl _, h2.2⟩, fun _ => rfl⟩
    show tth all n = tth ts 0
    rw [h1, tth, tth, List.getElem?_drop, Nat.add_zero]

/-- What now tells: the word that is to be read; some word behind a fault. -/
def TfNow (S : Sa) (w : World) (e : Ending) (w' : World) : Prop := ∃ t : Tk, e = .returned (tkA t) ∧ Below w.heap.size w w' ∧ (okSe S = true → t = nxT S)
set_option maxRecDepth 100000 in
set_option maxHeartbeats 1000000 in
theorem fNow_any {g : Nat} {S : Sa} {d : Nat} {w : World} (h : Rf w g S d) :
    Calls Tryz.prog 39 #[.pointer (some ⟨g, 0, none⟩)] w (TfNow S w) := by
  have hgl := h.lt
  obtain ⟨b, o, N, c, n, all, d', a, e, hg, hw, hok, -, -, -⟩ := h.any
  obtain ⟨c0, c1, c2, c3, c4⟩ := hg.cells
  obtain ⟨q0, q1, q2, q3⟩ := hw.head
  have hn := hw.at_
  have hN := hw.rd.len
  have hf := hw.few
  have hbl := hw.blt
  have HK : Hid (okSe S = true → tth all n = nxT S) := hid fun k => (hok k).1
  generalize tth all n = t at *
  obtain ⟨t0, t1, t2, t3⟩ := t
  have hN5 : N ≤ 500 := by omega
  clear h hg hw hok hN hf
  go_enter Tryz.func39, Tryz.ntmps39
  go_upto_region 1 with fail
  go_region
  go_wp2
  refine bodyPost_ret (v := tkA (t0, t1, t2, t3)) (by simp [results, Tryz.results39, go_sem, tkA]) rfl ⟨(t0, t1, t2, t3), rfl, ?_, HK.out⟩
  exact ((Below.refl _ _).alloc (Nat.le_refl _) _).drew

end Go.Proofs.YtnboooaockgoiaaGreatDoor
namespace Go.Proofs.YtnboooaockgoiaaGreatDoor
open Go.RowKit
set_option linter.unusedVariables false

theorem Rf.fail4 {w : World} {g : Nat} {ts : List Tk} {d : Nat} (h : Rf w g (.inr ts) d) {e a : Int} (he : e ≠ 0) (ha : a = (nxT (.inr ts)).2.2.2) : Rf ((w.setCell ⟨g, 4, none⟩ (.int .i64 e)).setCell ⟨g, 3, none⟩ (.int .i64 a)) g (failS e (.inr ts)) d := by
  obtain ⟨b, o, N, c, n, all, h1, h2, h3, h4⟩ := h.ok
  obtain ⟨h2, hd⟩ := h2
  match ts, h2 with
  | t :: r, h2 =>
    subst ha
    have hk := ((h3.set4 e).set3 t.2.2.2)
    refine Rf.of_bad (x := (t.2.2.2, e)) he (Nat.le_refl _) hd hk (h4.keep ?_)
    have hb := h4.lt
    rw [Below.heap_setCell _ _ _ _ (by show b ≠ g; omega), Below.heap_setCell _ _ _ _ (by show b ≠ g; omega)]

theorem fld_place (a b c d : Value) (w : World) : (Instr.field 91 (.agg #[a, b, c, d]) 3).run Tryz.prog w = .ok d w := by kernel_rfl
set_option maxRecDepth 100000 in
set_option maxHeartbeats 1000000 in
theorem fFail_any {g : Nat} {S : Sa} {d : Nat} {w : World} (h : Rf w g S d) (e : Int) (he : e ≠ 0) :
    Calls Tryz.prog 40 #[.pointer (some ⟨g, 0, none⟩), .int .i64 e] w fun x w' => x = .returned (.tuple #[]) ∧ Rf w' g (failS e S) d ∧ But g w w' := by
  have hgl := h.lt
  match S, h with
  | .inl x, h =>
    obtain ⟨b, o, N, c, n, all, d', hx, -, -, hg, -⟩ := h.bad
    obtain ⟨c0, c1, c2, c3, c4⟩ := hg.cells
    have g1 : (x.2 == 0) = false := by simpa using hx
    have HR : Hid _ := hid h
    clear h hg
    go_enter Tryz.func40, Tryz.ntmps40
    go_wp2
    refine bodyPost_end (results_none rfl _ _ _) rfl ⟨rfl, HR.out, But.refl _ _⟩
  | .inr ts, h =>
    have HN : Hid _ := hid (fNow_any h)
    have HF : Hid (∀ (w' : World) (a : Int), Rf w' g (.inr ts) d → a = (nxT (.inr ts)).2.2.2 → _) := hid fun w' a k ka => Rf.fail4 k he ka
    have HG : Hid _ := hid h
    obtain ⟨b, o, N, c, n, all, h1, h2, hg, -⟩ := h.ok
    obtain ⟨c0, c1, c2, c3, c4⟩ := hg.cells
    obtain ⟨f0, f1, f2, f3, f4⟩ := hg.free
    clear h h1 h2
    unfold TfNow tkA at HN
    go_enter Tryz.func40, Tryz.ntmps40
    go_wp2_with fail
    refine Calls.mono HN.out ?_
    rintro e' w1 ⟨⟨t0, t1, t2, t3⟩, rfl, hb1, ht⟩
    have hg1 := hg.same (hb1.block g hgl)
    obtain ⟨k0, k1, k2, k3, k4⟩ := hg1.cells
    obtain ⟨m0, m1, m2, m3, m4⟩ := hg1.free
    have hr1 := HG.out.later hb1
    have HR : Hid _ := hid (HF.out w1 t3 hr1 (by rw [← ht rfl]))
    have hB1 : But g w w1 := But.of hb1
    have hgl1 := hr1.lt
    have hfp := fld_place
    clear HN HF HG hg hg1 c0 c1 c2 c3 c4 f0 f1 f2 f3 f4 ht hb1 hr1
    go_wp2
    refine bodyPost_end (results_none rfl _ _ _) rfl ⟨rfl, HR.out, hB1.trans ((But.set _ _ _ _).trans (But.set _ _ _ _))⟩

set_option maxRecDepth 100000 in
set_option maxHeartbeats 1000000 in
theorem fIs_any {g : Nat} {S : Sa} {d : Nat} {w : World} (h : Rf w g S d) (s : ByteArray) :
    Calls Tryz.prog 72 #[.pointer (some ⟨g, 0, none⟩), .string s] w fun x w' => ∃ B : Bool, x = .returned (.bool B) ∧ Below w.heap.size w w' ∧ (okSe S = true → B = takeB s S) := by
  have H : Hid _ := hid (fNow_any h)
  have HT : Hid (∀ t : Tk, (okSe S = true → t = nxT S) → okSe S = true → ((t.1 == 2 || t.1 == 5) && eqS t.2.1 s) = takeB s S) := hid fun t k ok => by rw [takeB_nx, k ok]
  unfold TfNow tkA at H
  clear h
  go_enter Tryz.func72, Tryz.ntmps72
  go_wp2_with fail
  refine Calls.mono H.out ?_
  rintro e w1 ⟨⟨t0, t1, t2, t3⟩, rfl, hb1, ht⟩
  have HX : Hid (okSe S = true → ((t0 == 2 || t0 == 5) && eqS t1 s) = takeB s S) := hid (HT.out _ ht)
  have hs : (t1.toList == s.toList) = eqS t1 s := same_str t1 s
  generalize eqS t1 s = B at *
  clear H HT ht
  by_cases h2 : t0 = 2
  · subst h2
    go_wp2
    go_ret
    exact ⟨B, rfl, hb1.alloc hb1.size _, fun k => by rw [← HX.out k]; simp⟩
  · have g2 : (t0 == 2) = false := by simpa using h2
    by_cases h5 : t0 = 5
    · subst h5
      clear g2 h2
      go_wp2
      go_ret
      exact ⟨B, rfl, hb1.alloc hb1.size _, fun k => by rw [← HX.out k]; simp⟩
    · have g5 : (t0 == 5) = false := by simpa using h5
      go_wp2
      go_ret
      exact ⟨false, rfl, hb1.alloc hb1.size _, fun k => by rw [← HX.out k]; simp [h2, h5]⟩

theorem Rf.step {w : World} {g : Nat} {t : Tk} {ts : List Tk} {d : Nat} (h : Rf w g (.inr (t :: ts)) d) (ht : t.1 ≠ 6) : ∃ n N c b o, n + 1 < N ∧ N ≤ 500 ∧ w.cell? ⟨g, 0, none⟩ = some (.slice (some ⟨b, o, none⟩) N c) ∧ w.cell? ⟨g, 1, none⟩ = some (.int .i64 ((n : Nat) : Int)) ∧ w.frozen? ⟨g, 1, none⟩ = false ∧
    ∀ m, Rf ((w.drewN m).setCell ⟨g, 1, none⟩ (.int .i64 ((n : Int) + 1))) g (.inr ts) d := by
  obtain ⟨b, o, N, c, n, all, h1, h2, hg, hw⟩ := h.ok
  have he : Ended ts := h2.1.resolve_left ht
  have hd65 := h2.2
  have hl := hw.rd.len
  have hf := hw.few
  have hp := he.pos
  have hd : (all.drop n).length = ts.length + 1 := by rw [← h1]; rfl
  rw [List.length_drop] at hd
  have hn : n + 1 < N := by omega
  have h3 : ts = all.drop (n + 1) := by
    have : (all.drop n).drop 1 = all.drop (n + 1) := by rw [List.drop_drop]
    rw [← this, ← h1]
    rfl
  refine ⟨n, N, c, b, o, hn, by omega, hg.cells.1, hg.cells.2.1, hg.free.2.1, fun m => ?_⟩
  have hg' : Rg (w.drewN m) g (.slice (some ⟨b, o, none⟩) N c) (n : Nat) d 0 0 := ⟨hg.row⟩
  have hw' : Wn (w.drewN m) g b o N c n all := hw.keep rfl
  exact Rf.of_ok (n := n + 1) h3 ⟨he, hd65⟩ (by have := hg'.set1 ((n : Int) + 1); simpa using this) ((hw'.to hn).keep (Below.heap_setCell _ _ _ _ (by have := hw.lt; show b ≠ g; omega)))
set_option maxRecDepth 100000 in
set_option maxHeartbeats 1000000 in
theorem fNext_any {g : Nat} {t : Tk} {ts : List Tk} {d : Nat} {w : World} (h : Rf w g (.inr (t :: ts)) d) (ht : t.1 ≠ 6) :
    Calls Tryz.prog 102 #[.pointer (some ⟨g, 0, none⟩)] w fun x w' => x = .returned (.tuple #[]) ∧ Rf w' g (.inr ts) d ∧ But g w w' := by
  have hgl := h.lt
  obtain ⟨n, N, c, b, o, hn, hN5, c0, c1, f1, hR⟩ := h.step ht
  have HR : Hid (∀ m, Rf ((w.drewN m).setCell ⟨g, 1, none⟩ (.int .i64 ((n : Int) + 1))) g (.inr ts) d ∧ But g w ((w.drewN m).setCell ⟨g, 1, none⟩ (.int .i64 ((n : Int) + 1)))) := hid fun m => ⟨hR m, ((But.refl g w).rdrew m).trans (But.set _ _ _ _)⟩
  have gn : decide ((n : Int) + 1 < (N : Int)) = true := by simp; omega
  clear h hR
  go_enter Tryz.func102, Tryz.ntmps102
  go_wp2
  go_quiet (fail)
  go_wp2
  refine bodyPost_end (results_none rfl _ _ _) rfl ⟨rfl, (HR.out _).1, (HR.out _).2⟩

set_option maxRecDepth 100000 in
set_option maxHeartbeats 1000000 in
theorem fTake_any {g : Nat} {S : Sa} {d : Nat} {w : World} (h : Rf w g S d) (s : ByteArray) :
    Calls Tryz.prog 70 #[.pointer (some ⟨g, 0, none⟩), .string s] w fun x w' => x = .returned (.bool (takeB s S)) ∧ Rf w' g (takeS s S) d ∧ But g w w' := by
  have hgl := h.lt
  match S, h with
  | .inl x, h =>
    obtain ⟨b, o, N, c, n, all, d', hx, -, -, hg, -⟩ := h.bad
    obtain ⟨c0, c1, c2, c3, c4⟩ := hg.cells
    have g1 : (x.2 != 0) = true := by simpa using hx
    have HR : Hid _ := hid h
    clear h hg
    go_enter Tryz.func70, Tryz.ntmps70
    go_wp2
    go_ret
    exact ⟨rfl, HR.out, But.refl _ _⟩
  | .inr us, h =>
    have H : Hid _ := hid (fIs_any h s)
    have HH : Hid _ := hid h
    obtain ⟨b, o, N, c, n, all, -, -, hg, -⟩ := h.ok
    obtain ⟨c0, c1, c2, c3, c4⟩ := hg.cells
    clear h hg
    cases hB : takeB s (.inr us) with
    | true =>
      obtain ⟨t, ts, hS, ht, hT⟩ := takeB_true hB
      rw [hT]
      go_enter Tryz.func70, Tryz.ntmps70
      go_wp2_with fail
      refine Calls.mono H.out ?_
      rintro e w1 ⟨B, rfl, hb1, hb⟩
      obtain rfl : B = true := (hb rfl).trans hB
      have hr1 := HH.out.later hb1
      rw [hS] at hr1
      have HK : Hid _ := hid (fNext_any hr1 ht)
      clear H HH hb hB hT hS hr1
      go_wp2_with fail
      refine Calls.mono HK.out ?_
      rintro e w2 ⟨rfl, hr2, hb2⟩
      have hbb := (But.of hb1).trans hb2
      clear HK hb1 hb2
      go_wp2
      go_ret
      exact ⟨rfl, hr2, hbb⟩
    | false =>
      rw [takeB_false hB]
      go_enter Tryz.func70, Tryz.ntmps70
      go_wp2_with fail
      refine Calls.mono H.out ?_
      rintro e w1 ⟨B, rfl, hb1, hb⟩
      obtain rfl : B = false := (hb rfl).trans hB
      clear H hb hB
      go_wp2
      go_ret
      exact ⟨rfl, HH.out.later hb1, But.of hb1⟩

set_option maxRecDepth 100000 in
set_option maxHeartbeats 1000000 in
theorem fMust_any {g : Nat} {S : Sa} {d : Nat} {w : World} (h : Rf w g S d) (s : ByteArray) :
    Calls Tryz.prog 103 #[.pointer (some ⟨g, 0, none⟩), .string s] w fun x w' => x = .returned (.tuple #[]) ∧ Rf w' g (wantS s S) d ∧ But g w w' := by
  have HT := fTake_any h s
  cases hB : takeB s S with
  | true =>
    rw [hB, ← wantS_true hB] at HT
    replace HT : Hid _ := hid HT
    clear hB h
    go_enter Tryz.func103, Tryz.ntmps103
    go_wp2_with fail
    refine Calls.mono HT.out ?_
    rintro e w1 ⟨rfl, hr1, hb1⟩
    clear HT
    go_wp2
    refine bodyPost_end (results_none rfl _ _ _) rfl ⟨rfl, hr1, hb1⟩
  | false =>
    rw [hB, takeB_false hB] at HT
    rw [wantS_false hB]
    replace HT : Hid _ := hid HT
    clear hB h
    go_enter Tryz.func103, Tryz.ntmps103
    go_wp2_with fail
    refine Calls.mono HT.out ?_
    rintro e w1 ⟨rfl, hr1, hb1⟩
    have HF : Hid _ := hid (fFail_any hr1 5 (by decide))
    clear HT hr1
    go_wp2_with fail
    refine Calls.mono HF.out ?_
    rintro e w2 ⟨rfl, hr2, hb2⟩
    have hb := hb1.trans hb2
    clear HF hb1 hb2
    go_wp2
    refine bodyPost_end (results_none rfl _ _ _) rfl ⟨rfl, hr2, hb⟩

theorem name_yes {S : Sa} (ok : okSe S = true) (h : (nxT S).1 = 1) : ∃ ts, S = .inr (nxT S :: ts) ∧ runP nameP S = .inr ((nxT S).2.1, ts) := by
  match S with
  | .inl x => cases ok
  | .inr [] => exact absurd h (by decide)
  | .inr (t :: ts) =>
    have h' : t.1 = 1 := h
    refine ⟨ts, rfl, ?_⟩
    show nameP (t :: ts) = _
    rw [nameP, kindP, if_pos h']
    rfl
theorem name_noE {w : World} {g d : Nat} {S : Sa} (hr : Rf w g S d) (h : okSe S = true → (nxT S).1 ≠ 1) : stO (runP nameP S) = failS 5 S ∧ ∀ u r, runP nameP S ≠ .inr (u, r) := by
  match S with
  | .inl x => exact ⟨rfl, fun u r e => by cases e⟩
  | .inr [] => obtain ⟨b, o, N, c, n, all, h1, h2, hg, hw⟩ := hr.ok; exact h2.1.elim
  | .inr (t :: ts) =>
    have h' : t.1 ≠ 1 := h rfl
    have e : nameP (t :: ts) = .inl (t.2.2.2, 5) := by rw [nameP, kindP, if_neg h']; rfl
    exact ⟨by show stO (nameP (t :: ts)) = _; rw [e]; rfl, fun u r k => by have k' : nameP (t :: ts) = .inr (u, r) := k; rw [e] at k'; cases k'⟩

set_option maxRecDepth 100000 in
set_option maxHeartbeats 1000000 in
theorem fName_any {g : Nat} {S : Sa} {d : Nat} {w : World} (h : Rf w g S d) :
    Calls Tryz.prog 75 #[.pointer (some ⟨g, 0, none⟩)] w fun e w' => ∃ s : ByteArray, e = .returned (.string s) ∧ But g w w' ∧ Rf w' g (stO (runP nameP S)) d ∧ ∀ u r, runP nameP S = .inr (u, r) → s = u := by
  have hgl := h.lt
  have H : Hid _ := hid (fNow_any h)
  have HG : Hid _ := hid h
  obtain ⟨b, o, N, c, n, all, d', a, er, hg, -, hok, hbad, -, -⟩ := h.any
  unfold TfNow tkA at H
  clear h
  go_enter Tryz.func75, Tryz.ntmps75
  go_wp2_with fail
  refine Calls.mono H.out ?_
  rintro e w1 ⟨⟨t0, t1, t2, t3⟩, rfl, hb1, ht⟩
  have hb2 := hb1.alloc hb1.size (.cells #[.int .i64 t0, .string t1, .int .i64 t2, .int .i64 t3] 91)
  have hr1 := HG.out.later hb2
  have hg1 := hg.same (hb2.block g hgl)
  obtain ⟨c0, c1, c2, c3, c4⟩ := hg1.cells
  have k0 := Ct.new w1 (t0, t1, t2, t3) 91
  have hsz : w.heap.size ≤ w1.heap.size := hb1.size
  have hB : But g w (w1.alloc (.cells #[.int .i64 t0, .string t1, .int .i64 t2, .int .i64 t3] 91)) := But.of hb2
  by_cases hn : okSe S = true ∧ t0 = 1
  · obtain ⟨ok, rfl⟩ := hn
    obtain ⟨-, -, -, rfl⟩ := hok ok
    have e1 := ht ok
    obtain ⟨ts, hS, hR⟩ := name_yes ok (by rw [← e1])
    rw [← e1] at hS hR
    subst hS
    have E1 : Hid _ := hid hR
    have HK : Hid _ := hid (fNext_any hr1 (by show (1 : Int) ≠ 6; decide))
    clear H HG hg hg1 hok hbad ht hb1 hb2 hr1 hR ok e1
    go_wp2_with fail
    refine Calls.mono HK.out ?_
    rintro e w2 ⟨rfl, hr2, hb3⟩
    have q1 := hb3.cell k0.2.1 (by simp; omega)
    have hB2 := hB.trans hb3
    clear HK hb3
    go_wp2
    go_ret
    exact ⟨t1, rfl, hB2, by rw [E1.out]; exact hr2, fun u r e => by rw [E1.out] at e; cases e; rfl⟩
  · have hno : okSe S = true → (nxT S).1 ≠ 1 := fun ok => by rw [← ht ok]; exact fun k => hn ⟨ok, k⟩
    obtain ⟨e1, e2⟩ := name_noE hr1 hno
    have E1 : Hid _ := hid e1
    have E2 : Hid _ := hid e2
    have HK : Hid _ := hid (fFail_any hr1 5 (by decide))
    by_cases he : er = 0
    · subst he
      have g1 : (t0 != 1) = true := by
        cases hS : okSe S with
        | true => simp; exact fun k => hn ⟨hS, k⟩
        | false => exact absurd rfl (hbad hS)
      clear H HG hg hg1 hok hbad ht hb1 hb2 hr1 hno e1 e2 hn
      go_wp2_with fail
      refine Calls.mono HK.out ?_
      rintro e w2 ⟨rfl, hr2, hb3⟩
      have hB2 := hB.trans hb3
      clear HK hb3
      go_wp2
      go_ret
      exact ⟨_, rfl, hB2, by rw [E1.out]; exact hr2, fun u r e => absurd e (E2.out u r)⟩
    · have g1 : (er != 0) = true := by simpa using he
      clear H HG hg hg1 hok hbad ht hb1 hb2 hr1 hno e1 e2 hn
      go_wp2_with fail
      refine Calls.mono HK.out ?_
      rintro e w2 ⟨rfl, hr2, hb3⟩
      have hB2 := hB.trans hb3
      clear HK hb3
      go_wp2
      go_ret
      exact ⟨_, rfl, hB2, by rw [E1.out]; exact hr2, fun u r e => absurd e (E2.out u r)⟩

end Go.Proofs.YtnboooaockgoiaaGreatDoor
