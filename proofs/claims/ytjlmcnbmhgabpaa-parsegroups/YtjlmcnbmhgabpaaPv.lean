/- What lex tells is what the reader wants; the walk of Parse. -/
import Derived.Test.YtjlmcnbmhgabpaaPu1
namespace Go.Proofs.Ytjlmcnbmhgabpaa
open Go.RowKit
set_option linter.unusedVariables false

theorem Lx.ended {s : ByteArray} {k : Nat} {l : List Tk} {a e : Int} (h : Lx s k l a e) : e = 0 → k ≤ s.size → Ended l ∧ l.length + k ≤ s.size + 1 :=
  Lx.all (fun k l a e => e = 0 → k ≤ s.size → Ended l ∧ l.length + k ≤ s.size + 1)
    (fun k h1 h2 => absurd h2 h1)
    (fun k h1 h2 _ hk => ⟨.inl h2, by simp; omega⟩)
    (fun k l h1 h2 _ ih _ hk => by
      rcases wordW_on hk h1 with ⟨h6, _⟩ | ⟨_, h3, h4⟩
      · exact absurd h6 h2
      · obtain ⟨i1, i2⟩ := ih rfl h4
        exact ⟨.inr i1, by simp; omega⟩)
    (fun k a e h1 h2 _ he _ h0 => absurd h0 he) h
theorem LexR.ended {s : ByteArray} {l : List Tk} {a e : Int} (h : LexR s l a e) (he : e = 0) : Ended l ∧ l.length ≤ 500 ∧ a = 0 := by
  rcases h with ⟨_, _, _, rfl⟩ | ⟨h4, hx⟩
  · cases he
  · obtain ⟨h1, h2⟩ := hx.ended he (Nat.zero_le _)
    exact ⟨h1, by omega, hx.zero he⟩
/-- The statement that words are. -/
def parseW (ts : List Tk) : Re Sf := thenR (stmtP ts) fun m r => if kdOf r = 6 then .inr (m, r) else .inl (atOf r, 5)
/-- What is told of a text: the statement, if it is one; the fault's place, the fault. -/
def PaR (s : ByteArray) (X : Option Sf) (a f : Int) : Prop :=
  ∃ ts b e, LexR s ts b e ∧ ((e ≠ 0 ∧ X = none ∧ a = b ∧ f = e) ∨ (e = 0 ∧ ((∃ x, parseW ts = .inl x ∧ X = none ∧ a = x.1 ∧ f = x.2 ∧ f ≠ 0) ∨ ∃ m r, parseW ts = .inr (m, r) ∧ X = some m ∧ a = 0 ∧ f = 0)))
theorem end_run (ts : List Tk) : stO (parseW ts) = endS (stO (stmtP ts)) ∧ ∀ m r, parseW ts = .inr (m, r) → stmtP ts = .inr (m, r) := by
  rw [parseW]
  cases stmtP ts with
  | inl x => exact ⟨rfl, fun m r e => by cases e⟩
  | inr x =>
    show stO (if kdOf x.2 = 6 then _ else _) = (if kdOf x.2 = 6 then _ else _) ∧ ∀ m r, (if kdOf x.2 = 6 then (.inr (x.1, x.2) : Re Sf) else .inl (atOf x.2, 5)) = .inr (m, r) → _
    split
    · exact ⟨rfl, fun m r e => e⟩
    · exact ⟨rfl, fun m r e => by cases e⟩
theorem Rp.start {w : World} {ts : List Tk} {ao : Option Addr} {n c : Nat} (h : RdT w ao n c ts) (he : Ended ts) (hf : ts.length ≤ 500) : Rp (w.alloc (.cells #[.slice ao n c, .int .i64 0, .int .i64 0, .int .i64 0] 49)) w.heap.size (.inr ts) 0 := by
  have hp : 0 < n := by have := he.pos; rw [h.len] at this; exact this
  obtain ⟨b, o, rfl, hc⟩ := h.cells hp
  have hb : b < w.heap.size := World.block_lt_of_cell? _ _ (hc 0 hp).1
  exact Rp.of_ok ⟨heap_alloc_new w _⟩ ⟨hb, he, hf, h.later (bal (Below.refl _ w) _)⟩
/-- What Parse tells. -/
def TeP (s : ByteArray) (w : World) (e : Ending) (w' : World) : Prop :=
  ∃ sv X a f, e = .returned (.tuple #[stV sv, .int .i64 a, .int .i64 f]) ∧ Below w.heap.size w w' ∧ PaR s X a f ∧ (X = none → sv = zS 0) ∧ ∀ m, X = some m → IsS (fun b => w.heap.size ≤ b) w' m.1 sv ∧ RowIs eStmt (fun b => w.heap.size ≤ b) w' (slV sv.inn) m.2
theorem but_below {g : Nat} {a w w' : World} (h : Below a.heap.size a w) (hb : But g w w') (hg : a.heap.size ≤ g) : Below a.heap.size a w' := hb.below h hg h.size
theorem set13_below {a w : World} (h : Below a.heap.size a w) (s : Sv) : Below a.heap.size a (set13 w a.heap.size s) := by
  have B := (But.of (g := a.heap.size) h).set13 (Nat.le_refl _) s
  exact ⟨B.os, B.tape, B.output, B.size, fun k hk => B.block k hk (by omega)⟩
theorem rp_setSt {w : World} {g b : Nat} {S : Sa} (h : Rp w g S 0) (z : Bs w b (zS 0)) (hb : b ≠ g) (s : Sv) : Rp (set13 w b s) g S 0 := by
  rcases h.on with ⟨y, sl, e, h1, h2⟩ | ⟨ts, b', o, n, c, e, h1, h2⟩
  · subst e; exact Rp.of_bad h1 (h2.same (set13_heap _ _ _ (Ne.symm hb)))
  · subst e
    have hne : b' ≠ b := by
      rintro rfl
      match ts, h2 with
      | [], h2 => exact h2.ended
      | t :: ts, h2 =>
        obtain ⟨q0, q1, q2, q3⟩ := h2.head
        have hz := z.row
        match o with
        | 0 =>
          have c2 := z.cells.2.2.1
          rw [show (0 : Nat) + 2 = 2 from rfl, c2] at q2
          simp at q2
        | 1 => have c := z.cells.2.1; rw [c] at q0; simp at q0
        | 2 => have c := z.cells.2.2.1; rw [c] at q0; simp at q0
        | 3 => have c := z.cells.2.2.2.1; rw [c] at q0; simp at q0
        | 4 => have c := z.cells.2.2.2.2.1; rw [c] at q0; simp at q0
        | 5 => have c := z.cells.2.2.2.2.2.1; rw [c] at q0; simp at q0
        | 6 => have c := z.cells.2.2.2.2.2.2.1; rw [c] at q0; simp at q0
        | 7 => have c := z.cells.2.2.2.2.2.2.2.1; rw [c] at q0; simp at q0
        | 8 => have c := z.cells.2.2.2.2.2.2.2.2.1; rw [c] at q0; simp at q0
        | 9 => have c := z.cells.2.2.2.2.2.2.2.2.2.1; rw [c] at q0; simp at q0
        | 10 => have c := z.cells.2.2.2.2.2.2.2.2.2.2.1; rw [c] at q0; simp at q0
        | 11 => have c := z.cells.2.2.2.2.2.2.2.2.2.2.2.1; rw [c] at q0; simp at q0
        | 12 => have c := z.cells.2.2.2.2.2.2.2.2.2.2.2.2; rw [c] at q0; simp at q0
        | o + 13 => unfold World.cell? at q0; rw [hz] at q0; simp at q0
    exact Rp.of_ok (h1.same (set13_heap _ _ _ (Ne.symm hb))) (h2.keep (set13_heap _ _ _ hne))
theorem bs_set13 {w : World} {b : Nat} {s : Sv} (h : Bs w b s) (s' : Sv) : Bs (set13 w b s') b s' := ⟨by simp [set13, World.setCell, Array.getElem?_modify, h.row]⟩

set_option maxRecDepth 100000 in
set_option maxHeartbeats 4000000 in
theorem parseStmt_any (s : ByteArray) (hs : s.size ≤ 9223372036854775807) (w : World) : Calls Try.prog 6 #[.string s] w (TeP s w) := by
  have HL : Hid _ := hid (lex_any s hs (w.alloc (.cells #[.int .i64 0, .string ⟨#[]⟩, .string ⟨#[]⟩, .slice none 0 0, .slice none 0 0, .slice none 0 0, .slice none 0 0, .string ⟨#[]⟩, .slice none 0 0, .slice none 0 0, .slice none 0 0, .bool false, .slice none 0 0] 30)))
  have b0 := Bs.new w (zS 0)
  go_enter Try.func6, Try.ntmps6
  go_wp2_with fail
  refine Calls.mono HL.out ?_
  rintro e w1 ⟨ao, n, c, ts, a1, e1, rfl, hrd, hlx, hb1⟩
  have z1 := b0.later hb1
  have hB1 : Below w.heap.size w w1 := ((Below.refl _ w).alloc (Nat.le_refl _) _).trans (hb1.mono (by simp))
  have hsz1 : w.heap.size < w1.heap.size := z1.lt
  clear HL b0 hb1
  by_cases he : e1 = 0
  · subst he
    obtain ⟨hen, hfw, rfl⟩ := hlx.ended rfl
    have hr2 := Rp.start hrd hen hfw
    have HX : Hid _ := hid hlx
    have z2 := z1.later (bal (Below.refl _ _) (.cells #[.slice ao n c, .int .i64 0, .int .i64 0, .int .i64 0] 49))
    have hB2 := hB1.alloc hB1.size (.cells #[.slice ao n c, .int .i64 0, .int .i64 0, .int .i64 0] 49)
    have HS : Hid _ := hid (pStmt_any hr2)
    clear hlx hrd hen hfw z1 hr2
    go_wp2_with fail
    refine Calls.mono HS.out ?_
    rintro e w3 ⟨s3, rfl, hb3, hr3, hx3⟩
    have z3 := z2.but hb3 (by omega)
    have hB3 := but_below hB2 hb3 (by omega)
    have hr4 := rp_setSt hr3 z3 (by omega) s3
    have z4 := bs_set13 z3 s3
    have hB4 := set13_below hB3 s3
    have HE : Hid _ := hid (pEnd_any hr4)
    obtain ⟨en1, en2⟩ := end_run ts
    have hst : stO (runP stmtP (.inr ts)) = stO (stmtP ts) := rfl
    rw [hst, ← en1] at HE
    have HX4 : Hid (∀ m r, parseW ts = .inr (m, r) → IsS (fun b => w1.heap.size + 1 ≤ b) (set13 w3 w.heap.size s3) m.1 s3 ∧ RowIs eStmt (fun b => w1.heap.size + 1 ≤ b) (set13 w3 w.heap.size s3) (slV s3.inn) m.2) := hid fun m r e => by
      obtain ⟨h1, h2⟩ := hx3 m r (en2 m r e)
      simp only [World.size_alloc] at h1 h2
      exact ⟨(h1.keep fun b hq hlt => set13_heap _ _ _ (by omega)).mono fun b hb _ => by omega, (h2.keep (by decide) fun b hq hlt => set13_heap _ _ _ (by omega)).mono (by decide) fun b hb _ => by omega⟩
    obtain ⟨m0, m1, m2, m3, m4, m5, m6, m7, m8, m9, m10, m11, m12⟩ := z3.cells
    obtain ⟨n0, n1, n2, n3, n4, n5, n6, n7, n8, n9, n10, n11, n12⟩ := z3.free
    clear HS hb3 hr3 hx3 hB2 hB3 hr4 en1 en2 hst z2 z3
    unfold stV
    go_upto_region 6 with fail
    have HEnd : Hid (∀ W, set13 w3 w.heap.size s3 = W → Calls Try.prog 11 #[.pointer (some ⟨w1.heap.size, 0, none⟩)] W fun e w' => e = .returned (.tuple #[]) ∧ But w1.heap.size W w' ∧ Rp w' w1.heap.size (stO (parseW ts)) 0) := hid fun W hW => hW ▸ HE.out
    replace z4 : Hid (∀ W, set13 w3 w.heap.size s3 = W → Bs W w.heap.size s3) := hid fun W hW => hW ▸ z4
    replace hB4 : Hid (∀ W, set13 w3 w.heap.size s3 = W → Below w.heap.size w W) := hid fun W hW => hW ▸ hB4
    replace HX4 : Hid (∀ W, set13 w3 w.heap.size s3 = W → ∀ m r, parseW ts = .inr (m, r) → IsS (fun b => w1.heap.size + 1 ≤ b) W m.1 s3 ∧ RowIs eStmt (fun b => w1.heap.size + 1 ≤ b) W (slV s3.inn) m.2) := hid fun W hW => hW ▸ HX4.out
    unfold set13 at HEnd z4 hB4 HX4
    clear HE m0 m1 m2 m3 m4 m5 m6 m7 m8 m9 m10 m11 m12 n0 n1 n2 n3 n4 n5 n6 n7 n8 n9 n10 n11 n12
    generalize hW : (World.setCell _ _ (.slice s3.inn.1 s3.inn.2.1 s3.inn.2.2)) = W
    have H6 : Hid _ := hid (HEnd.out W hW)
    have z5 := z4.out W hW
    have hB5 := hB4.out W hW
    have HX5 : Hid _ := hid (HX4.out W hW)
    clear HEnd z4 hB4 HX4 hW
    go_wp2_with fail
    refine Calls.mono H6.out ?_
    rintro e w6 ⟨rfl, hb6, hr6⟩
    have z6 := z5.but hb6 (by omega)
    have hB6 := but_below hB5 hb6 (by omega)
    have hg6 := hr6.lt
    obtain ⟨m0, m1, m2, m3, m4, m5, m6, m7, m8, m9, m10, m11, m12⟩ := z6.cells
    obtain ⟨n0, n1, n2, n3, n4, n5, n6, n7, n8, n9, n10, n11, n12⟩ := z6.free
    clear H6 z5
    cases hP : parseW ts with
    | inl x =>
      rw [hP] at hr6
      obtain ⟨sl, hx2, hq⟩ := Rp.bad (x := x) hr6
      obtain ⟨c0, c1, c2, c3⟩ := hq.cells
      have g3 : (x.2 != 0) = true := by simpa using hx2
      have HF : Hid _ := hid hP
      clear HX5 hP hr6 hq hb6 hB5
      have HF2 : Hid (PaR s none x.1 x.2) := hid ⟨ts, 0, 0, HX.out, .inr ⟨rfl, .inl ⟨x, HF.out, rfl, rfl, rfl, hx2⟩⟩⟩
      have hB8 : Hid (Below w.heap.size w (set13 w6 w.heap.size (zS 0)).drew) := hid (set13_below hB6 (zS 0)).drew
      clear HX HF hx2 hB6 z6
      go_upto_region 8 with fail
      go_region
      all_goals
        go_wp2
        refine bodyPost_ret (v := .tuple #[stV (zS 0), .int .i64 x.1, .int .i64 x.2]) (by simp [results, Try.results6, go_sem, stV, m0, m1, m2, m3, m4, m5, m6, m7, m8, m9, m10, m11, m12]) rfl ?_
        exact ⟨zS 0, none, x.1, x.2, rfl, hB8.out, HF2.out, fun _ => rfl, fun m e => by cases e⟩
    | inr x =>
      rw [hP] at hr6
      obtain ⟨b, o, nn, cc, hq, hw⟩ := Rp.ok (ts := x.2) hr6
      obtain ⟨c0, c1, c2, c3⟩ := hq.cells
      have T : Hid (IsS (fun b => w.heap.size ≤ b) (set13 w6 w.heap.size s3) x.1.1 s3 ∧ RowIs eStmt (fun b => w.heap.size ≤ b) (set13 w6 w.heap.size s3) (slV s3.inn) x.1.2) := hid (by
        obtain ⟨h1, h2⟩ := HX5.out x.1 x.2 hP
        exact ⟨((h1.keep fun b hq hlt => hb6.block b hlt (by omega)).keep fun b hq hlt => set13_heap _ _ _ (by omega)).mono fun b hb _ => by omega, ((h2.keep (by decide) fun b hq hlt => hb6.block b hlt (by omega)).keep (by decide) fun b hq hlt => set13_heap _ _ _ (by omega)).mono (by decide) fun b hb _ => by omega⟩)
      have HF : Hid (PaR s (some x.1) 0 0) := hid ⟨ts, 0, 0, HX.out, .inr ⟨rfl, .inr ⟨x.1, x.2, hP, rfl, rfl, rfl⟩⟩⟩
      have hB7 : Hid _ := hid (set13_below hB6 s3)
      clear HX5 hP hr6 hq hw hb6 hB5 HX hB6 z6
      go_wp2
      refine bodyPost_ret (v := .tuple #[stV s3, .int .i64 0, .int .i64 0]) (by simp [results, Try.results6, go_sem, stV, m0, m1, m2, m3, m4, m5, m6, m7, m8, m9, m10, m11, m12]) rfl ?_
      exact ⟨s3, some x.1, 0, 0, rfl, hB7.out, HF.out, fun e => (by cases e), fun m e => by cases e; exact T.out⟩
  · have g1 : (e1 != 0) = true := by simpa using he
    have HF : Hid (PaR s none a1 e1) := hid ⟨ts, a1, e1, hlx, .inl ⟨he, rfl, rfl, rfl⟩⟩
    obtain ⟨m0, m1, m2, m3, m4, m5, m6, m7, m8, m9, m10, m11, m12⟩ := z1.cells
    obtain ⟨n0, n1, n2, n3, n4, n5, n6, n7, n8, n9, n10, n11, n12⟩ := z1.free
    have hB7 : Hid _ := hid (set13_below hB1 (zS 0))
    clear hlx hrd he hB1 z1
    go_wp2
    refine bodyPost_ret (v := .tuple #[stV (zS 0), .int .i64 a1, .int .i64 e1]) (by simp [results, Try.results6, go_sem, stV, m0, m1, m2, m3, m4, m5, m6, m7, m8, m9, m10, m11, m12]) rfl ?_
    exact ⟨zS 0, none, a1, e1, rfl, hB7.out, HF.out, fun _ => rfl, fun m e => by cases e⟩

end Go.Proofs.Ytjlmcnbmhgabpaa
