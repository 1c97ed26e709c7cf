import Derived.Test.YtnboooaockgoiabMag
/- What is told of given texts, reckoned; the walk of begun. -/
namespace Go.Proofs.Ytnboooaockgoiab
open Go.RowKit
set_option linter.unusedVariables false

/-- What is told of a text, reckoned: the statement; the fault's place, the fault. -/
def vd (n : Nat) (s : ByteArray) : Option Sf × Int × Int :=
  if (lxF n s 0).2.2 = 0 then
    match parseW (lxF n s 0).1 with
    | .inl x => (none, x)
    | .inr m => (some m.1, 0, 0)
  else (none, (lxF n s 0).2)
theorem vd_ok {n : Nat} {s : ByteArray} {X : Option Sf} {a f : Int} (hs : s.size ≤ 400) (h9 : (lxF n s 0).2.2 ≠ 99) (h : PaR s X a f) : vd n s = (X, a, f) := by
  have hl : LexR s (lxF n s 0).1 (lxF n s 0).2.1 (lxF n s 0).2.2 := lexR_of n hs rfl h9
  obtain ⟨ts, b, e, h1, h2⟩ := h
  obtain ⟨r1, r2, r3⟩ := hl.det h1
  unfold vd
  rcases h2 with ⟨he, rfl, rfl, rfl⟩ | ⟨he, h2⟩
  · rw [if_neg (by rw [r3]; exact he), ← r2, ← r3]
  · rw [if_pos (by rw [r3]; exact he), r1]
    rcases h2 with ⟨x, hx, rfl, rfl, rfl, _⟩ | ⟨m, r, hx, rfl, rfl, rfl⟩
    · rw [hx]
    · rw [hx]
def chkB : Bool :=
  decide ((lxF 20 ⟨#[115, 101, 108, 101, 99, 116, 32, 42, 32, 102, 114, 111, 109, 32, 116, 32, 119, 104, 101, 114, 101, 32, 97, 32, 61, 32, 49]⟩ 0).2.2 ≠ 99) && decide ((lxF 20 ⟨#[99, 111, 109, 109, 105, 116, 32, 120]⟩ 0).2.2 ≠ 99) &&
  (match vd 20 ⟨#[115, 101, 108, 101, 99, 116, 32, 42, 32, 102, 114, 111, 109, 32, 116, 32, 119, 104, 101, 114, 101, 32, 97, 32, 61, 32, 49]⟩ with
    | (some m, a, f) => decide (f = 0) && decide (m.1.kind = 6) && decide (m.1.table = ⟨#[116]⟩) && decide (m.1.wh.length = 1)
    | _ => false) &&
  (match vd 20 ⟨#[99, 111, 109, 109, 105, 116, 32, 120]⟩ with
    | (_, a, f) => decide (a = 7) && decide (f = 5))
theorem chkB_ok : chkB = true := by decide +kernel
theorem begun1 {X : Option Sf} {a f : Int} (h : PaR ⟨#[115, 101, 108, 101, 99, 116, 32, 42, 32, 102, 114, 111, 109, 32, 116, 32, 119, 104, 101, 114, 101, 32, 97, 32, 61, 32, 49]⟩ X a f) : ∃ m, X = some m ∧ f = 0 ∧ m.1.kind = 6 ∧ m.1.table = ⟨#[116]⟩ ∧ m.1.wh.length = 1 := by
  have hc := chkB_ok
  unfold chkB at hc
  simp only [Bool.and_eq_true, decide_eq_true_eq] at hc
  have := vd_ok (by decide) hc.1.1.1 h
  have h2 := hc.1.2
  rw [this] at h2
  cases X with
  | none => simp at h2
  | some m =>
    simp only [Bool.and_eq_true, decide_eq_true_eq] at h2
    exact ⟨m, rfl, h2.1.1.1, h2.1.1.2, h2.1.2, h2.2⟩
theorem begun2 {X : Option Sf} {a f : Int} (h : PaR ⟨#[99, 111, 109, 109, 105, 116, 32, 120]⟩ X a f) : a = 7 ∧ f = 5 := by
  have hc := chkB_ok
  unfold chkB at hc
  simp only [Bool.and_eq_true, decide_eq_true_eq] at hc
  have := vd_ok (by decide) hc.1.1.2 h
  have h2 := hc.2
  rw [this] at h2
  exact h2
theorem RowIs.num {α : Type} {e : Ek α} {Q : Nat → Prop} {w : World} {s : Sl} {l : List α} (h : RowIs e Q w (slV s) l) : s.2.1 = l.length ∧ s.2.1 ≤ s.2.2 ∧ s.2.2 ≤ 9223372036854775807 := by
  obtain ⟨ao, n, c, hv, hl, hn, hc, _⟩ := h
  simp only [Value.slice.injEq] at hv
  obtain ⟨_, h2, h3⟩ := hv
  omega

end Go.Proofs.Ytnboooaockgoiab
/- The walks of the document's SameExpr and SameExprs: of the same expressions they answer true. -/
namespace Go.Proofs.Ytnboooaockgoiab
open Go.RowKit
set_option linter.unusedVariables false

theorem RowIs.at {Q : Nat → Prop} {w : World} {a : Option Addr} {n c : Nat} {l : List Tr} (h : RowIs eExpr Q w (.slice a n c) l) {k : Nat} (hk : k < l.length) : ∃ b o op p a' n' c', a = some ⟨b, o, none⟩ ∧ Ce w b (o + k * 7) op p (.slice a' n' c') ∧ Ex Q w l[k] (exV op p (.slice a' n' c')) := by
  obtain ⟨ao, n0, c0, hv, hl, _, _, hx⟩ := h
  cases hv
  obtain ⟨b, o, ha, _, hi⟩ := hx (by omega)
  obtain ⟨cs, ⟨op, p, a', n', c', rfl, hE⟩, _, hc⟩ := hi k hk
  refine ⟨b, o, op, p, a', n', c', ha, ?_, hE⟩
  exact ⟨hc 0 (show 0 < 7 by decide), hc 1 (show 1 < 7 by decide), hc 2 (show 2 < 7 by decide), hc 3 (show 3 < 7 by decide), hc 4 (show 4 < 7 by decide), hc 5 (show 5 < 7 by decide), hc 6 (show 6 < 7 by decide)⟩

def kids (l r : Tr) : List Tr := if noT l then [] else if noT r then [l] else [l, r]
theorem Ex.kids {Q : Nat → Prop} {w : World} {x op : Nat} {p : Pay} {l r : Tr} {v : Value} (h : Ex Q w (.node x op p l r) v) : ∃ ao n c, v = exV op p (.slice ao n c) ∧ n = (kids l r).length ∧ n ≤ c ∧ c ≤ 9223372036854775807 ∧ RowIs eExpr Q w (.slice ao n c) (Go.Proofs.Ytnboooaockgoiab.kids l r) := by
  obtain ⟨ao, n, c, hv, hn, hc, h⟩ := h
  rcases h with ⟨h1, h2, rfl⟩ | ⟨h1, h2, rfl, b, o, op1, p1, a1, n1, c1, rfl, hq, hx, hl⟩ | ⟨h1, h2, rfl, b, o, op1, p1, a1, n1, c1, op2, p2, a2, n2, c2, rfl, hq, hx, hy, hl, hr⟩
  · have e : Go.Proofs.Ytnboooaockgoiab.kids l r = [] := by rw [Go.Proofs.Ytnboooaockgoiab.kids, if_pos h1]
    rw [e]
    exact ⟨ao, 0, c, hv, rfl, hn, hc, ao, 0, c, rfl, rfl, hn, by omega, fun h => absurd h (by decide)⟩
  · have e : Go.Proofs.Ytnboooaockgoiab.kids l r = [l] := by rw [Go.Proofs.Ytnboooaockgoiab.kids, if_neg (by rw [h1]; simp), if_pos h2]
    rw [e]
    refine ⟨_, 1, c, hv, rfl, hn, hc, _, 1, c, rfl, rfl, hn, by omega, fun _ => ⟨b, o, rfl, hq, fun i hi => ?_⟩⟩
    obtain rfl : i = 0 := by simp at hi; omega
    obtain ⟨q0, q1, q2, q3, q4, q5, q6⟩ := hx
    refine ⟨exC op1 p1 (.slice a1 n1 c1), ⟨op1, p1, a1, n1, c1, rfl, hl⟩, rfl, fun j hj => ?_⟩
    have hj' : j < 7 := hj
    match j, hj' with
    | 0, _ => exact q0
    | 1, _ => exact q1
    | 2, _ => exact q2
    | 3, _ => exact q3
    | 4, _ => exact q4
    | 5, _ => exact q5
    | 6, _ => exact q6
  · have e : Go.Proofs.Ytnboooaockgoiab.kids l r = [l, r] := by rw [Go.Proofs.Ytnboooaockgoiab.kids, if_neg (by rw [h1]; simp), if_neg (by rw [h2]; simp)]
    rw [e]
    refine ⟨_, 2, c, hv, rfl, hn, hc, _, 2, c, rfl, rfl, hn, by omega, fun _ => ⟨b, o, rfl, hq, fun i hi => ?_⟩⟩
    have hi' : i < 2 := hi
    match i, hi' with
    | 0, _ =>
      obtain ⟨q0, q1, q2, q3, q4, q5, q6⟩ := hx
      refine ⟨exC op1 p1 (.slice a1 n1 c1), ⟨op1, p1, a1, n1, c1, rfl, hl⟩, rfl, fun j hj => ?_⟩
      have hj' : j < 7 := hj
      match j, hj' with
      | 0, _ => exact q0
      | 1, _ => exact q1
      | 2, _ => exact q2
      | 3, _ => exact q3
      | 4, _ => exact q4
      | 5, _ => exact q5
      | 6, _ => exact q6
    | 1, _ =>
      obtain ⟨q0, q1, q2, q3, q4, q5, q6⟩ := hy
      refine ⟨exC op2 p2 (.slice a2 n2 c2), ⟨op2, p2, a2, n2, c2, rfl, hr⟩, rfl, fun j hj => ?_⟩
      have hj' : j < 7 := hj
      match j, hj' with
      | 0, _ => exact q0
      | 1, _ => exact q1
      | 2, _ => exact q2
      | 3, _ => exact q3
      | 4, _ => exact q4
      | 5, _ => exact q5
      | 6, _ => exact q6

end Go.Proofs.Ytnboooaockgoiab
/- What a node has. -/
namespace Go.Proofs.Ytnboooaockgoiab
open Go.RowKit
set_option linter.unusedVariables false
set_option linter.unusedSimpArgs false

theorem Ex.val {Q : Nat → Prop} {w : World} {x op : Nat} {p : Pay} {l r : Tr} {v : Value} (h : Ex Q w (.node x op p l r) v) : noT l = true → noT r = true := by
  obtain ⟨ao, n, c, hv, hn, hc, h⟩ := h
  rcases h with ⟨h1, h2, _⟩ | ⟨h1, h2, _⟩ | ⟨h1, h2, _⟩
  · exact fun _ => h2
  · intro h; rw [h1] at h; cases h
  · intro h; rw [h1] at h; cases h
theorem Ex.ofKids {Q : Nat → Prop} {w : World} {l r : Tr} {ao : Option Addr} {n c : Nat} (h : RowIs eExpr Q w (.slice ao n c) (Go.Proofs.Ytnboooaockgoiab.kids l r)) (hv : noT l = true → noT r = true) (x op : Nat) (p : Pay) : Ex Q w (.node x op p l r) (exV op p (.slice ao n c)) := by
  obtain ⟨ao', n', c', e', hl, hnc, hc, hx⟩ := h
  cases e'
  refine ⟨ao, n, c, rfl, hnc, hc, ?_⟩
  cases h1 : noT l with
  | true =>
    have h2 := hv h1
    rw [Go.Proofs.Ytnboooaockgoiab.kids, if_pos h1] at hl
    exact .inl ⟨rfl, h2, hl.symm⟩
  | false =>
    cases h2 : noT r with
    | true =>
      have e : Go.Proofs.Ytnboooaockgoiab.kids l r = [l] := by rw [Go.Proofs.Ytnboooaockgoiab.kids, if_neg (by rw [h1]; simp), if_pos h2]
      rw [e] at hl hx
      subst hl
      obtain ⟨b, o, rfl, hq, hi⟩ := hx (by simp)
      obtain ⟨cs, ⟨op1, p1, a1, n1, c1, rfl, hX⟩, _, hc0⟩ := hi 0 (by simp)
      refine .inr (.inl ⟨rfl, rfl, rfl, b, o, op1, p1, a1, n1, c1, rfl, hq, ?_, hX⟩)
      have g := fun j hj => hc0 j hj
      simp only [Nat.zero_mul, Nat.add_zero] at g
      exact ⟨g 0 (show 0 < 7 by decide), g 1 (show 1 < 7 by decide), g 2 (show 2 < 7 by decide), g 3 (show 3 < 7 by decide), g 4 (show 4 < 7 by decide), g 5 (show 5 < 7 by decide), g 6 (show 6 < 7 by decide)⟩
    | false =>
      have e : Go.Proofs.Ytnboooaockgoiab.kids l r = [l, r] := by rw [Go.Proofs.Ytnboooaockgoiab.kids, if_neg (by rw [h1]; simp), if_neg (by rw [h2]; simp)]
      rw [e] at hl hx
      subst hl
      obtain ⟨b, o, rfl, hq, hi⟩ := hx (by simp)
      obtain ⟨cs, ⟨op1, p1, a1, n1, c1, rfl, hX⟩, _, hc0⟩ := hi 0 (by simp)
      obtain ⟨cs, ⟨op2, p2, a2, n2, c2, rfl, hX2⟩, _, hc2⟩ := hi 1 (by simp)
      refine .inr (.inr ⟨rfl, rfl, rfl, b, o, op1, p1, a1, n1, c1, op2, p2, a2, n2, c2, rfl, hq, ?_, ?_, hX, hX2⟩)
      · have g := fun j hj => hc0 j hj
        simp only [Nat.zero_mul, Nat.add_zero] at g
        exact ⟨g 0 (show 0 < 7 by decide), g 1 (show 1 < 7 by decide), g 2 (show 2 < 7 by decide), g 3 (show 3 < 7 by decide), g 4 (show 4 < 7 by decide), g 5 (show 5 < 7 by decide), g 6 (show 6 < 7 by decide)⟩
      · have g := fun j hj => hc2 j hj
        simp only [Nat.one_mul] at g
        exact ⟨g 0 (show 0 < 7 by decide), g 1 (show 1 < 7 by decide), g 2 (show 2 < 7 by decide), g 3 (show 3 < 7 by decide), g 4 (show 4 < 7 by decide), g 5 (show 5 < 7 by decide), g 6 (show 6 < 7 by decide)⟩


end Go.Proofs.Ytnboooaockgoiab
/- Expressions copied. -/
namespace Go.Proofs.Ytnboooaockgoiab
open Go.RowKit
set_option linter.unusedVariables false
set_option linter.unusedSimpArgs false

theorem Try.infoZExpr : (Try.prog.info? 100).map (fun i => (i.zero, i.size, i.bytes)) = some (some (.agg #[.int .i64 0, .int .i64 0, .int .i64 0, .string ⟨#[]⟩, .string ⟨#[]⟩, .string ⟨#[]⟩, .slice none 0 0]), 7, 96) := by kernel_rfl
set_option maxRecDepth 100000 in
set_option maxHeartbeats 4000000 in
theorem copiesExpr_own {l : List Tr} (hcp : ∀ x ∈ l, Cp eExpr 56 x) (hlen : l.length ≤ 500) {Q : Nat → Prop} {w : World} {ao : Option Addr} {n c : Nat} (h : RowIs eExpr Q w (.slice ao n c) l) :
    Calls Try.prog 55 #[.slice ao n c, .func (.func 56) #[] #[]] w (TeO eExpr 100 w l) := by
  have HC : Hid (∀ x ∈ l, Cp eExpr 56 x) := hid hcp
  have HR : Hid (∀ w', Below w.heap.size w w' → RowIs eExpr Q w' (.slice ao n c) l) := hid fun w' hb => h.keep (by decide) fun b _ hl => hb.block b hl
  obtain ⟨ao', n', c', e', hn, hnc, hc, _⟩ := h
  cases e'
  subst hn
  clear hcp
  go_enter Try.func55, Try.ntmps55
  go_wp2
  go_loopw [5, 10] (fun v5 v10 wr => ∃ (k : Nat) (css : List (List Value)), k ≤ l.length ∧ v10 = .int .i64 k ∧ Below w.heap.size w wr ∧ OwnR 100 7 w.heap.size wr v5 css ∧ css.length = k ∧ Hid (∀ i (h1 : i < l.length) (h2 : i < css.length), (eExpr).E (fun b => w.heap.size ≤ b ∧ some b ≠ v5.ownBlock) wr l[i] css[i])) (fun _ i _ => l.length - (intOf i).toNat)
  case atStart => exact ⟨0, [], Nat.zero_le _, rfl, Below.refl _ _, OwnR.nil _ _ _ _, rfl, hid fun i h1 h2 => by simp at h2⟩
  case round =>
    obtain ⟨k, css, hk, rfl, hB, ho, hcl, HE⟩ := hrel
    by_cases hlt : k < l.length
    · have hcl' : css.length ≤ 500 := by omega
      obtain ⟨_, _, _, e', _, _, _, hx⟩ := HR.out wr hB
      cases e'
      obtain ⟨b, o, rfl, hq, hi⟩ := hx (by omega)
      obtain ⟨cs, hEx, h2, h3⟩ := hi k hlt
      obtain ⟨x, hxl, hxm⟩ : ∃ x, l[k] = x ∧ x ∈ l := ⟨_, rfl, List.getElem_mem hlt⟩
      rw [hxl] at hEx
      have hEx' := hEx
      obtain ⟨eo, ep, ea, en, ec, rfl, eX⟩ := hEx'
      have c0 : wr.cell? ⟨b, o + k * 7, none⟩ = some (.int .i64 eo) := h3 0 (show 0 < 7 by decide)
      have c1 : wr.cell? ⟨b, o + k * 7 + 1, none⟩ = some (.int .i64 ep.1) := h3 1 (show 1 < 7 by decide)
      have c2 : wr.cell? ⟨b, o + k * 7 + 2, none⟩ = some (.int .i64 ep.2.1) := h3 2 (show 2 < 7 by decide)
      have c3 : wr.cell? ⟨b, o + k * 7 + 3, none⟩ = some (.string ep.2.2.1) := h3 3 (show 3 < 7 by decide)
      have c4 : wr.cell? ⟨b, o + k * 7 + 4, none⟩ = some (.string ep.2.2.2.1) := h3 4 (show 4 < 7 by decide)
      have c5 : wr.cell? ⟨b, o + k * 7 + 5, none⟩ = some (.string ep.2.2.2.2) := h3 5 (show 5 < 7 by decide)
      have c6 : wr.cell? ⟨b, o + k * 7 + 6, none⟩ = some (.slice ea en ec) := h3 6 (show 6 < 7 by decide)
      have HX : Hid _ := hid (HC.out x hxm _ _ _ ((eExpr).keep (w' := wr.alloc (.cells #[.int .i64 eo, .int .i64 ep.1, .int .i64 ep.2.1, .string ep.2.2.1, .string ep.2.2.2.1, .string ep.2.2.2.2, .slice ea en ec] 100)) (fun b _ hl => (bal (Below.refl _ wr) _).block b hl) hEx))
      have HXl : Hid _ := hid hxl
      have hsz := hB.size
      have hblk := ho.blk
      have Hcl : Hid _ := hid hcl
      have hkm : (k : Int) < (l.length : Int) := by omega
      clear hEx h2 h3 hi hx hxm hxl hcl eX
      go_wp2_with fail
      refine Calls.mono HX.out ?_
      rintro e w4 ⟨cs', rfl, hE4, hb4⟩
      have hb4' : Below wr.heap.size wr w4 := Below.on (bal (Below.refl _ wr) _) hb4
      have hB4 : Below w.heap.size w w4 := Below.trans hB (hb4'.mono hsz)
      have hE4' := hE4
      obtain ⟨fo, fp, fa, fn, fc, rfl, fX⟩ := hE4'
      unfold exC
      clear fX
      have ho4 := ho.later hb4'
      have ho5 := ho4.alloc (.cells #[.int .i64 fo, .int .i64 fp.1, .int .i64 fp.2.1, .string fp.2.2.1, .string fp.2.2.2.1, .string fp.2.2.2.2, .slice fa fn fc] 100)
      have hB5 := bal hB4 (.cells #[.int .i64 fo, .int .i64 fp.1, .int .i64 fp.2.1, .string fp.2.2.1, .string fp.2.2.2.1, .string fp.2.2.2.2, .slice fa fn fc] 100)
      have hs4 := hb4'.size
      have HE4 : Hid (∀ i (h1 : i < l.length) (h2 : i < css.length), (eExpr).E (fun b => w.heap.size ≤ b ∧ some b ≠ u5.ownBlock) (w4.alloc (.cells #[.int .i64 fo, .int .i64 fp.1, .int .i64 fp.2.1, .string fp.2.2.1, .string fp.2.2.2.1, .string fp.2.2.2.2, .slice fa fn fc] 100)) l[i] css[i]) := hid fun i h1 h2 => (eExpr).keep (fun b _ hl => (bal (Below.refl _ w4) _).block b hl) ((eExpr).keep (fun b _ hl => hb4'.block b hl) (HE.out i h1 h2))
      have HEn : Hid ((eExpr).E (fun b => w.heap.size ≤ b ∧ some b ≠ u5.ownBlock) (w4.alloc (.cells #[.int .i64 fo, .int .i64 fp.1, .int .i64 fp.2.1, .string fp.2.2.1, .string fp.2.2.2.1, .string fp.2.2.2.2, .slice fa fn fc] 100)) x [.int .i64 fo, .int .i64 fp.1, .int .i64 fp.2.1, .string fp.2.2.1, .string fp.2.2.2.1, .string fp.2.2.2.2, .slice fa fn fc]) := hid ((eExpr).keep (fun b _ hl => (bal (Below.refl _ w4) _).block b hl) ((eExpr).mono (fun b hq _ => ⟨by have hq' : (wr.alloc (.cells #[.int .i64 eo, .int .i64 ep.1, .int .i64 ep.2.1, .string ep.2.2.1, .string ep.2.2.2.1, .string ep.2.2.2.2, .slice ea en ec] 100)).heap.size ≤ b := hq; rw [World.size_alloc] at hq'; omega, fun hbk => by have := (hblk b hbk.symm).2; have hq' : (wr.alloc (.cells #[.int .i64 eo, .int .i64 ep.1, .int .i64 ep.2.1, .string ep.2.2.1, .string ep.2.2.2.1, .string ep.2.2.2.2, .slice ea en ec] 100)).heap.size ≤ b := hq; rw [World.size_alloc] at hq'; omega⟩) hE4))
      clear hE4 HE ho ho4 hB4 HX hb4 hb4'
      go_wp2_with (first | (at_builtin; refine wpList_appR Try.underlying30 Try.infoZExpr rfl (by decide) (by decide) rfl (.tmp 14) (.tmp 18) rfl _ css w4.heap.size [.int .i64 fo, .int .i64 fp.1, .int .i64 fp.2.1, .string fp.2.2.1, .string fp.2.2.2.1, .string fp.2.2.2.2, .slice fa fn fc] rfl rfl ho5 rfl (by simp [Value.oneCell']) ?_ (by omega) hB5.size ?_) | fail)
      · intro j hj
        have hj' : j < 7 := hj
        match j, hj' with
        | 0, _ => exact cell_new w4 _ _ _ 0
        | 1, _ => exact cell_new w4 _ _ _ 1
        | 2, _ => exact cell_new w4 _ _ _ 2
        | 3, _ => exact cell_new w4 _ _ _ 3
        | 4, _ => exact cell_new w4 _ _ _ 4
        | 5, _ => exact cell_new w4 _ _ _ 5
        | 6, _ => exact cell_new w4 _ _ _ 6
      · intro v' w6 hO6 hg6 hown
        have hB6 := Below.grownR hB5 hB5.size hg6 fun k e => (hblk k e).1
        have HN : Hid (∀ i (h1 : i < l.length) (h2 : i < (css ++ [([.int .i64 fo, .int .i64 fp.1, .int .i64 fp.2.1, .string fp.2.2.1, .string fp.2.2.2.1, .string fp.2.2.2.2, .slice fa fn fc] : List Value)]).length), (eExpr).E (fun b => w.heap.size ≤ b ∧ some b ≠ v'.ownBlock) w6 l[i] (css ++ [([.int .i64 fo, .int .i64 fp.1, .int .i64 fp.2.1, .string fp.2.2.1, .string fp.2.2.2.1, .string fp.2.2.2.2, .slice fa fn fc] : List Value)])[i]) := hid fun i h1 h2 => by
          by_cases hi : i < css.length
          · rw [List.getElem_append_left hi]
            exact (eExpr).grow (HE4.out i h1 hi) hg6 (by simpa using hown)
          · rw [List.length_append, List.length_singleton] at h2
            obtain rfl : i = css.length := by omega
            rw [List.getElem_append_right (Nat.le_refl _)]
            have hx' : l[css.length] = x := by
              have := HXl.out
              have hk' := Hcl.out
              subst hk'
              exact this
            rw [hx']
            simpa using (eExpr).grow HEn.out hg6 (by simpa using hown)
        clear HE4 HEn hg6 hown ho5 hB5 hblk
        go_wp2
        go_roundw
        case rel => exact ⟨k + 1, css ++ [([.int .i64 fo, .int .i64 fp.1, .int .i64 fp.2.1, .string fp.2.2.1, .string fp.2.2.2.1, .string fp.2.2.2.2, .slice fa fn fc] : List Value)], hlt, by go_num, hB6, hO6, by rw [List.length_append, List.length_singleton, Hcl.out], HN⟩
        case measure => simp only [intOf]; omega
    · obtain rfl : k = l.length := by omega
      obtain ⟨a5, n5, d5, rfl⟩ := ho.sl
      go_wp2
      go_ret
      exact ⟨_, _, _, css, rfl, ho, hcl, HE.out, hB⟩
theorem copiesExpr_any {l : List Tr} (hcp : ∀ x ∈ l, Cp eExpr 56 x) (hlen : l.length ≤ 500) {Q : Nat → Prop} {w : World} {ao : Option Addr} {n c : Nat} (h : RowIs eExpr Q w (.slice ao n c) l) :
    Calls Try.prog 55 #[.slice ao n c, .func (.func 56) #[] #[]] w (TeR eExpr w l) := (copiesExpr_own hcp hlen h).mono fun _ _ h => h.row


end Go.Proofs.Ytnboooaockgoiab
/- Expressions copied. -/
namespace Go.Proofs.Ytnboooaockgoiab
open Go.RowKit
set_option linter.unusedVariables false
set_option linter.unusedSimpArgs false

set_option maxRecDepth 100000 in
set_option maxHeartbeats 2000000 in
theorem copyExpr_node {x op : Nat} {p : Pay} {l r : Tr} (hB : p.2.2.1.size ≤ 500 ∧ p.2.2.2.1.size ≤ 500 ∧ p.2.2.2.2.size ≤ 500) (hk : ∀ t ∈ kids l r, Cp eExpr 56 t) : Cp eExpr 56 (.node x op p l r) := by
  intro Q w cs h
  obtain ⟨eo, ep, ea, en, ec, rfl, hx⟩ := h
  have hval := hx.val
  obtain ⟨ao, n, c, hgv, hn, hnc, hc, hr⟩ := hx.kids
  have hk2 : (kids l r).length ≤ 500 := by unfold kids; split; (· simp); split <;> simp
  obtain ⟨pk, pi, ps, pt, pn⟩ := p
  obtain ⟨qk, qi, qs, qt, qn⟩ := ep
  simp [exV] at hgv
  obtain ⟨rfl, rfl, rfl, rfl, rfl, rfl, rfl, rfl, rfl⟩ := hgv
  unfold exC
  simp only at hB ⊢
  clear hn hnc hc
  go_enter Try.func56, Try.ntmps56
  go_upto_region 1 with fail
  generalize hU : (w.alloc (.cells #[.int .i64 (op : Int), .int .i64 qk, .int .i64 qi, .string qs, .string qt, .string qn, .slice ea en ec] 100)).alloc (.cells #[.int .i64 0, .int .i64 0, .int .i64 0, .string ⟨#[]⟩, .string ⟨#[]⟩, .string ⟨#[]⟩, .slice none 0 0] 100) = U
  have b0 : Bk U w.heap.size (.cells #[.int .i64 (op : Int), .int .i64 qk, .int .i64 qi, .string qs, .string qt, .string qn, .slice ea en ec] 100) := hU ▸ (Bk.new w _).later (bal (Below.refl _ _) _)
  have bx : Bk U (w.heap.size + 1) (.cells #[.int .i64 0, .int .i64 0, .int .i64 0, .string ⟨#[]⟩, .string ⟨#[]⟩, .string ⟨#[]⟩, .slice none 0 0] 100) := by
    have := Bk.new (w.alloc (.cells #[.int .i64 (op : Int), .int .i64 qk, .int .i64 qi, .string qs, .string qt, .string qn, .slice ea en ec] 100)) (.cells #[.int .i64 0, .int .i64 0, .int .i64 0, .string ⟨#[]⟩, .string ⟨#[]⟩, .string ⟨#[]⟩, .slice none 0 0] 100)
    rw [World.size_alloc] at this
    exact hU ▸ this
  have hw : Below w.heap.size w U := hU ▸ bal (bal (Below.refl _ _) _) _
  have hs : U.heap.size = w.heap.size + 2 := by rw [← hU]; simp
  have H1 : Hid (∀ w, _) := hid fun w => clone_any qs hB.1 w
  have H2 : Hid (∀ w, _) := hid fun w => clone_any qt hB.2.1 w
  have H3 : Hid (∀ w, _) := hid fun w => clone_any qn hB.2.2 w
  have H4 : Hid (∀ w1, Below U.heap.size U w1 → Calls Try.prog 55 #[.slice ea en ec, .func (.func 56) #[] #[]] w1 (TeR eExpr w1 (kids l r))) := hid fun w1 hb => copiesExpr_any hk hk2 (hr.keep (by decide) fun b _ hl => (Below.trans hw (hb.mono hw.size)).block b hl)
  have hY : Below U.heap.size U U.drew := (Below.refl _ _).drew
  have c0 := b0.cell 0
  have c1 := b0.cell 1
  have c2 := b0.cell 2
  have c3 := b0.cell 3
  have c4 := b0.cell 4
  have c5 := b0.cell 5
  have c6 := b0.cell 6
  simp only [List.getElem?_toArray, List.getElem?_cons_zero, List.getElem?_cons_succ] at c0 c1 c2 c3 c4 c5 c6
  replace bx := bx.later hY
  clear hB hk hk2 hx hr b0
  replace hs : Hid _ := hid hs
  clear hU
  generalize hz : w.heap.size + 1 = z at bx ⊢
  have hzw : w.heap.size < z := by omega
  replace hz : Hid _ := hid hz
  go_wp2
  refine wp_region_held_drew (S := fun w' => w'.cell? ⟨w.heap.size, 0, none⟩ = some (.int .i64 (op : Int)) ∧ w'.cell? ⟨w.heap.size, 1, none⟩ = some (.int .i64 qk) ∧ w'.cell? ⟨w.heap.size, 2, none⟩ = some (.int .i64 qi) ∧ w'.cell? ⟨w.heap.size, 3, none⟩ = some (.string qs) ∧ w'.cell? ⟨w.heap.size, 4, none⟩ = some (.string qt) ∧ w'.cell? ⟨w.heap.size, 5, none⟩ = some (.string qn) ∧ w'.cell? ⟨w.heap.size, 6, none⟩ = some (.slice ea en ec)) (by kernel_rfl) (⟨cell_later hY c0, cell_later hY c1, cell_later hY c2, cell_later hY c3, cell_later hY c4, cell_later hY c5, cell_later hY c6⟩) (fun hHeld => ?_)
  refine wpAnyH_take (i := 0) (v := ?tv22) rfl (by kernel_rfl) (by kernel_rfl) (by kernel_rfl) (fun _ _ _ h => h) (Or.inl ⟨by rfl, ?hy22⟩) (by assumption) ?rs22
  case hy22 => (intro w9 hSw; (try dsimp only at hSw); go_simp; (try with_reducible rfl))
  (try simp only [Act.put, List.getElem_toArray, List.getElem_cons_zero, List.getElem_cons_succ, List.setIfInBounds_toArray, List.set_cons_zero, List.set_cons_succ])
  refine wpAnyH_take (i := 1) (v := ?tv23) rfl (by kernel_rfl) (by kernel_rfl) (by kernel_rfl) (fun _ _ _ h => h) (Or.inl ⟨by rfl, ?hy23⟩) (by assumption) ?rs23
  case hy23 => (intro w9 hSw; (try dsimp only at hSw); go_simp; (try with_reducible rfl))
  (try simp only [Act.put, List.getElem_toArray, List.getElem_cons_zero, List.getElem_cons_succ, List.setIfInBounds_toArray, List.set_cons_zero, List.set_cons_succ])
  refine wpAnyH_take (i := 2) (v := ?tv24) rfl (by kernel_rfl) (by kernel_rfl) (by kernel_rfl) (fun _ _ _ h => h) (Or.inl ⟨by rfl, ?hy24⟩) (by assumption) ?rs24
  case hy24 => (intro w9 hSw; (try dsimp only at hSw); go_simp; (try with_reducible rfl))
  (try simp only [Act.put, List.getElem_toArray, List.getElem_cons_zero, List.getElem_cons_succ, List.setIfInBounds_toArray, List.set_cons_zero, List.set_cons_succ])
  refine wpAnyH_take (i := 3) (v := ?tv25) rfl (by kernel_rfl) (by kernel_rfl) (by kernel_rfl) (fun _ _ _ h => h) (Or.inl ⟨by rfl, ?hy25⟩) (by assumption) ?rs25
  case hy25 => (intro w9 hSw; (try dsimp only at hSw); go_simp; (try with_reducible rfl))
  (try simp only [Act.put, List.getElem_toArray, List.getElem_cons_zero, List.getElem_cons_succ, List.setIfInBounds_toArray, List.set_cons_zero, List.set_cons_succ])
  refine wpAnyH_take (i := 4) (v := ?tv26) rfl (by kernel_rfl) (by kernel_rfl) (by kernel_rfl) (fun _ _ _ h => h) (Or.inl ⟨by rfl, ?hy26⟩) (by assumption) ?rs26
  case hy26 => (intro w9 hSw; (try dsimp only at hSw); go_simp; (try with_reducible rfl))
  (try simp only [Act.put, List.getElem_toArray, List.getElem_cons_zero, List.getElem_cons_succ, List.setIfInBounds_toArray, List.set_cons_zero, List.set_cons_succ])
  refine wpAnyH_take (i := 5) (v := ?tv27) rfl (by kernel_rfl) (by kernel_rfl) (by kernel_rfl) (fun _ _ _ h => h) (Or.inl ⟨by rfl, ?hy27⟩) (by assumption) ?rs27
  case hy27 => (intro w9 hSw; (try dsimp only at hSw); go_simp; (try with_reducible rfl))
  (try simp only [Act.put, List.getElem_toArray, List.getElem_cons_zero, List.getElem_cons_succ, List.setIfInBounds_toArray, List.set_cons_zero, List.set_cons_succ])
  refine wpAnyH_take (i := 6) (v := ?tv28) rfl (by kernel_rfl) (by kernel_rfl) (by kernel_rfl) (fun _ _ _ h => h) (Or.inl ⟨by rfl, ?hy28⟩) (by assumption) ?rs28
  case hy28 => (intro w9 hSw; (try dsimp only at hSw); go_simp; (try with_reducible rfl))
  (try simp only [Act.put, List.getElem_toArray, List.getElem_cons_zero, List.getElem_cons_succ, List.setIfInBounds_toArray, List.set_cons_zero, List.set_cons_succ])
  refine wpAnyH_take (i := 7) (v := ?tv29) rfl (by kernel_rfl) (by kernel_rfl) (by kernel_rfl) (fun _ _ _ h => h) (Or.inl ⟨by rfl, ?hy29⟩) (by assumption) ?rs29
  case hy29 => (intro w9 hSw; (try dsimp only at hSw); go_simp; (try with_reducible rfl))
  (try simp only [Act.put, List.getElem_toArray, List.getElem_cons_zero, List.getElem_cons_succ, List.setIfInBounds_toArray, List.set_cons_zero, List.set_cons_succ])
  refine wpAnyH_take (i := 8) (v := ?tv30) rfl (by kernel_rfl) (by kernel_rfl) (by kernel_rfl) (fun _ _ _ h => h) (Or.inl ⟨by rfl, ?hy30⟩) (by assumption) ?rs30
  case hy30 => (intro w9 hSw; (try dsimp only at hSw); go_simp; (try with_reducible rfl))
  (try simp only [Act.put, List.getElem_toArray, List.getElem_cons_zero, List.getElem_cons_succ, List.setIfInBounds_toArray, List.set_cons_zero, List.set_cons_succ])
  refine wpAnyH_take (i := 9) (v := ?tv31) rfl (by kernel_rfl) (by kernel_rfl) (by kernel_rfl) (fun _ _ _ h => h) (Or.inl ⟨by rfl, ?hy31⟩) (by assumption) ?rs31
  case hy31 => (intro w9 hSw; (try dsimp only at hSw); go_simp; (try with_reducible rfl))
  (try simp only [Act.put, List.getElem_toArray, List.getElem_cons_zero, List.getElem_cons_succ, List.setIfInBounds_toArray, List.set_cons_zero, List.set_cons_succ])
  refine wpAnyH_take (i := 10) (v := ?tv32) rfl (by kernel_rfl) (by kernel_rfl) (by kernel_rfl) (fun _ _ _ h => h) (Or.inl ⟨by rfl, ?hy32⟩) (by assumption) ?rs32
  case hy32 => (intro w9 hSw; (try dsimp only at hSw); go_simp; (try with_reducible rfl))
  (try simp only [Act.put, List.getElem_toArray, List.getElem_cons_zero, List.getElem_cons_succ, List.setIfInBounds_toArray, List.set_cons_zero, List.set_cons_succ])
  refine wpAnyH_take (i := 13) (v := ?tv33) rfl (by kernel_rfl) (by kernel_rfl) (by kernel_rfl) (fun _ _ _ h => h) (Or.inl ⟨by rfl, ?hy33⟩) (by assumption) ?rs33
  case hy33 => (intro w9 hSw; (try dsimp only at hSw); go_simp; (try with_reducible rfl))
  (try simp only [Act.put, List.getElem_toArray, List.getElem_cons_zero, List.getElem_cons_succ, List.setIfInBounds_toArray, List.set_cons_zero, List.set_cons_succ])
  refine wpAnyH_take (i := 14) (v := ?tv34) rfl (by kernel_rfl) (by kernel_rfl) (by kernel_rfl) (fun _ _ _ h => h) (Or.inl ⟨by rfl, ?hy34⟩) (by assumption) ?rs34
  case hy34 => (intro w9 hSw; (try dsimp only at hSw); go_simp; (try with_reducible rfl))
  (try simp only [Act.put, List.getElem_toArray, List.getElem_cons_zero, List.getElem_cons_succ, List.setIfInBounds_toArray, List.set_cons_zero, List.set_cons_succ])
  refine wpAnyH_take (i := 16) (v := ?tv35) rfl (by kernel_rfl) (by kernel_rfl) (by kernel_rfl) (fun _ _ _ h => h) (Or.inl ⟨by rfl, ?hy35⟩) (by assumption) ?rs35
  case hy35 => (intro w9 hSw; (try dsimp only at hSw); go_simp; (try with_reducible rfl))
  (try simp only [Act.put, List.getElem_toArray, List.getElem_cons_zero, List.getElem_cons_succ, List.setIfInBounds_toArray, List.set_cons_zero, List.set_cons_succ])
  refine wpAnyH_take (i := 17) (v := ?tv36) rfl (by kernel_rfl) (by kernel_rfl) (by kernel_rfl) (fun _ _ _ h => h) (Or.inl ⟨by rfl, ?hy36⟩) (by assumption) ?rs36
  case hy36 => (intro w9 hSw; (try dsimp only at hSw); go_simp; (try with_reducible rfl))
  (try simp only [Act.put, List.getElem_toArray, List.getElem_cons_zero, List.getElem_cons_succ, List.setIfInBounds_toArray, List.set_cons_zero, List.set_cons_succ])
  refine wpAnyH_take (i := 19) (v := ?tv37) rfl (by kernel_rfl) (by kernel_rfl) (by kernel_rfl) (fun _ _ _ h => h) (Or.inl ⟨by rfl, ?hy37⟩) (by assumption) ?rs37
  case hy37 => (intro w9 hSw; (try dsimp only at hSw); go_simp; (try with_reducible rfl))
  (try simp only [Act.put, List.getElem_toArray, List.getElem_cons_zero, List.getElem_cons_succ, List.setIfInBounds_toArray, List.set_cons_zero, List.set_cons_succ])
  refine wpAnyH_take (i := 20) (v := ?tv38) rfl (by kernel_rfl) (by kernel_rfl) (by kernel_rfl) (fun _ _ _ h => h) (Or.inl ⟨by rfl, ?hy38⟩) (by assumption) ?rs38
  case hy38 => (intro w9 hSw; (try dsimp only at hSw); go_simp; (try with_reducible rfl))
  (try simp only [Act.put, List.getElem_toArray, List.getElem_cons_zero, List.getElem_cons_succ, List.setIfInBounds_toArray, List.set_cons_zero, List.set_cons_succ])
  refine wpAnyH_ready (rs := [11]) (by kernel_rfl) (by simp) ?_
  refine AllReadyH.cons rfl (fun K hK => ?_) AllReadyH.nil
  go_simp
  go_wp2_with (first | (go_at_call 24; (refine Calls.mono (H1.out _) ?_); rintro e y ⟨rfl, hby⟩; replace bx := bx.later hby; replace hY := Below.on hY hby))
  refine hK.out _ _ (⟨cell_later hY c0, cell_later hY c1, cell_later hY c2, cell_later hY c3, cell_later hY c4, cell_later hY c5, cell_later hY c6⟩) (fun hHeld => ?_)
  clear hK K
  (try simp only [Act.put, List.getElem_toArray, List.getElem_cons_zero, List.getElem_cons_succ, List.setIfInBounds_toArray, List.set_cons_zero, List.set_cons_succ])
  refine wpAnyH_take (i := 12) (v := ?tv39) rfl (by kernel_rfl) (by kernel_rfl) (by kernel_rfl) (fun _ _ _ h => h) (Or.inl ⟨by rfl, ?hy39⟩) (by assumption) ?rs39
  case hy39 => (intro w9 hSw; (try dsimp only at hSw); go_simp; (try with_reducible rfl))
  (try simp only [Act.put, List.getElem_toArray, List.getElem_cons_zero, List.getElem_cons_succ, List.setIfInBounds_toArray, List.set_cons_zero, List.set_cons_succ])
  refine wpAnyH_ready (rs := [15]) (by kernel_rfl) (by simp) ?_
  refine AllReadyH.cons rfl (fun K hK => ?_) AllReadyH.nil
  go_simp
  go_wp2_with (first | (go_at_call 24; (refine Calls.mono (H2.out _) ?_); rintro e y ⟨rfl, hby⟩; replace bx := bx.later hby; replace hY := Below.on hY hby))
  refine hK.out _ _ (⟨cell_later hY c0, cell_later hY c1, cell_later hY c2, cell_later hY c3, cell_later hY c4, cell_later hY c5, cell_later hY c6⟩) (fun hHeld => ?_)
  clear hK K
  (try simp only [Act.put, List.getElem_toArray, List.getElem_cons_zero, List.getElem_cons_succ, List.setIfInBounds_toArray, List.set_cons_zero, List.set_cons_succ])
  refine wpAnyH_ready (rs := [18]) (by kernel_rfl) (by simp) ?_
  refine AllReadyH.cons rfl (fun K hK => ?_) AllReadyH.nil
  go_simp
  go_wp2_with (first | (go_at_call 24; (refine Calls.mono (H3.out _) ?_); rintro e y ⟨rfl, hby⟩; replace bx := bx.later hby; replace hY := Below.on hY hby))
  refine hK.out _ _ (⟨cell_later hY c0, cell_later hY c1, cell_later hY c2, cell_later hY c3, cell_later hY c4, cell_later hY c5, cell_later hY c6⟩) (fun hHeld => ?_)
  clear hK K
  (try simp only [Act.put, List.getElem_toArray, List.getElem_cons_zero, List.getElem_cons_succ, List.setIfInBounds_toArray, List.set_cons_zero, List.set_cons_succ])
  refine wpAnyH_ready (rs := [21]) (by kernel_rfl) (by simp) ?_
  refine AllReadyH.cons rfl (fun K hK => ?_) AllReadyH.nil
  go_simp
  go_wp2_with (first | (go_at_call 55; (refine Calls.mono (H4.out _ hY) ?_); rintro e y ⟨a1, m1, d1, rfl, r1, hby⟩; replace bx := bx.later hby; replace r1 := r1.mono (by decide) (Q' := fun b => w.heap.size + 2 ≤ b) (fun b hb _ => (by have h1 := hY.size; have h2 := hs.out; have h3 : _ ≤ b := hb; show w.heap.size + 2 ≤ b; omega)); replace hY := Below.on hY hby))
  refine hK.out _ _ (⟨cell_later hY c0, cell_later hY c1, cell_later hY c2, cell_later hY c3, cell_later hY c4, cell_later hY c5, cell_later hY c6⟩) (fun hHeld => ?_)
  clear hK K
  (try simp only [Act.put, List.getElem_toArray, List.getElem_cons_zero, List.getElem_cons_succ, List.setIfInBounds_toArray, List.set_cons_zero, List.set_cons_succ])
  refine wpAnyH_take (i := 22) (v := ?tv40) rfl (by kernel_rfl) (by kernel_rfl) (by kernel_rfl) (fun _ _ _ h => h) (Or.inl ⟨by rfl, ?hy40⟩) (by assumption) ?rs40
  case hy40 => (intro w9 hSw; (try dsimp only at hSw); go_simp; (try with_reducible rfl))
  (try simp only [Act.put, List.getElem_toArray, List.getElem_cons_zero, List.getElem_cons_succ, List.setIfInBounds_toArray, List.set_cons_zero, List.set_cons_succ])
  refine wpAnyH_ready (rs := [23]) (by kernel_rfl) (by simp) ?_
  refine AllReadyH.cons rfl (fun K hK => ?_) AllReadyH.nil
  have hth : y.there z 0 7 := bx.there rfl
  have z0 := stW_cell (l := [.int .i64 (op : Int), .int .i64 qk, .int .i64 qi, .string qs, .string qt, .string qn, .slice a1 m1 d1]) hth (j := 0) rfl
  have z1 := stW_cell (l := [.int .i64 (op : Int), .int .i64 qk, .int .i64 qi, .string qs, .string qt, .string qn, .slice a1 m1 d1]) hth (j := 1) rfl
  have z2 := stW_cell (l := [.int .i64 (op : Int), .int .i64 qk, .int .i64 qi, .string qs, .string qt, .string qn, .slice a1 m1 d1]) hth (j := 2) rfl
  have z3 := stW_cell (l := [.int .i64 (op : Int), .int .i64 qk, .int .i64 qi, .string qs, .string qt, .string qn, .slice a1 m1 d1]) hth (j := 3) rfl
  have z4 := stW_cell (l := [.int .i64 (op : Int), .int .i64 qk, .int .i64 qi, .string qs, .string qt, .string qn, .slice a1 m1 d1]) hth (j := 4) rfl
  have z5 := stW_cell (l := [.int .i64 (op : Int), .int .i64 qk, .int .i64 qi, .string qs, .string qt, .string qn, .slice a1 m1 d1]) hth (j := 5) rfl
  have z6 := stW_cell (l := [.int .i64 (op : Int), .int .i64 qk, .int .i64 qi, .string qs, .string qt, .string qn, .slice a1 m1 d1]) hth (j := 6) rfl
  rw [if_pos (by rfl)]
  refine wp_store_mid _ _ _ rfl z 0 (List.toArray [.int .i64 (op : Int), .int .i64 qk, .int .i64 qi, .string qs, .string qt, .string qn, .slice a1 m1 d1]) rfl rfl hth (by kernel_rfl) (by simp [Value.oneCell']) ?_
  show K _ (stW y z [.int .i64 (op : Int), .int .i64 qk, .int .i64 qi, .string qs, .string qt, .string qn, .slice a1 m1 d1])
  refine hK.out _ _ (⟨stW_far (by omega) (cell_later hY c0), stW_far (by omega) (cell_later hY c1), stW_far (by omega) (cell_later hY c2), stW_far (by omega) (cell_later hY c3), stW_far (by omega) (cell_later hY c4), stW_far (by omega) (cell_later hY c5), stW_far (by omega) (cell_later hY c6)⟩) (fun hHeld => ?_)
  clear hK K hth
  (try simp only [Act.put, List.getElem_toArray, List.getElem_cons_zero, List.getElem_cons_succ, List.setIfInBounds_toArray, List.set_cons_zero, List.set_cons_succ])
  refine wpAnyH_done (by kernel_rfl) ?_ _
  ·
    have hW := Below.trans hw (hY.mono (by have := hw.size; omega))
    clear hY bx
    go_wp2
    refine bodyPost_ret (v := .agg #[.int .i64 (op : Int), .int .i64 qk, .int .i64 qi, .string qs, .string qt, .string qn, .slice a1 m1 d1]) (by simp [results, Try.results56, go_sem, z0, z1, z2, z3, z4, z5, z6]) rfl ?_
    exact ⟨exC op (qk, qi, qs, qt, qn) (.slice a1 m1 d1), rfl, ⟨_, _, _, _, _, rfl, Ex.ofKids (((r1).keep (by decide) fun b hb _ => by have hb' : w.heap.size + 2 ≤ b := hb; have h9 := hz.out; exact stW_heap (by omega)).mono (by decide) fun b hb _ => by have hb' : w.heap.size + 2 ≤ b := hb; show w.heap.size ≤ b; omega) hval x op _⟩, stW_below hW (by omega)⟩

theorem copyExpr_cp : ∀ (t : Tr), TrB t → Cp eExpr 56 t := by
  intro t
  induction t with
  | nil => intro _ Q w cs h; obtain ⟨_, _, _, _, _, _, hx⟩ := h; exact hx.elim
  | node x op p l r ihl ihr =>
    intro hB
    refine copyExpr_node hB.1 fun t ht => ?_
    unfold kids at ht
    split at ht
    · cases ht
    · split at ht
      · rw [List.mem_singleton] at ht; subst ht; exact ihl hB.2.1
      · rw [List.mem_cons, List.mem_singleton] at ht
        rcases ht with rfl | rfl
        · exact ihl hB.2.1
        · exact ihr hB.2.2

end Go.Proofs.Ytnboooaockgoiab
/- Tags copied. -/
namespace Go.Proofs.Ytnboooaockgoiab
open Go.RowKit
set_option linter.unusedVariables false
set_option linter.unusedSimpArgs false

theorem run_appS {t ty e : TypeId} {z : Value} {k bytes B : Nat} (ht : Try.prog.underlying t = some (.slice e)) (hinf : (Try.prog.info? e).map (fun i => (i.zero, i.size, i.bytes)) = some (some z, k, bytes)) (hzs : z.cells.size = k) (hk : 0 < k) (hby : bytes ≤ 1000)
    (w : World) (v : Value) (css css2 : List (List Value)) (ad : Addr) (m c : Nat) (hown : OwnR e k B w v css) (hcs : ∀ cs ∈ css2, cs.length = k) (hm : css2.length = m) (h1 : ∀ u ∈ css2.flatten, u.oneCell' = true) (hx : ∀ j u, css2.flatten[j]? = some u → w.cell? (ad.add j) = some u) (hl : css.length + m ≤ 1000) (hB : B ≤ w.heap.size) :
    ∃ v' w', (Builtin.append_ #[t, t] ty #[v, .slice (some ad) m c]).run Try.prog w = .ok v' w' ∧ OwnR e k B w' v' (css ++ css2) ∧ w.grownBy w' v.ownBlock := by
  obtain ⟨i, hi, hz, hsz, hb⟩ := info_parts hinf
  have hfl : ∀ l : List (List Value), (∀ cs ∈ l, cs.length = k) → l.flatten.length = l.length * k := by
    intro l
    induction l with
    | nil => intro _; simp
    | cons a l ih =>
      intro h
      rw [List.flatten_cons, List.length_append, ih fun x hx => h x (by simp [hx]), h a (by simp), List.length_cons, Nat.succ_mul]
      omega
  obtain ⟨v', w', hr, h2, h3, _, h5⟩ := run_append_own_at (P := Try.prog) w B t ty e i z k bytes ht hi hz hsz hb hzs hk v css.length _ hown.2 ad m c css2.flatten (by rw [hfl css2 hcs, hm]) hx h1 (by unfold maxLen; omega) (by have : (css.length + m) * bytes ≤ 1000 * 1000 := Nat.mul_le_mul (by omega) hby; omega) hB
  refine ⟨v', w', hr, ⟨?_, ?_⟩, h3⟩
  · intro cs hc
    rcases List.mem_append.1 hc with hc | hc
    · exact hown.1 cs hc
    · exact hcs cs hc
  · rw [List.length_append, hm, List.flatten_append]
    exact h2
theorem wpList_appS {t e : TypeId} {z : Value} {k bytes B : Nat} (ht : Try.prog.underlying t = some (.slice e)) (hinf : (Try.prog.info? e).map (fun i => (i.zero, i.size, i.bytes)) = some (some z, k, bytes)) (hzs : z.cells.size = k) (hk : 0 < k) (hby : bytes ≤ 1000)
    {w : World} {ops : Array Oper} {rest : List Oper} {o : Oper} {a : Act} {Q : Exit → Act → World → Prop} (hgd : o.guard = none) (s x : Operand)
    (ho : o.op = .call { callee := .builtin .append, args := #[s, x], argTypes := #[t, t] }) (v : Value) (css css2 : List (List Value)) (ad : Addr) (m c : Nat) (hs : a.eval s = v) (hxv : a.eval x = .slice (some ad) m c)
    (hown : OwnR e k B w v css) (hcs : ∀ cs ∈ css2, cs.length = k) (hm : css2.length = m) (h1 : ∀ u ∈ css2.flatten, u.oneCell' = true) (hx : ∀ j u, css2.flatten[j]? = some u → w.cell? (ad.add j) = some u) (hl : css.length + m ≤ 1000) (hB : B ≤ w.heap.size)
    (h : ∀ v' w', OwnR e k B w' v' (css ++ css2) → w.grownBy w' v.ownBlock → wpList Try.prog ops Q rest (a.put o.dst v') w') : wpList Try.prog ops Q (o :: rest) a w :=
  wpList_plain hgd fun _ hK => by
    obtain ⟨v', w', hr, h2, h3⟩ := run_appS ht hinf hzs hk hby w v css css2 ad m c hown hcs hm h1 hx hl hB (ty := o.type)
    unfold Oper.wp execOp
    simp only [ho, resolve, invoke, builtin, Sem.run_bind, Sem.run_pure, Result.andThen_ok, List.map_toArray, List.map_cons, List.map_nil, hs, hxv, hr]
    exact hK _ _ (h v' w' h2 h3)
theorem Try.infoZTag : (Try.prog.info? 87).map (fun i => (i.zero, i.size, i.bytes)) = some (some (.int .u16 0), 1, 2) := by kernel_rfl
def tgC (l : List Int) : List (List Value) := l.map fun z => [.int .u16 z]
theorem tgC_flat (l : List Int) : (tgC l).flatten = l.map (Value.int .u16) := by
  induction l with
  | nil => rfl
  | cons a l ih => rw [tgC, List.map_cons, List.flatten_cons]; exact congrArg (_ :: ·) ih
theorem OwnR.tags {B : Nat} {w : World} {v : Value} {l : List Int} {Q : Nat → Prop} (h : OwnR 87 1 B w v (tgC l)) (hq : ∀ b, B ≤ b → Q b) : RowIs eTag Q w v l :=
  OwnR.rowE (e := eTag) h (by simp [tgC]) (fun b hb _ => hq b hb) fun i h1 h2 => by
    show (tgC l)[i] = [.int .u16 l[i]]
    simp [tgC]
theorem RowIs.tag_news {Q : Nat → Prop} {w : World} {ad : Addr} {n c : Nat} {l : List Int} (h : RowIs eTag Q w (.slice (some ad) n c) l) : ∀ j u, (tgC l).flatten[j]? = some u → w.cell? (ad.add j) = some u := by
  intro j u hj
  rw [tgC_flat, List.getElem?_map] at hj
  obtain ⟨x, hx, rfl⟩ := Option.map_eq_some_iff.1 hj
  obtain ⟨hl, hx⟩ := List.getElem?_eq_some_iff.1 hx
  obtain ⟨_, _, _, e, hn, _, _, hc⟩ := h
  cases e
  obtain ⟨b, o, e, _, hi⟩ := hc (by omega)
  cases e
  obtain ⟨cs, hcs, _, hcell⟩ := hi j hl
  obtain rfl : cs = [.int .u16 l[j]] := hcs
  have := hcell 0 (by simp)
  rw [show (⟨b, o, none⟩ : Addr).add j = ⟨b, o + j, none⟩ from by simp [Addr.add]]
  have e1 : o + j * eTag.k + 0 = o + j := by show o + j * 1 + 0 = o + j; omega
  rw [e1] at this
  rw [this, ← hx]
  rfl

set_option maxRecDepth 100000 in
set_option maxHeartbeats 1000000 in
theorem cloneTags_any {l : List Int} (hlen : l.length ≤ 500) {Q : Nat → Prop} {w : World} {ao : Option Addr} {n c : Nat} (h : RowIs eTag Q w (.slice ao n c) l) : Calls Try.prog 54 #[.slice ao n c] w (TeR eTag w l) := by
  cases ao with
  | none =>
    obtain ⟨_, _, _, e, hn, hnc, hc, hx⟩ := id h
    cases e
    have hl0 : l = [] := by
      cases l with
      | nil => rfl
      | cons a l =>
        obtain ⟨b, o, e, _⟩ := hx (by rw [← hn]; simp)
        cases e
    subst hl0
    obtain rfl : n = 0 := by simpa using hn.symm
    have he : ∀ w : World, (binOp .eql 29 (.slice none 0 c) (.slice none 0 0)).run Try.prog w = .ok (.bool true) w := fun _ => rfl
    clear hx h hn
    go_enter Try.func54, Try.ntmps54
    go_wp2
    go_ret
    exact ⟨_, _, _, rfl, RowIs.nil _ _ _, Below.refl _ _⟩
  | some ad =>
    have hn : l.length = n := by
      obtain ⟨_, _, _, e, hn, _⟩ := id h
      cases e
      exact hn
    have hN : Hid _ := hid (RowIs.tag_news (h.keep (by decide) (w' := w.alloc (.cells #[] 87)) fun b _ hl => (bal (Below.refl _ w) _).block b hl))
    have hO : OwnR 87 1 w.heap.size (w.alloc (.cells #[] 87)) (.slice (some ⟨w.heap.size, 0, none⟩) 0 0) [] := ⟨fun c hc => by simp at hc, by simp, .inr ⟨w.heap.size, 0, #[], rfl, Nat.le_refl _, heap_alloc_new w _, Nat.le_refl _, by simp [maxLen], by simp, by simp⟩⟩
    have hB := bal (Below.refl _ w) (.cells #[] 87)
    have hl5 : 0 + n ≤ 1000 := by omega
    have HL : Hid (l.length = n) := hid hn
    have he : ∀ w : World, (binOp .eql 29 (.slice (some ad) n c) (.slice none 0 0)).run Try.prog w = .ok (.bool false) w := fun _ => rfl
    clear hn h
    go_enter Try.func54, Try.ntmps54
    go_wp2_with (first | (at_builtin; refine wpList_appS Try.underlying29 Try.infoZTag rfl (by decide) (by decide) rfl (.tmp 5) (.tmp 6) rfl _ [] (tgC l) ad n c rfl rfl hO (by simp [tgC]) (by rw [← HL.out]; simp [tgC]) (by rw [tgC_flat]; exact ints_one _ _) hN.out hl5 hB.size ?_) | fail)
    intro v' w6 hO6 hg6
    have hB6 := Below.grownR hB hB.size hg6 fun k e => by cases e; exact Nat.le_refl _
    obtain ⟨a5, n5, d5, rfl⟩ := hO6.sl
    clear hN hO hB hg6
    go_wp2
    go_ret
    exact ⟨_, _, _, rfl, OwnR.tags hO6 fun b hb => hb, hB6⟩

set_option maxRecDepth 100000 in
set_option maxHeartbeats 1000000 in
theorem cloneLabel_any {l : List Int} (hlen : l.length ≤ 500) {Q : Nat → Prop} {w : World} {ao : Option Addr} {n c : Nat} (h : RowIs eTag Q w (.slice ao n c) l) : Calls Try.prog 39 #[.slice ao n c] w (TeR eTag w l) := by
  cases ao with
  | none =>
    obtain ⟨_, _, _, e, hn, hnc, hc, hx⟩ := id h
    cases e
    have hl0 : l = [] := by
      cases l with
      | nil => rfl
      | cons a l =>
        obtain ⟨b, o, e, _⟩ := hx (by rw [← hn]; simp)
        cases e
    subst hl0
    obtain rfl : n = 0 := by simpa using hn.symm
    have he : ∀ w : World, (binOp .eql 49 (.slice none 0 c) (.slice none 0 0)).run Try.prog w = .ok (.bool true) w := fun _ => rfl
    clear hx h hn
    go_enter Try.func39, Try.ntmps39
    go_wp2
    go_ret
    exact ⟨_, _, _, rfl, RowIs.nil _ _ _, Below.refl _ _⟩
  | some ad =>
    have hn : l.length = n := by
      obtain ⟨_, _, _, e, hn, _⟩ := id h
      cases e
      exact hn
    have hN : Hid _ := hid (RowIs.tag_news (h.keep (by decide) (w' := w.alloc (.cells #[] 87)) fun b _ hl => (bal (Below.refl _ w) _).block b hl))
    have hO : OwnR 87 1 w.heap.size (w.alloc (.cells #[] 87)) (.slice (some ⟨w.heap.size, 0, none⟩) 0 0) [] := ⟨fun c hc => by simp at hc, by simp, .inr ⟨w.heap.size, 0, #[], rfl, Nat.le_refl _, heap_alloc_new w _, Nat.le_refl _, by simp [maxLen], by simp, by simp⟩⟩
    have hB := bal (Below.refl _ w) (.cells #[] 87)
    have hl5 : 0 + n ≤ 1000 := by omega
    have HL : Hid (l.length = n) := hid hn
    have he : ∀ w : World, (binOp .eql 49 (.slice (some ad) n c) (.slice none 0 0)).run Try.prog w = .ok (.bool false) w := fun _ => rfl
    clear hn h
    go_enter Try.func39, Try.ntmps39
    go_wp2_with (first | (at_builtin; refine wpList_appS Try.underlying49 Try.infoZTag rfl (by decide) (by decide) rfl (.tmp 5) (.tmp 6) rfl _ [] (tgC l) ad n c rfl rfl hO (by simp [tgC]) (by rw [← HL.out]; simp [tgC]) (by rw [tgC_flat]; exact ints_one _ _) hN.out hl5 hB.size ?_) | fail)
    intro v' w6 hO6 hg6
    have hB6 := Below.grownR hB hB.size hg6 fun k e => by cases e; exact Nat.le_refl _
    obtain ⟨a5, n5, d5, rfl⟩ := hO6.sl
    clear hN hO hB hg6
    go_wp2
    go_ret
    exact ⟨_, _, _, rfl, OwnR.tags hO6 fun b hb => hb, hB6⟩

end Go.Proofs.Ytnboooaockgoiab
