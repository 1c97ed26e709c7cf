/- What is told of given texts, reckoned; the walk of begun. -/
import Derived.Test.YtjlmcnbmhgabpaaPv
namespace Go.Proofs.Ytjlmcnbmhgabpaa
open Go.RowKit
set_option linter.unusedVariables false

/-- What is told of a text, reckoned: the statement; the fault's place, the fault. -/
def vd (n : Nat) (s : ByteArray) : Option Sf × Int × Int :=
  if (lxF n s 0).2.2 = 0 then
    match parseW (lxF n s 0).1 with
    | .inl x => (none, x)
    | .inr m => (some m.1, 0, 0)
  else (none, (lxF n s 0).2)
theorem vd_ok {n : Nat} {s : ByteArray} {X : Option Sf} {a f : Int} (hs : s.size ≤ 400) (h9 : (lxF n s 0).2.2 ≠ 99) (h : PaR s X a f) : vd n s = (X, a, f) := by
  have hl : LexR s (lxF n s 0).1 (lxF n s 0).2.1 (lxF n s 0).2.2 := lexR_of n hs rfl h9
  obtain ⟨ts, b, e, h1, h2⟩ := h
  obtain ⟨r1, r2, r3⟩ := hl.det h1
  unfold vd
  rcases h2 with ⟨he, rfl, rfl, rfl⟩ | ⟨he, h2⟩
  · rw [if_neg (by rw [r3]; exact he), ← r2, ← r3]
  · rw [if_pos (by rw [r3]; exact he), r1]
    rcases h2 with ⟨x, hx, rfl, rfl, rfl, _⟩ | ⟨m, r, hx, rfl, rfl, rfl⟩
    · rw [hx]
    · rw [hx]
def chkB : Bool :=
  decide ((lxF 20 ⟨#[115, 101, 108, 101, 99, 116, 32, 42, 32, 102, 114, 111, 109, 32, 116, 32, 119, 104, 101, 114, 101, 32, 97, 32, 61, 32, 49]⟩ 0).2.2 ≠ 99) && decide ((lxF 20 ⟨#[99, 111, 109, 109, 105, 116, 32, 120]⟩ 0).2.2 ≠ 99) &&
  (match vd 20 ⟨#[115, 101, 108, 101, 99, 116, 32, 42, 32, 102, 114, 111, 109, 32, 116, 32, 119, 104, 101, 114, 101, 32, 97, 32, 61, 32, 49]⟩ with
    | (some m, a, f) => decide (f = 0) && decide (m.1.kind = 6) && decide (m.1.table = ⟨#[116]⟩) && decide (m.1.wh.length = 1)
    | _ => false) &&
  (match vd 20 ⟨#[99, 111, 109, 109, 105, 116, 32, 120]⟩ with
    | (_, a, f) => decide (a = 7) && decide (f = 5))
theorem chkB_ok : chkB = true := by decide +kernel
theorem begun1 {X : Option Sf} {a f : Int} (h : PaR ⟨#[115, 101, 108, 101, 99, 116, 32, 42, 32, 102, 114, 111, 109, 32, 116, 32, 119, 104, 101, 114, 101, 32, 97, 32, 61, 32, 49]⟩ X a f) : ∃ m, X = some m ∧ f = 0 ∧ m.1.kind = 6 ∧ m.1.table = ⟨#[116]⟩ ∧ m.1.wh.length = 1 := by
  have hc := chkB_ok
  unfold chkB at hc
  simp only [Bool.and_eq_true, decide_eq_true_eq] at hc
  have := vd_ok (by decide) hc.1.1.1 h
  have h2 := hc.1.2
  rw [this] at h2
  cases X with
  | none => simp at h2
  | some m =>
    simp only [Bool.and_eq_true, decide_eq_true_eq] at h2
    exact ⟨m, rfl, h2.1.1.1, h2.1.1.2, h2.1.2, h2.2⟩
theorem begun2 {X : Option Sf} {a f : Int} (h : PaR ⟨#[99, 111, 109, 109, 105, 116, 32, 120]⟩ X a f) : a = 7 ∧ f = 5 := by
  have hc := chkB_ok
  unfold chkB at hc
  simp only [Bool.and_eq_true, decide_eq_true_eq] at hc
  have := vd_ok (by decide) hc.1.1.2 h
  have h2 := hc.2
  rw [this] at h2
  exact h2
theorem RowIs.num {α : Type} {e : Ek α} {Q : Nat → Prop} {w : World} {s : Sl} {l : List α} (h : RowIs e Q w (slV s) l) : s.2.1 = l.length ∧ s.2.1 ≤ s.2.2 ∧ s.2.2 ≤ 9223372036854775807 := by
  obtain ⟨ao, n, c, hv, hl, hn, hc, _⟩ := h
  simp only [Value.slice.injEq] at hv
  obtain ⟨_, h2, h3⟩ := hv
  omega

set_option maxRecDepth 100000 in
set_option maxHeartbeats 2000000 in
theorem begun_any (w : World) : Calls Try.prog 5 #[] w fun e w' => e = .returned (.bool true) ∧ Below w.heap.size w w' := by
  have H1 : Hid _ := hid (parseStmt_any ⟨#[115, 101, 108, 101, 99, 116, 32, 42, 32, 102, 114, 111, 109, 32, 116, 32, 119, 104, 101, 114, 101, 32, 97, 32, 61, 32, 49]⟩ (by decide) w)
  have H2 : Hid (∀ w, _) := hid fun w => parseStmt_any ⟨#[99, 111, 109, 109, 105, 116, 32, 120]⟩ (by decide) w
  go_enter Try.func5, Try.ntmps5
  go_wp2_with fail
  refine Calls.mono H1.out ?_
  rintro e w1 ⟨sv, X, a, f, rfl, hb1, hp, -, hx⟩
  obtain ⟨m, rfl, rfl, hk, htb, hwh⟩ := begun1 hp
  obtain ⟨hi, -⟩ := hx m rfl
  obtain ⟨q1, q2, q3⟩ := hi.wh.num
  have e1 := hi.k
  have e2 := hi.tb
  rw [hk] at e1
  rw [htb] at e2
  rw [hwh] at q1
  obtain ⟨k, tb, nm, co, ta, va, it, jn, on, wh, od, ds, inn⟩ := sv
  obtain ⟨wa, wn, wc⟩ := wh
  replace e1 : k = 6 := e1
  replace e2 : tb = ⟨#[116]⟩ := e2
  replace q1 : wn = 1 := q1
  replace q2 : wn ≤ wc := q2
  replace q3 : wc ≤ 9223372036854775807 := q3
  subst e1 e2 q1
  have x1 := Bs.new w1 ⟨6, ⟨#[116]⟩, nm, co, ta, va, it, jn, on, (wa, 1, wc), od, ds, inn⟩
  unfold stV
  clear H1 hp hx hi hk htb hwh
  go_upto_region 2 with fail
  generalize hW : w1.alloc _ = W at *
  have hbW : Below w.heap.size w W := hW ▸ bal hb1 _
  have x2 : Bs W w1.heap.size ⟨6, ⟨#[116]⟩, nm, co, ta, va, it, jn, on, (wa, 1, wc), od, ds, inn⟩ := x1
  clear x1 hW
  generalize w1.heap.size = q at *
  go_wp2_with fail
  refine Calls.mono (H2.out W) ?_
  rintro e w2 ⟨sv2, X2, a2, f2, rfl, hb2, hp2, -, -⟩
  obtain ⟨rfl, rfl⟩ := begun2 hp2
  have hB2 := Below.on hbW hb2
  have x3 := x2.later hb2
  obtain ⟨k0, k1, k2, k3, k4, k5, k6, k7, k8, k9, k10, k11, k12⟩ := x3.cells
  have hlt := x3.lt
  clear H2 hp2 hb1 hb2 hbW x2 x3
  unfold stV
  go_wp2
  go_ret
  exact ⟨rfl, bal hB2 _⟩

end Go.Proofs.Ytjlmcnbmhgabpaa
