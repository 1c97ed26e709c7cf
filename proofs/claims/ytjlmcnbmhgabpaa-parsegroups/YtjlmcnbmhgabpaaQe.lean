/- The walk of where. -/
import Derived.Test.YtjlmcnbmhgabpaaQa
import Derived.Test.YtjlmcnbmhgabpaaQd
namespace Go.Proofs.Ytjlmcnbmhgabpaa
open Go.RowKit
set_option linter.unusedVariables false

def preS : ByteArray := ⟨#[100, 101, 108, 101, 116, 101, 32, 102, 114, 111, 109, 32, 116, 32, 119, 104, 101, 114, 101, 32]⟩
theorem size_app (s t : ByteArray) : (s ++ t).size = s.size + t.size := by
  show (s ++ t).data.size = s.data.size + t.data.size
  rw [ByteArray.data_append, Array.size_append]
abbrev zEx : Obj := .cells #[.int .i64 0, .int .i64 0, .int .i64 0, .string ⟨#[]⟩, .string ⟨#[]⟩, .string ⟨#[]⟩, .slice none 0 0] 40

set_option maxRecDepth 100000 in
set_option maxHeartbeats 2000000 in
theorem where_ok {s : ByteArray} (hs : s.size ≤ 1000) {t : Tr} (H : ∀ X a f, PaR (preS ++ s) X a f → f = 0 ∧ ∃ m, X = some m ∧ m.1.wh = [t]) (w : World) :
    Calls Try.prog 7 #[.string s] w fun e w' => ∃ o p ao n c, e = .returned (.tuple #[exV o p (.slice ao n c), .bool true]) ∧ Below w.heap.size w w' ∧ Ex (fun b => w.heap.size ≤ b) w' t (exV o p (.slice ao n c)) := by
  have hz : (preS ++ s).size ≤ 9223372036854775807 := by rw [size_app]; have : preS.size = 20 := rfl; omega
  have HP : Hid _ := hid (parseStmt_any (preS ++ s) hz (w.alloc (.cells #[.int .i64 0, .int .i64 0, .int .i64 0, .string ⟨#[]⟩, .string ⟨#[]⟩, .string ⟨#[]⟩, .slice none 0 0] 40)))
  have HH : Hid _ := hid H
  have b0 := Be.new w 0 nilP (.slice none 0 0)
  unfold preS at HP HH
  clear hz H
  go_enter Try.func7, Try.ntmps7
  go_wp2_with fail
  refine Calls.mono HP.out ?_
  rintro e w1 ⟨sv, X, a, f, rfl, hb1, hp, -, hx⟩
  obtain ⟨rfl, m, rfl, hwh⟩ := HH.out X a f hp
  obtain ⟨hi, -⟩ := hx m rfl
  have hrow := hi.wh
  rw [hwh] at hrow
  obtain ⟨q1, q2, q3⟩ := hrow.num
  obtain ⟨b, o, op, p, a', n', c', e1, hce, hex⟩ := hrow.at (k := 0) (by simp)
  rw [Nat.zero_mul, Nat.add_zero] at hce
  obtain ⟨k, tb, nm, co, ta, va, it, jn, on, wh, od, ds, inn⟩ := sv
  obtain ⟨wa, wn, wc⟩ := wh
  replace e1 : wa = some ⟨b, o, none⟩ := e1
  replace q1 : wn = 1 := q1
  replace q2 : wn ≤ wc := q2
  replace q3 : wc ≤ 9223372036854775807 := q3
  subst e1 q1
  have z1 := b0.later hb1
  have hB1 : Below w.heap.size w w1 := ((Below.refl _ w).alloc (Nat.le_refl _) _).trans (hb1.mono (by simp))
  have hlz := z1.lt
  have hlb := hce.lt
  obtain ⟨k0, k1, k2, k3, k4, k5, k6⟩ := hce
  obtain ⟨m0, m1, m2, m3, m4, m5, m6⟩ := z1.cells
  obtain ⟨n0, n1, n2, n3, n4, n5, n6⟩ := z1.free
  have hQ : Ex (fun b => w.heap.size + 1 ≤ b) w1 t (exV op p (.slice a' n' c')) := hex.mono fun k hk _ => by simpa using hk
  have hQ2 : Ex (fun b => w.heap.size ≤ b) (set7 w1 w.heap.size op p (.slice a' n' c')) t (exV op p (.slice a' n' c')) := (hQ.set7 (by omega) op p (.slice a' n' c')).mono fun k hk _ => by omega
  have hB7 : Below w.heap.size w (set7 w1 w.heap.size op p (.slice a' n' c')) := by
    have B := (But.of (g := w.heap.size) hB1).set7 (Nat.le_refl _) op p (.slice a' n' c')
    exact ⟨B.os, B.tape, B.output, B.size, fun k hk => B.block k hk (by omega)⟩
  have HX : Hid _ := hid hQ2
  have HB7 : Hid _ := hid hB7
  clear HP HH hp hx hi hrow hex hQ hQ2 hB7 hwh b0 hb1 z1
  unfold stV
  go_wp2
  refine bodyPost_ret (v := .tuple #[exV op p (.slice a' n' c'), .bool true]) (by simp [results, Try.results7, go_sem, exV, m0, m1, m2, m3, m4, m5, m6, hlz]) rfl ?_
  exact ⟨op, p, a', n', c', rfl, bal HB7.out _, HX.out.later (bal (Below.refl _ _) _)⟩

set_option maxRecDepth 100000 in
set_option maxHeartbeats 2000000 in
theorem where_no {s : ByteArray} (hs : s.size ≤ 1000) (H : ∀ X a f, PaR (preS ++ s) X a f → f ≠ 0) (w : World) :
    Calls Try.prog 7 #[.string s] w fun e w' => e = .returned (.tuple #[exV 0 nilP (.slice none 0 0), .bool false]) ∧ Below w.heap.size w w' := by
  have hz : (preS ++ s).size ≤ 9223372036854775807 := by rw [size_app]; have : preS.size = 20 := rfl; omega
  have HP : Hid _ := hid (parseStmt_any (preS ++ s) hz (w.alloc (.cells #[.int .i64 0, .int .i64 0, .int .i64 0, .string ⟨#[]⟩, .string ⟨#[]⟩, .string ⟨#[]⟩, .slice none 0 0] 40)))
  have HH : Hid _ := hid H
  have b0 := Be.new w 0 nilP (.slice none 0 0)
  unfold preS at HP HH
  clear hz H
  go_enter Try.func7, Try.ntmps7
  go_wp2_with fail
  refine Calls.mono HP.out ?_
  rintro e w1 ⟨sv, X, a, f, rfl, hb1, hp, -, -⟩
  have hf := HH.out X a f hp
  have gf : (f != 0) = true := by simpa using hf
  have z1 := b0.later hb1
  have hB1 : Below w.heap.size w w1 := ((Below.refl _ w).alloc (Nat.le_refl _) _).trans (hb1.mono (by simp))
  have hlz := z1.lt
  obtain ⟨m0, m1, m2, m3, m4, m5, m6⟩ := z1.cells
  obtain ⟨n0, n1, n2, n3, n4, n5, n6⟩ := z1.free
  have hB7 : Below w.heap.size w (set7 w1 w.heap.size 0 nilP (.slice none 0 0)) := by
    have B := (But.of (g := w.heap.size) hB1).set7 (Nat.le_refl _) 0 nilP (.slice none 0 0)
    exact ⟨B.os, B.tape, B.output, B.size, fun k hk => B.block k hk (by omega)⟩
  have HB7 : Hid _ := hid hB7
  clear HP HH hp hf hB7 b0 hb1 z1 hB1
  unfold stV
  go_wp2
  refine bodyPost_ret (v := .tuple #[exV 0 nilP (.slice none 0 0), .bool false]) (by simp [results, Try.results7, go_sem, exV, nilP, m0, m1, m2, m3, m4, m5, m6, hlz]) rfl ?_
  exact ⟨rfl, bal HB7.out _⟩

end Go.Proofs.Ytjlmcnbmhgabpaa
