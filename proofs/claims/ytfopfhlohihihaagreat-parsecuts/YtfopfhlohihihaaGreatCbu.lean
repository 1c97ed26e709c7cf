import Derived.Test.YtfopfhlohihihaaGreatCbl
import Derived.Test.YtfopfhlohihihaaGreatCaq
namespace Go.Proofs.YtfopfhlohihihaaGreat
open Go.RowKit
set_option linter.unusedVariables false
set_option linter.unusedSimpArgs false
def spAt (l : List Pc) (i : Nat) : Nat := (l[i]?.map Prod.fst).getD 0
theorem spAt_lt {l : List Pc} {i : Nat} (h : i < l.length) : spAt l i = l[i].1 := by rw [spAt, List.getElem?_eq_getElem h]; rfl
theorem spAt_end {l : List Pc} {i : Nat} (h : l.length ≤ i) : spAt l i = 0 := by rw [spAt, List.getElem?_eq_none h]; rfl
def atP (l : List Pc) (i : Nat) : Nat := (ren (l.take i)).length + spAt l i
theorem tks_at : ∀ (l : List Pc) (k i : Nat), i < l.length → (tth (tks k l) i).2.2.2 = ((k + atP l i : Nat) : Int)
 | [], k, i, h => absurd h (by simp)
 | p :: l, k, 0, h => by
  show ((k + p.1 : Nat) : Int) = ((k + ((ren []).length + p.1) : Nat) : Int)
  rw [ren_nil]
  simp
 | p :: l, k, i + 1, h => by
  have ih := tks_at l (k + p.1 + (wdB p.2).length) i (by simpa using h)
  show (tth (tks (k + p.1 + (wdB p.2).length) l) i).2.2.2 = _
  rw [ih]
  have e : atP (p :: l) (i + 1) = p.1 + (wdB p.2).length + atP l i := by
   show (ren (p :: l.take i)).length + spAt l i = _
   rw [ren_cons, List.length_append, List.length_append, List.length_replicate, atP]
   omega
  rw [e]
  congr 1
  omega
theorem tok_at {l : List Pc} {z : Nat} (hz : (ren l).length = z) {i : Nat} (h : i ≤ l.length) : (tth (tks 0 l ++ [(6, ⟨#[]⟩, 0, (z : Int))]) i).2.2.2 = ((atP l i : Nat) : Int) := by
 by_cases hi : i < l.length
 ·have e : tth (tks 0 l ++ [(6, ⟨#[]⟩, 0, (z : Int))]) i = tth (tks 0 l) i := by
   rw [tth, tth, List.getElem?_append_left (by rw [tks_len]; exact hi)]
  rw [e, tks_at l 0 i hi]
  simp
 ·obtain rfl : i = l.length := by omega
  have e : tth (tks 0 l ++ [(6, ⟨#[]⟩, 0, (z : Int))]) l.length = (6, ⟨#[]⟩, 0, (z : Int)) := by
   rw [tth, List.getElem?_append_right (by rw [tks_len]; exact Nat.le_refl _), tks_len, Nat.sub_self]; rfl
  rw [e, atP, List.take_length, spAt_end (Nat.le_refl _), hz]
  rfl
theorem ren_split {l : List Pc} {i : Nat} (h : i < l.length) : ∃ r, ren l = (ren (l.take i) ++ List.replicate (spAt l i) 32) ++ ((wdB l[i].2 ++ List.replicate (spAt l (i + 1)) 32) ++ r) := by
 have e : l = l.take i ++ l[i] :: l.drop (i + 1) := by rw [List.getElem_cons_drop, List.take_append_drop]
 have e2 : ren l = ren (l.take i) ++ (List.replicate l[i].1 32 ++ (wdB l[i].2 ++ ren (l.drop (i + 1)))) := by
  conv => lhs; rw [e]
  rw [ren_app, ren_cons]
 rw [e2, spAt_lt h]
 by_cases h2 : i + 1 < l.length
 ·have e3 : l.drop (i + 1) = l[i + 1] :: l.drop (i + 1 + 1) := (List.getElem_cons_drop h2).symm
  rw [e3, ren_cons, spAt_lt h2]
  exact ⟨wdB l[i + 1].2 ++ ren (l.drop (i + 1 + 1)), by simp only [List.append_assoc]⟩
 ·have e3 : l.drop (i + 1) = [] := List.drop_eq_nil_of_le (by omega)
  rw [e3, ren_nil, spAt_end (by omega)]
  exact ⟨[], by simp [List.append_assoc]⟩
theorem Good.lex {m : Sf} {X : ByteArray} (h : Good m X) (hz : X.size ≤ 400) {ts : List Tk} {a e : Int} (hx : LexR X ts a e) : ts = tks 0 (pcF m) ++ [(6, ⟨#[]⟩, 0, (X.size : Int))] ∧ a = 0 ∧ e = 0 := by
 obtain ⟨h1, h2, h3⟩ := (lexR_pcs (Fl.of (ad_f m) h.words.words) (j := 0) (by rw [h.text]; simp) hz).det hx
 exact ⟨h1.symm, h2.symm, h3.symm⟩
end Go.Proofs.YtfopfhlohihihaaGreat
