import Derived.Test.YtfopfhlohihihaaGreatSbl
import Derived.Test.YtfopfhlohihihaaGreatSaq
namespace Go.Proofs.YtfopfhlohihihaaGreat
open Go.RowKit
set_option linter.unusedVariables false
set_option linter.unusedSimpArgs false
def spc (k : Nat) (l : List Pc) : List Pc := l.map fun p => (p.1 + k,p.2)
theorem spc_words (k : Nat) (l : List Pc) : (spc k l).map Prod.snd = l.map Prod.snd := by simp [spc,Function.comp_def]
theorem ad_spc (k : Nat) : ∀ {l : List Pc} {b : Bool},Ad b l → Ad b (spc k l)
 | [],_,_ => trivial
 | p :: l,b,h => ⟨h.1.elim .inl fun h => .inr (h.elim (fun h => .inl (by show 0 < p.1 + k; omega)) .inr),ad_spc k h.2⟩
def spAt (l : List Pc) (i : Nat) : Nat := (l[i]?.map Prod.fst).getD 0
theorem spAt_lt {l : List Pc} {i : Nat} (h : i < l.length) : spAt l i = l[i].1 := by rw [spAt,List.getElem?_eq_getElem h]; rfl
theorem spAt_end {l : List Pc} {i : Nat} (h : l.length ≤ i) : spAt l i = 0 := by rw [spAt,List.getElem?_eq_none h]; rfl
theorem ren_one (p : Pc) : ren [p] = List.replicate p.1 32 ++ wdB p.2 := by rw [ren,ren,List.append_nil]
def TT (k : Nat) (l : List Pc) (i : Nat) : List UInt8 := ren (spc k (l.take i)) ++ List.replicate (spAt l i + k) 32
theorem rep_add (a b : Nat) : List.replicate (a + b) (32 : UInt8) = List.replicate a 32 ++ List.replicate b 32 := (List.replicate_append_replicate (m := b) (n := a) (a := (32 : UInt8))).symm
theorem TT_step {k : Nat} {l : List Pc} {i : Nat} (h : i < l.length) : TT k l (i + 1) = (TT k l i ++ (wdB l[i].2 ++ List.replicate (spAt l (i + 1)) 32)) ++ List.replicate k 32 := by
 have e : l.take (i + 1) = l.take i ++ [l[i]] := List.take_succ_eq_append_getElem h
 have e2 : spc k (l.take i ++ [l[i]]) = spc k (l.take i) ++ [(l[i].1 + k,l[i].2)] := by unfold spc; rw [List.map_append]; rfl
 rw [TT,e,e2,ren_app,ren_one,TT,spAt_lt h,rep_add (spAt l (i + 1)) k]
 simp only [List.append_assoc]
theorem TT_zero {k : Nat} {l : List Pc} (h : spAt l 0 = 0) : TT k l 0 = List.replicate k 32 := by
 rw [TT,h,Nat.zero_add]; rfl
theorem TT_all (k : Nat) (l : List Pc) : TT k l l.length = ren (spc k l) ++ List.replicate k 32 := by
 rw [TT,List.take_length,spAt_end (Nat.le_refl _),Nat.zero_add]
def atP (l : List Pc) (i : Nat) : Nat := (ren (l.take i)).length + spAt l i
theorem tks_at : ∀ (l : List Pc) (k i : Nat),i < l.length → (tth (tks k l) i).2.2.2 = ((k + atP l i : Nat) : Int)
 | [],k,i,h => absurd h (by simp)
 | p :: l,k,0,h => by
  show ((k + p.1 : Nat) : Int) = ((k + ((ren []).length + p.1) : Nat) : Int)
  rw [ren_nil]
  simp
 | p :: l,k,i + 1,h => by
  have ih := tks_at l (k + p.1 + (wdB p.2).length) i (by simpa using h)
  show (tth (tks (k + p.1 + (wdB p.2).length) l) i).2.2.2 = _
  rw [ih]
  have e : atP (p :: l) (i + 1) = p.1 + (wdB p.2).length + atP l i := by
   show (ren (p :: l.take i)).length + spAt l i = _
   rw [ren_cons,List.length_append,List.length_append,List.length_replicate,atP]
   omega
  rw [e]
  congr 1
  omega
theorem tok_at {l : List Pc} {z : Nat} (hz : (ren l).length = z) {i : Nat} (h : i ≤ l.length) : (tth (tks 0 l ++ [(6,⟨#[]⟩,0,(z : Int))]) i).2.2.2 = ((atP l i : Nat) : Int) := by
 by_cases hi : i < l.length
 ·have e : tth (tks 0 l ++ [(6,⟨#[]⟩,0,(z : Int))]) i = tth (tks 0 l) i := by
   rw [tth,tth,List.getElem?_append_left (by rw [tks_len]; exact hi)]
  rw [e,tks_at l 0 i hi]
  simp
 ·obtain rfl : i = l.length := by omega
  have e : tth (tks 0 l ++ [(6,⟨#[]⟩,0,(z : Int))]) l.length = (6,⟨#[]⟩,0,(z : Int)) := by
   rw [tth,List.getElem?_append_right (by rw [tks_len]; exact Nat.le_refl _),tks_len,Nat.sub_self]; rfl
  rw [e,atP,List.take_length,spAt_end (Nat.le_refl _),hz]
  rfl
theorem ren_split {l : List Pc} {i : Nat} (h : i < l.length) : ∃ r,ren l = (ren (l.take i) ++ List.replicate (spAt l i) 32) ++ ((wdB l[i].2 ++ List.replicate (spAt l (i + 1)) 32) ++ r) := by
 have e : l = l.take i ++ l[i] :: l.drop (i + 1) := by rw [List.getElem_cons_drop,List.take_append_drop]
 have e2 : ren l = ren (l.take i) ++ (List.replicate l[i].1 32 ++ (wdB l[i].2 ++ ren (l.drop (i + 1)))) := by
  conv => lhs; rw [e]
  rw [ren_app,ren_cons]
 rw [e2,spAt_lt h]
 by_cases h2 : i + 1 < l.length
 ·have e3 : l.drop (i + 1) = l[i + 1] :: l.drop (i + 1 + 1) := (List.getElem_cons_drop h2).symm
  rw [e3,ren_cons,spAt_lt h2]
  exact ⟨wdB l[i + 1].2 ++ ren (l.drop (i + 1 + 1)),by simp only [List.append_assoc]⟩
 ·have e3 : l.drop (i + 1) = [] := List.drop_eq_nil_of_le (by omega)
  rw [e3,ren_nil,spAt_end (by omega)]
  exact ⟨[],by simp [List.append_assoc]⟩
theorem piece_at {s : ByteArray} {l : List Pc} (hs : bs s = ren l) {i : Nat} (h : i < l.length) : atP l i ≤ atP l (i + 1) ∧ atP l (i + 1) ≤ s.size ∧ s.extract (atP l i) (atP l (i + 1)) = ⟨(wdB l[i].2 ++ List.replicate (spAt l (i + 1)) 32).toArray⟩ := by
 obtain ⟨r,e⟩ := ren_split h
 have e1 : (ren (l.take i) ++ List.replicate (spAt l i) (32 : UInt8)).length = atP l i := by rw [List.length_append,List.length_replicate]; rfl
 have e2 : atP l (i + 1) = atP l i + (wdB l[i].2 ++ List.replicate (spAt l (i + 1)) (32 : UInt8)).length := by
  rw [atP,List.take_succ_eq_append_getElem h,ren_app,ren_one,List.length_append,List.length_append,List.length_replicate,List.length_append,List.length_replicate,atP,spAt_lt h]
  omega
 have hx := extract_list (hs.trans e)
 have hz := size_list (hs.trans e)
 rw [e1] at hx hz
 rw [List.length_append] at hz
 exact ⟨by omega,by omega,by rw [e2]; exact hx⟩
theorem head0 (m : Sf) : spAt (pcF m) 0 = 0 := by
 rw [pcF]
 split
 ·rfl
 split
 ·rfl
 split
 ·rfl
 split
 ·rfl
 split
 ·rfl
 split
 ·rfl
 split
 ·rfl
 split
 ·rfl
 split
 ·rfl
 ·rw [pcS]
  split
  ·rfl
  split
  ·rfl
  split
  ·rfl
  ·rfl
theorem Good.spaces {m : Sf} {X : ByteArray} (h : Good m X) {s : ByteArray} {k : Nat} (hs : bs s = TT k (pcF m) (pcF m).length) (h4 : s.size ≤ 400) : ∀ Y a f,PaR s Y a f → f = 0 ∧ Y = some m :=
 told_pcs h.sf (l := spc k (pcF m)) (spc_words k _) (Fl.of (ad_spc k (ad_f m)) (by rw [spc_words]; exact h.words.words)) (j := k) (by rw [hs,TT_all]) h4
theorem Good.lex {m : Sf} {X : ByteArray} (h : Good m X) (hz : X.size ≤ 400) {ts : List Tk} {a e : Int} (hx : LexR X ts a e) : ts = tks 0 (pcF m) ++ [(6,⟨#[]⟩,0,(X.size : Int))] ∧ a = 0 ∧ e = 0 := by
 obtain ⟨h1,h2,h3⟩ := (lexR_pcs (Fl.of (ad_f m) h.words.words) (j := 0) (by rw [h.text]; simp) hz).det hx
 exact ⟨h1.symm,h2.symm,h3.symm⟩
theorem str_slice (s : ByteArray) (hs : s.size ≤ 1000000) (p q : Nat) (h1 : p ≤ q) (h2 : q ≤ s.size) (w : World) : (Instr.slice 9 (.string s) (some (.int .i64 (p : Int))) (some (.int .i64 (q : Int))) none).run Tryz.prog w = .ok (.string (s.extract p q)) w := by
 go_simp
end Go.Proofs.YtfopfhlohihihaaGreat
